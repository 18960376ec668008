import Derived.Test.YtnneljcbelgoeaaGreatDoorG32
import Derived.Laws.IdiomStrings
import Derived.Deep.QuietTactic
import Derived.BigQuiet
import Derived.Deep.RegionWith
/- gossiplaw's owner over nodes: a text's byte is turned, a packet is lost. -/
namespace Go.Proofs.YtnneljcbelgoeaaGreatDoor.wire
open Go.RowKit Go.Maps
set_option maxRecDepth 100000 in
set_option maxHeartbeats 1000000 in
theorem vowner_turn (n wb : Nat) (s : Sg) (w W : World) (h : VV n wb s w W) (hn : n ≤ 18000) (o : Op8) (hk : o.kind = 2) (ha0 : -9223372036854775808 ≤ o.a) (ha1 : o.a ≤ 9223372036854775807) (hb0 : -9223372036854775808 ≤ o.b) (hb1 : o.b ≤ 9223372036854775807) :
    Calls Tryz.prog 11 #[.pointer (some ⟨wb, 0, none⟩), opv o] W fun e W' => e = .returned (.bool true) ∧ ∃ s', VV (n + 1) wb s' w W' := by
  have HC := hide h
  clear h
  obtain ⟨kind, a, b, c, d, e, x, S⟩ := o
  simp only at hk ha0 ha1 hb0 hb1
  subst hk
  go_enter Tryz.func11, Tryz.ntmps11
  have hwl := (unhide HC).vs.lt
  go_wp2_with fail
  have hA : VV n wb s w (W.alloc (.cells #[.int .i64 2, .int .i64 x, .int .i64 a, .int .i64 b, .int .i64 c, .int .i64 d, .int .i64 e, .string (bs S)] 28)) := ⟨(unhide HC).vs.alloc _, (unhide HC).vi⟩
  have hbx := heap_alloc_new W (.cells #[.int .i64 2, .int .i64 x, .int .i64 a, .int .i64 b, .int .i64 c, .int .i64 d, .int .i64 e, .string (bs S)] 28)
  refine (text_s wb s w _ hA.vs (by have := hA.vi.tn; omega) hA.vi.tl a ha0 ha1).mono ?_
  rintro e' w1 ⟨l, rfl, hl, k, rfl⟩
  have hA1 : VV n wb s w ((W.alloc (.cells #[.int .i64 2, .int .i64 x, .int .i64 a, .int .i64 b, .int .i64 c, .int .i64 d, .int .i64 e, .string (bs S)] 28)).drewN k) := ⟨hA.vs.draws k, hA.vi⟩
  have hbx1 : ((W.alloc (.cells #[.int .i64 2, .int .i64 x, .int .i64 a, .int .i64 b, .int .i64 c, .int .i64 d, .int .i64 e, .string (bs S)] 28)).drewN k).heap[W.heap.size]? = some (.cells #[.int .i64 2, .int .i64 x, .int .i64 a, .int .i64 b, .int .i64 c, .int .i64 d, .int .i64 e, .string (bs S)] 28) := by
    exact ((below_draws (Below.refl _ _) k).block W.heap.size (lt_of_block hbx)).trans hbx
  generalize ((W.alloc (.cells #[.int .i64 2, .int .i64 x, .int .i64 a, .int .i64 b, .int .i64 c, .int .i64 d, .int .i64 e, .string (bs S)] 28)).drewN k) = W1 at hA1 hbx1 ⊢
  have HC1 := hide hA1
  have HX1 := hide hbx1
  clear hA hbx HC hA1 hbx1
  obtain ⟨bcap, W2, hconv, hBB, hB2, hlt2⟩ := bytes_new W1 l
  obtain ⟨ti, hti, hz0, hz1, hz2⟩ := info_parts infoStr
  have hx2 := (hB2.block W.heap.size (lt_of_block (unhide HX1))).trans (unhide HX1)
  have HBB := hide hBB
  have HB2 := hide hB2
  have p3 : W2.cell? ⟨W.heap.size, 3, none⟩ = some (.int .i64 b) := cell_at hx2 3
  have p4 : W2.cell? ⟨W.heap.size, 4, none⟩ = some (.int .i64 c) := cell_at hx2 4
  have hg1 : wb + 1 ≤ W1.heap.size := (unhide HC1).vs.lt
  have hX := lt_of_block (unhide HX1)
  have HM : Hid (∀ W3, Below W1.heap.size W1 W3 → VV n wb s w W3) := hide fun W3 hb => ⟨(unhide HC1).vs.mono hb, (unhide HC1).vi⟩
  clear hB2 hBB hx2 HX1
  generalize W1.heap.size = g at hconv HBB HB2 HM hlt2 hg1 hX
  by_cases hz : l.length = 0
  · go_wp2_with fail
    have HC3 := hide (unhide HM W2 (unhide HB2))
    have HBB3 := hide (unhide HBB)
    have hl3 : l.length = l.length := rfl
    generalize hLL : l = L at HBB3 hl3
    have hl4 : L.length = l.length := by rw [hLL]
    clear hLL hl3
    have hl3 := hl4
    generalize hWW : W2 = W3 at HC3 HBB3 ⊢
    clear hWW HBB HB2 HM hconv p3 p4
    have c0 : W3.cell? ⟨wb, 0, none⟩ = some s.tv := (unhide HC3).vs.cell 0
    have hw3 := (unhide HC3).vs.lt
    have htn := (unhide HC3).vi.tn
    have HB := hide (unhide HC3).vi
    have HWC := hide (unhide HC3).vs
    clear HC3
    have HT : Hid (W3.ownsRow 0 9 1 s.tv s.ts.length (s.ts.map fun l => .string (bs l))) := hide (Sep.rd (unhide HWC) .tx)
    obtain ⟨tao, tac, htv, _⟩ := row_form (unhide HT)
    rw [htv] at c0
    have hconv3 := BB.conv (W := W3.drew) ((unhide HBB3).block rfl) 0 (hl3.trans hz) bcap
    have hconv4 := BB.conv (unhide HBB3) 0 (hl3.trans hz) bcap
    clear HBB3
    go_region_law
      ((refine step_app (by rfl) _ _ (by rfl) etySt 0 (by first | rfl | (rw [htv]; rfl)) (by rfl) (((unhide HT).alloc _).drew) (Src.box (cs := [.string (bs L)]) 1 1 1 (by exact heap_alloc_new W3 _) (by rfl)) (by simp [Value.oneCell']) (by omega) (by omega) ?_; intro v' w1 hown1 hgrow hat; obtain ⟨vo, vc, hvf, _⟩ := row_form hown1; subst hvf; have hP := (unhide HWC).pushT (bd_draws _ 1) hgrow L _ hown1 hat; have hfz1 : w1.frozen? ⟨wb, 0, none⟩ = false := free_at hP.2 0; have hc1 : w1.cell? ⟨wb, 0, none⟩ = some s.tv := cell_at hP.2 0))
    all_goals
      have HP := hide hP.1
      clear hP hown1 hgrow hat hfz1 hc1 c0 HWC hconv3 hconv4
      go_wp2
      go_ret
      exact ⟨rfl, _, unhide HP, (unhide HB).pushT L _ (by omega)⟩
  · obtain ⟨q0, q1⟩ := pickW_bd b (l.length : Int) (by omega)
    obtain ⟨q, hq⟩ := Int.eq_ofNat_of_zero_le q0
    have hql : q < l.length := by omega
    have hqi : (q : Int) < (l.length : Int) := by omega
    have hnz : (0 : Int) < (l.length : Int) := by omega
    have hnz2 : 0 < l.length := by omega
    have hlp : (l.length : Int) ≤ 4294967296 := by omega
    have HP := hide (fun W' => lpick_any b (l.length : Int) W' hb0 hb1 hnz hlp)
    rw [hq] at HP
    have s0 := (unhide HBB).cell q hql
    have s1 := (unhide HBB).free q hql
    clear q0 q1 hq
    go_wp2_with fail
    go_region_with (go_at_call 19; refine (unhide HP _).mono ?_; rintro e' w' ⟨rfl, rfl⟩)
    all_goals
      clear p3 p4 s0 s1 hconv HP
      have hw8 : IntKind.u8.wrap c = ((byteAt c 0).toNat : Int) := by rw [IntKind.wrap_u8, byteLow]
      have HBB3 := hide (((unhide HBB).set q (byteAt c 0)).block (W' := (W2.setCell ⟨g, q, none⟩ (.int .u8 ((byteAt c 0).toNat : Int))).drew) rfl)
      have HC3 := hide (unhide HM ((W2.setCell ⟨g, q, none⟩ (.int .u8 ((byteAt c 0).toNat : Int))).drew) (below_draws ((unhide HB2).setCell (p := ⟨g, q, none⟩) (Nat.le_refl _) _) 1))
      rw [hw8]
      have hl3 : (l.set q (byteAt c 0)).length = l.length := by simp
      generalize l.set q (byteAt c 0) = L at HBB3 hl3
      generalize (W2.setCell ⟨g, q, none⟩ (.int .u8 ((byteAt c 0).toNat : Int))).drew = W3 at HC3 HBB3 ⊢
      clear HBB HB2 HM hw8
      go_wp2_with fail
      have c0 : W3.cell? ⟨wb, 0, none⟩ = some s.tv := (unhide HC3).vs.cell 0
      have hw3 := (unhide HC3).vs.lt
      have htn := (unhide HC3).vi.tn
      have HB := hide (unhide HC3).vi
      have HWC := hide (unhide HC3).vs
      clear HC3
      have HT : Hid (W3.ownsRow 0 9 1 s.tv s.ts.length (s.ts.map fun l => .string (bs l))) := hide (Sep.rd (unhide HWC) .tx)
      obtain ⟨tao, tac, htv, _⟩ := row_form (unhide HT)
      rw [htv] at c0
      have hconv3 := BB.conv (W := W3.drew) ((unhide HBB3).block rfl) l.length hl3 bcap
      have hconv4 := BB.conv (unhide HBB3) l.length hl3 bcap
      clear HBB3
      go_region_law
        ((refine step_app (by rfl) _ _ (by rfl) etySt 0 (by first | rfl | (rw [htv]; rfl)) (by rfl) (((unhide HT).alloc _).drew) (Src.box (cs := [.string (bs L)]) 1 1 1 (by exact heap_alloc_new W3 _) (by rfl)) (by simp [Value.oneCell']) (by omega) (by omega) ?_; intro v' w1 hown1 hgrow hat; obtain ⟨vo, vc, hvf, _⟩ := row_form hown1; subst hvf; have hP := (unhide HWC).pushT (bd_draws _ 1) hgrow L _ hown1 hat; have hfz1 : w1.frozen? ⟨wb, 0, none⟩ = false := free_at hP.2 0; have hc1 : w1.cell? ⟨wb, 0, none⟩ = some s.tv := cell_at hP.2 0))
      all_goals
        have HP := hide hP.1
        clear hP hown1 hgrow hat hfz1 hc1 c0 HWC hconv3 hconv4
        go_wp2
        go_ret
        exact ⟨rfl, _, unhide HP, (unhide HB).pushT L _ (by omega)⟩
/-- A packet less on its way. -/
theorem VI.lose {n : Nat} {s : Sg} (h : VI n s) (k : Nat) (pv : Value) : VI n { s with pv := pv, ps := s.ps.eraseIdx k } :=
  { h with pn := by have := h.pn; show (s.ps.eraseIdx k).length ≤ 60; rw [List.length_eraseIdx]; split <;> omega, pl := fun p hp => h.pl p (List.mem_of_mem_eraseIdx hp), hd := h.hd.of rfl rfl rfl rfl (fun _ q => q) }
set_option maxRecDepth 100000 in
set_option maxHeartbeats 1000000 in
theorem vowner_lose (n wb : Nat) (s : Sg) (w W : World) (h : VV n wb s w W) (_hn : n ≤ 18000) (o : Op8) (hk : o.kind = 12) (ha0 : -9223372036854775808 ≤ o.a) (ha1 : o.a ≤ 9223372036854775807) :
    Calls Tryz.prog 11 #[.pointer (some ⟨wb, 0, none⟩), opv o] W fun e W' => e = .returned (.bool true) ∧ ∃ s', VV (n + 1) wb s' w W' := by
  have HC := hide h
  clear h
  obtain ⟨kind, a, b, c, d, e, x, S⟩ := o
  simp only at hk ha0 ha1
  subst hk
  have hpn := (unhide HC).vi.pn
  have hrow : W.ownsRow 0 60 2 s.pv s.ps.length (s.ps.flatMap pkC) := Sep.rd (unhide HC).vs .ow
  obtain ⟨po, pc, hpf, _⟩ := row_form hrow
  have c15 : W.cell? ⟨wb, 15, none⟩ = some s.pv := (unhide HC).vs.cell 15
  rw [hpf] at c15
  have hwl := (unhide HC).vs.lt
  clear hpf hrow
  by_cases hz : s.ps.length = 0
  · have hz' : ¬ (0 : Int) < (s.ps.length : Int) := by omega
    go_enter Tryz.func11, Tryz.ntmps11
    go_wp2
    go_ret
    exact ⟨rfl, _, (unhide HC).vs.alloc _, (unhide HC).vi.up⟩
  · obtain ⟨q0, q1⟩ := pickW_bd a (s.ps.length : Int) (by omega)
    obtain ⟨q, hq⟩ := Int.eq_ofNat_of_zero_le q0
    have hql : q < s.ps.length := by omega
    have hz' : (0 : Int) < (s.ps.length : Int) := by omega
    have hlp : (s.ps.length : Int) ≤ 4294967296 := by omega
    have HP := hide (fun W' => lpick_any a (s.ps.length : Int) W' ha0 ha1 hz' hlp)
    rw [hq] at HP
    clear q0 q1 hq
    go_enter Tryz.func11, Tryz.ntmps11
    go_wp2_with fail
    go_quiet ((go_at_call 19; exact Calls.quiet_of_same (unhide HP _)))
    go_wp2_with fail
    refine (take_s wb s w _ (((unhide HC).vs.alloc _).draws _) hpn q hql).mono ?_
    rintro e' w1 ⟨⟨v, rfl⟩, pv, h1⟩
    have H1 := hide h1
    clear h1
    go_wp2
    go_ret
    exact ⟨rfl, _, unhide H1, (unhide HC).vi.up.lose q pv⟩
structure Op8.okx (o : Op8) : Prop extends o.ok where
  x0 : -9223372036854775808 ≤ o.x
  x1 : o.x ≤ 9223372036854775807
theorem vowner_yes (n wb : Nat) (s : Sg) (w W : World) (h : VV n wb s w W) (hn : n ≤ 18000) (o : Op8) (hk : Op8.own o.kind) (ho : o.ok) :
    Calls Tryz.prog 11 #[.pointer (some ⟨wb, 0, none⟩), opv o] W fun e W' => e = .returned (.bool true) ∧ ∃ s', VV (n + 1) wb s' w W' := by
  rcases hk with hk | hk | hk | hk | hk | hk | hk
  · exact vowner_text n wb s w W h hn o hk ho.s
  · exact vowner_turn n wb s w W h hn o hk ho.a0 ho.a1 ho.b0 ho.b1
  · exact vowner_msg n wb s w W h hn o hk
  · exact vowner_upd n wb s w W h hn o hk
  · exact vowner_draw n wb s w W h hn o hk ho.a0 ho.a1
  · exact vowner_shape n wb s w W h hn o hk ho.a0 ho.a1
  · exact vowner_lose n wb s w W h hn o hk ho.a0 ho.a1
end Go.Proofs.YtnneljcbelgoeaaGreatDoor.wire
