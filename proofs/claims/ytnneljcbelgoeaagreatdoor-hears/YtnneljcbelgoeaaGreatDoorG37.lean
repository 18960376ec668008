import Derived.Test.YtnneljcbelgoeaaGreatDoorG36
import Derived.Test.YtnneljcbelgoeaaGreatDoorG24
import Derived.Laws.IdiomStrings
import Derived.Deep.QuietTactic
import Derived.BigQuiet
import Derived.Deep.RegionWith
/- gossiplaw's owner: a text's byte is turned. -/
namespace Go.Proofs.YtnneljcbelgoeaaGreatDoor.wire
open Go.RowKit
/-- Block g holds the bytes l, and none of them is frozen. -/
def BB (W : World) (g : Nat) (l : List UInt8) : Prop := ∃ C fr, W.heap[g]? = some (.cells C 5 fr) ∧ l.length ≤ fr.1 ∧ ∀ (j : Nat) (h : j < l.length), C[j]? = some (.int .u8 (l[j].toNat : Int))
theorem BB.cell {W : World} {g : Nat} {l : List UInt8} (h : BB W g l) (j : Nat) (hj : j < l.length) : W.cell? ⟨g, j, none⟩ = some (.int .u8 (l[j].toNat : Int)) := by
  obtain ⟨C, fr, h1, _, h3⟩ := h
  rw [cell_of_row W g j C _ fr h1]
  exact h3 j hj
theorem BB.free {W : World} {g : Nat} {l : List UInt8} (h : BB W g l) (j : Nat) (hj : j < l.length) : W.frozen? ⟨g, j, none⟩ = false := by
  obtain ⟨C, fr, h1, h2, _⟩ := h
  simp [World.frozen?, h1]
  omega
theorem BB.set {W : World} {g : Nat} {l : List UInt8} (h : BB W g l) (j : Nat) (c : UInt8) : BB (W.setCell ⟨g, j, none⟩ (.int .u8 (c.toNat : Int))) g (l.set j c) := by
  obtain ⟨C, fr, h1, h2, h3⟩ := h
  refine ⟨C.setIfInBounds j (.int .u8 (c.toNat : Int)), fr, by simp [World.setCell, Array.getElem?_modify, h1], by simpa using h2, fun i hi => ?_⟩
  have hi' : i < l.length := by simpa using hi
  have h4 := h3 i hi'
  have hs : i < C.size := (Array.getElem?_eq_some_iff.1 h4).1
  by_cases e : j = i
  · subst e
    simp [hs]
  · simp [e, h4]
theorem BB.block {W W' : World} {g : Nat} {l : List UInt8} (h : BB W g l) (hb : W'.heap[g]? = W.heap[g]?) : BB W' g l := by
  obtain ⟨C, fr, h1, h2⟩ := h
  exact ⟨C, fr, hb.trans h1, h2⟩
theorem BB.conv {W : World} {g : Nat} {l : List UInt8} (h : BB W g l) (n : Nat) (hn : l.length = n) (cap : Nat) : (convert 56 9 (.slice (some ⟨g, 0, none⟩) n cap)).run Tryz.prog W = .ok (.string (bs l)) W := by
  subst hn
  refine run_convert_bytes_back _ 56 9 5 ⟨g, 0, none⟩ cap l Tryz.underlying56 Tryz.underlying5 Tryz.underlying9 fun j hj => ?_
  have hadd : (⟨g, 0, none⟩ : Addr).add j = ⟨g, j, none⟩ := by unfold Addr.add; split <;> simp_all
  rw [hadd]
  exact h.cell j hj
theorem bytes_new (W : World) (l : List UInt8) : ∃ cap W', (convert 9 56 (.string (bs l))).run Tryz.prog W = .ok (.slice (some ⟨W.heap.size, 0, none⟩) l.length cap) W' ∧ BB W' W.heap.size l ∧ Below W.heap.size W W' ∧ W.heap.size < W'.heap.size := by
  have h := run_bytes_of_string (P := Tryz.prog) W 9 56 5 (bs l) Tryz.underlying9 Tryz.underlying56 Tryz.underlying5
  have hsz : (bs l).size = l.length := by simp [bs, ByteArray.size]
  rw [hsz] at h
  refine ⟨_, _, h, ⟨_, _, heap_alloc_new _ _, ?_, fun j hj => ?_⟩, ?_, ?_⟩
  · simp [bytesRow, bs]
  · simp [bytesRow, bs, Array.getElem?_append, hj]
  · exact (below_draws (Below.refl _ _) 1).alloc (Nat.le_refl _) _
  · simp
set_option maxRecDepth 100000 in
set_option maxHeartbeats 1000000 in
theorem owner_turn (n wb : Nat) (s : St) (w W : World) (h : WV n wb s w W) (hn : n ≤ 18000) (o : Op8) (hk : o.kind = 2) (ha0 : -9223372036854775808 ≤ o.a) (ha1 : o.a ≤ 9223372036854775807) (hb0 : -9223372036854775808 ≤ o.b) (hb1 : o.b ≤ 9223372036854775807) :
    Calls Tryz.prog 11 #[.pointer (some ⟨wb, 0, none⟩), opv o] W fun e W' => e = .returned (.bool true) ∧ ∃ s', WV (n + 1) wb s' w W' := by
  have HC := hide h
  clear h
  obtain ⟨kind, a, b, c, d, e, x, S⟩ := o
  simp only at hk ha0 ha1 hb0 hb1
  subst hk
  go_enter Tryz.func11, Tryz.ntmps11
  have hwl := (unhide HC).lt
  go_wp2_with fail
  have hA : WV n wb s w (W.alloc (.cells #[.int .i64 2, .int .i64 x, .int .i64 a, .int .i64 b, .int .i64 c, .int .i64 d, .int .i64 e, .string (bs S)] 28)) := ⟨(unhide HC).toWC.alloc _, (unhide HC).toWB⟩
  have hbx := heap_alloc_new W (.cells #[.int .i64 2, .int .i64 x, .int .i64 a, .int .i64 b, .int .i64 c, .int .i64 d, .int .i64 e, .string (bs S)] 28)
  refine (text_any n wb s w _ hA (by omega) a ha0 ha1).mono ?_
  rintro e' w1 ⟨l, rfl, hl, k, rfl⟩
  have hA1 : WV n wb s w ((W.alloc (.cells #[.int .i64 2, .int .i64 x, .int .i64 a, .int .i64 b, .int .i64 c, .int .i64 d, .int .i64 e, .string (bs S)] 28)).drewN k) := ⟨hA.toWC.draws k, hA.toWB⟩
  have hbx1 : ((W.alloc (.cells #[.int .i64 2, .int .i64 x, .int .i64 a, .int .i64 b, .int .i64 c, .int .i64 d, .int .i64 e, .string (bs S)] 28)).drewN k).heap[W.heap.size]? = some (.cells #[.int .i64 2, .int .i64 x, .int .i64 a, .int .i64 b, .int .i64 c, .int .i64 d, .int .i64 e, .string (bs S)] 28) := by
    exact ((below_draws (Below.refl _ _) k).block W.heap.size (lt_of_block hbx)).trans hbx
  generalize ((W.alloc (.cells #[.int .i64 2, .int .i64 x, .int .i64 a, .int .i64 b, .int .i64 c, .int .i64 d, .int .i64 e, .string (bs S)] 28)).drewN k) = W1 at hA1 hbx1 ⊢
  have HC1 := hide hA1
  have HX1 := hide hbx1
  clear hA hbx HC hA1 hbx1
  obtain ⟨bcap, W2, hconv, hBB, hB2, hlt2⟩ := bytes_new W1 l
  obtain ⟨ti, hti, hz0, hz1, hz2⟩ := info_parts infoStr
  have hx2 := (hB2.block W.heap.size (lt_of_block (unhide HX1))).trans (unhide HX1)
  have HBB := hide hBB
  have HB2 := hide hB2
  have p3 : W2.cell? ⟨W.heap.size, 3, none⟩ = some (.int .i64 b) := cell_at hx2 3
  have p4 : W2.cell? ⟨W.heap.size, 4, none⟩ = some (.int .i64 c) := cell_at hx2 4
  have hg1 : wb + 1 ≤ W1.heap.size := (unhide HC1).lt
  have hX := lt_of_block (unhide HX1)
  have HM : Hid (∀ W3, Below W1.heap.size W1 W3 → WV n wb s w W3) := hide fun W3 hb => ⟨(unhide HC1).toWC.mono hb, (unhide HC1).toWB⟩
  clear hB2 hBB hx2 HX1
  generalize W1.heap.size = g at hconv HBB HB2 HM hlt2 hg1 hX
  by_cases hz : l.length = 0
  · go_wp2_with fail
    have HC3 := hide (unhide HM W2 (unhide HB2))
    have HBB3 := hide (unhide HBB)
    have hl3 : l.length = l.length := rfl
    generalize hLL : l = L at HBB3 hl3
    have hl4 : L.length = l.length := by rw [hLL]
    clear hLL hl3
    have hl3 := hl4
    generalize hWW : W2 = W3 at HC3 HBB3 ⊢
    clear hWW HBB HB2 HM hconv p3 p4
    have c0 : W3.cell? ⟨wb, 0, none⟩ = some s.tv := (unhide HC3).cell 0
    have hw3 := (unhide HC3).lt
    have htn := (unhide HC3).tn
    have HB := hide (unhide HC3).toWB
    have HWC := hide (unhide HC3).toWC
    clear HC3
    obtain ⟨to, tc, htv⟩ := own_form (unhide HWC).rows.t
    rw [htv] at c0
    have hconv3 := BB.conv (W := W3.drew) ((unhide HBB3).block rfl) 0 (hl3.trans hz) bcap
    have hconv4 := BB.conv (unhide HBB3) 0 (hl3.trans hz) bcap
    clear HBB3
    go_region_law
      ((refine step_append_lies _ (by rfl) _ _ _ (by rfl) (wb + 1) 9 ti (.string (bs [])) 1 16 Tryz.underlying30 hti hz0 hz1 hz2 rfl (by omega) s.tv s.ts.length (s.ts.map fun l => .string (bs l)) (by first | rfl | (rw [htv]; rfl)) (((unhide HWC).rows.t.alloc _).drew) ⟨W3.heap.size, 0, none⟩ 1 1 [.string (bs L)] (by rfl) (by rfl) (World.news_of_block (cs := #[.string (bs L)]) (t := 9) (fr := (0, 0)) (heap_alloc_new W3 _)) (by simp [Value.oneCell']) (by omega) (by unfold maxLen; omega) (by omega) (by simp; omega) (W3.heap.size + 1) (by simp) ?_; intro gg cap w1 hown1 hgrow hat hlt; have hP := (unhide HWC).pushT (bd_draws _ 1) hgrow L _ hown1; have hfz1 : w1.frozen? ⟨wb, 0, none⟩ = false := free_at hP.2 0; have hc1 : w1.cell? ⟨wb, 0, none⟩ = some s.tv := cell_at hP.2 0))
    all_goals
      have HP := hide hP.1
      clear hP hown1 hgrow hat hfz1 hc1 c0 HWC hconv3 hconv4
      go_wp2
      go_ret
      exact ⟨rfl, _, unhide HP, (unhide HB).pushT L _ (by omega)⟩
  · obtain ⟨q0, q1⟩ := pickW_bd b (l.length : Int) (by omega)
    obtain ⟨q, hq⟩ := Int.eq_ofNat_of_zero_le q0
    have hql : q < l.length := by omega
    have hqi : (q : Int) < (l.length : Int) := by omega
    have hnz : (0 : Int) < (l.length : Int) := by omega
    have hnz2 : 0 < l.length := by omega
    have hlp : (l.length : Int) ≤ 4294967296 := by omega
    have HP := hide (fun W' => lpick_any b (l.length : Int) W' hb0 hb1 hnz hlp)
    rw [hq] at HP
    have s0 := (unhide HBB).cell q hql
    have s1 := (unhide HBB).free q hql
    clear q0 q1 hq
    go_wp2_with fail
    go_region_with (go_at_call 19; refine (unhide HP _).mono ?_; rintro e' w' ⟨rfl, rfl⟩)
    all_goals
      clear p3 p4 s0 s1 hconv HP
      have hw8 : IntKind.u8.wrap c = ((byteAt c 0).toNat : Int) := by rw [IntKind.wrap_u8, byteLow]
      have HBB3 := hide (((unhide HBB).set q (byteAt c 0)).block (W' := (W2.setCell ⟨g, q, none⟩ (.int .u8 ((byteAt c 0).toNat : Int))).drew) rfl)
      have HC3 := hide (unhide HM ((W2.setCell ⟨g, q, none⟩ (.int .u8 ((byteAt c 0).toNat : Int))).drew) (below_draws ((unhide HB2).setCell (p := ⟨g, q, none⟩) (Nat.le_refl _) _) 1))
      rw [hw8]
      have hl3 : (l.set q (byteAt c 0)).length = l.length := by simp
      generalize l.set q (byteAt c 0) = L at HBB3 hl3
      generalize (W2.setCell ⟨g, q, none⟩ (.int .u8 ((byteAt c 0).toNat : Int))).drew = W3 at HC3 HBB3 ⊢
      clear HBB HB2 HM hw8
      go_wp2_with fail
      have c0 : W3.cell? ⟨wb, 0, none⟩ = some s.tv := (unhide HC3).cell 0
      have hw3 := (unhide HC3).lt
      have htn := (unhide HC3).tn
      have HB := hide (unhide HC3).toWB
      have HWC := hide (unhide HC3).toWC
      clear HC3
      obtain ⟨to, tc, htv⟩ := own_form (unhide HWC).rows.t
      rw [htv] at c0
      have hconv3 := BB.conv (W := W3.drew) ((unhide HBB3).block rfl) l.length hl3 bcap
      have hconv4 := BB.conv (unhide HBB3) l.length hl3 bcap
      clear HBB3
      go_region_law
        ((refine step_append_lies _ (by rfl) _ _ _ (by rfl) (wb + 1) 9 ti (.string (bs [])) 1 16 Tryz.underlying30 hti hz0 hz1 hz2 rfl (by omega) s.tv s.ts.length (s.ts.map fun l => .string (bs l)) (by first | rfl | (rw [htv]; rfl)) (((unhide HWC).rows.t.alloc _).drew) ⟨W3.heap.size, 0, none⟩ 1 1 [.string (bs L)] (by rfl) (by rfl) (World.news_of_block (cs := #[.string (bs L)]) (t := 9) (fr := (0, 0)) (heap_alloc_new W3 _)) (by simp [Value.oneCell']) (by omega) (by unfold maxLen; omega) (by omega) (by simp; omega) (W3.heap.size + 1) (by simp) ?_; intro gg cap w1 hown1 hgrow hat hlt; have hP := (unhide HWC).pushT (bd_draws _ 1) hgrow L _ hown1; have hfz1 : w1.frozen? ⟨wb, 0, none⟩ = false := free_at hP.2 0; have hc1 : w1.cell? ⟨wb, 0, none⟩ = some s.tv := cell_at hP.2 0))
      all_goals
        have HP := hide hP.1
        clear hP hown1 hgrow hat hfz1 hc1 c0 HWC hconv3 hconv4
        go_wp2
        go_ret
        exact ⟨rfl, _, unhide HP, (unhide HB).pushT L _ (by omega)⟩
end Go.Proofs.YtnneljcbelgoeaaGreatDoor.wire
