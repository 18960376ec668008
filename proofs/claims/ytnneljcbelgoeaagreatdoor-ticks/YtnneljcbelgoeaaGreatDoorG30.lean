import Derived.Test.YtnneljcbelgoeaaGreatDoorG28
import Derived.Test.YtnneljcbelgoeaaGreatDoorG15
import Derived.Test.YtnneljcbelgoeaaGreatDoorG29
import Derived.Deep.QuietTactic
import Derived.BigQuiet
import Derived.BigRegion
import Derived.Laws.StructEq
import Derived.Test.YtnneljcbelgoeaaGreatDoorG13
/- gossiplaw's text and looks: over nodes. -/
namespace Go.Proofs.YtnneljcbelgoeaaGreatDoor.wire
open Go.RowKit Go.Maps
set_option maxRecDepth 100000 in
set_option maxHeartbeats 1000000 in
theorem text_s (wb : Nat) (s : Sg) (w W : World) (h : VS wb s w W) (htn : s.ts.length ≤ 20000) (htl : ∀ l ∈ s.ts, l.length ≤ 17000) (c : Int) (h0 : -9223372036854775808 ≤ c) (h1 : c ≤ 9223372036854775807) :
    Calls Tryz.prog 13 #[.pointer (some ⟨wb, 0, none⟩), .int .i64 c] W fun e w' => ∃ l, e = .returned (.string (bs l)) ∧ l.length ≤ 17000 ∧ ∃ k, w' = W.drewN k := by
  have ht : W.ownsRow 0 9 1 s.tv s.ts.length (s.ts.map fun l => .string (bs l)) := Sep.rd h .tx
  have c0 : W.cell? ⟨wb, 0, none⟩ = some s.tv := h.cell 0
  obtain ⟨ao, cap, hv⟩ := own_form ht
  by_cases hz : s.ts.length = 0
  · rw [hz] at hv
    rw [hv] at c0
    clear ht htl h hv
    go_enter Tryz.func13, Tryz.ntmps13
    go_wp2
    go_ret
    exact ⟨[], by simp [bs], by simp, 0, rfl⟩
  · obtain ⟨g, cap', hv', _, _⟩ := ht.form (by omega)
    rw [hv'] at c0
    obtain ⟨p0, p1⟩ := pickW_bd c (s.ts.length : Int) (by omega)
    obtain ⟨q, hq⟩ := Int.eq_ofNat_of_zero_le p0
    have hql : q < s.ts.length := by omega
    have hcell : W.cell? ⟨g, q, none⟩ = some (.string (bs s.ts[q])) := by
      rw [hv'] at ht
      rw [ht.cellAt q (by omega)]
      simp [hql]
    have hlen := htl s.ts[q] (List.getElem_mem hql)
    have hnz : ((s.ts.length : Int) == 0) = false := beq_eq_false_iff_ne.2 (by omega)
    have hlp : (s.ts.length : Int) ≤ 4294967296 := by omega
    have hlq : (0 : Int) < (s.ts.length : Int) := by omega
    have HP := hide (fun W' => lpick_any c (s.ts.length : Int) W' h0 h1 hlq hlp)
    rw [hq] at HP
    generalize s.ts[q] = l at hcell hlen
    clear ht htl h hv hv' p0 p1 hq
    have hq0 : (0 : Int) ≤ (q : Int) := by omega
    have hq1 : (q : Int) < (s.ts.length : Int) := by omega
    go_enter Tryz.func13, Tryz.ntmps13
    go_wp2_with fail
    go_quiet ((go_at_call 19; exact Calls.quiet_of_same (unhide HP _)))
    go_wp2
    go_ret
    exact ⟨l, rfl, hlen, _, rfl⟩
/-- What is held reads as its copy. -/
structure Held (s : Sg) : Prop where
  lw : s.ws.length = s.ls.length
  ok : s.ks.length = s.os.length
  l : ∀ (i : Nat) (x y : Value), s.ls[i]? = some x → s.ws[i]? = some y → ∃ L : List K3, L.length ≤ 2000 ∧ keysT x L ∈ s.fz ∧ keysT y L ∈ s.fz
  o : ∀ (i : Nat) (x y : Value), s.os[i]? = some x → s.ks[i]? = some y → ∃ L : List Pk, L.length ≤ 2000 ∧ pksT x L ∈ s.fz ∧ pksT y L ∈ s.fz
set_option maxRecDepth 100000 in
set_option maxHeartbeats 4000000 in
theorem looks_s (wb : Nat) (s : Sg) (w W : World) (h : VS wb s w W) (hh : Held s) (hn : s.ls.length ≤ 100000) (hn2 : s.os.length ≤ 100000) :
    Calls Tryz.prog 16 #[.pointer (some ⟨wb, 0, none⟩)] W fun e w' => e = .returned (.bool true) ∧ ∃ k, w' = W.drewN k := by
  have c16 : W.cell? ⟨wb, 16, none⟩ = some s.lv := h.cell 16
  have c17 : W.cell? ⟨wb, 17, none⟩ = some s.wv := h.cell 17
  have c18 : W.cell? ⟨wb, 18, none⟩ = some s.ov := h.cell 18
  have c19 : W.cell? ⟨wb, 19, none⟩ = some s.kv := h.cell 19
  have rl : W.ownsRow 0 46 1 s.lv s.ls.length s.ls := Sep.rd h .ls
  have rw_ : W.ownsRow 0 46 1 s.wv s.ws.length s.ws := Sep.rd h .ws
  have ro : W.ownsRow 0 77 1 s.ov s.os.length s.os := Sep.rd h .os
  have rk : W.ownsRow 0 77 1 s.kv s.ks.length s.ks := Sep.rd h .ks
  have HL := hide rl
  have HW := hide rw_
  have HO := hide ro
  have HK := hide rk
  have HH := hide hh
  have HS := hide h
  obtain ⟨lo, lc, hlv⟩ := own_form rl
  obtain ⟨wo, wc, hwv⟩ := own_form rw_
  obtain ⟨oo, oc, hov⟩ := own_form ro
  obtain ⟨ko, kc, hkv⟩ := own_form rk
  rw [hlv] at c16
  rw [hwv] at c17
  rw [hov] at c18
  rw [hkv] at c19
  have HLV := hide hlv
  have HWV := hide hwv
  have HOV := hide hov
  have HKV := hide hkv
  clear h hlv hwv hov hkv rl rw_ ro rk hh
  go_enter Tryz.func16, Tryz.ntmps16
  go_wp2
  go_loopw [3] (fun i wr => ∃ j : Nat, j ≤ s.ls.length ∧ i = .int .i64 j ∧ ∃ q, wr = W.drewN q) (fun i _ => s.ls.length - (intOf i).toNat)
  case atStart => exact ⟨0, Nat.zero_le _, rfl, 0, rfl⟩
  case round =>
    obtain ⟨j, hj, rfl, q, rfl⟩ := hrel
    by_cases hlt : j < s.ls.length
    · have hjl : (j : Int) < (s.ls.length : Int) := by omega
      have hx : s.ls[j]? = some s.ls[j] := List.getElem?_eq_getElem hlt
      have hjw : j < s.ws.length := by rw [(unhide HH).lw]; exact hlt
      have hjw2 : (j : Int) < (s.ws.length : Int) := by omega
      have hy : s.ws[j]? = some s.ws[j] := List.getElem?_eq_getElem hjw
      obtain ⟨gl, lc', e1, _, hcl⟩ := own_cell1 (unhide HL) j _ hx
      obtain ⟨gw, wc', e2, _, hcw⟩ := own_cell1 (unhide HW) j _ hy
      rw [unhide HLV] at e1
      rw [unhide HWV] at e2
      simp at e1 e2
      obtain ⟨rfl, rfl⟩ := e1
      obtain ⟨rfl, rfl⟩ := e2
      obtain ⟨L, hk20, hf1, hf2⟩ := (unhide HH).l j _ _ hx hy
      have ho1 : W.ownsRow 0 76 3 s.ls[j] L.length (L.flatMap keyC) := (unhide HS).has hf1
      have ho2 : W.ownsRow 0 76 3 s.ws[j] L.length (L.flatMap keyC) := (unhide HS).has hf2
      rw [← kcells_flat] at ho1 ho2
      obtain ⟨xo, xc, hxf⟩ := own_form ho1
      obtain ⟨yo, yc, hyf⟩ := own_form ho2
      rw [hxf] at hcl
      rw [hyf] at hcw
      have HX := hide (keysAt_of_own ho1)
      have HY := hide (keysAt_of_own ho2)
      rw [hxf] at HX
      rw [hyf] at HY
      clear hx hy ho1 ho2 hxf hyf hf1 hf2
      go_wp2
      go_loopw [4] (fun i wr => ∃ k : Nat, k ≤ L.length ∧ i = .int .i64 k ∧ ∃ q, wr = W.drewN q) (fun i _ => L.length - (intOf i).toNat)
      case atStart => exact ⟨0, Nat.zero_le _, rfl, q, rfl⟩
      case round =>
        obtain ⟨k, hk, rfl, q2, rfl⟩ := hrel
        by_cases hlt2 : k < L.length
        · have hkm : (k : Int) < (L.length : Int) := by omega
          obtain ⟨xb, xoff, rfl, hxb, hxc⟩ := (unhide HX).elem (by omega)
          obtain ⟨yb, yoff, rfl, hyb, hyc⟩ := (unhide HY).elem (by omega)
          obtain ⟨p0, p1, p2⟩ := hxc k hlt2
          obtain ⟨q0, q1, q2'⟩ := hyc k hlt2
          clear hxc hyc
          generalize L[k] = K at p0 p1 p2 q0 q1 q2'
          go_wp2_with fail
          go_quiet (fail)
          go_wp2
          go_roundw
          case rel => exact ⟨k + 1, by omega, by go_num, _, rfl⟩
          case measure => simp [intOf]; omega
        · go_wp2
          go_roundw
          case rel => exact ⟨j + 1, by omega, by go_num, _, rfl⟩
          case measure => simp [intOf]; omega
    · go_wp2
      go_loopw [5] (fun i wr => ∃ j : Nat, j ≤ s.os.length ∧ i = .int .i64 j ∧ ∃ q, wr = W.drewN q) (fun i _ => s.os.length - (intOf i).toNat)
      case atStart => exact ⟨0, Nat.zero_le _, rfl, q, rfl⟩
      case round =>
        clear hlt hj
        obtain ⟨i, hi, rfl, q3, rfl⟩ := hrel
        by_cases hlt : i < s.os.length
        · have hjl : (i : Int) < (s.os.length : Int) := by omega
          have hx : s.os[i]? = some s.os[i] := List.getElem?_eq_getElem hlt
          have hjw : i < s.ks.length := by rw [(unhide HH).ok]; exact hlt
          have hjw2 : (i : Int) < (s.ks.length : Int) := by omega
          have hy : s.ks[i]? = some s.ks[i] := List.getElem?_eq_getElem hjw
          obtain ⟨gl, lc', e1, _, hcl⟩ := own_cell1 (unhide HO) i _ hx
          obtain ⟨gw, wc', e2, _, hcw⟩ := own_cell1 (unhide HK) i _ hy
          rw [unhide HOV] at e1
          rw [unhide HKV] at e2
          simp at e1 e2
          obtain ⟨rfl, rfl⟩ := e1
          obtain ⟨rfl, rfl⟩ := e2
          obtain ⟨L, hk20, hf1, hf2⟩ := (unhide HH).o i _ _ hx hy
          have ho1 : W.ownsRow 0 78 2 s.os[i] L.length (L.flatMap pkC) := (unhide HS).has hf1
          have ho2 : W.ownsRow 0 78 2 s.ks[i] L.length (L.flatMap pkC) := (unhide HS).has hf2
          obtain ⟨xo, xc, hxf, hxn, _⟩ := row_form ho1
          obtain ⟨yo, yc, hyf, hyn, _⟩ := row_form ho2
          rw [hxf] at hcl ho1
          rw [hyf] at hcw ho2
          have HX := hide ho1
          have HY := hide ho2
          clear hx hy ho1 ho2 hxf hyf hf1 hf2
          go_wp2
          go_loopw [6] (fun i wr => ∃ k : Nat, k ≤ L.length ∧ i = .int .i64 k ∧ ∃ q, wr = W.drewN q) (fun i _ => L.length - (intOf i).toNat)
          case atStart => exact ⟨0, Nat.zero_le _, rfl, q3, rfl⟩
          case round =>
            obtain ⟨k, hk, rfl, q2, rfl⟩ := hrel
            by_cases hlt2 : k < L.length
            · have hkm : (k : Int) < (L.length : Int) := by omega
              obtain ⟨xb, rfl, _⟩ := hxn (by omega)
              obtain ⟨yb, rfl, _⟩ := hyn (by omega)
              have p0 : W.cell? ⟨xb, k * 2, none⟩ = _ := row_cell pkC 2 (fun _ => rfl) (unhide HX) k hlt2 0 (by omega)
              have p1 : W.cell? ⟨xb, k * 2 + 1, none⟩ = _ := row_cell pkC 2 (fun _ => rfl) (unhide HX) k hlt2 1 (by omega)
              have q0 : W.cell? ⟨yb, k * 2, none⟩ = _ := row_cell pkC 2 (fun _ => rfl) (unhide HY) k hlt2 0 (by omega)
              have q1 : W.cell? ⟨yb, k * 2 + 1, none⟩ = _ := row_cell pkC 2 (fun _ => rfl) (unhide HY) k hlt2 1 (by omega)
              simp only [pkC, List.getElem?_cons_zero, List.getElem?_cons_succ] at p0 p1 q0 q1
              generalize L[k].dest = d at p0 q0
              generalize bs L[k].bytes = t at p1 q1
              clear hxn hyn
              go_wp2_with fail
              go_quiet (fail)
              go_wp2
              go_roundw
              case rel => exact ⟨k + 1, by omega, by go_num, _, rfl⟩
              case measure => simp [intOf]; omega
            · clear hxn hyn
              go_wp2
              go_roundw
              case rel => exact ⟨i + 1, by omega, by go_num, _, rfl⟩
              case measure => simp [intOf]; omega
        · go_wp2
          go_ret
          exact ⟨rfl, _, rfl⟩
end Go.Proofs.YtnneljcbelgoeaaGreatDoor.wire
/- gossiplaw's sent and sends. -/
namespace Go.Proofs.YtnneljcbelgoeaaGreatDoor.wire
open Go.RowKit Go.Maps
set_option maxRecDepth 100000 in
set_option maxHeartbeats 1000000 in
/-- sent: two lists of the same packets. -/
theorem sent_s (l : List Pk) (v v' : Value) (w : World) {b b' : Nat} (hv : w.ownsRow b 78 2 v l.length (l.flatMap pkC)) (hv' : w.ownsRow b' 60 2 v' l.length (l.flatMap pkC)) (hl : l.length ≤ 1000000) :
    Calls Tryz.prog 63 #[v, v'] w fun e w' => e = .returned (.bool true) ∧ ∃ n, w' = w.drewN n := by
  obtain ⟨ao, cap, rfl, hn, _⟩ := row_form hv
  obtain ⟨ao', cap', rfl, hn', _⟩ := row_form hv'
  have HV := hide hv
  have HV' := hide hv'
  have HN := hide hn
  have HN' := hide hn'
  clear hv hv' hn hn'
  go_enter Tryz.func63, Tryz.ntmps63
  go_wp2_with fail
  go_loopw [5] (fun i wr => ∃ k : Nat, k ≤ l.length ∧ i = .int .i64 k ∧ ∃ n, wr = w.drewN n) (fun i _ => l.length - (intOf i).toNat)
  case atStart => exact ⟨0, Nat.zero_le _, rfl, 0, rfl⟩
  case round =>
    obtain ⟨k, hk, rfl, n, rfl⟩ := hrel
    by_cases hlt : k < l.length
    · have hkm : (k : Int) < (l.length : Int) := by omega
      obtain ⟨xb, rfl, _⟩ := unhide HN (by omega)
      obtain ⟨yb, rfl, _⟩ := unhide HN' (by omega)
      have p0 : w.cell? ⟨xb, k * 2, none⟩ = _ := row_cell pkC 2 (fun _ => rfl) (unhide HV) k hlt 0 (by omega)
      have p1 : w.cell? ⟨xb, k * 2 + 1, none⟩ = _ := row_cell pkC 2 (fun _ => rfl) (unhide HV) k hlt 1 (by omega)
      have q0 : w.cell? ⟨yb, k * 2, none⟩ = _ := row_cell pkC 2 (fun _ => rfl) (unhide HV') k hlt 0 (by omega)
      have q1 : w.cell? ⟨yb, k * 2 + 1, none⟩ = _ := row_cell pkC 2 (fun _ => rfl) (unhide HV') k hlt 1 (by omega)
      simp only [pkC, List.getElem?_cons_zero, List.getElem?_cons_succ] at p0 p1 q0 q1
      generalize l[k].dest = d at p0 q0
      generalize bs l[k].bytes = t at p1 q1
      have e1 : (d != d) = false := by simp
      go_wp2_with fail
      go_quiet (fail)
      go_wp2
      go_roundw
      case rel => exact ⟨k + 1, by omega, by go_num, _, rfl⟩
      case measure => simp [intOf]; omega
    · go_wp2
      go_ret
      exact ⟨rfl, n, rfl⟩
theorem Held.pushL {s : Sg} (h : Held s) (v x y z lv wv : Value) (L LL : List K3) (mark : Int) (a : List Th) (hL : L.length ≤ 2000) (hLL : LL.length ≤ 2000) : Held { s with a := a, mark := mark, lv := lv, wv := wv, ls := s.ls ++ [v] ++ [x], ws := s.ws ++ [y] ++ [z], fz := keysT z LL :: keysT y L :: keysT v L :: keysT x LL :: s.fz } := by
  refine ⟨by simp [h.lw], h.ok, fun i p q hp hq => ?_, fun i p q hp hq => ?_⟩
  · have hlw := h.lw
    have hp : (s.ls ++ ([v] ++ [x]))[i]? = some p := by rw [← List.append_assoc]; exact hp
    have hq : (s.ws ++ ([y] ++ [z]))[i]? = some q := by rw [← List.append_assoc]; exact hq
    by_cases h1 : i < s.ls.length
    · rw [List.getElem?_append_left h1] at hp
      rw [List.getElem?_append_left (by omega)] at hq
      obtain ⟨M, h2, h3, h4⟩ := h.l i p q hp hq
      exact ⟨M, h2, by simp [h3], by simp [h4]⟩
    · rw [List.getElem?_append_right (by omega)] at hp
      rw [List.getElem?_append_right (by omega), hlw] at hq
      match hj : i - s.ls.length with
      | 0 =>
        rw [hj] at hp hq
        simp at hp hq
        subst hp; subst hq
        exact ⟨L, hL, by simp, by simp⟩
      | 1 =>
        rw [hj] at hp hq
        simp at hp hq
        subst hp; subst hq
        exact ⟨LL, hLL, by simp, by simp⟩
      | k + 2 => rw [hj] at hp; simp at hp
  · obtain ⟨M, h2, h3, h4⟩ := h.o i p q hp hq
    exact ⟨M, h2, by simp [h3], by simp [h4]⟩
theorem Held.pushO {s : Sg} (h : Held s) (v x y z lv wv : Value) (L LL : List Pk) (mark : Int) (a : List Th) (hL : L.length ≤ 2000) (hLL : LL.length ≤ 2000) : Held { s with a := a, mark := mark, ov := lv, kv := wv, os := s.os ++ [v] ++ [x], ks := s.ks ++ [y] ++ [z], fz := pksT z LL :: pksT y L :: pksT v L :: pksT x LL :: s.fz } := by
  refine ⟨h.lw, by simp [h.ok], fun i p q hp hq => ?_, fun i p q hp hq => ?_⟩
  · obtain ⟨M, h2, h3, h4⟩ := h.l i p q hp hq
    exact ⟨M, h2, by simp [h3], by simp [h4]⟩
  · have hlw := h.ok
    have hp : (s.os ++ ([v] ++ [x]))[i]? = some p := by rw [← List.append_assoc]; exact hp
    have hq : (s.ks ++ ([y] ++ [z]))[i]? = some q := by rw [← List.append_assoc]; exact hq
    by_cases h1 : i < s.os.length
    · rw [List.getElem?_append_left h1] at hp
      rw [List.getElem?_append_left (by omega)] at hq
      obtain ⟨M, h2, h3, h4⟩ := h.o i p q hp hq
      exact ⟨M, h2, by simp [h3], by simp [h4]⟩
    · rw [List.getElem?_append_right (by omega)] at hp
      rw [List.getElem?_append_right (by omega), hlw] at hq
      match hj : i - s.os.length with
      | 0 =>
        rw [hj] at hp hq
        simp at hp hq
        subst hp; subst hq
        exact ⟨L, hL, by simp, by simp⟩
      | 1 =>
        rw [hj] at hp hq
        simp at hp hq
        subst hp; subst hq
        exact ⟨LL, hLL, by simp, by simp⟩
      | k + 2 => rw [hj] at hp; simp at hp
/-- A packet more is on its way. -/
theorem VS.pushP {wb : Nat} {s : Sg} {w W W1 W2 : World} (h : VS wb s w W) (hb : Below W.heap.size W W1) (hg : W1.grownBy W2 s.pv.ownBlock) (p : Pk) (v' : Value) (hown : W2.ownsRow 0 60 2 v' (s.ps.length + 1) (s.ps.flatMap pkC ++ pkC p)) (hat : v'.ownBlock = s.pv.ownBlock ∨ v'.ownBlock = some W1.heap.size) :
    VS wb { s with pv := v', ps := s.ps ++ [p] } w (W2.setCell ⟨wb, 15, none⟩ v') ∧ W2.heap[wb]? = some (.cells s.cells 41 (0, 0)) :=
  h.grow (s' := { s with pv := v', ps := s.ps ++ [p] }) .ow (by simp) hb (Frm.of_grown hg (fun k e => .inl (by simp [Sg.th, rowT, e]))) (by simpa [Sg.th, rowT] using hown) (fun k hk => by
    simp only [Sg.th, rowT, Option.mem_toList] at hk ⊢
    rcases hat with e | e
    · exact .inl (e ▸ hk)
    · rw [e] at hk; cases hk; exact .inr (Nat.le_refl _)) 15 v' rfl (fun q h1 h2 => by cases q <;> first | rfl | exact absurd rfl h1 | exact absurd rfl h2)
theorem onePk (a : Pk) : ∀ u ∈ pkC a, u.oneCell' = true := by intro u hu; simp [pkC] at hu; rcases hu with rfl | rfl <;> rfl
/-- What is on its way behind sends. -/
structure Way (s : Sg) (l : List Pk) (ps : List Pk) : Prop where
  len : ps.length ≤ 60
  of : ∀ p ∈ ps, p ∈ s.ps ∨ p ∈ l
set_option maxRecDepth 100000 in
set_option maxHeartbeats 4000000 in
theorem sends_g (wb : Nat) (s : Sg) (w W : World) (h : VS wb s w W) (hh : Held s) (ho : s.os.length ≤ 88000) (hm0 : 0 ≤ s.mark) (hm1 : s.mark ≤ 90000000) (hps : s.ps.length ≤ 60) (va vb lv : Value) (l : List Pk) (hl : l.length ≤ 900) (ha : s.a = [pksT va l]) (hb : s.b = [pksT vb l]) (rx : ∀ (s' : Sg) (W' : World), VS wb s' w W' → s'.ns = s.ns → W'.ownsRow 0 60 2 lv l.length (l.flatMap pkC)) :
    Calls Tryz.prog 38 #[.pointer (some ⟨wb, 0, none⟩), va, vb, lv] W fun e W' => e = .returned (.bool true) ∧ ∃ (pv ov kv : Value) (ps : List Pk) (os ks : List Value) (mark : Int) (fz : List Th), VS wb { s with a := [], b := [], pv := pv, ps := ps, ov := ov, kv := kv, os := os, ks := ks, mark := mark, fz := fz } w W' ∧ Way s l ps ∧ Held { s with a := [], b := [], pv := pv, ps := ps, ov := ov, kv := kv, os := os, ks := ks, mark := mark, fz := fz } ∧ os.length = s.os.length + 4 ∧ mark = s.mark + 2 * l.length + 4 ∧ ∀ t ∈ s.fz, t ∈ fz := by
  have hva : W.ownsRow 0 78 2 va l.length (l.flatMap pkC) := Sep.rd h .ta _ (by rw [ha]; exact List.mem_singleton.2 rfl)
  have hvb : W.ownsRow 0 78 2 vb l.length (l.flatMap pkC) := Sep.rd h .tb _ (by rw [hb]; exact List.mem_singleton.2 rfl)
  obtain ⟨xo, xc, hxf, hxn, _⟩ := row_form (rx s W h rfl)
  have RX := hide rx
  have HS1 := hide (sent_s l va lv W hva (rx s W h rfl) (by omega))
  have HS2 := hide (fun k => sent_s l vb lv (W.drewN k) ((own_below hvb (below_draws (Below.refl _ _) k))) (rx s _ (h.draws k) rfl) (by omega))
  have HC := hide h
  have HH := hide hh
  have HA := hide ha
  have HBb := hide hb
  have HXF := hide hxf
  rw [hxf]
  rw [hxf] at HS1 HS2
  clear h hh hva hvb ha hb rx hxf
  go_enter Tryz.func38, Tryz.ntmps38
  go_wp2_with fail
  refine (unhide HS1).mono ?_
  rintro e w1 ⟨rfl, k1, rfl⟩
  go_wp2_with fail
  refine (unhide HS2 k1).mono ?_
  rintro e w1 ⟨rfl, k2, rfl⟩
  have HC1 := hide (((unhide HC).draws k1).draws k2)
  generalize (W.drewN k1).drewN k2 = W1 at HC1 ⊢
  clear HS1 HS2 HC
  go_wp2
  go_loopw [11] (fun q wr => ∃ (j : Nat) (pv : Value) (ps : List Pk), j ≤ l.length ∧ q = .int .i64 j ∧ VS wb { s with pv := pv, ps := ps } w wr ∧ Way s l ps) (fun q _ => l.length - (intOf q).toNat)
  case atStart => exact ⟨0, s.pv, s.ps, Nat.zero_le _, rfl, unhide HC1, hps, fun p hp => .inl hp⟩
  case round =>
    obtain ⟨j, pv, ps, hj, rfl, hC, hW⟩ := hrel
    have hro := unhide RX _ _ hC rfl
    rw [unhide HXF] at hro
    have hwl := hC.lt
    have c15 : wr.cell? ⟨wb, 15, none⟩ = some pv := hC.cell 15
    have hpo : wr.ownsRow 0 60 2 pv ps.length (ps.flatMap pkC) := Sep.rd hC .ow
    obtain ⟨po, pc, hpf, _⟩ := row_form hpo
    subst hpf
    have hpl := hW.len
    by_cases hcond : j < l.length ∧ ps.length < 60
    · obtain ⟨hlt, hp60⟩ := hcond
      have hjl : (j : Int) < (l.length : Int) := by omega
      have hpi : (ps.length : Int) < 60 := by omega
      obtain ⟨xb, rfl, _⟩ := hxn (by omega)
      have p0 : wr.cell? ⟨xb, j * 2, none⟩ = _ := row_cell pkC 2 (fun _ => rfl) hro j hlt 0 (by omega)
      have p1 : wr.cell? ⟨xb, j * 2 + 1, none⟩ = _ := row_cell pkC 2 (fun _ => rfl) hro j hlt 1 (by omega)
      simp only [pkC, List.getElem?_cons_zero, List.getElem?_cons_succ] at p0 p1
      have hmem : l[j] ∈ l := List.getElem_mem hlt
      generalize l[j] = p at p0 p1 hmem
      have HC2 := hide hC
      have HPO := hide hpo
      have HW := hide hW
      clear hC hpo hW hro
      go_wp2_with fail
      go_region_law
        ((refine step_app (by rfl) _ _ (by rfl) etyP 0 (by rfl) (by rfl) (((unhide HPO).alloc _).drew) (Src.box (cs := pkC p) 2 1 1 (by exact heap_alloc_new wr _) (by rfl)) (onePk p) (by omega) (by omega) ?_; intro v' w' hown hgr hat; obtain ⟨vo, vc, hvf, _⟩ := row_form hown; subst hvf; have hP := (unhide HC2).pushP (below_draws ((Below.refl _ _).alloc (Nat.le_refl _) _) 1) hgr p _ hown hat; have hfz1 : w'.frozen? ⟨wb, 15, none⟩ = false := free_at hP.2 15; have hc1 : w'.cell? ⟨wb, 15, none⟩ = some (.slice po ps.length pc) := cell_at hP.2 15))
      all_goals
        have HP := hide hP.1
        clear hP hown hgr hat hfz1 hc1 c15 p0 p1 HC2 HPO
        go_wp2
        go_roundw
        case rel => exact ⟨j + 1, _, ps ++ [p], by omega, by go_num, unhide HP, by simp; omega, fun q hq => by
          rcases List.mem_append.1 hq with hq | hq
          · exact (unhide HW).of q hq
          · simp at hq; subst hq; exact .inr hmem⟩
        case measure => simp [intOf]; omega
    · have hend : (decide ((j : Int) < (l.length : Int)) && decide ((ps.length : Int) < 60)) = false := by
        simp only [Bool.and_eq_false_iff, decide_eq_false_iff_not]
        omega
      have HC2 := hide hC
      have HW := hide hW
      clear hC hpo hW hro
      have HK : Hid (∀ (W' : World), VS wb { s with pv := .slice po ps.length pc, ps := ps } w W' → Calls Tryz.prog 64 #[.pointer (some ⟨wb, 0, none⟩), va] W' fun e W'' => e = .returned (.tuple #[]) ∧ ∃ (lv wv x y z : Value) (L LL : List Pk), L.length = l.length ∧ LL.length = l.length + 2 ∧ VS wb { s with pv := .slice po ps.length pc, ps := ps, a := [], mark := s.mark + l.length + 2, ov := lv, kv := wv, os := s.os ++ [va] ++ [x], ks := s.ks ++ [y] ++ [z], fz := pksT z LL :: pksT y L :: pksT va L :: pksT x LL :: s.fz } w W'') :=
        hide (fun W' h' => keepOut_s wb _ w W' h' (by simp only; omega) (by simp only; rw [(unhide HH).ok]; omega) hm0 (by simp only; omega) va l (by omega) (unhide HA))
      rcases (show (j : Int) < (l.length : Int) ∧ ¬ ((ps.length : Int) < 60) ∨ ¬ ((j : Int) < (l.length : Int)) by omega) with ⟨hlt, hpn⟩ | hlt
      all_goals
        go_wp2_with fail
        refine (unhide HK _ (unhide HC2)).mono ?_
        rintro e w2 ⟨rfl, lv, wv, x, y, z, L, LL, hL, hLL, hC3⟩
        have hH0 : Held { s with pv := .slice po ps.length pc, ps := ps } := ⟨(unhide HH).lw, (unhide HH).ok, (unhide HH).l, (unhide HH).o⟩
        have HH3 := hide (hH0.pushO va x y z lv wv L LL (s.mark + l.length + 2) [] (by omega) (by omega))
        have HC3 := hide (hC3.moveB rfl)
        clear hC3 HK HC2 hH0 HH
        go_wp2_with fail
        refine (keepOut_s wb _ w w2 (unhide HC3) (by simp; omega) (by have := (unhide HH3).ok; simp at this; simp; omega) (by simp only; omega) (by simp only; omega) vb l (by omega) (unhide HBb)).mono ?_
        rintro e w3 ⟨rfl, lv2, wv2, x2, y2, z2, L2, LL2, hL2, hLL2, hC4⟩
        have HC4 := hide hC4
        have HH4 := hide ((unhide HH3).pushO vb x2 y2 z2 lv2 wv2 L2 LL2 (s.mark + l.length + 2 + l.length + 2) [] (by omega) (by omega))
        clear hC4 HH3 HC3
        go_wp2
        go_ret
        refine ⟨rfl, _, _, _, _, _, _, _, _, unhide HC4, unhide HW, ⟨(unhide HH4).lw, (unhide HH4).ok, (unhide HH4).l, (unhide HH4).o⟩, by simp, by omega, fun t ht => by simp [ht]⟩
theorem sends_s (wb : Nat) (s : Sg) (w W : World) (h : VS wb s w W) (hh : Held s) (ho : s.os.length ≤ 88000) (hm0 : 0 ≤ s.mark) (hm1 : s.mark ≤ 90000000) (hps : s.ps.length ≤ 60) (va vb : Value) (i : Nat) (n : Nt) (hn : s.ns[i]? = some n) (hl : n.r.out.length ≤ 900) (ha : s.a = [pksT va n.r.out]) (hb : s.b = [pksT vb n.r.out]) :
    Calls Tryz.prog 38 #[.pointer (some ⟨wb, 0, none⟩), va, vb, n.rv.x] W fun e W' => e = .returned (.bool true) ∧ ∃ (pv ov kv : Value) (ps : List Pk) (os ks : List Value) (mark : Int) (fz : List Th), VS wb { s with a := [], b := [], pv := pv, ps := ps, ov := ov, kv := kv, os := os, ks := ks, mark := mark, fz := fz } w W' ∧ Way s n.r.out ps ∧ Held { s with a := [], b := [], pv := pv, ps := ps, ov := ov, kv := kv, os := os, ks := ks, mark := mark, fz := fz } ∧ os.length = s.os.length + 4 ∧ mark = s.mark + 2 * n.r.out.length + 4 ∧ ∀ t ∈ s.fz, t ∈ fz :=
  sends_g wb s w W h hh ho hm0 hm1 hps va vb n.rv.x n.r.out hl ha hb (fun s' W' h' e => by
    have := Sep.rd h' (.r i)
    rw [show s'.th wb (.r i) = refT n.rb n.rv n.r from onN_at (by rw [e]; exact hn) _] at this
    exact this.2.x)
end Go.Proofs.YtnneljcbelgoeaaGreatDoor.wire
/- gossiplaw's take: a packet is on its way no more. -/
namespace Go.Proofs.YtnneljcbelgoeaaGreatDoor.wire
open Go.RowKit Go.Maps
set_option maxRecDepth 100000 in
set_option maxHeartbeats 2000000 in
theorem take_s (wb : Nat) (s : Sg) (w W : World) (h : VS wb s w W) (hps : s.ps.length ≤ 60) (k : Nat) (hk : k < s.ps.length) :
    Calls Tryz.prog 21 #[.pointer (some ⟨wb, 0, none⟩), .int .i64 k] W fun e W' => (∃ v, e = .returned v) ∧ ∃ pv, VS wb { s with pv := pv, ps := s.ps.eraseIdx k } w W' := by
  have hro : W.ownsRow 0 60 2 s.pv s.ps.length (s.ps.flatMap pkC) := Sep.rd h .ow
  obtain ⟨po, pc, hpf, hpn, _⟩ := row_form hro
  obtain ⟨pb, rfl, hpb⟩ := hpn (by omega)
  have c15 : W.cell? ⟨wb, 15, none⟩ = some s.pv := h.cell 15
  have hwl := h.lt
  rw [hpf] at c15 hro
  have p0 : W.cell? ⟨pb, k * 2, none⟩ = _ := row_cell pkC 2 (fun _ => rfl) hro k hk 0 (by omega)
  have p1 : W.cell? ⟨pb, k * 2 + 1, none⟩ = _ := row_cell pkC 2 (fun _ => rfl) hro k hk 1 (by omega)
  simp only [pkC, List.getElem?_cons_zero, List.getElem?_cons_succ] at p0 p1
  generalize s.ps[k].dest = pd at p0
  generalize s.ps[k].bytes = pt at p1
  have hk0 : (k : Int) < (s.ps.length : Int) := by omega
  have hb2 : Below W.heap.size W ((W.alloc (.cells #[.int .i64 0, .string { data := #[] }] 60)).alloc (.cells #[.int .i64 pd, .string (bs pt)] 60)) := ((Below.refl _ _).alloc (Nat.le_refl _) _).alloc (by simp) _
  have HBY := hide (h.beyond (Nat.le_refl W.heap.size))
  have HC := hide (h.mono hb2)
  have HR := hide (own_below hro hb2)
  have hz2 : ((W.alloc (.cells #[.int .i64 0, .string { data := #[] }] 60)).alloc (.cells #[.int .i64 pd, .string (bs pt)] 60)).heap.size = W.heap.size + 2 := by simp
  have HB0 := hide (show ((W.alloc (.cells #[.int .i64 0, .string { data := #[] }] 60)).alloc (.cells #[.int .i64 pd, .string (bs pt)] 60)).heap[W.heap.size]? = some (.cells #[.int .i64 0, .string { data := #[] }] 60 (0, 0)) from (Below.heap_alloc _ _ _ (by simp)).trans (heap_alloc_new W _))
  have HB1 := hide (show ((W.alloc (.cells #[.int .i64 0, .string { data := #[] }] 60)).alloc (.cells #[.int .i64 pd, .string (bs pt)] 60)).heap[W.heap.size + 1]? = some (.cells #[.int .i64 pd, .string (bs pt)] 60 (0, 0)) by
    have hh := heap_alloc_new (W.alloc (.cells #[.int .i64 0, .string { data := #[] }] 60)) (.cells #[.int .i64 pd, .string (bs pt)] 60)
    rw [World.size_alloc] at hh
    exact hh)
  have HPF := hide hpf
  have hlk : (s.ps.take k).length = k := by simp; omega
  have HLK := hide hlk
  clear h hro hpn hpf hb2 hlk
  go_enter Tryz.func21, Tryz.ntmps21
  go_wp2_with (at_builtin; refine wpList_app rfl _ _ rfl etyP (W.heap.size + 2) (n := k) (xs := (s.ps.flatMap pkC).take (k * 2)) (n1 := 0) (xs1 := []) rfl rfl (World.ownsRow_nil _ _ _ _) ?_ (fun u hu => one_of onePk _ u (List.mem_of_mem_take hu)) (by omega) (by simp) ?_)
  · simp [Act.eval]
    exact Src.head (unhide HR) k (Nat.le_of_lt hk)
  generalize (W.alloc (.cells #[.int .i64 0, .string { data := #[] }] 60)).alloc (.cells #[.int .i64 pd, .string (bs pt)] 60) = W2 at HC HR HB0 HB1 hz2 ⊢
  intro v6 w6 ho6 hg6 _
  have hf6 : Fi pkC 60 2 W2 w6 v6 (s.ps.take k) := by
    have := (Fi.nil pkC 60 2 (Below.refl W2.heap.size W2)).push (Below.refl _ _) hg6 (s.ps.take k) (by
      have e := row_take pkC 2 (fun _ => rfl) s.ps k
      rw [e] at ho6
      rw [unhide HLK, hz2]; simpa using ho6)
    simpa using this
  obtain ⟨o6, c6, hv6, _⟩ := row_form hf6.own
  rw [unhide HLK] at hv6
  subst hv6
  have HF6 := hide hf6
  have HL6 := hide (own_below (unhide HR) hf6.below)
  have hz6 := hf6.below.size
  have e15 : w6.cell? ⟨wb, 15, none⟩ = some s.pv := ((unhide HC).mono hf6.below).cell 15
  rw [unhide HPF] at e15
  clear ho6 hg6 hf6 c15 p0 p1
  have hk1 : k + 1 ≤ s.ps.length := hk
  have hz3 : W.heap.size + 1 < W2.heap.size := by omega
  clear hz2
  go_wp2_with (refine wpList_tail rfl _ _ rfl etyP (k + 1) rfl rfl (unhide HL6) hk1 ?_)
  intro vt hvt
  have hvt2 : Src w6 2 vt (s.ps.length - (k + 1)) ((s.ps.drop (k + 1)).flatMap pkC) := by
    have e := row_drop pkC 2 (fun _ => rfl) s.ps (k + 1)
    rw [← e]
    exact hvt
  have HVT := hide hvt2
  clear hvt hvt2
  go_wp2_with (at_builtin; refine wpList_app rfl _ _ rfl etyP W2.heap.size rfl rfl (unhide HF6).own (unhide HVT) (one_of onePk _) (by have := unhide HLK; omega) (by omega) ?_)
  intro v7 w7 ho7 hg7 _
  have hf7 := (unhide HF6).push (Below.refl _ _) hg7 (s.ps.drop (k + 1)) (by first | (rw [List.length_take, List.length_drop]; exact ho7) | (rw [unhide HLK, List.length_drop]; exact ho7) | simpa using ho7)
  rw [← List.eraseIdx_eq_take_drop_succ] at hf7
  obtain ⟨o7, c7, hv7, _⟩ := row_form hf7.own
  subst hv7
  have hP := (unhide HC).grow (s' := { s with pv := .slice o7 (s.ps.eraseIdx k).length c7, ps := s.ps.eraseIdx k }) .ow (by simp) (Below.refl _ _) (Frm.of_below hf7.below (Nat.le_refl _)) (by exact own_mono hf7.own (Nat.zero_le _)) (fun q hq => by
    simp only [Sg.th, rowT, Option.mem_toList] at hq
    exact .inr (own_lt hf7.own hq).1) 15 (.slice o7 (s.ps.eraseIdx k).length c7) rfl (fun q h1 h2 => by cases q <;> first | rfl | exact absurd rfl h1 | exact absurd rfl h2)
  have d15 : w7.cell? ⟨wb, 15, none⟩ = some s.pv := cell_at hP.2 15
  have f15 : w7.frozen? ⟨wb, 15, none⟩ = false := free_at hP.2 15
  have hbb0 := (hf7.below.block W.heap.size (by omega)).trans (unhide HB0)
  have hbb1 := (hf7.below.block (W.heap.size + 1) (by omega)).trans (unhide HB1)
  have q0 := cell_at hbb1 0
  have q1 := cell_at hbb1 1
  have r0 := cell_at hbb0 0
  have r1 := cell_at hbb0 1
  have z0 := free_at hbb0 0
  have z1 := free_at hbb0 1
  simp only [List.getElem?_toArray, List.getElem?_cons_zero, List.getElem?_cons_succ] at q0 q1 r0 r1
  have hx0 : (w7.setCell ⟨wb, 15, none⟩ (.slice o7 (s.ps.eraseIdx k).length c7)).heap[W.heap.size]? = some (.cells #[.int .i64 0, .string { data := #[] }] 60 (0, 0)) := (heap_setCell_other w7 ⟨wb, 15, none⟩ W.heap.size _ (by show W.heap.size ≠ wb; omega)).trans hbb0
  have hx1 := heap_setCell_same _ W.heap.size 0 _ _ (.int .i64 pd) hx0
  have hx2 := heap_setCell_same _ W.heap.size 1 _ _ (.string (bs pt)) hx1
  have g0 := cell_at hx1 0
  have g1 := cell_at hx2 0
  have g2 := cell_at hx2 1
  simp at g0 g1 g2
  have HG0 := hide g0
  have HG1 := hide g1
  have HG2 := hide g2
  clear g0 g1 g2 hx0 hx1 hx2
  have HP := hide hP.1
  have HO7 := hide hf7.own
  have hw7 := hf7.below.size
  have hne : W.heap.size ≠ wb := by omega
  have hne2 : W.heap.size + 1 ≠ wb := by omega
  have hne3 : W.heap.size + 1 ≠ W.heap.size := by omega
  rw [unhide HPF] at d15
  clear hP hf7 ho7 hg7 HF6 HL6 HVT hbb0 hbb1 HB0 HB1 HR
  go_wp2
  refine bodyPost_ret (v := .agg #[.int .i64 pd, .string (bs pt)]) (by simp [results, Tryz.results21, go_sem, unhide HG1, unhide HG2]) rfl ⟨⟨_, rfl⟩, .slice o7 (s.ps.eraseIdx k).length c7, ?_⟩
  have t1 := (frm_cell (w7.setCell ⟨wb, 15, none⟩ (.slice o7 (s.ps.eraseIdx k).length c7)) W.heap.size 0 (.int .i64 pd)).trans (frm_cell _ W.heap.size 1 (.string (bs pt))) (fun j hj => .inl hj)
  refine Sep.aside (unhide HP) t1 (fun q hq => ?_)
  simp at hq
  subst hq
  refine ⟨(unhide HBY).1, fun j hm => ?_⟩
  have hne := (unhide HBY).2 j
  cases j with
  | ow =>
    simp only [Sg.th, rowT, Option.mem_toList] at hm
    have := (own_lt (unhide HO7) hm).1
    omega
  | _ => exact hne hm
end Go.Proofs.YtnneljcbelgoeaaGreatDoor.wire
