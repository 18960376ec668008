import Derived.Test.YtnneljcbelgoeaaGreatDoorG25
import Derived.Deep.QuietTactic
import Derived.BigQuiet
import Derived.BigRegion
import Derived.Laws.StructEq
/- gossiplaw's looks: every list that was kept reads as its copy. -/
namespace Go.Proofs.YtnneljcbelgoeaaGreatDoor.wire
open Go.RowKit
theorem own_cell1 {W : World} {base : Nat} {e : TypeId} {v : Value} {xs : List Value} {n : Nat} (h : W.ownsRow base e 1 v n xs) (i : Nat) (x : Value) (hx : xs[i]? = some x) : ∃ g cap, v = .slice (some ⟨g, 0, none⟩) n cap ∧ i < n ∧ W.cell? ⟨g, i, none⟩ = some x := by
  have hi : i < xs.length := (List.getElem?_eq_some_iff.1 hx).1
  have hl := h.1
  obtain ⟨g, cap, rfl, _, _⟩ := h.form (by omega)
  exact ⟨g, cap, rfl, by omega, by rw [h.cellAt i (by omega)]; exact hx⟩
set_option maxRecDepth 100000 in
set_option maxHeartbeats 2000000 in
theorem looks_any (n wb : Nat) (s : St) (w W : World) (h : WV n wb s w W) (hn : n ≤ 20000) :
    Calls Tryz.prog 16 #[.pointer (some ⟨wb, 0, none⟩)] W fun e w' => e = .returned (.bool true) ∧ ∃ k, w' = W.drewN k := by
  have hpn := h.pn
  have c16 : W.cell? ⟨wb, 16, none⟩ = some s.lv := h.cell 16
  have c17 : W.cell? ⟨wb, 17, none⟩ = some s.wv := h.cell 17
  have c18 : W.cell? ⟨wb, 18, none⟩ = some (.slice none 0 0) := h.cell 18
  have HL := hide h.rows.l
  have HW := hide h.rows.w
  have HPW := hide h.pw
  have HP := hide h.rows.p
  obtain ⟨lo, lc, hlv⟩ := own_form h.rows.l
  obtain ⟨wo, wc, hwv⟩ := own_form h.rows.w
  rw [hlv] at c16
  rw [hwv] at c17
  have HLV := hide hlv
  have HWV := hide hwv
  clear h hlv hwv
  go_enter Tryz.func16, Tryz.ntmps16
  go_wp2
  go_loopw [3] (fun i wr => ∃ j : Nat, j ≤ s.ls.length ∧ i = .int .i64 j ∧ ∃ q, wr = W.drewN q) (fun i _ => s.ls.length - (intOf i).toNat)
  case atStart => exact ⟨0, Nat.zero_le _, rfl, 0, rfl⟩
  case round =>
    obtain ⟨j, hj, rfl, q, rfl⟩ := hrel
    by_cases hlt : j < s.ls.length
    · have hjl : (j : Int) < (s.ls.length : Int) := by omega
      have hx : s.ls[j]? = some s.ls[j] := List.getElem?_eq_getElem hlt
      have hjw : j < s.ws.length := by rw [unhide HPW]; exact hlt
      have hjw2 : (j : Int) < (s.ws.length : Int) := by omega
      have hy : s.ws[j]? = some s.ws[j] := List.getElem?_eq_getElem hjw
      obtain ⟨gl, lc', e1, _, hcl⟩ := own_cell1 (unhide HL) j _ hx
      obtain ⟨gw, wc', e2, _, hcw⟩ := own_cell1 (unhide HW) j _ hy
      rw [unhide HLV] at e1
      rw [unhide HWV] at e2
      simp at e1 e2
      obtain ⟨rfl, rfl⟩ := e1
      obtain ⟨rfl, rfl⟩ := e2
      obtain ⟨ks, hk20, ho1, ho2⟩ := unhide HP j _ _ hx hy
      obtain ⟨xo, xc, hxf⟩ := own_form ho1
      obtain ⟨yo, yc, hyf⟩ := own_form ho2
      rw [hxf] at hcl
      rw [hyf] at hcw
      have HX := hide (keysAt_of_own ho1)
      have HY := hide (keysAt_of_own ho2)
      rw [hxf] at HX
      rw [hyf] at HY
      clear hx hy ho1 ho2 hxf hyf
      go_wp2
      go_loopw [4] (fun i wr => ∃ k : Nat, k ≤ ks.length ∧ i = .int .i64 k ∧ ∃ q, wr = W.drewN q) (fun i _ => ks.length - (intOf i).toNat)
      case atStart => exact ⟨0, Nat.zero_le _, rfl, q, rfl⟩
      case round =>
        obtain ⟨k, hk, rfl, q2, rfl⟩ := hrel
        by_cases hlt2 : k < ks.length
        · have hkm : (k : Int) < (ks.length : Int) := by omega
          obtain ⟨xb, xoff, rfl, hxb, hxc⟩ := (unhide HX).elem (by omega)
          obtain ⟨yb, yoff, rfl, hyb, hyc⟩ := (unhide HY).elem (by omega)
          obtain ⟨p0, p1, p2⟩ := hxc k hlt2
          obtain ⟨q0, q1, q2'⟩ := hyc k hlt2
          clear hxc hyc
          generalize ks[k] = K at p0 p1 p2 q0 q1 q2'
          go_wp2_with fail
          go_quiet (fail)
          go_wp2
          go_roundw
          case rel => exact ⟨k + 1, by omega, by go_num, _, rfl⟩
          case measure => simp [intOf]; omega
        · go_wp2
          go_roundw
          case rel => exact ⟨j + 1, by omega, by go_num, _, rfl⟩
          case measure => simp [intOf]; omega
    · go_wp2
      refine wp_loop_rounds 1 ?_
      rw [rounds_succ]
      go_wp2
      go_ret
      exact ⟨rfl, _, rfl⟩
end Go.Proofs.YtnneljcbelgoeaaGreatDoor.wire
