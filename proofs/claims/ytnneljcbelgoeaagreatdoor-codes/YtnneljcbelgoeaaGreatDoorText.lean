import Derived.Test.YtnneljcbelgoeaaGreatDoorWInv
namespace Go.Proofs.YtnneljcbelgoeaaGreatDoor.wire
open Go.RowKit
set_option maxRecDepth 100000 in
set_option maxHeartbeats 1000000 in
theorem text_any (n wb : Nat) (s : St) (w W : World) (h : WV n wb s w W) (hn : n ≤ 20000) (c : Int) (h0 : -9223372036854775808 ≤ c) (h1 : c ≤ 9223372036854775807) :
    Calls Tryz.prog 13 #[.pointer (some ⟨wb, 0, none⟩), .int .i64 c] W fun e w' => ∃ l, e = .returned (.string (bs l)) ∧ l.length ≤ 17000 ∧ ∃ k, w' = W.drewN k := by
  have ht := h.rows.t
  have htn := h.tn
  have htl := h.tl
  have c0 : W.cell? ⟨wb, 0, none⟩ = some s.tv := h.cell 0
  obtain ⟨ao, cap, hv⟩ := own_form ht
  by_cases hz : s.ts.length = 0
  · rw [hz] at hv
    rw [hv] at c0
    clear ht htl h hv
    go_enter Tryz.func13, Tryz.ntmps13
    go_wp2
    go_ret
    exact ⟨[], by simp [bs], by simp, 0, rfl⟩
  · obtain ⟨g, cap', hv', _, _⟩ := ht.form (by omega)
    rw [hv'] at c0
    obtain ⟨p0, p1⟩ := pickI_bd c (s.ts.length : Int) (by omega)
    obtain ⟨q, hq⟩ := Int.eq_ofNat_of_zero_le p0
    have hql : q < s.ts.length := by omega
    have hcell : W.cell? ⟨g, q, none⟩ = some (.string (bs s.ts[q])) := by
      rw [hv'] at ht
      rw [ht.cellAt q (by omega)]
      simp [hql]
    have hlen := htl s.ts[q] (List.getElem_mem hql)
    have hnz : ((s.ts.length : Int) == 0) = false := beq_eq_false_iff_ne.2 (by omega)
    have hlp : (s.ts.length : Int) ≤ 4294967296 := by omega
    have hlq : (0 : Int) < (s.ts.length : Int) := by omega
    have HP := hide (fun W' => lpick_any c (s.ts.length : Int) W' h0 h1 hlq hlp)
    rw [hq] at HP
    generalize s.ts[q] = l at hcell hlen
    clear ht htl h hv hv' p0 p1 hq
    have hq0 : (0 : Int) ≤ (q : Int) := by omega
    have hq1 : (q : Int) < (s.ts.length : Int) := by omega
    go_enter Tryz.func13, Tryz.ntmps13
    go_wp2_with fail
    go_quiet ((go_at_call 19; exact Calls.quiet_of_same (unhide HP _)))
    go_wp2
    go_ret
    exact ⟨l, rfl, hlen, _, rfl⟩
end Go.Proofs.YtnneljcbelgoeaaGreatDoor.wire
