import Derived.Test.YtnneljcbelgoeaaGreatDoorSuits
namespace Go.Proofs.YtnneljcbelgoeaaGreatDoor.wire
open Go.RowKit

/-- A message as a value, its list given as one. -/
abbrev mval (m : M6) (v : Value) : Value := .agg #[.int .i64 m.kind, .int .i64 m.frm, .int .i64 m.inc, .int .i64 m.seq, .int .i64 m.tgt, v]
theorem KeysAt.form {w : World} {v : Value} {l : List K3} (h : KeysAt w v l) : ∃ ao cap, v = .slice ao l.length cap := by
  rcases h with ⟨rfl, rfl⟩ | ⟨b, off, cap, rfl, _⟩
  · exact ⟨none, 0, rfl⟩
  · exact ⟨_, cap, rfl⟩
set_option maxHeartbeats 2000000 in
theorem whole_any (m : M6) (v : Value) (w : World) (hv : KeysAt w v m.ups) (hl : m.ups.length ≤ 1000000) :
    Calls Tryz.prog 77 #[mval m v] w fun e w' => e = .returned (.bool (wholeB m)) ∧ Below w.heap.size w w' := by
  obtain ⟨ao, cap, rfl⟩ := hv.form
  have HV := hide hv
  clear hv
  cases h1 : isIdB m.frm
  · go_enter Tryz.func77, Tryz.ntmps77
    go_wp2_with (go_at_call 58; refine (isId_any _ _).mono ?_; rintro e w' ⟨rfl, rfl⟩)
    go_ret
    exact ⟨ret_bool (by simp [wholeB, h1]), (Below.refl _ _).alloc (Nat.le_refl _) _⟩
  cases h2 : isIncB m.inc
  · go_enter Tryz.func77, Tryz.ntmps77
    go_wp2_with (first
      | (go_at_call 58; refine (isId_any _ _).mono ?_; rintro e w' ⟨rfl, rfl⟩)
      | (go_at_call 111; refine (isInc_any _ _).mono ?_; rintro e w' ⟨rfl, rfl⟩))
    go_ret
    exact ⟨ret_bool (by simp [wholeB, h2]), (Below.refl _ _).alloc (Nat.le_refl _) _⟩
  cases h3 : isSeqB m.seq
  · go_enter Tryz.func77, Tryz.ntmps77
    go_wp2_with (first
      | (go_at_call 58; refine (isId_any _ _).mono ?_; rintro e w' ⟨rfl, rfl⟩)
      | (go_at_call 111; refine (isInc_any _ _).mono ?_; rintro e w' ⟨rfl, rfl⟩)
      | (go_at_call 112; refine (isSeq_any _ _).mono ?_; rintro e w' ⟨rfl, rfl⟩))
    go_ret
    exact ⟨ret_bool (by simp [wholeB, h3]), (Below.refl _ _).alloc (Nat.le_refl _) _⟩
  cases h4 : suitsB m.kind m.tgt m.ups.length
  all_goals
    have H4 := hide h4
    clear h4
    go_enter Tryz.func77, Tryz.ntmps77
    go_wp2_with (first
      | (go_at_call 58; refine (isId_any _ _).mono ?_; rintro e w' ⟨rfl, rfl⟩)
      | (go_at_call 111; refine (isInc_any _ _).mono ?_; rintro e w' ⟨rfl, rfl⟩)
      | (go_at_call 112; refine (isSeq_any _ _).mono ?_; rintro e w' ⟨rfl, rfl⟩)
      | fail)
    refine (suits_any _ _ _ _ _ _ _ _ _ hl).mono ?_
    rw [unhide H4]
    rintro e w1 ⟨rfl, hb1⟩
    have hz := hb1.size
    have hc5 : w1.cell? ⟨w.heap.size, 5, none⟩ = some (.slice ao m.ups.length cap) := (hb1.cell (p := ⟨w.heap.size, 5, none⟩) (by simp)).trans (by simp)
    have hB1 : Below w.heap.size w w1 := ((Below.refl _ _).alloc (Nat.le_refl _) _).trans (hb1.mono (by simp))
    clear hb1
    go_wp2_with fail
  · go_ret
    exact ⟨ret_bool (by simp [wholeB, unhide H4]), hB1⟩
  · refine (allKeys_any ((unhide HV).below hB1) hl).mono ?_
    rintro e w2 ⟨rfl, hb2⟩
    go_wp2
    go_ret
    exact ⟨ret_bool (by simp [wholeB, unhide H4, h1, h2, h3]), hB1.trans (hb2.mono hB1.size)⟩
end Go.Proofs.YtnneljcbelgoeaaGreatDoor.wire
