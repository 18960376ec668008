import Derived.Test.YtnneljcbelgoeaaGreatAllKeys
namespace Go.Proofs.YtnneljcbelgoeaaGreat.wire
open Go.RowKit

theorem suits_low {k t : Int} {n : Nat} (h : lowB k = true) : suitsB k t n = (isIdB t && decide (n ≤ 4)) := by simp [suitsB, h]
theorem suits_high {k t : Int} {n : Nat} (h : highB k = true) : suitsB k t n = (decide (t = 0) && decide (n ≤ 8)) := by
  have h' : lowB k = false := by simp [highB] at h; simp [lowB]; omega
  simp [suitsB, h, h']
theorem suits_no {k t : Int} {n : Nat} (h : lowB k = false) (h' : highB k = false) : suitsB k t n = false := by simp [suitsB, h, h']

set_option maxHeartbeats 1000000 in
theorem suits_any (kind frm inc seq tgt : Int) (ao : Option Addr) (n cap : Nat) (w : World) (hn : n ≤ 1000000) :
    Calls Tryz.prog 73 #[.agg #[.int .i64 kind, .int .i64 frm, .int .i64 inc, .int .i64 seq, .int .i64 tgt, .slice ao n cap]] w fun e w' => e = .returned (.bool (suitsB kind tgt n)) ∧ Below w.heap.size w w' := by
  have hk : kind = 1 ∨ kind = 2 ∨ kind = 3 ∨ kind = 4 ∨ kind = 5 ∨ (lowB kind = false ∧ highB kind = false ∧ (kind == 1) = false ∧ (kind == 2) = false ∧ (kind == 3) = false ∧ (kind == 4) = false ∧ (kind == 5) = false) := by
    by_cases h : 1 ≤ kind ∧ kind ≤ 5
    · omega
    · right; right; right; right; right; simp [lowB, highB]; omega
  rcases hk with rfl | rfl | rfl | rfl | rfl | ⟨h1, h2, k1, k2, k3, k4, k5⟩
  case inr.inr.inr.inr.inr =>
    go_enter Tryz.func73, Tryz.ntmps73
    go_wp2
    go_ret
    exact ⟨ret_bool (suits_no h1 h2).symm, (Below.refl _ _).alloc (Nat.le_refl _) _⟩
  case inr.inr.inr.inl | inr.inr.inr.inr.inl =>
    by_cases ht : tgt = 0
    · subst ht
      go_enter Tryz.func73, Tryz.ntmps73
      go_wp2
      go_ret
      exact ⟨by rw [suits_high rfl]; simp; try omega, (Below.refl _ _).alloc (Nat.le_refl _) _⟩
    · have ht' : (tgt == 0) = false := by simp [ht]
      go_enter Tryz.func73, Tryz.ntmps73
      go_wp2
      go_ret
      exact ⟨by rw [suits_high rfl]; simp [ht], (Below.refl _ _).alloc (Nat.le_refl _) _⟩
  all_goals
    cases ht : isIdB tgt
    all_goals
      go_enter Tryz.func73, Tryz.ntmps73
      go_wp2_with (go_at_call 37; refine (isId_any _ _).mono ?_; rintro e w' ⟨rfl, rfl⟩)
      go_ret
      exact ⟨by rw [suits_low rfl]; simp [ht]; try omega, (Below.refl _ _).alloc (Nat.le_refl _) _⟩
end Go.Proofs.YtnneljcbelgoeaaGreat.wire
