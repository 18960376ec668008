import Derived.Test.YtnneljcbelgoeaaGreatDoorLeaf
namespace Go.Proofs.YtnneljcbelgoeaaGreatDoor.wire
open Go.RowKit

/-- A key as a value, and the cells of a list of keys. -/
abbrev kval (k : K3) : Value := .agg #[.int .i64 k.id, .int .i64 k.inc, .int .i64 k.st]
def kcells : List K3 → List Value
  | [] => []
  | k :: r => .int .i64 k.id :: .int .i64 k.inc :: .int .i64 k.st :: kcells r

theorem isKey_any (k : K3) (w : World) : Calls Tryz.prog 144 #[kval k] w fun e w' => e = .returned (.bool (isKeyB k)) ∧ Below w.heap.size w w' := by
  obtain ⟨a, b, c⟩ := k
  cases h1 : isIdB a <;> cases h2 : isIncB b
  all_goals
    go_enter Tryz.func144, Tryz.ntmps144
    go_wp2_with (first
      | (go_at_call 58; refine (isId_any _ _).mono ?_; rintro e w' ⟨rfl, rfl⟩)
      | (go_at_call 111; refine (isInc_any _ _).mono ?_; rintro e w' ⟨rfl, rfl⟩)
      | (go_at_call 160; refine (isState_any _ _).mono ?_; rintro e w' ⟨rfl, rfl⟩))
    all_goals go_ret
    all_goals exact ⟨by simp [isKeyB, h1, h2], (Below.refl _ _).alloc (Nat.le_refl _) _⟩
end Go.Proofs.YtnneljcbelgoeaaGreatDoor.wire
