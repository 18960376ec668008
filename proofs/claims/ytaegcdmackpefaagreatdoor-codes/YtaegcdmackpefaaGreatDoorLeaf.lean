import Derived.Test.YtaegcdmackpefaaGreatDoorMath
import Derived.Test.YtaegcdmackpefaaGreatDoorProg
import Derived.WalkKit
import Derived.Deep.QuietTactic
import Derived.BigQuiet
namespace Go.Proofs.YtaegcdmackpefaaGreatDoor.wire
open Go.RowKit

theorem hide {p : Prop} (h : p) : Hid p := h
theorem unhide {p : Prop} (h : Hid p) : p := h
theorem ret_bool {a b : Bool} (h : a = b) : Ending.returned (.bool a) = .returned (.bool b) := by rw [h]
theorem ret_int {k : IntKind} {a b : Int} (h : a = b) : Ending.returned (.int k a) = .returned (.int k b) := by rw [h]

theorem isId_any (n : Int) (w : World) : Calls Tryz.prog 81 #[.int .i64 n] w fun e w' => e = .returned (.bool (isIdB n)) ∧ w' = w := by
  by_cases h1 : 1 ≤ n
  · go_enter Tryz.func81, Tryz.ntmps81
    go_wp2
    all_goals go_ret
    all_goals exact ⟨by simp [isIdB, h1], rfl⟩
  · go_enter Tryz.func81, Tryz.ntmps81
    go_wp2
    all_goals go_ret
    all_goals exact ⟨by simp [isIdB]; omega, rfl⟩
theorem isInc_any (n : Int) (w : World) : Calls Tryz.prog 82 #[.int .i64 n] w fun e w' => e = .returned (.bool (isIncB n)) ∧ w' = w := by
  by_cases h1 : 1 ≤ n
  · go_enter Tryz.func82, Tryz.ntmps82
    go_wp2
    all_goals go_ret
    all_goals exact ⟨by simp [isIncB, h1], rfl⟩
  · go_enter Tryz.func82, Tryz.ntmps82
    go_wp2
    all_goals go_ret
    all_goals exact ⟨by simp [isIncB]; omega, rfl⟩
theorem isSeq_any (n : Int) (w : World) : Calls Tryz.prog 83 #[.int .i64 n] w fun e w' => e = .returned (.bool (isSeqB n)) ∧ w' = w := by
  by_cases h1 : 0 ≤ n
  · go_enter Tryz.func83, Tryz.ntmps83
    go_wp2
    all_goals go_ret
    all_goals exact ⟨by simp [isSeqB, h1], rfl⟩
  · go_enter Tryz.func83, Tryz.ntmps83
    go_wp2
    all_goals go_ret
    all_goals exact ⟨by simp [isSeqB]; omega, rfl⟩
theorem isState_any (n : Int) (w : World) : Calls Tryz.prog 95 #[.int .i64 n] w fun e w' => e = .returned (.bool (isStB n)) ∧ w' = w := by
  go_enter Tryz.func95, Tryz.ntmps95
  go_wp2
  all_goals go_ret
  all_goals exact ⟨by simp_all [isStB]; try omega, rfl⟩
end Go.Proofs.YtaegcdmackpefaaGreatDoor.wire
