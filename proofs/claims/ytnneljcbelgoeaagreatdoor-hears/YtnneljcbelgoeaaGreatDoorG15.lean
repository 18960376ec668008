import Derived.Test.YtnneljcbelgoeaaGreatDoorG14
import Derived.Test.YtnneljcbelgoeaaGreatDoorG01
import Derived.Deep.QuietTactic
import Derived.BigQuiet
/- gossiplaw's pick, num, told, keys. -/
namespace Go.Proofs.YtnneljcbelgoeaaGreatDoor.wire
open Go.RowKit
def pickW (c n : Int) : Int := (if c < 0 then -(c + 1) else c) % n
theorem pickW_bd (c n : Int) (h : 0 < n) : 0 ≤ pickW c n ∧ pickW c n < n := ⟨Int.emod_nonneg _ (by omega), Int.emod_lt_of_pos _ h⟩
theorem lpick_any (c n : Int) (w : World) (h0 : -9223372036854775808 ≤ c) (h1 : c ≤ 9223372036854775807) (hn : 0 < n) (hn1 : n ≤ 4294967296) :
    Calls Tryz.prog 19 #[.int .i64 c, .int .i64 n] w fun e w' => e = .returned (.int .i64 (pickW c n)) ∧ w' = w := by
  have hz : (n == 0) = false := by simp; omega
  by_cases hc : c < 0
  · go_enter Tryz.func19, Tryz.ntmps19
    go_wp2
    go_ret
    exact ⟨ret_int (by rw [← Int.neg_tmod, Int.tmod_eq_emod_of_nonneg (by omega)]; simp [pickW, hc]), rfl⟩
  · go_enter Tryz.func19, Tryz.ntmps19
    go_wp2
    go_ret
    exact ⟨ret_int (by unfold pickW; rw [if_neg (by omega)]), rfl⟩
theorem num_any (n : Int) (w : World) : Calls Tryz.prog 49 #[.int .i64 n] w fun e w' => e = .returned (.int .i64 n) ∧ w' = w := by
  go_enter Tryz.func49, Tryz.ntmps49
  go_wp2
  go_ret
  exact ⟨rfl, rfl⟩
/-- told: no error, and the number 0. -/
theorem ltold_nil (w : World) : Calls Tryz.prog 26 #[.nilIface, .int .i64 0] w fun e w' => e = .returned (.bool true) ∧ w' = w := by
  go_enter Tryz.func26, Tryz.ntmps26
  go_wp2_with fail
  refine (told_nil _).mono ?_
  rintro e w1 ⟨rfl, rfl⟩
  go_wp2_with fail
  refine (num_any 0 _).mono ?_
  rintro e w1 ⟨rfl, rfl⟩
  go_wp2
  go_ret
  exact ⟨rfl, rfl⟩
/-- told: ErrPacket, and the number 2. -/
theorem ltold_two (w : World) (hg : w.cell? ⟨0, 0, none⟩ = some (.iface 207 (.agg #[.pointer (some ⟨1, 64, none⟩)]))) :
    Calls Tryz.prog 26 #[.iface 108 (.int .i64 2), .int .i64 2] w fun e w' => e = .returned (.bool true) ∧ Below w.heap.size w w' := by
  have HG := hide hg
  clear hg
  go_enter Tryz.func26, Tryz.ntmps26
  go_wp2_with fail
  refine (told_any 2 _ (unhide HG)).mono ?_
  rintro e w1 ⟨rfl, hb⟩
  have HB := hide hb
  clear hb
  go_wp2_with fail
  refine (num_any 2 _).mono ?_
  rintro e w2 ⟨rfl, rfl⟩
  go_wp2
  go_ret
  exact ⟨rfl, unhide HB⟩
theorem below_draws {B : Nat} {x w : World} (h : Below B x w) (n : Nat) : Below B x (w.drewN n) := ⟨h.os, h.tape, h.output, h.size, h.block⟩
set_option maxRecDepth 100000 in
set_option maxHeartbeats 1000000 in
/-- keys: two lists of the same keys. -/
theorem lkeys_any (l : List K3) (v v' : Value) (w : World) (hv : KeysAt w v l) (hv' : KeysAt w v' l) (hl : l.length ≤ 1000000) :
    Calls Tryz.prog 30 #[v, v'] w fun e w' => e = .returned (.bool true) ∧ ∃ n, w' = w.drewN n := by
  obtain ⟨ao, cap, rfl⟩ := hv.form
  obtain ⟨ao', cap', rfl⟩ := hv'.form
  have HV := hide hv
  have HV' := hide hv'
  clear hv hv'
  go_enter Tryz.func30, Tryz.ntmps30
  go_wp2_with fail
  go_loopw [5] (fun i wr => ∃ k : Nat, k ≤ l.length ∧ i = .int .i64 k ∧ ∃ n, wr = w.drewN n) (fun i _ => l.length - (intOf i).toNat)
  case atStart => exact ⟨0, Nat.zero_le _, rfl, 0, rfl⟩
  case round =>
    obtain ⟨k, hk, rfl, n, rfl⟩ := hrel
    by_cases hlt : k < l.length
    · have hkm : (k : Int) < (l.length : Int) := by omega
      obtain ⟨b, off, rfl, hb, hc⟩ := (unhide HV).elem (by omega)
      obtain ⟨b', off', rfl, hb', hc'⟩ := (unhide HV').elem (by omega)
      obtain ⟨p0, p1, p2⟩ := hc k hlt
      obtain ⟨q0, q1, q2⟩ := hc' k hlt
      clear hc hc'
      generalize l[k] = K at p0 p1 p2 q0 q1 q2
      have e1 : (K.id != K.id) = false := by simp
      have e2 : (K.inc != K.inc) = false := by simp
      have e3 : (K.st != K.st) = false := by simp
      go_wp2_with fail
      go_quiet (fail)
      go_wp2
      go_roundw
      case rel => exact ⟨k + 1, by omega, by go_num, _, rfl⟩
      case measure => simp [intOf]; omega
    · go_wp2
      go_ret
      exact ⟨rfl, n, rfl⟩
end Go.Proofs.YtnneljcbelgoeaaGreatDoor.wire
