import Derived.Test.YtnneljcbelgoeaaGreatDoorLeaf
namespace Go.Proofs.YtnneljcbelgoeaaGreatDoor.wire
open Go.RowKit

/-- rightLength: a string of at least 12 bytes, its 12th says how many updates follow. -/
def rightB (l : List UInt8) : Bool := decide (12 ≤ l.length) && decide (l.length = 12 + (l.getD 11 0).toNat * 6)
theorem getD_at (s : ByteArray) (k : Nat) (h : k < s.size) : s.data.toList.getD k 0 = s[k] := by
  rw [List.getD_eq_getElem?_getD, List.getElem?_eq_getElem (by simpa using h)]; rfl
theorem right_yes (s : ByteArray) (h : 12 ≤ s.size) : ((s.size : Int) == 12 + (s[11].toNat : Int) * 6) = rightB s.data.toList := by
  unfold rightB
  rw [getD_at s 11 (by omega), Bool.eq_iff_iff]
  have e : s.data.toList.length = s.size := by simp
  rw [e]
  simp [h]
  omega
set_option maxHeartbeats 1000000 in
theorem right_any (s : ByteArray) (w : World) (hs : s.size ≤ maxLen) : Calls Tryz.prog 80 #[.string s] w fun e w' => e = .returned (.bool (rightB s.data.toList)) ∧ w' = w := by
  unfold maxLen at hs
  by_cases h : 12 ≤ s.size
  · have hb : s[11].toNat < 256 := s[11].toNat_lt
    go_enter Tryz.func80, Tryz.ntmps80
    go_wp2
    go_ret
    exact ⟨ret_bool (right_yes s h), rfl⟩
  · go_enter Tryz.func80, Tryz.ntmps80
    go_wp2
    go_ret
    exact ⟨ret_bool (by simp [rightB]; intro h'; exact absurd h' h), rfl⟩
/-- The number that bytes hold, the high one first. -/
def numB (l : List UInt8) : Int := l.foldl (fun n c => n * 256 + (c.toNat : Int)) 0
theorem numB_snoc (l : List UInt8) (c : UInt8) : numB (l ++ [c]) = numB l * 256 + (c.toNat : Int) := by simp [numB]
theorem numB_fold (l : List UInt8) : ∀ (a : Int) (m : Nat), 0 ≤ a → a < 256 ^ m → 0 ≤ l.foldl (fun n c => n * 256 + (c.toNat : Int)) a ∧ l.foldl (fun n c => n * 256 + (c.toNat : Int)) a < 256 ^ (m + l.length) := by
  induction l with
  | nil => intro a m h0 h1; exact ⟨h0, h1⟩
  | cons c l ih =>
    intro a m h0 h1
    have hc := c.toNat_lt
    have := ih (a * 256 + (c.toNat : Int)) (m + 1) (by omega) (by rw [Int.pow_succ]; omega)
    simp only [List.foldl_cons, List.length_cons]
    rw [show m + (l.length + 1) = m + 1 + l.length from by omega]
    exact this
theorem numB_bd (l : List UInt8) (h : l.length ≤ 4) : 0 ≤ numB l ∧ numB l < 4294967296 := by
  have := numB_fold l 0 0 (by omega) (by decide)
  rw [Nat.zero_add] at this
  have hp : (256 : Int) ^ l.length ≤ 4294967296 := by
    match l.length, h with
    | 0, _ => decide
    | 1, _ => decide
    | 2, _ => decide
    | 3, _ => decide
    | 4, _ => decide
  exact ⟨this.1, Int.lt_of_lt_of_le this.2 hp⟩
theorem wraps_i64 (n : Int) (h₀ : 0 ≤ n) (h₁ : n < 2 ^ 63) : IntKind.i64.wrap n = n := by rw [IntKind.wrap_i64]; omega
theorem or8 (n b : Int) (h0 : 0 ≤ n) (h1 : n < 4294967296) (h2 : 0 ≤ b) (h3 : b < 256) : bits .or .i64 (wrap64 (n * 256)) (wrap64 b) = n * 256 + b := by
  rw [IntWalk.wrap64_in _ (by omega), IntWalk.wrap64_in _ (by omega)]
  exact bits_join .i64 63 (by decide) wraps_i64 8 (n * 256) b (by omega) (by omega) (by omega) h2 (by omega) (by omega)
theorem take_snoc (s : ByteArray) (k : Nat) (h : k < s.size) : s.data.toList.take (k + 1) = s.data.toList.take k ++ [s[k]] := by
  rw [List.take_succ_eq_append_getElem (by simpa using h)]; rfl
set_option maxHeartbeats 1000000 in
theorem take_any (s : ByteArray) (b : Nat) (width : Nat) (w : World) (hw : width ≤ s.size) (h4 : width ≤ 4) (hs : s.size ≤ maxLen) (hc : w.cell? ⟨b, 0, none⟩ = some (.string s)) (hf : w.frozen? ⟨b, 0, none⟩ = false) :
    Calls Tryz.prog 119 #[.pointer (some ⟨b, 0, none⟩), .int .i64 width] w fun e w' => e = .returned (.int .i64 (numB (s.data.toList.take width))) ∧ w' = w.setCell ⟨b, 0, none⟩ (.string (s.extract width s.size)) := by
  unfold maxLen at hs
  go_enter Tryz.func119, Tryz.ntmps119
  go_wp2
  go_loop [5, 8] (fun n i => ∃ k : Nat, k ≤ width ∧ i = .int .i64 k ∧ n = .int .i64 (numB (s.data.toList.take k))) (fun _ i => width - (intOf i).toNat)
  case atStart => exact ⟨0, Nat.zero_le _, rfl, rfl⟩
  case round =>
    obtain ⟨k, hk, rfl, rfl⟩ := hrel
    have HB : Hid (0 ≤ numB (s.data.toList.take k) ∧ numB (s.data.toList.take k) < 4294967296) := numB_bd _ (by simp; omega)
    by_cases hlt : k < width
    · go_wp2
      go_round
      case rel =>
        refine ⟨k + 1, by omega, by go_num, ?_⟩
        have hb : s[k].toNat < 256 := s[k].toNat_lt
        rw [take_snoc s k (by omega), numB_snoc, or8 _ _ HB.out.1 HB.out.2 (by omega) (by omega)]
      case measure => simp [intOf]; omega
    · have e : k = width := by omega
      go_wp2
      go_ret
      exact ⟨rfl, rfl⟩
end Go.Proofs.YtnneljcbelgoeaaGreatDoor.wire
