import Derived.Test.YtnneljcbelgoeaaGreatDoorTake
namespace Go.Proofs.YtnneljcbelgoeaaGreatDoor.wire
open Go.RowKit

/-- Bytes as a string. -/
def bs (l : List UInt8) : ByteArray := ⟨l.toArray⟩
theorem bs_list (l : List UInt8) : (bs l).data.toList = l := by simp [bs]
theorem bs_size (l : List UInt8) : (bs l).size = l.length := by simp [bs, ByteArray.size]
theorem bs_of (s : ByteArray) : s = bs s.data.toList := by simp [bs]
theorem bs_extract (l : List UInt8) (k : Nat) : (bs l).extract k (bs l).size = bs (l.drop k) := by
  apply ByteArray.ext
  rw [ByteArray.data_extract, bs_size]
  apply Array.ext'
  rw [Array.toList_extract]
  simp [bs, List.extract_eq_take_drop]
  rw [List.take_of_length_le (by simp)]
def n4 (c0 c1 c2 c3 : UInt8) : Int := (((c0.toNat : Int) * 256 + (c1.toNat : Int)) * 256 + (c2.toNat : Int)) * 256 + (c3.toNat : Int)
theorem take_one (c : UInt8) (l : List UInt8) (b : Nat) (w : World) (hl : l.length < 1000000) (hc : w.cell? ⟨b, 0, none⟩ = some (.string (bs (c :: l)))) (hf : w.frozen? ⟨b, 0, none⟩ = false) :
    Calls Tryz.prog 119 #[.pointer (some ⟨b, 0, none⟩), .int .i64 1] w fun e w' => e = .returned (.int .i64 (c.toNat : Int)) ∧ w' = w.setCell ⟨b, 0, none⟩ (.string (bs l)) := by
  have h := take_any (bs (c :: l)) b 1 w (by rw [bs_size]; simp) (by omega) (by rw [bs_size]; simp [maxLen]; omega) hc hf
  rw [bs_extract, bs_list] at h
  simpa [numB] using h
theorem take_four (c0 c1 c2 c3 : UInt8) (l : List UInt8) (b : Nat) (w : World) (hl : l.length < 1000000) (hc : w.cell? ⟨b, 0, none⟩ = some (.string (bs (c0 :: c1 :: c2 :: c3 :: l)))) (hf : w.frozen? ⟨b, 0, none⟩ = false) :
    Calls Tryz.prog 119 #[.pointer (some ⟨b, 0, none⟩), .int .i64 4] w fun e w' => e = .returned (.int .i64 (n4 c0 c1 c2 c3)) ∧ w' = w.setCell ⟨b, 0, none⟩ (.string (bs l)) := by
  have h := take_any (bs (c0 :: c1 :: c2 :: c3 :: l)) b 4 w (by rw [bs_size]; simp) (by omega) (by rw [bs_size]; simp [maxLen]; omega) hc hf
  rw [bs_extract, bs_list] at h
  simpa [numB, n4] using h
end Go.Proofs.YtnneljcbelgoeaaGreatDoor.wire
