import Derived.Test.YtnneljcbelgoeaaGreatDecode
import Derived.Test.YtnneljcbelgoeaaGreatEncode
namespace Go.Proofs.YtnneljcbelgoeaaGreat.wire

theorem putB_one (n : Int) : putB 1 n = [byteAt n 0] := rfl
theorem putB_four (n : Int) : putB 4 n = [byteAt n 3, byteAt n 2, byteAt n 1, byteAt n 0] := rfl
theorem byte_eq {c d : UInt8} (h : (c.toNat : Int) = (d.toNat : Int)) : c = d := by
  apply UInt8.toNat_inj.1; omega
theorem byteAt_self (c : UInt8) : byteAt (c.toNat : Int) 0 = c := by
  apply byte_eq; rw [byteAt_int]; have := c.toNat_lt; simp; omega
theorem put_n4 (c0 c1 c2 c3 : UInt8) : putB 4 (n4 c0 c1 c2 c3) = [c0, c1, c2, c3] := by
  have h0 := c0.toNat_lt
  have h1 := c1.toNat_lt
  have h2 := c2.toNat_lt
  have h3 := c3.toNat_lt
  rw [putB_four]
  congr 1
  · apply byte_eq; rw [byteAt_int]; unfold n4; simp only [Nat.reduceMul, Int.reducePow]; omega
  congr 1
  · apply byte_eq; rw [byteAt_int]; unfold n4; simp only [Nat.reduceMul, Int.reducePow]; omega
  congr 1
  · apply byte_eq; rw [byteAt_int]; unfold n4; simp only [Nat.reduceMul, Int.reducePow]; omega
  congr 1
  · apply byte_eq; rw [byteAt_int]; unfold n4; simp only [Nat.mul_zero, Int.pow_zero]; omega
theorem n4_put (n : Int) (h0 : 0 ≤ n) (h1 : n < 4294967296) : n4 (byteAt n 3) (byteAt n 2) (byteAt n 1) (byteAt n 0) = n := by
  unfold n4
  rw [byteAt_int, byteAt_int, byteAt_int, byteAt_int]
  simp only [Nat.reduceMul, Int.reducePow, Nat.mul_zero, Int.pow_zero]
  omega
theorem one_put (n : Int) (h0 : 0 ≤ n) (h1 : n < 256) : ((byteAt n 0).toNat : Int) = n := by
  rw [byteAt_int]; simp; omega
theorem keys_bytes : ∀ (n : Nat) (l : List UInt8), l.length = n * 6 → (readKs n l).flatMap keyBs = l
  | 0, l, h => by simp at h; simp [readKs, h]
  | n + 1, a :: b0 :: b1 :: b2 :: b3 :: c :: r, h => by
    have := keys_bytes n r (by simp at h; omega)
    simp only [readKs, List.flatMap_cons, this, keyBs, List.flatMap_nil, List.append_nil, put_n4, putB_one, byteAt_self]
    rfl
  | n + 1, [], h => by simp at h
  | n + 1, [_], h => by simp at h; omega
  | n + 1, [_, _], h => by simp at h; omega
  | n + 1, [_, _, _], h => by simp at h; omega
  | n + 1, [_, _, _, _], h => by simp at h; omega
  | n + 1, [_, _, _, _, _], h => by simp at h; omega
/-- What is decoded is encoded to the same bytes. -/
theorem bytes_read {l : List UInt8} (h : rightB l = true) : bytesM (readM l) = l := by
  obtain ⟨c0, c1, i0, i1, i2, i3, s0, s1, s2, s3, t, n, r, rfl, hr⟩ := right_form h
  simp only [readM, bytesM, keys_bytes _ _ hr, readKs_len _ _ hr, List.flatMap_cons, List.flatMap_nil, List.append_nil, put_n4, putB_one, byteAt_self]
  rfl
theorem keyB_of {k : K3} (h : isKeyB k = true) : (0 ≤ k.id ∧ k.id < 256) ∧ (0 ≤ k.inc ∧ k.inc < 4294967296) ∧ (0 ≤ k.st ∧ k.st < 256) := by
  simp only [isKeyB, Bool.and_eq_true] at h
  have h1 := isId_of h.1
  have h2 := isInc_of h.2.1
  have h3 := isSt_of h.2.2
  omega
theorem read_keys : ∀ (l : List K3), allB l = true → readKs l.length (l.flatMap keyBs) = l
  | [], _ => rfl
  | k :: r, h => by
    have hk : isKeyB k = true ∧ allB r = true := by simpa [allB] using h
    obtain ⟨h1, h2, h3⟩ := keyB_of hk.1
    have ih := read_keys r hk.2
    simp only [List.flatMap_cons, keyBs, List.flatMap_nil, List.append_nil, putB_one, putB_four, List.length_cons, List.cons_append, List.nil_append, readKs]
    rw [ih, one_put _ h1.1 h1.2, one_put _ h3.1 h3.2, n4_put _ h2.1 h2.2]
theorem suits_tgt {k t : Int} {n : Nat} (h : suitsB k t n = true) : (1 ≤ k ∧ k ≤ 5) ∧ (0 ≤ t ∧ t < 256) ∧ n ≤ 8 := by
  unfold suitsB at h
  split at h
  · rename_i hk
    simp [lowB] at hk
    simp at h
    have := isId_of h.1
    omega
  · split at h
    · rename_i _ hk
      simp [highB] at hk
      simp at h
      omega
    · simp at h
theorem bytesM_len (m : M6) : (bytesM m).length = 12 + m.ups.length * 6 := by
  simp only [bytesM, List.length_append, flatK_len, flat_len, List.length_cons, List.length_nil]
theorem bytesM_form (m : M6) (h : m.ups.length ≤ 8) : ∃ c0 c1 i0 i1 i2 i3 s0 s1 s2 s3 t n r, bytesM m = c0 :: c1 :: i0 :: i1 :: i2 :: i3 :: s0 :: s1 :: s2 :: s3 :: t :: n :: r ∧ n.toNat = m.ups.length ∧ r = m.ups.flatMap keyBs ∧ c0 = byteAt m.kind 0 ∧ c1 = byteAt m.frm 0 ∧ n4 i0 i1 i2 i3 = n4 (byteAt m.inc 3) (byteAt m.inc 2) (byteAt m.inc 1) (byteAt m.inc 0) ∧ n4 s0 s1 s2 s3 = n4 (byteAt m.seq 3) (byteAt m.seq 2) (byteAt m.seq 1) (byteAt m.seq 0) ∧ t = byteAt m.tgt 0 := by
  refine ⟨_, _, _, _, _, _, _, _, _, _, _, byteAt (m.ups.length : Int) 0, _, rfl, ?_, rfl, rfl, rfl, rfl, rfl, rfl⟩
  have := one_put (m.ups.length : Int) (by omega) (by omega)
  omega
/-- The bytes of a whole message are of the right length, and read as it. -/
theorem read_bytes {m : M6} (h : wholeB m = true) : rightB (bytesM m) = true ∧ readM (bytesM m) = m := by
  have h0 := h
  simp only [wholeB, Bool.and_eq_true] at h
  obtain ⟨hf, hi, hs, hk, ha⟩ := h
  have hf := isId_of hf
  have hi := isInc_of hi
  have hs := isSeq_of hs
  obtain ⟨hk, ht, hn⟩ := suits_tgt hk
  have hlen := bytesM_len m
  obtain ⟨c0, c1, i0, i1, i2, i3, s0, s1, s2, s3, t, n, r, e, en, er, e0, e1, ei, es, et⟩ := bytesM_form m hn
  constructor
  · rw [e] at hlen ⊢
    simp [rightB]
    simp at hlen
    omega
  · rw [e]
    simp only [readM]
    rw [er, en, read_keys _ ha, e0, e1, et, ei, es, n4_put _ (by omega) (by omega), n4_put _ (by omega) (by omega), one_put _ (by omega) (by omega), one_put _ (by omega) (by omega), one_put _ (by omega) (by omega)]
end Go.Proofs.YtnneljcbelgoeaaGreat.wire
