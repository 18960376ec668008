import Derived.Test.YtnneljcbelgoeaaGreatMessage
import Derived.Test.YtnneljcbelgoeaaGreatWire
namespace Go.Proofs.YtnneljcbelgoeaaGreat.wire
theorem right_mod {l : List UInt8} (h : rightB l = true) : l.length % 6 = 0 := by
  simp [rightB] at h
  omega
theorem dec_not {l : List UInt8} (h : l.length % 6 ≠ 0) : decB l = false := by
  cases e : rightB l
  · simp [decB, e]
  · exact absurd (right_mod e) h
theorem dec_less (m : M6) : decB ((bytesM m).drop 1) = false := dec_not (by rw [List.length_drop, bytesM_len]; omega)
theorem dec_more (m : M6) : decB (bytesM m ++ [120]) = false := dec_not (by rw [List.length_append, bytesM_len]; simp; omega)
theorem dec_same {m : M6} (h : wholeB m = true) : decB (bytesM m) = true ∧ readM (bytesM m) = m := by
  obtain ⟨h1, h2⟩ := read_bytes h
  exact ⟨by simp [decB, h1, h2, h], h2⟩
theorem msg_whole (k f i s t : Int) (l : List K3) : wholeB (msgOf k f i s t l) = true := by
  have pk := pickI_bd k 5 (by omega)
  have pf := pickI_bd f 250 (by omega)
  have pi := pickI_bd i 1073741824 (by omega)
  have ps := pickI_bd s 4294967296 (by omega)
  have pt := pickI_bd t 250 (by omega)
  have hall : allB ((l.take (mostOf (1 + pickI k 5))).map pickK) = true := by
    unfold allB
    rw [List.all_eq_true]
    intro x hx
    obtain ⟨y, _, rfl⟩ := List.mem_map.1 hx
    have pa := pickI_bd y.id 250 (by omega)
    have pb := pickI_bd y.inc 1073741824 (by omega)
    have pc := pickI_bd y.st 4 (by omega)
    simp only [isKeyB, pickK, Bool.and_eq_true]
    exact ⟨isId_mk (by omega) (by omega), isInc_mk (by omega) (by omega), isSt_mk (by omega) (by omega)⟩
  have hlen : ((l.take (mostOf (1 + pickI k 5))).map pickK).length ≤ mostOf (1 + pickI k 5) := by simp; omega
  have hsuit : suitsB (1 + pickI k 5) (if 1 + pickI k 5 < 4 then 1 + pickI t 250 else 0) ((l.take (mostOf (1 + pickI k 5))).map pickK).length = true := by
    unfold mostOf at hlen
    by_cases hk : 1 + pickI k 5 < 4
    · rw [if_pos hk] at hlen ⊢
      rw [suits_low (by simp [lowB]; omega), isId_mk (by omega) (by omega)]
      simpa [mostOf, hk] using hlen
    · rw [if_neg hk] at hlen ⊢
      rw [suits_high (by simp [highB]; omega)]
      simpa [mostOf, hk] using hlen
  simp only [wholeB, msgOf, Bool.and_eq_true]
  exact ⟨isId_mk (by omega) (by omega), isInc_mk (by omega) (by omega), isSeq_mk (by omega) (by omega), hsuit, hall⟩
end Go.Proofs.YtnneljcbelgoeaaGreat.wire
