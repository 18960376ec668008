import Derived.Test.YtnneljcbelgoeaaGreatNReceive2
import Derived.Test.YtnneljcbelgoeaaGreatNAck
/- Receive, whatever comes (P5, P7). -/
namespace Go.Proofs.YtnneljcbelgoeaaGreat.wire
open Go.RowKit Go.Maps

theorem whole_parts {m : M6} (h : wholeB m = true) : isKeyB ⟨m.frm, m.inc, 1⟩ = true ∧ m.ups.length ≤ 8 ∧ allB m.ups = true := by
  simp only [wholeB, Bool.and_eq_true] at h
  obtain ⟨h1, h2, _, h4, h5⟩ := h
  refine ⟨?_, ?_, h5⟩
  · simp [isKeyB, h1, h2, isStB]
  · unfold suitsB at h4
    split at h4
    · simp at h4; omega
    · split at h4
      · simp at h4; omega
      · cases h4
theorem deeds_all {x : Nd} (hx : NdOk x) (hB : NdB Big x) (m : M6) : Deeds x m :=
  ⟨fun h => ping_any hx m h, fun h => ack_any hx m h, fun h => ask_any hx hB m h, fun h => join_any hx m h, fun h => table_any m h⟩
theorem receive_any {x : Nd} (hx : NdOk x) (hB : NdB Bg x) {nb mb : Nat} {cb : Dk} {pv rv : Value} {W : World} (hn : NAt W nb mb cb pv rv x) (l : List UInt8) (hl : l.length ≤ maxLen) :
    Calls Tryz.prog 11 #[.pointer (some ⟨nb, 0, none⟩), .string (bs l)] W fun e w' => ∃ o, e = .returned o ∧ Outs W w' o (x.receive l).1 ∧ NTo W w' nb mb cb pv rv (x.receive l).2 := by
  cases ht : takesB x.c.self l
  · exact receive_no (hB.mono (by unfold Bg Big; omega)) hn l hl ht
  · have hd : decB l = true := by simp [takesB] at ht; exact ht.1
    have hw : wholeB (readM l) = true := by simp [decB] at hd; exact hd.2
    obtain ⟨hk, hlen, hall⟩ := whole_parts hw
    have h1 := hear_ok hx _ hk
    have b1 := hear_b hB ⟨(readM l).frm, (readM l).inc, 1⟩
    have h2 := hears_ok (readM l).ups h1 hall
    have b2 := (hears_b (readM l).ups b1).mono (C := Big) (by unfold Bg Big; omega)
    exact receive_yes hx hB hn l hl ht (deeds_all h2 b2 _)
end Go.Proofs.YtnneljcbelgoeaaGreat.wire
