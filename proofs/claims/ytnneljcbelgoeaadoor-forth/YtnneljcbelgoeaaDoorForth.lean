import Derived.Test.YtnneljcbelgoeaaDoorGate
import Derived.Test.YtnneljcbelgoeaaDoorRound
import Derived.Test.YtnneljcbelgoeaaDoorTold
namespace Go.Proofs.YtnneljcbelgoeaaDoor.wire
open Go.RowKit

set_option maxHeartbeats 2000000 in
theorem forth_any (l : List UInt8) (w : World) (hl : l.length ≤ maxLen) (hg : w.cell? ⟨0, 0, none⟩ = some (.iface 70 (.agg #[.pointer (some ⟨1, 28, none⟩)]))) :
    Calls Tryd.prog 4 #[.string (bs l)] w fun e w' => e = .returned (.bool true) ∧ Below w.heap.size w w' := by
  have hlt : 0 < w.heap.size := by
    rcases Nat.eq_zero_or_pos w.heap.size with h0 | h
    · simp [World.cell?, h0] at hg
    · exact h
  have HG := hide hg
  clear hg
  cases hd : decB l
  · have HD := hide hd
    clear hd
    go_enter Tryd.func4, Tryd.ntmps4
    go_wp2_with fail
    refine (gdecode_no l _ hl (unhide HD)).mono ?_
    rintro e w1 ⟨rfl, hb⟩
    simp only [mval, M6.zero]
    have hz := hb.size
    have HB := hide hb
    clear hb
    go_wp2_with fail
    refine (told_any 2 _ (by rw [World.cell?_alloc_lt _ _ ⟨0, 0, none⟩ (by simp; omega), (unhide HB).cell (p := ⟨0, 0, none⟩) hlt]; exact unhide HG)).mono ?_
    rintro e w2 ⟨rfl, hb2⟩
    have hm0 : w2.cell? ⟨w1.heap.size, 0, none⟩ = some (.int .i64 0) := (hb2.cell (p := ⟨w1.heap.size, 0, none⟩) (by simp)).trans (by simp)
    have hm5 : w2.cell? ⟨w1.heap.size, 5, none⟩ = some (.slice none 0 0) := (hb2.cell (p := ⟨w1.heap.size, 5, none⟩) (by simp)).trans (by simp)
    have HB2 := hide hb2
    clear hb2
    go_wp2
    go_ret
    exact ⟨rfl, (unhide HB).trans (((Below.refl _ _).alloc hz _).trans ((unhide HB2).mono (by simp; omega)))⟩
  · have hr : rightB l = true := by simp [decB] at hd; exact hd.1
    have hw : wholeB (readM l) = true := by simp [decB] at hd; exact hd.2
    have hby := bytes_read hr
    have hkind : 1 ≤ (readM l).kind := by
      simp only [wholeB, Bool.and_eq_true] at hw
      exact (suits_tgt hw.2.2.2.1).1.1
    have HD := hide hd
    have HW := hide hw
    have HY := hide hby
    clear hd hw hby hr
    go_enter Tryd.func4, Tryd.ntmps4
    go_wp2_with fail
    refine (gdecode_yes l _ hl (unhide HD)).mono ?_
    generalize readM l = m at HW HY hkind
    rintro e w1 ⟨v, rfl, hown, hb⟩
    obtain ⟨ao, cap, rfl⟩ := own_form hown
    have hz := hb.size
    have HB := hide hb
    have HO := hide hown
    clear hb hown
    simp only [mval]
    go_wp2_with fail
    refine (gencode_yes m (.slice ao m.ups.length cap) _ ((keysAt_of_own (unhide HO)).below ((Below.refl _ _).alloc (Nat.le_refl _) _)) (unhide HW)).mono ?_
    rw [unhide HY]
    rintro e w2 ⟨rfl, hb2⟩
    have hm0 : w2.cell? ⟨w1.heap.size, 0, none⟩ = some (.int .i64 m.kind) := (hb2.cell (p := ⟨w1.heap.size, 0, none⟩) (by simp)).trans (by simp)
    have HB2 := hide hb2
    clear hb2
    go_wp2
    go_ret
    exact ⟨ret_bool (by simp; omega), (unhide HB).trans (((Below.refl _ _).alloc hz _).trans ((unhide HB2).mono (by simp; omega)))⟩
end Go.Proofs.YtnneljcbelgoeaaDoor.wire
