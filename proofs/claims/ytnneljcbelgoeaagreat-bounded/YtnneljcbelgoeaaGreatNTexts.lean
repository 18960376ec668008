import Derived.Test.YtnneljcbelgoeaaGreatNOpen
import Derived.Test.YtnneljcbelgoeaaGreatNBound
import Derived.SliceStrings
/- Texts that came in. -/
namespace Go.Proofs.YtnneljcbelgoeaaGreat.wire
open Go.ChangeShapes Go.WideShapes Go.RowKit

theorem bs_back (s : ByteArray) : s = bs s.data.toList := by
  obtain ⟨d⟩ := s
  simp [bs]
set_option maxRecDepth 100000 in
/-- A slice of texts that came in. -/
theorem texts_open {H : Type} {enc : TypeId × Value → H} {W : World} {held : Bool} {base : Nat} {v : Value} {d : DataW H} {p : List MemPlace} (hv : Value.okWide Tryz.prog W .any base 56 v) (h : DataW.Trod enc Tryz.prog W 0 (fun _ => true) held 56 v d p) :
    ∃ (ao : Option Addr) (l : List (List UInt8)) (cap : Nat), v = .slice ao l.length cap ∧ l.length ≤ maxLen ∧ RawS W ao l := by
  obtain ⟨a, len, cap, rfl⟩ := okWide_slice Tryz.underlying56 hv
  obtain ⟨fuel, hf⟩ := h
  rcases open_strings Tryz.underlying56 Tryz.underlying9 (by kernel_rfl) hf with ⟨e, _⟩ | ⟨b, len', cap', ss, e, _, hl, hm, hz, _, hc, hw⟩
  · simp only [Value.cells, List.cons.injEq, Value.slice.injEq, and_true] at e
    obtain ⟨rfl, rfl, rfl⟩ := e
    exact ⟨none, [], 0, rfl, by simp, ⟨fun h => by simp at h, by simp⟩⟩
  · simp only [Value.cells, List.cons.injEq, Value.slice.injEq, and_true] at e
    obtain ⟨rfl, rfl, rfl⟩ := e
    simp only [if_true] at hz
    have hln : ((ss.take len).map (fun s => s.data.toList)).length = len := by simp; omega
    refine ⟨some b, (ss.take len).map (fun s => s.data.toList), cap, by rw [hln], by omega, ⟨fun h0 => ?_, fun s hs => ?_⟩⟩
    · have h1 := hc 0 (by omega)
      have ha : b = ⟨b.block, b.off, none⟩ := by
        have : b.add 0 = b := by simp [Addr.add]
        rw [this] at h1
        exact ispot_none h1
      have hadd : ∀ j, b.add j = ⟨b.block, b.off + j, none⟩ := fun j => by
        unfold Addr.add
        split
        · rename_i e; subst e; exact ha
        · rfl
      refine ⟨b.block, b.off, by rw [← ha], ?_, fun i hi => ?_⟩
      · rw [hadd] at h1
        exact World.block_lt_of_cell? W ⟨b.block, b.off + 0, none⟩ h1
      · have h2 := hc i (by omega)
        rw [hadd] at h2
        rw [h2]
        have hi2 : i < ss.length := by omega
        simp only [List.getD_eq_getElem?_getD, List.getElem?_eq_getElem hi2, Option.getD_some, List.getElem_map, List.getElem_take]
        rw [← bs_back]
    · obtain ⟨q, hq, rfl⟩ := List.mem_map.1 hs
      have := hw q (List.mem_of_mem_take hq)
      have e : q.data.toList.length = q.size := Array.length_toList
      rw [e]; exact this
end Go.Proofs.YtnneljcbelgoeaaGreat.wire
