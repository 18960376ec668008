import Derived.Test.YtnneljcbelgoeaaGreatNMade0
import Derived.ProofKit
import Derived.ChangeSlices
import Derived.ChangeSame
import Derived.JoinedOf
import Derived.Carry
import Derived.OpenShut
import Derived.RowKitTokens
import Derived.Stop.Joined
/- Arguments that came in. -/
namespace Go.Proofs.YtnneljcbelgoeaaGreat.wire
open Go.ChangeShapes Go.WideShapes Go.RowKit

theorem own : ownKnob Tryz.prog.godebug = none := by kernel_rfl
theorem laidOut : laidOutB Tryz.prog = true := by kernel_rfl
theorem ispot_none {w : World} {a : Addr} {x : Value} (h : w.cell? a = some x) : a = ⟨a.block, a.off, none⟩ := by
  unfold World.cell? at h
  obtain ⟨b, o, s⟩ := a
  cases s with
  | none => rfl
  | some s => simp at h; split at h <;> simp at h
set_option maxRecDepth 100000 in
/-- A slice of whole numbers that came in. -/
theorem ints_open {H : Type} {enc : TypeId × Value → H} {W : World} {held : Bool} {base : Nat} {v : Value} {d : DataW H} {p : List MemPlace} (hv : Value.okWide Tryz.prog W .any base 22 v) (h : DataW.Trod enc Tryz.prog W 0 (fun _ => true) held 22 v d p) :
    ∃ (ao : Option Addr) (l : List Int) (cap : Nat), v = .slice ao l.length cap ∧ l.length ≤ maxLen ∧ RawI W ao l ∧ ∀ z ∈ l, -9223372036854775808 ≤ z ∧ z ≤ 9223372036854775807 := by
  obtain ⟨a, len, cap, rfl⟩ := okWide_slice Tryz.underlying22 hv
  obtain ⟨fuel, hf⟩ := h
  rcases open_ints Tryz.underlying22 Tryz.underlying3 (by kernel_rfl) hf with ⟨e, _⟩ | ⟨b, len', cap', zs, e, _, hl, hm, hz, _, hc, hwf⟩
  · simp only [Value.cells, List.cons.injEq, Value.slice.injEq, and_true] at e
    obtain ⟨rfl, rfl, rfl⟩ := e
    exact ⟨none, [], 0, rfl, by simp, fun h => by simp at h, by simp⟩
  · simp only [Value.cells, List.cons.injEq, Value.slice.injEq, and_true] at e
    obtain ⟨rfl, rfl, rfl⟩ := e
    simp only [if_true] at hz
    have hln : (zs.take len).length = len := by simp; omega
    refine ⟨some b, zs.take len, cap, by rw [hln], by omega, fun h0 => ?_, fun z hz => bounds_i64 (hwf z (List.mem_of_mem_take hz))⟩
    have h1 := hc 0 (by omega)
    have ha : b = ⟨b.block, b.off, none⟩ := by
      have : b.add 0 = b := by simp [Addr.add]
      rw [this] at h1
      exact ispot_none h1
    have hadd : ∀ j, b.add j = ⟨b.block, b.off + j, none⟩ := fun j => by
      unfold Addr.add
      split
      · rename_i e; subst e; exact ha
      · rfl
    refine ⟨b.block, b.off, by rw [← ha], ?_, fun i hi => ?_⟩
    · rw [hadd] at h1
      exact World.block_lt_of_cell? W ⟨b.block, b.off + 0, none⟩ h1
    · have h2 := hc i (by omega)
      rw [hadd] at h2
      rw [h2]
      simp [List.getD_eq_getElem?_getD, List.getElem?_eq_getElem (show i < zs.length by omega)]
end Go.Proofs.YtnneljcbelgoeaaGreat.wire
