import Derived.Test.YtnneljcbelgoeaaGreatMessage
import Derived.ProofKit
import Derived.OpenShut
import Derived.Deep.Slices
import Derived.Deep.Strs
namespace Go.Proofs.YtnneljcbelgoeaaGreat.wire
open Go.ChangeShapes Go.WideShapes Go.RowKit Go.Deep

theorem exists_list {α : Type} {p : Nat → α → Prop} : ∀ n, (∀ i, i < n → ∃ x, p i x) → ∃ l : List α, l.length = n ∧ ∀ i (h : i < l.length), p i l[i]
  | 0, _ => ⟨[], rfl, fun i h => by simp at h⟩
  | n + 1, h => by
    obtain ⟨l, hl, hp⟩ := exists_list n (fun i hi => h i (by omega))
    obtain ⟨x, hx⟩ := h n (by omega)
    refine ⟨l ++ [x], by simp [hl], fun i hi => ?_⟩
    by_cases e : i < l.length
    · rw [List.getElem_append_left e]; exact hp i e
    · have : i = n := by simp at hi; omega
      subst this
      rw [List.getElem_append_right (by omega)]
      simpa [hl] using hx
theorem cells3 {w : World} {base : Nat} {a : Addr} {cs : List Value} (h : w.cells? base a 3 = some cs) : ∃ x y z, cs = [x, y, z] ∧ w.cell? a = some x ∧ w.cell? (a.add 1) = some y ∧ w.cell? (a.add 2) = some z := by
  unfold World.cells? at h
  split at h
  · rw [show List.range 3 = [0, 1, 2] from rfl] at h
    simp only [List.mapM_cons, List.mapM_nil, Option.bind_eq_bind, Option.bind_eq_some_iff, Option.pure_def, Option.some.injEq] at h
    obtain ⟨x, hx, r, ⟨y, hy, r', ⟨z, hz, r'', rfl, rfl⟩, rfl⟩, rfl⟩ := h
    exact ⟨x, y, z, rfl, by simpa [Addr.add] using hx, hy, hz⟩
  · cases h
theorem spot_none {w : World} {a : Addr} {x : Value} (h : w.cell? a = some x) : a = ⟨a.block, a.off, none⟩ := by
  unfold World.cell? at h
  obtain ⟨b, o, s⟩ := a
  cases s with
  | none => rfl
  | some s => simp at h; split at h <;> simp at h
theorem i64_of_wf {n : Int} (h : (Lit.int .i64 n).wf = true) : isI64 n := by
  have := bounds_i64 h
  unfold isI64
  omega
set_option maxRecDepth 100000 in
theorem key_open {H : Type} {enc : TypeId × Value → H} {W : World} {spare : Nat → Bool} {held : Bool} {n : Nat} {x y z : Value} {r : DataW H × List MemPlace} (h : DataW.trod enc Tryz.prog W 0 spare held n 31 [x, y, z] = some r) :
    ∃ k : K3, x = .int .i64 k.id ∧ y = .int .i64 k.inc ∧ z = .int .i64 k.st ∧ isI64 k.id ∧ isI64 k.inc ∧ isI64 k.st := by
  obtain ⟨y0, y1, y2, m, _, _, h0, h1, h2⟩ := trod_struct3 Tryz.underlying31 h
  have c3 : Tryz.prog.cellsOf 3 = 1 := by kernel_rfl
  simp only [c3, List.drop_zero, List.drop_succ_cons, List.take_succ_cons, List.take_zero] at h0 h1 h2
  obtain ⟨a, e0, _, w0⟩ := DataW.trod_int Tryz.underlying3 h0
  obtain ⟨b, e1, _, w1⟩ := DataW.trod_int Tryz.underlying3 h1
  obtain ⟨c, e2, _, w2⟩ := DataW.trod_int Tryz.underlying3 h2
  simp at e0 e1 e2
  exact ⟨⟨a, b, c⟩, e0, e1, e2, i64_of_wf w0, i64_of_wf w1, i64_of_wf w2⟩
set_option maxRecDepth 100000 in
/-- A slice of keys that came in. -/
theorem raw_open {H : Type} {enc : TypeId × Value → H} {W : World} {held : Bool} {fuel : Nat} {cs : List Value} {x : DataW H × List MemPlace} (h : DataW.trod enc Tryz.prog W 0 (fun _ => true) held fuel 27 cs = some x) :
    ∃ (ao : Option Addr) (l : List K3) (cap : Nat), cs = [.slice ao l.length cap] ∧ l.length ≤ maxLen ∧ RawAt W ao l ∧ ∀ x ∈ l, isI64 x.id ∧ isI64 x.inc ∧ isI64 x.st := by
  rcases open_slice Tryz.underlying27 h with ⟨rfl, _⟩ | ⟨a, len, cap, m, n, D, Pl, rfl, _, hl, hm, hmm, _, hel⟩
  · exact ⟨none, [], 0, rfl, by simp, fun h => by simp at h, fun x hx => by simp at hx⟩
  have c40 : Tryz.prog.cellsOf 31 = 3 := by kernel_rfl
  rw [c40] at hel
  have hlm : len ≤ m := by rw [hmm]; simp; omega
  obtain ⟨l, hll, hp⟩ := exists_list (p := fun i (k : K3) => W.cell? (a.add (i * 3)) = some (.int .i64 k.id) ∧ W.cell? ((a.add (i * 3)).add 1) = some (.int .i64 k.inc) ∧ W.cell? ((a.add (i * 3)).add 2) = some (.int .i64 k.st) ∧ isI64 k.id ∧ isI64 k.inc ∧ isI64 k.st) len (fun i hi => by
    obtain ⟨cs', h1, h2⟩ := hel i (by omega)
    obtain ⟨x, y, z, rfl, hx, hy, hz⟩ := cells3 h1
    obtain ⟨k, rfl, rfl, rfl, b1, b2, b3⟩ := key_open h2
    exact ⟨k, hx, hy, hz, b1, b2, b3⟩)
  subst hll
  refine ⟨some a, l, cap, rfl, by omega, fun h0 => ?_, fun x hx => ?_⟩
  · obtain ⟨h1, _⟩ := hp 0 h0
    have ha : a = ⟨a.block, a.off, none⟩ := by
      have : a.add (0 * 3) = a := by simp [Addr.add]
      rw [this] at h1
      exact spot_none h1
    have hadd : ∀ j, a.add j = ⟨a.block, a.off + j, none⟩ := fun j => by
      unfold Addr.add
      split
      · rename_i e; subst e; exact ha
      · rfl
    refine ⟨a.block, a.off, by rw [← ha], ?_, fun i hi => ?_⟩
    · rw [hadd] at h1
      exact World.block_lt_of_cell? W ⟨a.block, a.off + 0 * 3, none⟩ h1
    · obtain ⟨q0, q1, q2, _⟩ := hp i hi
      rw [add_add, hadd] at q1 q2
      rw [hadd] at q0
      refine ⟨q0, ?_, ?_⟩
      · rw [Nat.add_assoc]; exact q1
      · rw [Nat.add_assoc]; exact q2
  · obtain ⟨i, hi, rfl⟩ := List.getElem_of_mem hx
    exact (hp i hi).2.2.2
end Go.Proofs.YtnneljcbelgoeaaGreat.wire
