import Derived.Test.YtnneljcbelgoeaaDoorMessage
import Derived.ProofKit
import Derived.OpenShut
import Derived.Deep.Slices
import Derived.Deep.Strs
namespace Go.Proofs.YtnneljcbelgoeaaDoor.wire
open Go.ChangeShapes Go.WideShapes Go.RowKit Go.Deep

theorem exists_list {α : Type} {p : Nat → α → Prop} : ∀ n, (∀ i, i < n → ∃ x, p i x) → ∃ l : List α, l.length = n ∧ ∀ i (h : i < l.length), p i l[i]
  | 0, _ => ⟨[], rfl, fun i h => by simp at h⟩
  | n + 1, h => by
    obtain ⟨l, hl, hp⟩ := exists_list n (fun i hi => h i (by omega))
    obtain ⟨x, hx⟩ := h n (by omega)
    refine ⟨l ++ [x], by simp [hl], fun i hi => ?_⟩
    by_cases e : i < l.length
    · rw [List.getElem_append_left e]; exact hp i e
    · have : i = n := by simp at hi; omega
      subst this
      rw [List.getElem_append_right (by omega)]
      simpa [hl] using hx
theorem cells3 {w : World} {base : Nat} {a : Addr} {cs : List Value} (h : w.cells? base a 3 = some cs) : ∃ x y z, cs = [x, y, z] ∧ w.cell? a = some x ∧ w.cell? (a.add 1) = some y ∧ w.cell? (a.add 2) = some z := by
  unfold World.cells? at h
  split at h
  · rw [show List.range 3 = [0, 1, 2] from rfl] at h
    simp only [List.mapM_cons, List.mapM_nil, Option.bind_eq_bind, Option.bind_eq_some_iff, Option.pure_def, Option.some.injEq] at h
    obtain ⟨x, hx, r, ⟨y, hy, r', ⟨z, hz, r'', rfl, rfl⟩, rfl⟩, rfl⟩ := h
    exact ⟨x, y, z, rfl, by simpa [Addr.add] using hx, hy, hz⟩
  · cases h
theorem spot_none {w : World} {a : Addr} {x : Value} (h : w.cell? a = some x) : a = ⟨a.block, a.off, none⟩ := by
  unfold World.cell? at h
  obtain ⟨b, o, s⟩ := a
  cases s with
  | none => rfl
  | some s => simp at h; split at h <;> simp at h
theorem i64_of_wf {n : Int} (h : (Lit.int .i64 n).wf = true) : isI64 n := by
  have := bounds_i64 h
  unfold isI64
  omega
theorem key_open {H : Type} {enc : TypeId × Value → H} {W : World} {spare : Nat → Bool} {held : Bool} {n : Nat} {x y z : Value} {r : DataW H × List MemPlace} (h : DataW.trod enc Tryd.prog W 0 spare held n 40 [x, y, z] = some r) :
    ∃ k : K3, x = .int .i64 k.id ∧ y = .int .i64 k.inc ∧ z = .int .i64 k.st ∧ isI64 k.id ∧ isI64 k.inc ∧ isI64 k.st := by
  obtain ⟨y0, y1, y2, m, _, _, h0, h1, h2⟩ := trod_struct3 Tryd.underlying40 h
  have c3 : Tryd.prog.cellsOf 3 = 1 := by kernel_rfl
  simp only [c3, List.drop_zero, List.drop_succ_cons, List.take_succ_cons, List.take_zero] at h0 h1 h2
  obtain ⟨a, e0, _, w0⟩ := DataW.trod_int Tryd.underlying3 h0
  obtain ⟨b, e1, _, w1⟩ := DataW.trod_int Tryd.underlying3 h1
  obtain ⟨c, e2, _, w2⟩ := DataW.trod_int Tryd.underlying3 h2
  simp at e0 e1 e2
  exact ⟨⟨a, b, c⟩, e0, e1, e2, i64_of_wf w0, i64_of_wf w1, i64_of_wf w2⟩
/-- A slice of keys that came in. -/
theorem raw_open {H : Type} {enc : TypeId × Value → H} {W : World} {held : Bool} {fuel : Nat} {cs : List Value} {x : DataW H × List MemPlace} (h : DataW.trod enc Tryd.prog W 0 (fun _ => true) held fuel 22 cs = some x) :
    ∃ (ao : Option Addr) (l : List K3) (cap : Nat), cs = [.slice ao l.length cap] ∧ l.length ≤ maxLen ∧ RawAt W ao l ∧ ∀ x ∈ l, isI64 x.id ∧ isI64 x.inc ∧ isI64 x.st := by
  rcases open_slice Tryd.underlying22 h with ⟨rfl, _⟩ | ⟨a, len, cap, m, n, D, Pl, rfl, _, hl, hm, hmm, _, hel⟩
  · exact ⟨none, [], 0, rfl, by simp, fun h => by simp at h, fun x hx => by simp at hx⟩
  have c40 : Tryd.prog.cellsOf 40 = 3 := by kernel_rfl
  rw [c40] at hel
  have hlm : len ≤ m := by rw [hmm]; simp; omega
  obtain ⟨l, hll, hp⟩ := exists_list (p := fun i (k : K3) => W.cell? (a.add (i * 3)) = some (.int .i64 k.id) ∧ W.cell? ((a.add (i * 3)).add 1) = some (.int .i64 k.inc) ∧ W.cell? ((a.add (i * 3)).add 2) = some (.int .i64 k.st) ∧ isI64 k.id ∧ isI64 k.inc ∧ isI64 k.st) len (fun i hi => by
    obtain ⟨cs', h1, h2⟩ := hel i (by omega)
    obtain ⟨x, y, z, rfl, hx, hy, hz⟩ := cells3 h1
    obtain ⟨k, rfl, rfl, rfl, b1, b2, b3⟩ := key_open h2
    exact ⟨k, hx, hy, hz, b1, b2, b3⟩)
  subst hll
  refine ⟨some a, l, cap, rfl, by omega, fun h0 => ?_, fun x hx => ?_⟩
  · obtain ⟨h1, _⟩ := hp 0 h0
    have ha : a = ⟨a.block, a.off, none⟩ := by
      have : a.add (0 * 3) = a := by simp [Addr.add]
      rw [this] at h1
      exact spot_none h1
    have hadd : ∀ j, a.add j = ⟨a.block, a.off + j, none⟩ := fun j => by
      unfold Addr.add
      split
      · rename_i e; subst e; exact ha
      · rfl
    refine ⟨a.block, a.off, by rw [← ha], ?_, fun i hi => ?_⟩
    · rw [hadd] at h1
      exact World.block_lt_of_cell? W ⟨a.block, a.off + 0 * 3, none⟩ h1
    · obtain ⟨q0, q1, q2, _⟩ := hp i hi
      rw [add_add, hadd] at q1 q2
      rw [hadd] at q0
      refine ⟨q0, ?_, ?_⟩
      · rw [Nat.add_assoc]; exact q1
      · rw [Nat.add_assoc]; exact q2
  · obtain ⟨i, hi, rfl⟩ := List.getElem_of_mem hx
    exact (hp i hi).2.2.2
theorem array6 {α : Type} {cs : Array α} (h : cs.size = 6) : ∃ c0 c1 c2 c3 c4 c5, cs = #[c0, c1, c2, c3, c4, c5] := by
  obtain ⟨l⟩ := cs
  match l, h with
  | [c0, c1, c2, c3, c4, c5], _ => exact ⟨c0, c1, c2, c3, c4, c5, rfl⟩
/-- The raw message that came in. -/
theorem arg_open {H : Type} {enc : TypeId × Value → H} {W : World} {held : Bool} {base : Nat} {v : Value} {d : DataW H} {p : List MemPlace} (hv : Value.okWide Tryd.prog W .any base 24 v) (h : DataW.Trod enc Tryd.prog W 0 (fun _ => true) held 24 v d p) :
    ∃ (k f i s t : Int) (ao : Option Addr) (l : List K3) (cap : Nat), v = .agg #[.int .i64 k, .int .i64 f, .int .i64 i, .int .i64 s, .int .i64 t, .slice ao l.length cap] ∧ isI64 k ∧ isI64 f ∧ isI64 i ∧ isI64 s ∧ isI64 t ∧ l.length ≤ maxLen ∧ RawAt W ao l ∧ ∀ x ∈ l, isI64 x.id ∧ isI64 x.inc ∧ isI64 x.st := by
  have c24 : Tryd.prog.cellsOf 24 = 6 := by kernel_rfl
  have c3 : Tryd.prog.cellsOf 3 = 1 := by kernel_rfl
  have c22 : Tryd.prog.cellsOf 22 = 1 := by kernel_rfl
  obtain ⟨cs, rfl, hsz⟩ := okWide_struct Tryd.underlying24 hv
  obtain ⟨v0, v1, v2, v3, v4, v5, rfl⟩ := array6 (hsz.trans c24)
  obtain ⟨fuel, hf⟩ := h
  obtain ⟨xs, n, _, _, _, hlen, hfl⟩ := DataW.trod_struct Tryd.underlying24 hf
  have g0 := hfl 0 _ rfl
  have g1 := hfl 1 _ rfl
  have g2 := hfl 2 _ rfl
  have g3 := hfl 3 _ rfl
  have g4 := hfl 4 _ rfl
  have g5 := hfl 5 _ rfl
  have hl6 : xs.length = 6 := hlen
  rw [List.getElem?_eq_getElem (by omega)] at g0 g1 g2 g3 g4 g5
  simp only [Value.cells] at g0 g1 g2 g3 g4 g5
  obtain ⟨k, e0, _, w0⟩ := DataW.trod_int Tryd.underlying3 g0
  obtain ⟨f, e1, _, w1⟩ := DataW.trod_int Tryd.underlying3 g1
  obtain ⟨i, e2, _, w2⟩ := DataW.trod_int Tryd.underlying3 g2
  obtain ⟨s, e3, _, w3⟩ := DataW.trod_int Tryd.underlying3 g3
  obtain ⟨t, e4, _, w4⟩ := DataW.trod_int Tryd.underlying3 g4
  obtain ⟨ao, l, cap, e5, hl, hr, hk⟩ := raw_open g5
  simp [c3, c22] at e0 e1 e2 e3 e4 e5
  exact ⟨k, f, i, s, t, ao, l, cap, by rw [e0, e1, e2, e3, e4, e5], i64_of_wf w0, i64_of_wf w1, i64_of_wf w2, i64_of_wf w3, i64_of_wf w4, hl, hr, hk⟩
end Go.Proofs.YtnneljcbelgoeaaDoor.wire
