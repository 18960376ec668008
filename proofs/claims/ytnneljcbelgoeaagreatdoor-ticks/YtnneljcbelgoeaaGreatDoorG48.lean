import Derived.Test.YtnneljcbelgoeaaGreatDoorG39
import Derived.ProofKit
import Derived.OpenShut
import Derived.Deep.Slices
import Derived.Deep.Strs
import Derived.SizedLaws
/- The script that came in. -/
namespace Go.Proofs.YtnneljcbelgoeaaGreatDoor.wire
open Go.ChangeShapes Go.WideShapes Go.RowKit Go.Deep
theorem exists_list {α : Type} {p : Nat → α → Prop} : ∀ n, (∀ i, i < n → ∃ x, p i x) → ∃ l : List α, l.length = n ∧ ∀ i (h : i < l.length), p i l[i]
  | 0, _ => ⟨[], rfl, fun i h => by simp at h⟩
  | n + 1, h => by
    obtain ⟨l, hl, hp⟩ := exists_list n (fun i hi => h i (by omega))
    obtain ⟨x, hx⟩ := h n (by omega)
    refine ⟨l ++ [x], by simp [hl], fun i hi => ?_⟩
    by_cases e : i < l.length
    · rw [List.getElem_append_left e]; exact hp i e
    · have : i = n := by simp at hi; omega
      subst this
      rw [List.getElem_append_right (by omega)]
      simpa [hl] using hx
theorem spot_none {w : World} {a : Addr} {x : Value} (h : w.cell? a = some x) : a = ⟨a.block, a.off, none⟩ := by
  unfold World.cell? at h
  obtain ⟨b, o, s⟩ := a
  cases s with
  | none => rfl
  | some s => simp at h; split at h <;> simp at h
theorem cells8 {w : World} {base : Nat} {a : Addr} {cs : List Value} (h : w.cells? base a 8 = some cs) : ∃ x0 x1 x2 x3 x4 x5 x6 x7, cs = [x0, x1, x2, x3, x4, x5, x6, x7] ∧ w.cell? a = some x0 ∧ w.cell? (a.add 1) = some x1 ∧ w.cell? (a.add 2) = some x2 ∧ w.cell? (a.add 3) = some x3 ∧ w.cell? (a.add 4) = some x4 ∧ w.cell? (a.add 5) = some x5 ∧ w.cell? (a.add 6) = some x6 ∧ w.cell? (a.add 7) = some x7 := by
  unfold World.cells? at h
  split at h
  · rw [show List.range 8 = [0, 1, 2, 3, 4, 5, 6, 7] from rfl] at h
    simp only [List.mapM_cons, List.mapM_nil, Option.bind_eq_bind, Option.bind_eq_some_iff, Option.pure_def, Option.some.injEq] at h
    obtain ⟨x0, h0, _, ⟨x1, h1, _, ⟨x2, h2, _, ⟨x3, h3, _, ⟨x4, h4, _, ⟨x5, h5, _, ⟨x6, h6, _, ⟨x7, h7, _, rfl, rfl⟩, rfl⟩, rfl⟩, rfl⟩, rfl⟩, rfl⟩, rfl⟩, rfl⟩ := h
    exact ⟨x0, x1, x2, x3, x4, x5, x6, x7, rfl, by simpa [Addr.add] using h0, h1, h2, h3, h4, h5, h6, h7⟩
  · cases h
theorem weightsAll_mem {H : Type} {P : Program} {e : TypeId} : ∀ {ds : List (DataW H)} {d : DataW H}, d ∈ ds → ∀ n ∈ d.weights P e, n ∈ DataW.weightsAll P e ds
  | d0 :: r, d, hd, n, hn => by
    simp only [DataW.weightsAll, List.mem_append]
    simp only [List.mem_cons] at hd
    rcases hd with rfl | hd
    · exact .inl hn
    · exact .inr (weightsAll_mem hd n hn)
structure Op8.in64 (o : Op8) : Prop where
  a0 : -9223372036854775808 ≤ o.a
  a1 : o.a ≤ 9223372036854775807
  b0 : -9223372036854775808 ≤ o.b
  b1 : o.b ≤ 9223372036854775807
  x0 : -9223372036854775808 ≤ o.x
  x1 : o.x ≤ 9223372036854775807
theorem op_open {H : Type} {enc : TypeId × Value → H} {W : World} {spare : Nat → Bool} {held : Bool} {n : Nat} {x0 x1 x2 x3 x4 x5 x6 x7 : Value} {r : DataW H × List MemPlace} (h : DataW.trod enc Tryz.prog W 0 spare held n 28 [x0, x1, x2, x3, x4, x5, x6, x7] = some r) :
    ∃ o : Op8, x0 = .int .i64 o.kind ∧ x1 = .int .i64 o.x ∧ x2 = .int .i64 o.a ∧ x3 = .int .i64 o.b ∧ x4 = .int .i64 o.c ∧ x5 = .int .i64 o.d ∧ x6 = .int .i64 o.e ∧ x7 = .string (bs o.s) ∧ o.in64 ∧ o.s.length ∈ r.1.weights Tryz.prog 28 := by
  obtain ⟨xs, m, _, hr, _, hlen, hfl⟩ := DataW.trod_struct Tryz.underlying28 h
  have c3 : Tryz.prog.cellsOf 3 = 1 := by kernel_rfl
  have c9 : Tryz.prog.cellsOf 9 = 1 := by kernel_rfl
  have g0 := hfl 0 _ rfl
  have g1 := hfl 1 _ rfl
  have g2 := hfl 2 _ rfl
  have g3 := hfl 3 _ rfl
  have g4 := hfl 4 _ rfl
  have g5 := hfl 5 _ rfl
  have g6 := hfl 6 _ rfl
  have g7 := hfl 7 _ rfl
  have hl8 : xs.length = 8 := hlen
  have e7 : xs[7]? = some xs[7] := List.getElem?_eq_getElem (by omega)
  rw [List.getElem?_eq_getElem (by omega)] at g0 g1 g2 g3 g4 g5 g6 g7
  obtain ⟨k, e0, _, w0⟩ := DataW.trod_int Tryz.underlying3 g0
  obtain ⟨x, e1, _, w1⟩ := DataW.trod_int Tryz.underlying3 g1
  obtain ⟨a, e2, _, w2⟩ := DataW.trod_int Tryz.underlying3 g2
  obtain ⟨b, e3, _, w3⟩ := DataW.trod_int Tryz.underlying3 g3
  obtain ⟨c, e4, _, w4⟩ := DataW.trod_int Tryz.underlying3 g4
  obtain ⟨d, e5, _, w5⟩ := DataW.trod_int Tryz.underlying3 g5
  obtain ⟨e, e6, _, w6⟩ := DataW.trod_int Tryz.underlying3 g6
  obtain ⟨s, es, hx7, ws⟩ := DataW.trod_string Tryz.underlying9 g7
  simp [c3, c9] at e0 e1 e2 e3 e4 e5 e6 es
  have hbs : s = bs s.data.toList := by simp [bs]
  have b1 := bounds_i64 w1
  have b2 := bounds_i64 w2
  have b3 := bounds_i64 w3
  refine ⟨⟨k, a, b, c, d, e, x, s.data.toList⟩, e0, e1, e2, e3, e4, e5, e6, by rw [es]; exact congrArg Value.string hbs, ⟨by simp only; omega, by simp only; omega, by simp only; omega, by simp only; omega, by simp only; omega, by simp only; omega⟩, ?_⟩
  rw [hr]
  simp only [DataW.weights, Tryz.underlying28]
  refine DataW.weights_mem_each (j := 7) (t := 9) (d := .lit (.string s.data.toList)) rfl ?_ _ (by simp [DataW.weights])
  rw [List.getElem?_map, e7, hx7]
  rfl
theorem addr_add {a : Addr} (ha : a = ⟨a.block, a.off, none⟩) (j : Nat) : a.add j = ⟨a.block, a.off + j, none⟩ := by
  unfold Addr.add
  split
  · rename_i e; subst e; exact ha
  · rfl
set_option maxRecDepth 100000 in
/-- A script that came in: its steps, and that no text is longer than what the reading may weigh. -/
theorem script_open {H : Type} {enc : TypeId × Value → H} {W : World} {held : Bool} {base : Nat} {v : Value} {d : DataW H} {p : List MemPlace} (hv : Value.okWide Tryz.prog W .any base 22 v) (h : DataW.Trod enc Tryz.prog W 0 (fun _ => true) held 22 v d p)
    (hw : ∀ n ∈ d.weights Tryz.prog 22, n ≤ 4611686018427387904) :
    ∃ l : List Op8, OpsAt W v l ∧ l.length ≤ maxLen ∧ (∀ o ∈ l, o.in64) ∧ ∀ o ∈ l, o.s.length ≤ 4611686018427387904 := by
  obtain ⟨ao, len, cap, rfl⟩ := okWide_slice Tryz.underlying22 hv
  obtain ⟨fuel, hf⟩ := h
  rcases open_slice Tryz.underlying22 hf with ⟨e, _⟩ | ⟨a, len', cap', m, n, D, Pl, e, _, hl, hm, hmm, hd, hel⟩
  · simp [Value.cells] at e
    obtain ⟨rfl, rfl, rfl⟩ := e
    exact ⟨[], ⟨none, 0, rfl, fun hp => by simp at hp⟩, Nat.zero_le _, fun o ho => (by cases ho), fun o ho => (by cases ho)⟩
  · simp [Value.cells] at e
    obtain ⟨rfl, rfl, rfl⟩ := e
    have c8 : Tryz.prog.cellsOf 28 = 8 := by kernel_rfl
    rw [c8] at hel
    have hlm : len ≤ m := by rw [hmm]; simp; omega
    have hd1 : d = .slice ((List.range len).map D) ((List.range (m - len)).map fun j => D (len + j)) := congrArg (·.1) hd
    obtain ⟨l, hll, hp⟩ := exists_list (p := fun i (o : Op8) => (W.cell? (a.add (i * 8)) = some (.int .i64 o.kind) ∧ W.cell? ((a.add (i * 8)).add 1) = some (.int .i64 o.x) ∧ W.cell? ((a.add (i * 8)).add 2) = some (.int .i64 o.a) ∧ W.cell? ((a.add (i * 8)).add 3) = some (.int .i64 o.b) ∧ W.cell? ((a.add (i * 8)).add 4) = some (.int .i64 o.c) ∧ W.cell? ((a.add (i * 8)).add 5) = some (.int .i64 o.d) ∧ W.cell? ((a.add (i * 8)).add 6) = some (.int .i64 o.e) ∧ W.cell? ((a.add (i * 8)).add 7) = some (.string (bs o.s))) ∧ o.in64 ∧ o.s.length ≤ 4611686018427387904) len (fun i hi => by
      obtain ⟨cs', h1, h2⟩ := hel i (by omega)
      obtain ⟨x0, x1, x2, x3, x4, x5, x6, x7, rfl, q0, q1, q2, q3, q4, q5, q6, q7⟩ := cells8 h1
      obtain ⟨o, rfl, rfl, rfl, rfl, rfl, rfl, rfl, rfl, hb, hn⟩ := op_open h2
      refine ⟨o, ⟨q0, q1, q2, q3, q4, q5, q6, q7⟩, hb, hw _ ?_⟩
      rw [hd1]
      simp only [DataW.weights, Tryz.underlying22, List.mem_cons, List.mem_append]
      exact .inr (.inl (weightsAll_mem (List.mem_map.2 ⟨i, List.mem_range.2 hi, rfl⟩) _ hn)))
    subst hll
    refine ⟨l, ?_, by omega, fun o ho => ?_, fun o ho => ?_⟩
    · refine ⟨some a, cap, rfl, fun h0 => ?_⟩
      · obtain ⟨⟨h1, _⟩, _⟩ := hp 0 h0
        have ha : a = ⟨a.block, a.off, none⟩ := by
          have : a.add (0 * 8) = a := by simp [Addr.add]
          rw [this] at h1
          exact spot_none h1
        refine ⟨a.block, a.off, by rw [← ha], ?_, fun i hi => ?_⟩
        · rw [addr_add ha] at h1
          exact World.block_lt_of_cell? W ⟨a.block, a.off + 0 * 8, none⟩ h1
        · obtain ⟨⟨q0, q1, q2, q3, q4, q5, q6, q7⟩, _⟩ := hp i hi
          simp only [addr_add ha] at q0 q1 q2 q3 q4 q5 q6 q7
          exact ⟨q0, q1, q2, q3, q4, q5, q6, q7⟩
    · obtain ⟨i, hi, rfl⟩ := List.getElem_of_mem ho
      exact (hp i hi).2.1
    · obtain ⟨i, hi, rfl⟩ := List.getElem_of_mem ho
      exact (hp i hi).2.2
end Go.Proofs.YtnneljcbelgoeaaGreatDoor.wire
