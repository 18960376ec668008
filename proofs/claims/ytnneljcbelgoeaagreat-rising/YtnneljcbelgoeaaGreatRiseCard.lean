import Derived.Test.YtnneljcbelgoeaaGreatNOpen
import Derived.Test.YtnneljcbelgoeaaGreatNRiseW
import Derived.Test.YtnneljcbelgoeaaGreatKeysOpen
import Derived.Test.YtnneljcbelgoeaaGreatRows
import Derived.Test.YtnneljcbelgoeaaGreatNRising
/- Messages that came in. -/
namespace Go.Proofs.YtnneljcbelgoeaaGreat.wire
open Go.ChangeShapes Go.WideShapes Go.RowKit Go.Deep

theorem cells6 {w : World} {base : Nat} {a : Addr} {cs : List Value} (h : w.cells? base a 6 = some cs) : ∃ x0 x1 x2 x3 x4 x5, cs = [x0, x1, x2, x3, x4, x5] ∧ w.cell? a = some x0 ∧ w.cell? (a.add 1) = some x1 ∧ w.cell? (a.add 2) = some x2 ∧ w.cell? (a.add 3) = some x3 ∧ w.cell? (a.add 4) = some x4 ∧ w.cell? (a.add 5) = some x5 := by
  unfold World.cells? at h
  split at h
  · rw [show List.range 6 = [0, 1, 2, 3, 4, 5] from rfl] at h
    simp only [List.mapM_cons, List.mapM_nil, Option.bind_eq_bind, Option.bind_eq_some_iff, Option.pure_def, Option.some.injEq] at h
    obtain ⟨x0, h0, r0, ⟨x1, h1, r1, ⟨x2, h2, r2, ⟨x3, h3, r3, ⟨x4, h4, r4, ⟨x5, h5, r5, rfl, rfl⟩, rfl⟩, rfl⟩, rfl⟩, rfl⟩, rfl⟩ := h
    exact ⟨x0, x1, x2, x3, x4, x5, rfl, by simpa [Addr.add] using h0, h1, h2, h3, h4, h5⟩
  · cases h
set_option maxRecDepth 100000 in
/-- One of them. -/
theorem msg_open {H : Type} {enc : TypeId × Value → H} {W : World} {held : Bool} {n : Nat} {v0 v1 v2 v3 v4 v5 : Value} {r : DataW H × List MemPlace} (h : DataW.trod enc Tryz.prog W 0 (fun _ => true) held n 48 [v0, v1, v2, v3, v4, v5] = some r) :
    ∃ R : RM, v0 = .int .i64 R.k ∧ v1 = .int .i64 R.f ∧ v2 = .int .i64 R.i ∧ v3 = .int .i64 R.s ∧ v4 = .int .i64 R.t ∧ v5 = .slice R.ao R.l.length R.cap ∧ R.Ok W := by
  have c3 : Tryz.prog.cellsOf 3 = 1 := by kernel_rfl
  have c22 : Tryz.prog.cellsOf 27 = 1 := by kernel_rfl
  obtain ⟨xs, n, _, _, _, hlen, hfl⟩ := DataW.trod_struct Tryz.underlying48 h
  have g0 := hfl 0 _ rfl
  have g1 := hfl 1 _ rfl
  have g2 := hfl 2 _ rfl
  have g3 := hfl 3 _ rfl
  have g4 := hfl 4 _ rfl
  have g5 := hfl 5 _ rfl
  have hl6 : xs.length = 6 := hlen
  rw [List.getElem?_eq_getElem (by omega)] at g0 g1 g2 g3 g4 g5
  obtain ⟨k, e0, _, w0⟩ := DataW.trod_int Tryz.underlying3 g0
  obtain ⟨f, e1, _, w1⟩ := DataW.trod_int Tryz.underlying3 g1
  obtain ⟨i, e2, _, w2⟩ := DataW.trod_int Tryz.underlying3 g2
  obtain ⟨s, e3, _, w3⟩ := DataW.trod_int Tryz.underlying3 g3
  obtain ⟨t, e4, _, w4⟩ := DataW.trod_int Tryz.underlying3 g4
  obtain ⟨ao, l, cap, e5, hl, hr, hk⟩ := raw_open g5
  simp [c3, c22] at e0 e1 e2 e3 e4 e5
  exact ⟨⟨k, f, i, s, t, ao, l, cap⟩, e0, e1, e2, e3, e4, e5, ⟨i64_of_wf w0, i64_of_wf w1, i64_of_wf w2, i64_of_wf w3, i64_of_wf w4, hl, hr, hk⟩⟩
set_option maxRecDepth 100000 in
theorem msgs_open {H : Type} {enc : TypeId × Value → H} {W : World} {held : Bool} {base : Nat} {v : Value} {d : DataW H} {p : List MemPlace} (hv : Value.okWide Tryz.prog W .any base 46 v) (h : DataW.Trod enc Tryz.prog W 0 (fun _ => true) held 46 v d p) :
    ∃ (ao : Option Addr) (l : List RM) (cap : Nat), v = .slice ao l.length cap ∧ l.length ≤ maxLen ∧ RawM W ao l := by
  obtain ⟨a0, len0, cap0, rfl⟩ := okWide_slice Tryz.underlying46 hv
  obtain ⟨fuel, hf⟩ := h
  rcases open_slice Tryz.underlying46 hf with ⟨e, _⟩ | ⟨a, len, cap, m, n, D, Pl, e, _, hl, hm, hmm, _, hel⟩
  · simp only [Value.cells, List.cons.injEq, Value.slice.injEq, and_true] at e
    obtain ⟨rfl, rfl, rfl⟩ := e
    exact ⟨none, [], 0, rfl, by simp, ⟨fun h => by simp at h, by simp⟩⟩
  simp only [Value.cells, List.cons.injEq, Value.slice.injEq, and_true] at e
  obtain ⟨rfl, rfl, rfl⟩ := e
  have c6 : Tryz.prog.cellsOf 48 = 6 := by kernel_rfl
  rw [c6] at hel
  have hlm : len0 ≤ m := by rw [hmm]; simp; omega
  obtain ⟨l, hll, hp⟩ := exists_list (p := fun i (R : RM) => (W.cell? (a.add (i * 6)) = some (.int .i64 R.k) ∧ W.cell? ((a.add (i * 6)).add 1) = some (.int .i64 R.f) ∧ W.cell? ((a.add (i * 6)).add 2) = some (.int .i64 R.i) ∧ W.cell? ((a.add (i * 6)).add 3) = some (.int .i64 R.s) ∧ W.cell? ((a.add (i * 6)).add 4) = some (.int .i64 R.t) ∧ W.cell? ((a.add (i * 6)).add 5) = some (.slice R.ao R.l.length R.cap)) ∧ R.Ok W) len0 (fun i hi => by
    obtain ⟨cs', h1, h2⟩ := hel i (by omega)
    obtain ⟨x0, x1, x2, x3, x4, x5, rfl, q0, q1, q2, q3, q4, q5⟩ := cells6 h1
    obtain ⟨R, rfl, rfl, rfl, rfl, rfl, rfl, hR⟩ := msg_open h2
    exact ⟨R, ⟨q0, q1, q2, q3, q4, q5⟩, hR⟩)
  subst hll
  refine ⟨some a, l, cap0, rfl, by omega, ⟨fun h0 => ?_, fun x hx => ?_⟩⟩
  · obtain ⟨⟨h1, _⟩, _⟩ := hp 0 h0
    have ha : a = ⟨a.block, a.off, none⟩ := by
      have : a.add (0 * 6) = a := by simp [Addr.add]
      rw [this] at h1
      exact spot_none h1
    have hadd : ∀ j, a.add j = ⟨a.block, a.off + j, none⟩ := fun j => by
      unfold Addr.add
      split
      · rename_i e; subst e; exact ha
      · rfl
    refine ⟨a.block, a.off, by rw [← ha], ?_, fun i hi => ?_⟩
    · rw [hadd] at h1
      exact World.block_lt_of_cell? W ⟨a.block, a.off + 0 * 6, none⟩ h1
    · obtain ⟨⟨q0, q1, q2, q3, q4, q5⟩, _⟩ := hp i hi
      rw [add_add, hadd] at q1 q2 q3 q4 q5
      rw [hadd] at q0
      exact ⟨q0, by rw [Nat.add_assoc]; exact q1, by rw [Nat.add_assoc]; exact q2, by rw [Nat.add_assoc]; exact q3, by rw [Nat.add_assoc]; exact q4, by rw [Nat.add_assoc]; exact q5⟩
  · obtain ⟨i, hi, rfl⟩ := List.getElem_of_mem hx
    exact (hp i hi).2
end Go.Proofs.YtnneljcbelgoeaaGreat.wire
namespace Go.Proofs.YtnneljcbelgoeaaGreat.wire
open Go.ChangeShapes Go.WideShapes Go.RowKit

set_option maxRecDepth 100000 in
theorem rising_lifted (os : Os) (started : os.Started) (H : Type) (enc : TypeId × Value → H) :
    ReturnsInHanded {} Tryz.checked os 4 .any (Rows.risingSpec.pre6 enc Tryz.prog Tryz.f4 Rows.risingRow.domain false)
      (Rows.risingSpec.post enc Tryz.prog Tryz.f4 false true false false) := by
  refine returnsInHanded_of_change (C := Tryz.checked) own started (by kernel_rfl) Tryz.func4
    (ChangeSpec.witness6 (enc := enc) (C := Tryz.checked) false ⟨#[], #[.int .i64 0, .slice none 0 0, .slice none 0 0], []⟩ 8 (by kernel_rfl) (by kernel_rfl) (by kernel_rfl) (by kernel_rfl)) ?_
  intro W base args ds gs before hval0 hW _ _
  have hval : ∀ (j : Nat) t v, Tryz.f4.params[j]? = some t → args[j]? = some v → Value.okWide Tryz.prog W .any base t v := hval0
  have hW' := hW
  obtain ⟨p, q, hA0, hV, rfl, hfz, hnd⟩ := hW
  have hA : DataW.TrodAll enc Tryz.prog W 0 (fun _ => true) true Tryz.f4.params.toList args.toList ds p := hA0
  rw [Tryz.params4] at hA hval
  obtain ⟨v0, v1, v2, d0, d1, d2, p0, p1, p2, rfl, rfl, rfl, h0, h1, h2⟩ := trodAll_three hA
  obtain ⟨rfl, rfl⟩ := trodVars_none hV
  obtain ⟨c, rfl, rfl, rfl, wc⟩ := open_int Tryz.underlying3 (hval 0 3 v0 rfl rfl) h0
  have h1k := h1
  have h2k := h2
  obtain ⟨ao, l, cap, rfl, hl, hr, hrg⟩ := ints_open (hval 1 22 v1 rfl rfl) h1
  obtain ⟨so, T, scap, rfl, hT, hs⟩ := msgs_open (hval 2 46 v2 rfl rfl) h2
  have e1 : Rows.risingSpec.fn H ([.lit (.int .i64 c), d1, d2] ++ []) = { results := [.lit (.bool true)], args := [.lit (.int .i64 c), d1, d2] } := by simp [Rows.risingSpec]
  have bc := bounds_i64 wc
  refine (rising_any c l hl (cap := cap) hr hrg bc.1 bc.2 T hT (tcap := scap) hs).mono fun e W' ⟨he, hb⟩ => ?_
  subst he
  have hlt1 : ∀ z ∈ p1, z.block < W.heap.size := fun z hz => hW'.lt z (by simp [hz])
  have hlt2 : ∀ z ∈ p2, z.block < W.heap.size := fun z hz => hW'.lt z (by simp [hz])
  refine ⟨_, rfl, _, _, _, [], [] ++ (p1 ++ p2), [], by simpa using hW', ?_, ?_, ?_, hb.frame _, fun h => by cases h⟩
  · rw [e1]; exact trodAll_mk1 (shut_bool Tryz.underlying4 true)
  · rw [e1]
    exact trodAll_mk3 (shut_int Tryz.underlying3 wc) (Below.trod laidOut (by kernel_rfl) (of_decide_eq_true (by kernel_rfl)) h1k hb hlt1) (Below.trod laidOut (by kernel_rfl) (of_decide_eq_true (by kernel_rfl)) h2k hb hlt2)
  · rw [e1]; rfl
end Go.Proofs.YtnneljcbelgoeaaGreat.wire
namespace Go.Proofs.YtnneljcbelgoeaaGreat
open Go
theorem rising_holds : Rows.RisingSaid :=
  OpenClaim.holds_of_wide 4 Tryz.f4 rfl rfl rfl rfl rfl rfl rfl ⟨rfl, rfl, rfl, rfl, rfl⟩ rfl rfl rfl rfl rfl (by kernel_rfl) Tryz.func4 (by kernel_rfl)
    (of_decide_eq_true (by kernel_rfl)) (by unfold Func.isWrapper; rw [if_neg (of_decide_eq_false (by kernel_rfl))]; exact ⟨rfl, rfl⟩)
    (fun os started H enc _ => wire.rising_lifted os started H enc)
#print axioms rising_holds
end Go.Proofs.YtnneljcbelgoeaaGreat
