import Derived.Test.YtnneljcbelgoeaaGreatDoorG10
import Derived.Test.YtnneljcbelgoeaaGreatDoorG05
import Derived.Test.YtnneljcbelgoeaaGreatDoorG11
import Derived.Maps.AppendAt
/- Rows of things in memory: reading them, appending to them, whatever the source. -/
namespace Go.Proofs.YtnneljcbelgoeaaGreatDoor.wire
open Go.RowKit Go.Maps

/-- The elements' type of a slice's type. -/
structure Ety (P : Program) (t e : TypeId) (size bytes : Nat) : Prop where
  ex : ∃ i z, P.underlying t = some (.slice e) ∧ P.info? e = some i ∧ i.zero = some z ∧ i.size = size ∧ i.bytes = bytes ∧ z.cells.size = size ∧ 0 < size
  small : bytes ≤ 1000
/-- What is appended: n things. -/
def Src (w : World) (size : Nat) (v : Value) (n : Nat) (xs : List Value) : Prop :=
  xs.length = n * size ∧ ((v = .slice none 0 0 ∧ n = 0) ∨ ∃ ad c, v = .slice (some ad) n c ∧ ∀ j u, xs[j]? = some u → w.cell? (ad.add j) = some u)
theorem add0 (g o j : Nat) : (⟨g, o, none⟩ : Addr).add j = ⟨g, o + j, none⟩ := by unfold Addr.add; split <;> simp_all
theorem Src.of_own {w : World} {base : Nat} {e : TypeId} {size : Nat} {v : Value} {n : Nat} {xs : List Value} (h : w.ownsRow base e size v n xs) : Src w size v n xs := by
  refine ⟨h.1, ?_⟩
  rcases h.2 with ⟨rfl, h0⟩ | ⟨g, cap, cur, rfl, hb, hg, h1, h2, h3, h4⟩
  · exact .inl ⟨rfl, h0⟩
  · refine .inr ⟨_, _, rfl, fun j u hu => ?_⟩
    have hj : j < n * size := by have := (List.getElem?_eq_some_iff.1 hu).1; have := h.1; omega
    rw [add0, Nat.zero_add, h.cellAt j hj]
    exact hu
theorem Src.box {w : World} {b : Nat} {cs : List Value} {e : TypeId} (size n c : Nat) (hb : w.heap[b]? = some (.cells cs.toArray e (0, 0))) (hl : cs.length = n * size) : Src w size (.slice (some ⟨b, 0, none⟩) n c) n cs := by
  refine ⟨hl, .inr ⟨_, _, rfl, fun j u hu => ?_⟩⟩
  rw [add0, Nat.zero_add, cell_at hb]
  simpa using hu
/-- The first k of a row, as Go cuts it. -/
theorem Src.take {w : World} {base : Nat} {e : TypeId} {size : Nat} {ao : Option Addr} {n cap : Nat} {xs : List Value} (h : w.ownsRow base e size (.slice ao n cap) n xs) (k : Nat) (hk : k ≤ n) : Src w size (sliced ao 0 k cap size) k (xs.take (k * size)) := by
  have hm : k * size ≤ n * size := Nat.mul_le_mul_right _ hk
  refine ⟨by rw [List.length_take, h.1]; omega, ?_⟩
  rcases h.2 with ⟨e, h0⟩ | ⟨g, cap', cur, e, hb, hg, h1, h2, h3, h4⟩
  · cases e
    have : k = 0 := by omega
    subst this
    exact .inl ⟨rfl, rfl⟩
  · simp only [Value.slice.injEq] at e
    obtain ⟨rfl, _, rfl⟩ := e
    have hadd : (⟨g, 0, none⟩ : Addr).add (0 * size) = ⟨g, 0, none⟩ := by rw [add0]; simp
    refine .inr ⟨⟨g, 0, none⟩, cap, ?_, fun j u hu => ?_⟩
    · unfold sliced
      simp only [Option.map_some, hadd, Nat.sub_zero]
      split <;> rfl
    · have hj : j < k * size := by have := (List.getElem?_eq_some_iff.1 hu).1; rw [List.length_take] at this; omega
      rw [List.getElem?_take_of_lt hj] at hu
      rw [add0, Nat.zero_add, h.cellAt j (by omega)]
      exact hu
theorem Src.head {w : World} {base : Nat} {e : TypeId} {size : Nat} {ao : Option Addr} {n cap : Nat} {xs : List Value} (h : w.ownsRow base e size (.slice ao n cap) n xs) (k : Nat) (hk : k ≤ n) : Src w size (.slice ao k cap) k (xs.take (k * size)) := by
  have hm : k * size ≤ n * size := Nat.mul_le_mul_right _ hk
  refine ⟨by rw [List.length_take, h.1]; omega, ?_⟩
  rcases h.2 with ⟨e, h0⟩ | ⟨g, cap', cur, e, hb, hg, h1, h2, h3, h4⟩
  · cases e
    have : k = 0 := by omega
    subst this
    exact .inl ⟨rfl, rfl⟩
  · simp only [Value.slice.injEq] at e
    obtain ⟨rfl, _, rfl⟩ := e
    refine .inr ⟨⟨g, 0, none⟩, cap, rfl, fun j u hu => ?_⟩
    have hj : j < k * size := by have := (List.getElem?_eq_some_iff.1 hu).1; rw [List.length_take] at this; omega
    rw [List.getElem?_take_of_lt hj] at hu
    rw [add0, Nat.zero_add, h.cellAt j (by omega)]
    exact hu
/-- A row from its k-th on, as Go cuts it. -/
theorem Src.drop {w : World} {base : Nat} {e : TypeId} {size : Nat} {ao : Option Addr} {n cap : Nat} {xs : List Value} (h : w.ownsRow base e size (.slice ao n cap) n xs) (k : Nat) (hk : k ≤ n) : Src w size (sliced ao k n cap size) (n - k) (xs.drop (k * size)) := by
  refine ⟨by rw [List.length_drop, h.1, Nat.sub_mul], ?_⟩
  rcases h.2 with ⟨e, h0⟩ | ⟨g, cap', cur, e, hb, hg, h1, h2, h3, h4⟩
  · cases e
    have : k = 0 := by omega
    subst this
    exact .inl ⟨rfl, by omega⟩
  · simp only [Value.slice.injEq] at e
    obtain ⟨rfl, _, rfl⟩ := e
    by_cases hc : cap = k
    · have hn : n = k := by omega
      refine .inr ⟨⟨g, 0, none⟩, cap - k, ?_, fun j u hu => ?_⟩
      · unfold sliced
        rw [if_pos hc]
      · have := (List.getElem?_eq_some_iff.1 hu).1
        rw [List.length_drop, h.1, hn] at this
        omega
    · refine .inr ⟨⟨g, k * size, none⟩, cap - k, ?_, fun j u hu => ?_⟩
      · unfold sliced
        rw [if_neg hc, Option.map_some, add0, Nat.zero_add]
      · rw [List.getElem?_drop] at hu
        have hj : k * size + j < n * size := by have := (List.getElem?_eq_some_iff.1 hu).1; have := h.1; omega
        rw [add0, h.cellAt _ hj]
        exact hu
theorem row_apart {W : World} {b b' : Nat} {e e' : TypeId} {z z' : Nat} {v v' : Value} {n n' : Nat} {xs xs' : List Value} (h : W.ownsRow b e z v n xs) (h' : W.ownsRow b' e' z' v' n' xs') (he : e ≠ e') : ∀ g, v.ownBlock = some g → v'.ownBlock ≠ some g := fun g hv hv' => by
  obtain ⟨c1, h1⟩ := own_blk h hv
  obtain ⟨c2, h2⟩ := own_blk h' hv'
  rw [h1] at h2
  simp only [Option.some.injEq, Obj.cells.injEq] at h2
  exact he h2.2.1
theorem run_app {P : Program} {t e : TypeId} {size bytes : Nat} (he : Ety P t e size bytes) (ty : TypeId) {w : World} (base : Nat) {v1 : Value} {n1 : Nat} {xs1 : List Value} {v : Value} {n : Nat} {xs : List Value}
    (hown : w.ownsRow base e size v1 n1 xs1) (hsrc : Src w size v n xs) (h1 : ∀ u ∈ xs, u.oneCell' = true) (hlen : n1 + n ≤ 1000000) (hbase : base ≤ w.heap.size) :
    ∃ v' w', (Builtin.append_ #[t, t] ty #[v1, v]).run P w = .ok v' w' ∧ w'.ownsRow base e size v' (n1 + n) (xs1 ++ xs) ∧ w.grownBy w' v1.ownBlock ∧ (v'.ownBlock = v1.ownBlock ∨ v'.ownBlock = some w.heap.size) := by
  obtain ⟨i, z, ht, hi, hz, hsize, hby, hzs, hsz⟩ := he.ex
  have hsm := he.small
  rcases hsrc.2 with ⟨rfl, h0⟩ | ⟨ad, c, rfl, hc⟩
  · subst h0
    have hx0 : xs = [] := List.eq_nil_of_length_eq_zero (by rw [hsrc.1]; simp)
    subst hx0
    refine ⟨v1, w, ?_, by simpa using hown, ⟨rfl, rfl, rfl, Nat.le_refl _, fun _ _ _ => rfl⟩, .inl rfl⟩
    rcases hown.2 with ⟨rfl, _⟩ | ⟨g, cap, cur, rfl, _, _, hc, _, _, _⟩
    · simp [Builtin.append_, run_underlying ht, sizeOf, typeInfo, hi, Builtin.lenOf, Builtin.firstCells]
    · simp [Builtin.append_, run_underlying ht, sizeOf, typeInfo, hi, Builtin.lenOf, Builtin.firstCells, hc, storeCells]
  · obtain ⟨v', w', hrun, r1, r2, _, r3⟩ := run_append_own_at (P := P) w base t ty e i z size bytes ht hi hz hsize hby hzs hsz v1 n1 xs1 hown ad n c xs hsrc.1 hc h1 (by unfold maxLen; omega) (by
      have := Nat.mul_le_mul hlen hsm
      omega) hbase
    exact ⟨v', w', hrun, r1, r2, r3⟩
/-- append, at a plain region's list. -/
theorem wpList_app {P : Program} {w : World} {ops : Array Oper} {rest : List Oper} {o : Oper} {a : Act} {Q : Exit → Act → World → Prop} (hgd : o.guard = none) (s x : Operand) {t : TypeId}
    (ho : o.op = .call { callee := .builtin .append, args := #[s, x], argTypes := #[t, t] }) {e : TypeId} {size bytes : Nat} (he : Ety P t e size bytes) (base : Nat) {v1 : Value} {n1 : Nat} {xs1 : List Value} {v : Value} {n : Nat} {xs : List Value}
    (hs : a.eval s = v1) (hx : a.eval x = v) (hown : w.ownsRow base e size v1 n1 xs1) (hsrc : Src w size v n xs) (h1 : ∀ u ∈ xs, u.oneCell' = true) (hlen : n1 + n ≤ 1000000) (hbase : base ≤ w.heap.size)
    (h : ∀ v' w', w'.ownsRow base e size v' (n1 + n) (xs1 ++ xs) → w.grownBy w' v1.ownBlock → (v'.ownBlock = v1.ownBlock ∨ v'.ownBlock = some w.heap.size) → wpList P ops Q rest (a.put o.dst v') w') : wpList P ops Q (o :: rest) a w := by
  refine wpList_plain hgd fun K hK => ?_
  obtain ⟨v', w', hrun, r1, r2, r3⟩ := run_app he o.type base hown hsrc h1 hlen hbase
  unfold Oper.wp
  simp [execOp, ho, resolve, invoke, builtin, hs, hx, hrun, Result.andThen]
  exact hK _ _ (h _ _ r1 r2 r3)
/-- append, at a step of a region that draws its order. -/
theorem step_app {P : Program} {ops : Array Oper} {o : Oper} {a : Act} {w : World} {K : Act → World → Prop} {Q : Exit → Act → World → Prop} {E : Prop} (hgd : o.guard = none) (s x : Operand) {t : TypeId}
    (ho : o.op = .call { callee := .builtin .append, args := #[s, x], argTypes := #[t, t] }) {e : TypeId} {size bytes : Nat} (he : Ety P t e size bytes) (base : Nat) {v1 : Value} {n1 : Nat} {xs1 : List Value} {v : Value} {n : Nat} {xs : List Value}
    (hs : a.eval s = v1) (hx : a.eval x = v) (hown : w.ownsRow base e size v1 n1 xs1) (hsrc : Src w size v n xs) (h1 : ∀ u ∈ xs, u.oneCell' = true) (hlen : n1 + n ≤ 1000000) (hbase : base ≤ w.heap.size)
    (hK : ∀ v' w', w'.ownsRow base e size v' (n1 + n) (xs1 ++ xs) → w.grownBy w' v1.ownBlock → (v'.ownBlock = v1.ownBlock ∨ v'.ownBlock = some w.heap.size) → K (a.put o.dst v') w') :
    if Region.wanted o (yielded ops a.tmps) = true then Oper.wp P o a w K Q else E := by
  have hw : Region.wanted o (yielded ops a.tmps) = true := by simp [Region.wanted, hgd]
  rw [if_pos hw]
  obtain ⟨v', w', hrun, r1, r2, r3⟩ := run_app he o.type base hown hsrc h1 hlen hbase
  unfold Oper.wp
  simp [execOp, ho, resolve, invoke, builtin, hs, hx, hrun, Result.andThen]
  exact hK _ _ r1 r2 r3
/-- A row of things of s cells each. -/
theorem row_len {α : Type} (f : α → List Value) (s : Nat) (hf : ∀ a, (f a).length = s) (l : List α) : (l.flatMap f).length = l.length * s := by
  induction l with
  | nil => simp
  | cons a r ih => simp only [List.flatMap_cons, List.length_append, ih, hf, List.length_cons, Nat.add_mul]; omega
theorem row_get {α : Type} (f : α → List Value) (s : Nat) (hf : ∀ a, (f a).length = s) : ∀ (l : List α) (i : Nat) (h : i < l.length) (j : Nat), j < s → (l.flatMap f)[i * s + j]? = (f l[i])[j]?
  | a :: r, 0, _, j, hj => by
    rw [List.flatMap_cons, List.getElem?_append_left (by rw [hf]; omega)]; simp
  | a :: r, i + 1, h, j, hj => by
    rw [List.flatMap_cons, List.getElem?_append_right (by rw [hf, Nat.add_mul]; omega)]
    have := row_get f s hf r i (by simpa using h) j hj
    simp only [List.getElem_cons_succ]
    rw [← this]
    congr 1
    rw [hf, Nat.add_mul]; omega
theorem row_cell {α : Type} (f : α → List Value) (s : Nat) (hf : ∀ a, (f a).length = s) {w : World} {base b cap n : Nat} {e : TypeId} {l : List α} (h : w.ownsRow base e s (.slice (some ⟨b, 0, none⟩) n cap) l.length (l.flatMap f)) (i : Nat) (hi : i < l.length) (j : Nat) (hj : j < s) : w.cell? ⟨b, i * s + j, none⟩ = (f l[i])[j]? := by
  have hm : (i + 1) * s ≤ l.length * s := Nat.mul_le_mul_right _ hi
  rw [Nat.add_mul] at hm
  rcases h.2 with ⟨e, _⟩ | ⟨g, cap', cur, e, hb, hg, h1, h2, h3, h4⟩
  · cases e
  · cases e
    rw [cell_at hg, ← row_get f s hf l i hi j hj, ← h4, List.getElem?_take, if_pos (by omega), Array.getElem?_toList]
/-- Such a row is none, or lies somewhere. -/
theorem row_form {w : World} {base : Nat} {e : TypeId} {s : Nat} {v : Value} {n : Nat} {xs : List Value} (h : w.ownsRow base e s v n xs) : ∃ ao cap, v = .slice ao n cap ∧ (0 < n → ∃ b, ao = some ⟨b, 0, none⟩ ∧ b < w.heap.size) ∧ n ≤ cap ∧ cap ≤ maxLen := by
  rcases h.2 with ⟨rfl, h0⟩ | ⟨g, cap, cur, rfl, hb, hg, h1, h2, _⟩
  · exact ⟨none, 0, by rw [h0], fun h => by omega, by omega, by omega⟩
  · exact ⟨some ⟨g, 0, none⟩, cap, rfl, fun _ => ⟨g, rfl, lt_blk hg⟩, h1, h2⟩
theorem row_take {α : Type} (f : α → List Value) (s : Nat) (hf : ∀ a, (f a).length = s) : ∀ (l : List α) (k : Nat), (l.flatMap f).take (k * s) = (l.take k).flatMap f
  | [], k => by simp
  | a :: r, 0 => by simp
  | a :: r, k + 1 => by
    rw [List.take_succ_cons, List.flatMap_cons, List.flatMap_cons, List.take_append, hf, Nat.add_mul, Nat.one_mul, List.take_of_length_le (by rw [hf]; omega), Nat.add_sub_cancel, row_take f s hf r k]
theorem row_drop {α : Type} (f : α → List Value) (s : Nat) (hf : ∀ a, (f a).length = s) : ∀ (l : List α) (k : Nat), (l.flatMap f).drop (k * s) = (l.drop k).flatMap f
  | [], k => by simp
  | a :: r, 0 => by simp
  | a :: r, k + 1 => by
    rw [List.drop_succ_cons, List.flatMap_cons, List.drop_append, hf, Nat.add_mul, Nat.one_mul, List.drop_of_length_le (by rw [hf]; omega), Nat.add_sub_cancel, row_drop f s hf r k, List.nil_append]
/-- A list that is being made, in memory of its own. -/
structure Fi {α : Type} (f : α → List Value) (e : TypeId) (s : Nat) (W wr : World) (v : Value) (L : List α) : Prop where
  own : wr.ownsRow W.heap.size e s v L.length (L.flatMap f)
  below : Below W.heap.size W wr
theorem Fi.nil {α : Type} (f : α → List Value) (e : TypeId) (s : Nat) {W wr : World} (hb : Below W.heap.size W wr) : Fi f e s W wr (.slice none 0 0) [] := ⟨World.ownsRow_nil _ _ _ _, hb⟩
theorem Fi.mono {α : Type} {f : α → List Value} {e : TypeId} {s : Nat} {W wr w' : World} {v : Value} {L : List α} (h : Fi f e s W wr v L) (hb : Below wr.heap.size wr w') : Fi f e s W w' v L := ⟨own_below h.own hb, h.below.trans (hb.mono h.below.size)⟩
theorem Fi.alloc {α : Type} {f : α → List Value} {e : TypeId} {s : Nat} {W wr : World} {v : Value} {L : List α} (h : Fi f e s W wr v L) (o : Obj) : Fi f e s W (wr.alloc o) v L := h.mono ((Below.refl _ _).alloc (Nat.le_refl _) o)
theorem Fi.push {α : Type} {f : α → List Value} {e : TypeId} {s : Nat} {W wr w1 w2 : World} {v v' : Value} {L : List α} (h : Fi f e s W wr v L) (hb : Below wr.heap.size wr w1) (hg : w1.grownBy w2 v.ownBlock) (M : List α) (hown : w2.ownsRow W.heap.size e s v' (L.length + M.length) (L.flatMap f ++ M.flatMap f)) : Fi f e s W w2 v' (L ++ M) := by
  refine ⟨by rw [List.flatMap_append, List.length_append]; exact hown, ?_⟩
  have h1 := h.below.trans (hb.mono h.below.size)
  exact h1.grown hg h1.size (fun k e => (own_lt h.own e).1)
end Go.Proofs.YtnneljcbelgoeaaGreatDoor.wire
/- The document's node in memory. (Written by gen/mkrat.py.) -/
namespace Go.Proofs.YtnneljcbelgoeaaGreatDoor.wire
open Go.RowKit Go.Maps

/-- Where its rows lie: the draws, the others, the pass, the queue, the relays, the events, what goes out. -/
structure Rv where
  d : Value
  o : Value
  p : Value
  q : Value
  l : Value
  e : Value
  x : Value
def rmC (m : RM) : List Value := [.int .i64 m.k.id, .int .i64 m.k.inc, .int .i64 m.k.st, .int .i64 m.due]
def ruC (u : RU) : List Value := [.int .i64 u.k.id, .int .i64 u.k.inc, .int .i64 u.k.st, .int .i64 u.sent]
def rrC (q : Rel) : List Value := [.int .i64 q.num, .int .i64 q.tgt, .int .i64 q.asker, .int .i64 q.under, .int .i64 q.till]
def refC (r : Rn) (v : Rv) : Array Value := #[.int .i64 r.c.self, .int .i64 r.c.period, .int .i64 r.c.wait, .int .i64 r.c.suspect, .int .i64 r.c.proxies, .int .i64 r.c.sends, v.d, .int .i64 r.drawn, .int .i64 r.clock, .int .i64 r.seq, .int .i64 r.self.id, .int .i64 r.self.inc, .int .i64 r.self.st, v.o, v.p, .int .i64 r.probe, .int .i64 r.start, .int .i64 r.no, .bool r.acked, v.q, v.l, .int .i64 r.dropped, v.e, .int .i64 r.lost, v.x]
/-- Its rows, but for the draws. -/
structure RRows0 (W : World) (v : Rv) (r : Rn) : Prop where
  o : W.ownsRow 0 134 4 v.o r.others.length (r.others.flatMap rmC)
  p : W.ownsRow 0 3 1 v.p r.pass.length (r.pass.flatMap intC)
  q : W.ownsRow 0 158 4 v.q r.queue.length (r.queue.flatMap ruC)
  l : W.ownsRow 0 132 5 v.l r.rels.length (r.rels.flatMap rrC)
  e : W.ownsRow 0 58 3 v.e r.evs.length (r.evs.flatMap keyC)
  x : W.ownsRow 0 60 2 v.x r.out.length (r.out.flatMap pkC)
/-- Its rows. -/
structure RRows (W : World) (v : Rv) (r : Rn) : Prop extends RRows0 W v r where
  d : PassAt W v.d r.draws
  sep : ∀ g, v.p.ownBlock = some g → v.d.ownBlock ≠ some g
structure RAt (W : World) (b : Nat) (v : Rv) (r : Rn) : Prop where
  blk : W.heap[b]? = some (.cells (refC r v) 93 (0, 0))
  rows : RRows W v r
def Rv.all (v : Rv) : List Nat := v.o.ownBlock.toList ++ (v.p.ownBlock.toList ++ (v.q.ownBlock.toList ++ (v.l.ownBlock.toList ++ (v.e.ownBlock.toList ++ (v.x.ownBlock.toList)))))
def rfeet (b : Nat) (v : Rv) : List Nat := b :: v.all
/-- Behind a call on it. -/
def RTo (W W' : World) (b : Nat) (v : Rv) (r' : Rn) : Prop := ∃ v', v'.d = v.d ∧ RAt W' b v' r' ∧ Frm (rfeet b v) W W' ∧ ∀ k ∈ rfeet b v', k ∈ rfeet b v ∨ W.heap.size ≤ k
theorem RRows0.frm {S : List Nat} {W W' : World} {v : Rv} {r : Rn} (h : RRows0 W v r) (hf : Frm S W W') (hn : ∀ k ∈ v.all, k ∉ S) : RRows0 W' v r :=
  ⟨own_frm h.o hf (fun k hk => hn k (by simp [Rv.all, hk])), own_frm h.p hf (fun k hk => hn k (by simp [Rv.all, hk])), own_frm h.q hf (fun k hk => hn k (by simp [Rv.all, hk])), own_frm h.l hf (fun k hk => hn k (by simp [Rv.all, hk])), own_frm h.e hf (fun k hk => hn k (by simp [Rv.all, hk])), own_frm h.x hf (fun k hk => hn k (by simp [Rv.all, hk]))⟩
theorem RRows.frm {S : List Nat} {W W' : World} {v : Rv} {r : Rn} (h : RRows W v r) (hf : Frm S W W') (hn : ∀ k ∈ v.all, k ∉ S) (hd : ∀ k, v.d.ownBlock = some k → k ∉ S) : RRows W' v r := ⟨h.toRRows0.frm hf hn, h.d.frm hf hd, h.sep⟩
theorem RRows.below {W W' : World} {v : Rv} {r : Rn} (h : RRows W v r) (hb : Below W.heap.size W W') : RRows W' v r := h.frm (S := []) (Frm.of_below hb (Nat.le_refl _)) (by simp) (by simp)
theorem RRows0.blk_of {W : World} {v : Rv} {r : Rn} (h : RRows0 W v r) {k : Nat} (hk : k ∈ v.all) : ∃ cs t, W.heap[k]? = some (.cells cs t (0, 0)) ∧ (t = 134 ∨ t = 3 ∨ t = 158 ∨ t = 132 ∨ t = 58 ∨ t = 60) := by
  simp only [Rv.all, List.mem_append, Option.mem_toList] at hk
  rcases hk with hk | hk | hk | hk | hk | hk
  · obtain ⟨cs, hc⟩ := own_blk h.o hk; exact ⟨cs, _, hc, .inl rfl⟩
  · obtain ⟨cs, hc⟩ := own_blk h.p hk; exact ⟨cs, _, hc, .inr (.inl rfl)⟩
  · obtain ⟨cs, hc⟩ := own_blk h.q hk; exact ⟨cs, _, hc, .inr (.inr (.inl rfl))⟩
  · obtain ⟨cs, hc⟩ := own_blk h.l hk; exact ⟨cs, _, hc, .inr (.inr (.inr (.inl rfl)))⟩
  · obtain ⟨cs, hc⟩ := own_blk h.e hk; exact ⟨cs, _, hc, .inr (.inr (.inr (.inr (.inl rfl))))⟩
  · obtain ⟨cs, hc⟩ := own_blk h.x hk; exact ⟨cs, _, hc, .inr (.inr (.inr (.inr (.inr rfl))))⟩
theorem RRows.not {W : World} {v : Rv} {r : Rn} (h : RRows W v r) {b : Nat} {cs : Array Value} (hb : W.heap[b]? = some (.cells cs 93 (0, 0))) : b ∉ v.all ∧ v.d.ownBlock ≠ some b := by
  refine ⟨fun hk => ?_, fun hk => ?_⟩
  · obtain ⟨cs', t, hc, ht⟩ := h.toRRows0.blk_of hk
    rw [hb] at hc
    cases hc
    revert ht
    decide
  · obtain ⟨cs', hc⟩ := h.d.blk hk
    rw [hb] at hc
    cases hc
theorem RRows0.lt {W : World} {v : Rv} {r : Rn} (h : RRows0 W v r) {k : Nat} (hk : k ∈ v.all) : k < W.heap.size := by
  obtain ⟨cs, t, hc, _⟩ := h.blk_of hk
  exact lt_blk hc
theorem RAt.frm {S : List Nat} {W W' : World} {b : Nat} {v : Rv} {r : Rn} (h : RAt W b v r) (hf : Frm S W W') (hn : ∀ k ∈ rfeet b v, k ∉ S) (hd : ∀ k, v.d.ownBlock = some k → k ∉ S) : RAt W' b v r :=
  ⟨(hf.block b (lt_blk h.blk) (hn b (by simp [rfeet]))).trans h.blk, h.rows.frm hf (fun k hk => hn k (by simp [rfeet, hk])) hd⟩
theorem RAt.below {W W' : World} {b : Nat} {v : Rv} {r : Rn} (h : RAt W b v r) (hb : Below W.heap.size W W') : RAt W' b v r := h.frm (S := []) (Frm.of_below hb (Nat.le_refl _)) (by simp) (by simp)
theorem RAt.alloc {W : World} {b : Nat} {v : Rv} {r : Rn} (h : RAt W b v r) (o : Obj) : RAt (W.alloc o) b v r := h.below ((Below.refl _ _).alloc (Nat.le_refl _) o)
theorem RAt.drew {W : World} {b : Nat} {v : Rv} {r : Rn} (h : RAt W b v r) : RAt W.drew b v r := h.below (bdrew (Below.refl _ _))
theorem RAt.drewN {W : World} {b : Nat} {v : Rv} {r : Rn} (h : RAt W b v r) (n : Nat) : RAt (W.drewN n) b v r := h.below (bdrewN (Below.refl _ _) n)
theorem RAt.ltb {W : World} {b : Nat} {v : Rv} {r : Rn} (h : RAt W b v r) : b < W.heap.size := lt_blk h.blk
theorem RAt.lt {W : World} {b : Nat} {v : Rv} {r : Rn} (h : RAt W b v r) {k : Nat} (hk : k ∈ rfeet b v) : k < W.heap.size := by
  rcases List.mem_cons.1 hk with rfl | hk
  · exact lt_blk h.blk
  · exact h.rows.toRRows0.lt hk
theorem RAt.cell {W : World} {b : Nat} {v : Rv} {r : Rn} (h : RAt W b v r) (j : Nat) : W.cell? ⟨b, j, none⟩ = (refC r v)[j]? := cell_at h.blk j
theorem RAt.free {W : World} {b : Nat} {v : Rv} {r : Rn} (h : RAt W b v r) (j : Nat) : W.frozen? ⟨b, j, none⟩ = false := free_at h.blk j
theorem RTo.same {W W' : World} {b : Nat} {v : Rv} {r : Rn} (h : RAt W b v r) (hb : Below W.heap.size W W') : RTo W W' b v r := ⟨v, rfl, h.below hb, Frm.of_below hb (Nat.le_refl _), fun _ hk => .inl hk⟩
theorem RTo.trans {W W1 W2 : World} {b : Nat} {v v1 : Rv} {r2 : Rn} (hd : v1.d = v.d) (hf : Frm (rfeet b v) W W1) (hs : ∀ k ∈ rfeet b v1, k ∈ rfeet b v ∨ W.heap.size ≤ k) (h : RTo W1 W2 b v1 r2) : RTo W W2 b v r2 := by
  obtain ⟨v2, hd2, ha, hf2, hs2⟩ := h
  refine ⟨v2, hd2.trans hd, ha, hf.trans hf2 hs, fun k hk => ?_⟩
  rcases hs2 k hk with h | h
  · exact hs k h
  · exact .inr (Nat.le_trans hf.size h)
theorem RTo.then {W W1 W2 : World} {b : Nat} {v : Rv} {r1 r2 : Rn} (h1 : RTo W W1 b v r1) (h : ∀ v1, RAt W1 b v1 r1 → RTo W1 W2 b v1 r2) : RTo W W2 b v r2 := by
  obtain ⟨v1, hd, ha, hf, hs⟩ := h1
  exact .trans hd hf hs (h v1 ha)
theorem RTo.step {W W1 W2 : World} {b : Nat} {v : Rv} {r1 : Rn} (h1 : RTo W W1 b v r1) (hb : Below W1.heap.size W1 W2) : RTo W W2 b v r1 := h1.then (fun _ ha => RTo.same ha hb)
theorem RTo.size {W W1 : World} {b : Nat} {v : Rv} {r1 : Rn} (h : RTo W W1 b v r1) : W.heap.size ≤ W1.heap.size := by obtain ⟨_, _, _, hf, _⟩ := h; exact hf.size
/-- A block of another's that is not among its own stays. -/
theorem RTo.block {W W1 : World} {b : Nat} {v : Rv} {r1 : Rn} (h : RTo W W1 b v r1) {k : Nat} (hk : k < W.heap.size) (hn : k ∉ rfeet b v) : W1.heap[k]? = W.heap[k]? := by obtain ⟨_, _, _, hf, _⟩ := h; exact hf.block k hk hn
/-- A store into its own block. -/
theorem frm_set (W : World) (b j : Nat) (u : Value) : Frm [b] W (W.setCell ⟨b, j, none⟩ u) :=
  ⟨rfl, rfl, rfl, by simp [World.size_setCell], fun k _ hk => by simp at hk; exact heap_setCell_other W ⟨b, j, none⟩ k u (by simpa using hk)⟩
theorem RAt.store {W : World} {b : Nat} {v v' : Rv} {r r' : Rn} (hb : W.heap[b]? = some (.cells (refC r v) 93 (0, 0))) (hr : RRows W v' r') (j : Nat) (u : Value) (hc : (refC r v).setIfInBounds j u = refC r' v') : RAt (W.setCell ⟨b, j, none⟩ u) b v' r' := by
  obtain ⟨n1, n2⟩ := hr.not hb
  refine ⟨by rw [heap_setCell_same _ _ _ _ _ _ hb, hc], hr.frm (frm_set W b j u) (fun k hk e => ?_) (fun k hk e => ?_)⟩
  · simp only [List.mem_singleton] at e; subst e; exact n1 hk
  · simp only [List.mem_singleton] at e; subst e; exact n2 hk
theorem RRows.same {W : World} {v : Rv} {r r' : Rn} (h : RRows W v r) (hd : r'.draws = r.draws) (ho : r'.others = r.others) (hp : r'.pass = r.pass) (hq : r'.queue = r.queue) (hl : r'.rels = r.rels) (he : r'.evs = r.evs) (hx : r'.out = r.out) : RRows W v r' :=
  ⟨⟨by rw [ho]; exact h.o, by rw [hp]; exact h.p, by rw [hq]; exact h.q, by rw [hl]; exact h.l, by rw [he]; exact h.e, by rw [hx]; exact h.x⟩, by rw [hd]; exact h.d, h.sep⟩
/-- A plain cell of it is written. -/
theorem RAt.set {W : World} {b : Nat} {v : Rv} {r : Rn} (h : RAt W b v r) (j : Nat) (u : Value) {r' : Rn} (hc : (refC r v).setIfInBounds j u = refC r' v) (hd : r'.draws = r.draws := by rfl) (ho : r'.others = r.others := by rfl) (hp : r'.pass = r.pass := by rfl) (hq : r'.queue = r.queue := by rfl) (hl : r'.rels = r.rels := by rfl) (he : r'.evs = r.evs := by rfl) (hx : r'.out = r.out := by rfl) : RAt (W.setCell ⟨b, j, none⟩ u) b v r' ∧ RTo W (W.setCell ⟨b, j, none⟩ u) b v r' := by
  have ha := RAt.store h.blk (h.rows.same (r' := r') hd ho hp hq hl he hx) j u hc
  exact ⟨ha, v, rfl, ha, (Frm.refl _ W).trans (frm_set W b j u) (by simp [rfeet]), fun k hk => .inl hk⟩
theorem RRows.setO {W W1 : World} {v : Rv} {r : Rn} (h : RRows W v r) {u : Value} (hf : Frm v.o.ownBlock.toList W W1) {l : List RM} (ho : W1.ownsRow 0 134 4 u l.length (l.flatMap rmC)) : RRows W1 { v with o := u } { r with others := l } := by
  have hne : ∀ {e : TypeId} {z : Nat} {x : Value} {n : Nat} {xs : List Value}, 134 ≠ e → W.ownsRow 0 e z x n xs → W1.ownsRow 0 e z x n xs := fun he hx => own_frm hx hf (fun k hk hm => row_apart h.o hx he k (Option.mem_toList.1 hm) hk)
  have hd : PassAt W1 v.d r.draws := h.d.frm hf (fun k hk hm => by
    obtain ⟨cs, h1⟩ := h.d.blk hk
    obtain ⟨cs', h2⟩ := own_blk h.o (Option.mem_toList.1 hm)
    rw [h1] at h2
    simp only [Option.some.injEq, Obj.cells.injEq] at h2
    exact absurd h2.2.1 (by decide))
  exact ⟨⟨ho, hne (by decide) h.p, hne (by decide) h.q, hne (by decide) h.l, hne (by decide) h.e, hne (by decide) h.x⟩, hd, h.sep⟩
theorem RAt.setO {W W1 : World} {b : Nat} {v : Rv} {r : Rn} (h : RAt W b v r) {u : Value} {l : List RM} (hf : Frm v.o.ownBlock.toList W W1) (hat : ∀ g, u.ownBlock = some g → v.o.ownBlock = some g ∨ W.heap.size ≤ g) (ho : W1.ownsRow 0 134 4 u l.length (l.flatMap rmC)) : RTo W (W1.setCell ⟨b, 13, none⟩ u) b v { r with others := l } := by
  have hb : b ∉ v.o.ownBlock.toList := fun hm => (h.rows.not h.blk).1 (by simp only [Rv.all, List.mem_append]; simp [hm])
  have hblk := (hf.block b h.ltb hb).trans h.blk
  have ha := RAt.store hblk (h.rows.setO hf ho) 13 u rfl
  refine ⟨{ v with o := u }, rfl, ha, ((Frm.refl _ W).trans hf (fun k hk => .inl ?_)).trans (frm_set W1 b 13 u) (by simp [rfeet]), fun k hk => ?_⟩
  · simp only [rfeet, Rv.all, List.mem_cons, List.mem_append]; simp [hk]
  · simp only [rfeet, Rv.all, List.mem_cons, List.mem_append, Option.mem_toList] at hk ⊢
    rcases hk with hk | hk | hk | hk | hk | hk | hk
    · exact .inl (.inl hk)
    · exact (hat k hk).elim (fun hk => .inl (.inr (.inl hk))) .inr
    · exact .inl (.inr (.inr (.inl hk)))
    · exact .inl (.inr (.inr (.inr (.inl hk))))
    · exact .inl (.inr (.inr (.inr (.inr (.inl hk)))))
    · exact .inl (.inr (.inr (.inr (.inr (.inr (.inl hk))))))
    · exact .inl (.inr (.inr (.inr (.inr (.inr (.inr (hk)))))))
theorem RRows.setP {W W1 : World} {v : Rv} {r : Rn} (h : RRows W v r) {u : Value} (hf : Frm v.p.ownBlock.toList W W1) {l : List Int} (ho : W1.ownsRow 0 3 1 u l.length (l.flatMap intC)) (hs : ∀ g, u.ownBlock = some g → v.d.ownBlock ≠ some g) : RRows W1 { v with p := u } { r with pass := l } := by
  have hne : ∀ {e : TypeId} {z : Nat} {x : Value} {n : Nat} {xs : List Value}, 3 ≠ e → W.ownsRow 0 e z x n xs → W1.ownsRow 0 e z x n xs := fun he hx => own_frm hx hf (fun k hk hm => row_apart h.p hx he k (Option.mem_toList.1 hm) hk)
  have hd : PassAt W1 v.d r.draws := h.d.frm hf (fun k hk hm => h.sep k (Option.mem_toList.1 hm) hk)
  exact ⟨⟨hne (by decide) h.o, ho, hne (by decide) h.q, hne (by decide) h.l, hne (by decide) h.e, hne (by decide) h.x⟩, hd, hs⟩
theorem RAt.setP {W W1 : World} {b : Nat} {v : Rv} {r : Rn} (h : RAt W b v r) {u : Value} {l : List Int} (hf : Frm v.p.ownBlock.toList W W1) (hat : ∀ g, u.ownBlock = some g → v.p.ownBlock = some g ∨ W.heap.size ≤ g) (ho : W1.ownsRow 0 3 1 u l.length (l.flatMap intC)) : RTo W (W1.setCell ⟨b, 14, none⟩ u) b v { r with pass := l } := by
  have hb : b ∉ v.p.ownBlock.toList := fun hm => (h.rows.not h.blk).1 (by simp only [Rv.all, List.mem_append]; simp [hm])
  have hblk := (hf.block b h.ltb hb).trans h.blk
  have hs : ∀ g, u.ownBlock = some g → v.d.ownBlock ≠ some g := fun g hg hd => by
    rcases hat g hg with e | e
    · exact h.rows.sep g e hd
    · have := h.rows.d.lt hd; omega
  have ha := RAt.store hblk (h.rows.setP hf ho hs) 14 u rfl
  refine ⟨{ v with p := u }, rfl, ha, ((Frm.refl _ W).trans hf (fun k hk => .inl ?_)).trans (frm_set W1 b 14 u) (by simp [rfeet]), fun k hk => ?_⟩
  · simp only [rfeet, Rv.all, List.mem_cons, List.mem_append]; simp [hk]
  · simp only [rfeet, Rv.all, List.mem_cons, List.mem_append, Option.mem_toList] at hk ⊢
    rcases hk with hk | hk | hk | hk | hk | hk | hk
    · exact .inl (.inl hk)
    · exact .inl (.inr (.inl hk))
    · exact (hat k hk).elim (fun hk => .inl (.inr (.inr (.inl hk)))) .inr
    · exact .inl (.inr (.inr (.inr (.inl hk))))
    · exact .inl (.inr (.inr (.inr (.inr (.inl hk)))))
    · exact .inl (.inr (.inr (.inr (.inr (.inr (.inl hk))))))
    · exact .inl (.inr (.inr (.inr (.inr (.inr (.inr (hk)))))))
theorem RRows.setQ {W W1 : World} {v : Rv} {r : Rn} (h : RRows W v r) {u : Value} (hf : Frm v.q.ownBlock.toList W W1) {l : List RU} (ho : W1.ownsRow 0 158 4 u l.length (l.flatMap ruC)) : RRows W1 { v with q := u } { r with queue := l } := by
  have hne : ∀ {e : TypeId} {z : Nat} {x : Value} {n : Nat} {xs : List Value}, 158 ≠ e → W.ownsRow 0 e z x n xs → W1.ownsRow 0 e z x n xs := fun he hx => own_frm hx hf (fun k hk hm => row_apart h.q hx he k (Option.mem_toList.1 hm) hk)
  have hd : PassAt W1 v.d r.draws := h.d.frm hf (fun k hk hm => by
    obtain ⟨cs, h1⟩ := h.d.blk hk
    obtain ⟨cs', h2⟩ := own_blk h.q (Option.mem_toList.1 hm)
    rw [h1] at h2
    simp only [Option.some.injEq, Obj.cells.injEq] at h2
    exact absurd h2.2.1 (by decide))
  exact ⟨⟨hne (by decide) h.o, hne (by decide) h.p, ho, hne (by decide) h.l, hne (by decide) h.e, hne (by decide) h.x⟩, hd, h.sep⟩
theorem RAt.setQ {W W1 : World} {b : Nat} {v : Rv} {r : Rn} (h : RAt W b v r) {u : Value} {l : List RU} (hf : Frm v.q.ownBlock.toList W W1) (hat : ∀ g, u.ownBlock = some g → v.q.ownBlock = some g ∨ W.heap.size ≤ g) (ho : W1.ownsRow 0 158 4 u l.length (l.flatMap ruC)) : RTo W (W1.setCell ⟨b, 19, none⟩ u) b v { r with queue := l } := by
  have hb : b ∉ v.q.ownBlock.toList := fun hm => (h.rows.not h.blk).1 (by simp only [Rv.all, List.mem_append]; simp [hm])
  have hblk := (hf.block b h.ltb hb).trans h.blk
  have ha := RAt.store hblk (h.rows.setQ hf ho) 19 u rfl
  refine ⟨{ v with q := u }, rfl, ha, ((Frm.refl _ W).trans hf (fun k hk => .inl ?_)).trans (frm_set W1 b 19 u) (by simp [rfeet]), fun k hk => ?_⟩
  · simp only [rfeet, Rv.all, List.mem_cons, List.mem_append]; simp [hk]
  · simp only [rfeet, Rv.all, List.mem_cons, List.mem_append, Option.mem_toList] at hk ⊢
    rcases hk with hk | hk | hk | hk | hk | hk | hk
    · exact .inl (.inl hk)
    · exact .inl (.inr (.inl hk))
    · exact .inl (.inr (.inr (.inl hk)))
    · exact (hat k hk).elim (fun hk => .inl (.inr (.inr (.inr (.inl hk))))) .inr
    · exact .inl (.inr (.inr (.inr (.inr (.inl hk)))))
    · exact .inl (.inr (.inr (.inr (.inr (.inr (.inl hk))))))
    · exact .inl (.inr (.inr (.inr (.inr (.inr (.inr (hk)))))))
theorem RRows.setL {W W1 : World} {v : Rv} {r : Rn} (h : RRows W v r) {u : Value} (hf : Frm v.l.ownBlock.toList W W1) {l : List Rel} (ho : W1.ownsRow 0 132 5 u l.length (l.flatMap rrC)) : RRows W1 { v with l := u } { r with rels := l } := by
  have hne : ∀ {e : TypeId} {z : Nat} {x : Value} {n : Nat} {xs : List Value}, 132 ≠ e → W.ownsRow 0 e z x n xs → W1.ownsRow 0 e z x n xs := fun he hx => own_frm hx hf (fun k hk hm => row_apart h.l hx he k (Option.mem_toList.1 hm) hk)
  have hd : PassAt W1 v.d r.draws := h.d.frm hf (fun k hk hm => by
    obtain ⟨cs, h1⟩ := h.d.blk hk
    obtain ⟨cs', h2⟩ := own_blk h.l (Option.mem_toList.1 hm)
    rw [h1] at h2
    simp only [Option.some.injEq, Obj.cells.injEq] at h2
    exact absurd h2.2.1 (by decide))
  exact ⟨⟨hne (by decide) h.o, hne (by decide) h.p, hne (by decide) h.q, ho, hne (by decide) h.e, hne (by decide) h.x⟩, hd, h.sep⟩
theorem RAt.setL {W W1 : World} {b : Nat} {v : Rv} {r : Rn} (h : RAt W b v r) {u : Value} {l : List Rel} (hf : Frm v.l.ownBlock.toList W W1) (hat : ∀ g, u.ownBlock = some g → v.l.ownBlock = some g ∨ W.heap.size ≤ g) (ho : W1.ownsRow 0 132 5 u l.length (l.flatMap rrC)) : RTo W (W1.setCell ⟨b, 20, none⟩ u) b v { r with rels := l } := by
  have hb : b ∉ v.l.ownBlock.toList := fun hm => (h.rows.not h.blk).1 (by simp only [Rv.all, List.mem_append]; simp [hm])
  have hblk := (hf.block b h.ltb hb).trans h.blk
  have ha := RAt.store hblk (h.rows.setL hf ho) 20 u rfl
  refine ⟨{ v with l := u }, rfl, ha, ((Frm.refl _ W).trans hf (fun k hk => .inl ?_)).trans (frm_set W1 b 20 u) (by simp [rfeet]), fun k hk => ?_⟩
  · simp only [rfeet, Rv.all, List.mem_cons, List.mem_append]; simp [hk]
  · simp only [rfeet, Rv.all, List.mem_cons, List.mem_append, Option.mem_toList] at hk ⊢
    rcases hk with hk | hk | hk | hk | hk | hk | hk
    · exact .inl (.inl hk)
    · exact .inl (.inr (.inl hk))
    · exact .inl (.inr (.inr (.inl hk)))
    · exact .inl (.inr (.inr (.inr (.inl hk))))
    · exact (hat k hk).elim (fun hk => .inl (.inr (.inr (.inr (.inr (.inl hk)))))) .inr
    · exact .inl (.inr (.inr (.inr (.inr (.inr (.inl hk))))))
    · exact .inl (.inr (.inr (.inr (.inr (.inr (.inr (hk)))))))
theorem RRows.setE {W W1 : World} {v : Rv} {r : Rn} (h : RRows W v r) {u : Value} (hf : Frm v.e.ownBlock.toList W W1) {l : List K3} (ho : W1.ownsRow 0 58 3 u l.length (l.flatMap keyC)) : RRows W1 { v with e := u } { r with evs := l } := by
  have hne : ∀ {e : TypeId} {z : Nat} {x : Value} {n : Nat} {xs : List Value}, 58 ≠ e → W.ownsRow 0 e z x n xs → W1.ownsRow 0 e z x n xs := fun he hx => own_frm hx hf (fun k hk hm => row_apart h.e hx he k (Option.mem_toList.1 hm) hk)
  have hd : PassAt W1 v.d r.draws := h.d.frm hf (fun k hk hm => by
    obtain ⟨cs, h1⟩ := h.d.blk hk
    obtain ⟨cs', h2⟩ := own_blk h.e (Option.mem_toList.1 hm)
    rw [h1] at h2
    simp only [Option.some.injEq, Obj.cells.injEq] at h2
    exact absurd h2.2.1 (by decide))
  exact ⟨⟨hne (by decide) h.o, hne (by decide) h.p, hne (by decide) h.q, hne (by decide) h.l, ho, hne (by decide) h.x⟩, hd, h.sep⟩
theorem RAt.setE {W W1 : World} {b : Nat} {v : Rv} {r : Rn} (h : RAt W b v r) {u : Value} {l : List K3} (hf : Frm v.e.ownBlock.toList W W1) (hat : ∀ g, u.ownBlock = some g → v.e.ownBlock = some g ∨ W.heap.size ≤ g) (ho : W1.ownsRow 0 58 3 u l.length (l.flatMap keyC)) : RTo W (W1.setCell ⟨b, 22, none⟩ u) b v { r with evs := l } := by
  have hb : b ∉ v.e.ownBlock.toList := fun hm => (h.rows.not h.blk).1 (by simp only [Rv.all, List.mem_append]; simp [hm])
  have hblk := (hf.block b h.ltb hb).trans h.blk
  have ha := RAt.store hblk (h.rows.setE hf ho) 22 u rfl
  refine ⟨{ v with e := u }, rfl, ha, ((Frm.refl _ W).trans hf (fun k hk => .inl ?_)).trans (frm_set W1 b 22 u) (by simp [rfeet]), fun k hk => ?_⟩
  · simp only [rfeet, Rv.all, List.mem_cons, List.mem_append]; simp [hk]
  · simp only [rfeet, Rv.all, List.mem_cons, List.mem_append, Option.mem_toList] at hk ⊢
    rcases hk with hk | hk | hk | hk | hk | hk | hk
    · exact .inl (.inl hk)
    · exact .inl (.inr (.inl hk))
    · exact .inl (.inr (.inr (.inl hk)))
    · exact .inl (.inr (.inr (.inr (.inl hk))))
    · exact .inl (.inr (.inr (.inr (.inr (.inl hk)))))
    · exact (hat k hk).elim (fun hk => .inl (.inr (.inr (.inr (.inr (.inr (.inl hk))))))) .inr
    · exact .inl (.inr (.inr (.inr (.inr (.inr (.inr (hk)))))))
theorem RRows.setX {W W1 : World} {v : Rv} {r : Rn} (h : RRows W v r) {u : Value} (hf : Frm v.x.ownBlock.toList W W1) {l : List Pk} (ho : W1.ownsRow 0 60 2 u l.length (l.flatMap pkC)) : RRows W1 { v with x := u } { r with out := l } := by
  have hne : ∀ {e : TypeId} {z : Nat} {x : Value} {n : Nat} {xs : List Value}, 60 ≠ e → W.ownsRow 0 e z x n xs → W1.ownsRow 0 e z x n xs := fun he hx => own_frm hx hf (fun k hk hm => row_apart h.x hx he k (Option.mem_toList.1 hm) hk)
  have hd : PassAt W1 v.d r.draws := h.d.frm hf (fun k hk hm => by
    obtain ⟨cs, h1⟩ := h.d.blk hk
    obtain ⟨cs', h2⟩ := own_blk h.x (Option.mem_toList.1 hm)
    rw [h1] at h2
    simp only [Option.some.injEq, Obj.cells.injEq] at h2
    exact absurd h2.2.1 (by decide))
  exact ⟨⟨hne (by decide) h.o, hne (by decide) h.p, hne (by decide) h.q, hne (by decide) h.l, hne (by decide) h.e, ho⟩, hd, h.sep⟩
theorem RAt.setX {W W1 : World} {b : Nat} {v : Rv} {r : Rn} (h : RAt W b v r) {u : Value} {l : List Pk} (hf : Frm v.x.ownBlock.toList W W1) (hat : ∀ g, u.ownBlock = some g → v.x.ownBlock = some g ∨ W.heap.size ≤ g) (ho : W1.ownsRow 0 60 2 u l.length (l.flatMap pkC)) : RTo W (W1.setCell ⟨b, 24, none⟩ u) b v { r with out := l } := by
  have hb : b ∉ v.x.ownBlock.toList := fun hm => (h.rows.not h.blk).1 (by simp only [Rv.all, List.mem_append]; simp [hm])
  have hblk := (hf.block b h.ltb hb).trans h.blk
  have ha := RAt.store hblk (h.rows.setX hf ho) 24 u rfl
  refine ⟨{ v with x := u }, rfl, ha, ((Frm.refl _ W).trans hf (fun k hk => .inl ?_)).trans (frm_set W1 b 24 u) (by simp [rfeet]), fun k hk => ?_⟩
  · simp only [rfeet, Rv.all, List.mem_cons, List.mem_append]; simp [hk]
  · simp only [rfeet, Rv.all, List.mem_cons, List.mem_append, Option.mem_toList] at hk ⊢
    rcases hk with hk | hk | hk | hk | hk | hk | hk
    · exact .inl (.inl hk)
    · exact .inl (.inr (.inl hk))
    · exact .inl (.inr (.inr (.inl hk)))
    · exact .inl (.inr (.inr (.inr (.inl hk))))
    · exact .inl (.inr (.inr (.inr (.inr (.inl hk)))))
    · exact .inl (.inr (.inr (.inr (.inr (.inr (.inl hk))))))
    · exact (hat k hk).elim (fun hk => .inl (.inr (.inr (.inr (.inr (.inr (.inr (hk)))))))) .inr
/-- A row's growth, as a frame. -/
theorem frm_grown {w w' : World} {v : Value} (h : w.grownBy w' v.ownBlock) : Frm v.ownBlock.toList w w' := Frm.of_grown h (fun k hk => .inl (by simp [hk]))
end Go.Proofs.YtnneljcbelgoeaaGreatDoor.wire
