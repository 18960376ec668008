import Derived.Test.YtnneljcbelgoeaaGreatNBound
import Derived.Test.YtnneljcbelgoeaaGreatNTick8
import Derived.Test.YtnneljcbelgoeaaGreatNCalm
import Derived.Test.YtnneljcbelgoeaaGreatCopy
/- Packets that are drained: a slice that is cut at its head and appended to. -/
namespace Go.Proofs.YtnneljcbelgoeaaGreat.wire
open Go.RowKit Go.Maps

/-- One packet, wherever it lies in its block. -/
structure PkRow (w : World) (v : Value) (p : Pk) : Prop where
  ex : ∃ g off c cs, v = .slice (some ⟨g, off, none⟩) 1 c ∧ 1 ≤ c ∧ c ≤ maxLen ∧ w.heap[g]? = some (.cells cs 39 (0, 0)) ∧ off + 2 * c ≤ cs.size ∧ cs[off]? = some (.int .i64 p.dest) ∧ cs[off + 1]? = some (.string (bs p.bytes))
/-- None, behind a cut. -/
structure NoRow (w : World) (v : Value) : Prop where
  ex : ∃ g off c cs, v = .slice (some ⟨g, off, none⟩) 0 c ∧ c ≤ maxLen ∧ w.heap[g]? = some (.cells cs 39 (0, 0)) ∧ off + 2 * c ≤ cs.size
theorem PkRow.of_outs {W w : World} {o : Value} {p : Pk} (h : Outs W w o [p]) : PkRow w o p := by
  rcases h.2 with ⟨_, e0⟩ | ⟨g, cap, cur, rfl, hgb, hg, h1, h2, h3, h4⟩
  · simp at e0
  · have hc : ∀ j, j < 2 → cur[j]? = (pkC p)[j]? := fun j hj => by
      have e : ([p].flatMap pkC) = pkC p := by simp
      rw [e] at h4
      rw [← h4, List.getElem?_take, if_pos (by simp; omega), Array.getElem?_toList]
    refine ⟨g, 0, cap, cur, rfl, by simpa using h1, h2, hg, by omega, ?_, ?_⟩
    · exact hc 0 (by omega)
    · exact hc 1 (by omega)
theorem PkRow.below {w w' : World} {v : Value} {p : Pk} (h : PkRow w v p) (hb : Below w.heap.size w w') : PkRow w' v p := by
  obtain ⟨g, off, c, cs, e, h1, h2, hg, h3, h4, h5⟩ := h.ex
  exact ⟨g, off, c, cs, e, h1, h2, (hb.block g (lt_blk hg)).trans hg, h3, h4, h5⟩
theorem NoRow.below {w w' : World} {v : Value} (h : NoRow w v) (hb : Below w.heap.size w w') : NoRow w' v := by
  obtain ⟨g, off, c, cs, e, h2, hg, h3⟩ := h.ex
  exact ⟨g, off, c, cs, e, h2, (hb.block g (lt_blk hg)).trans hg, h3⟩
theorem NoRow.aside {wr w' : World} {nb mb : Nat} {cb : Dk} {y y' : Nd} {pv rv v : Value} (h : NoRow wr v) (hn : NAt wr nb mb cb pv rv y) (hto : NTo wr w' nb mb cb pv rv y') : NoRow w' v := by
  obtain ⟨g, off, c, cs, e, h2, hg, h3⟩ := h.ex
  exact ⟨g, off, c, cs, e, h2, Mine.aside hn hto hg (by decide) (by decide) (by decide) (by decide), h3⟩
/-- append of one packet behind a cut. -/
theorem append_tail {w : World} {v : Value} (h : NoRow w v) (ty : TypeId) {p : Pk} {g2 cap2 : Nat} (c0 : w.cell? ⟨g2, 0, none⟩ = some (.int .i64 p.dest)) (c1 : w.cell? ⟨g2, 1, none⟩ = some (.string (bs p.bytes))) :
    ∃ v' w', (Builtin.append_ #[36, 36] ty #[v, .slice (some ⟨g2, 0, none⟩) 1 cap2]).run Tryz.prog w = .ok v' w' ∧ PkRow w' v' p ∧ ∃ g, v.ownBlock = some g ∧ Frm [g] w w' := by
  obtain ⟨ti, hti, hz0, hz1, hz2⟩ := info_parts Tryz.infoPkL
  obtain ⟨g, off, c, cs, rfl, hcm, hg, hfit⟩ := h.ex
  have hnews : ∀ j u, ([.int .i64 p.dest, .string (bs p.bytes)] : List Value)[j]? = some u → w.cell? ((⟨g2, 0, none⟩ : Addr).add j) = some u := fun j u hu => by
    have hadd : (⟨g2, 0, none⟩ : Addr).add j = ⟨g2, j, none⟩ := by unfold Addr.add; split <;> simp_all
    rw [hadd]
    match j with
    | 0 => simp at hu; rw [c0, hu]
    | 1 => simp at hu; rw [c1, hu]
    | j + 2 => simp at hu
  have hone : ∀ u ∈ ([.int .i64 p.dest, .string (bs p.bytes)] : List Value), u.oneCell' = true := by
    intro u hu
    simp at hu
    rcases hu with rfl | rfl <;> rfl
  by_cases hc : 1 ≤ c
  · have hf := run_firstCells_some (P := Tryz.prog) w 2 1 ⟨g2, 0, none⟩ 1 cap2 [.int .i64 p.dest, .string (bs p.bytes)] rfl hnews
    have hst := run_storeCells_at Tryz.prog g off 39 [.int .i64 p.dest, .string (bs p.bytes)] 0 cs w hg (by simp; omega) hone
    simp only [Nat.add_zero] at hst
    obtain ⟨R, hR⟩ : ∃ R : Array Value, R = (cs.toList.take off ++ ([.int .i64 p.dest, .string (bs p.bytes)] : List Value) ++ cs.toList.drop (off + ([.int .i64 p.dest, .string (bs p.bytes)] : List Value).length)).toArray := ⟨_, rfl⟩
    rw [← hR] at hst
    have hl : (cs.toList.take off).length = off := by simp; omega
    refine ⟨.slice (some ⟨g, off, none⟩) 1 c, w.setRow g R, ?_, ⟨g, off, c, R, rfl, hc, hcm, setRow_heap w g cs R 39 _ hg, ?_, ?_, ?_⟩, g, rfl, ⟨rfl, rfl, rfl, by simp [World.setRow], fun k _ hk => setRow_other w g k R (by simpa using hk)⟩⟩
    · simp [Builtin.append_, run_underlying Tryz.underlying36, sizeOf, typeInfo, hti, hz1, Builtin.lenOf, hc, hf, Addr.add_lit, hst]
    · rw [hR]; simp; omega
    · rw [hR, List.getElem?_toArray, List.append_assoc, List.getElem?_append_right (by omega), hl, Nat.sub_self]; rfl
    · rw [hR, List.getElem?_toArray, List.append_assoc, List.getElem?_append_right (by omega), hl, show off + 1 - off = 1 by omega]; rfl
  · obtain rfl : c = 0 := by omega
    have hr := run_append_grow (P := Tryz.prog) w 36 ty 39 ti (.agg #[.int .i64 0, .string ⟨#[]⟩]) Tryz.underlying36 hti hz0 ⟨g, off, none⟩ 0 0 [] (by simp) (by simp) ⟨g2, 0, none⟩ 1 cap2 [.int .i64 p.dest, .string (bs p.bytes)] (by rw [hz1]; rfl) hnews (by omega) (by omega) (by rw [hz2]; exact growslice_fits (by omega) (by omega))
    refine ⟨_, _, hr, ⟨w.heap.size, 0, _, _, rfl, grownCap_ge w _ _ _, grownCap_le_maxLen w _ _ _ (by unfold maxLen; omega), heap_alloc_new w.drew _, ?_, ?_, ?_⟩, g, rfl, (Frm.of_below (bdrew (Below.refl _ w)) (Nat.le_refl _)).alloc _⟩
    · have := grownCap_ge w (0 + 1) 0 39
      simp [size_zeroCells, Value.cells]
      omega
    · rw [Array.getElem?_append_left (by simp)]; rfl
    · rw [Array.getElem?_append_left (by simp)]; rfl
end Go.Proofs.YtnneljcbelgoeaaGreat.wire
/- Nodes in memory, whatever they know; append behind a cut, as a step. -/
namespace Go.Proofs.YtnneljcbelgoeaaGreat.wire
open Go.RowKit Go.Maps

/-- The nodes xs, their pointers in the slice lv. -/
structure NI (W wr : World) (lv : Value) (xs : List Nd) : Prop where
  ex : ∃ L : List Nn, Nodes wr L ∧ L.map Nn.x = xs ∧ wr.ownsRow W.heap.size 25 1 lv xs.length (L.map fun a => ptrV a.nb) ∧ ∀ a ∈ L, ∀ k ∈ a.feet, W.heap.size ≤ k
  below : Below W.heap.size W wr
theorem NI.of_mi {W wr : World} {lv : Value} {n : Nat} {B : Int} {xs : List Nd} (h : MI W wr lv n B xs) : NI W wr lv xs := ⟨h.ex, h.below⟩
theorem NI.mono {W wr w' : World} {lv : Value} {xs : List Nd} (h : NI W wr lv xs) (hb : Below wr.heap.size wr w') : NI W w' lv xs := by
  obtain ⟨L, h1, h2, h3, h4⟩ := h.ex
  exact ⟨⟨L, h1.below hb, h2, own_below2 h3 hb, h4⟩, h.below.trans (hb.mono h.below.size)⟩
theorem NI.drew {W wr : World} {lv : Value} {xs : List Nd} (h : NI W wr lv xs) : NI W wr.drew lv xs := by
  obtain ⟨L, h1, h2, h3, h4⟩ := h.ex
  exact ⟨⟨L, h1.drew, h2, h3, h4⟩, h.below.drew⟩
/-- A call on node j. -/
theorem NI.call {W wr : World} {lv : Value} {xs : List Nd} (h : NI W wr lv xs) (j : Nat) (hj : j < xs.length) :
    ∃ nb mb cb pv rv g cap, lv = .slice (some ⟨g, 0, none⟩) xs.length cap ∧ wr.cell? ⟨g, j, none⟩ = some (.pointer (some ⟨nb, 0, none⟩)) ∧ (∃ cs, wr.heap[g]? = some (.cells cs 25 (0, 0))) ∧ NAt wr nb mb cb pv rv xs[j] ∧
      ∀ (w' : World) (x' : Nd), NTo wr w' nb mb cb pv rv x' → NI W w' lv (xs.set j x') ∧ Kept wr w' := by
  obtain ⟨L, hL, hx, hrow, hfr⟩ := h.ex
  have hll : L.length = xs.length := by rw [← hx]; simp
  have hjL : j < L.length := by omega
  have hxj : (L[j]).x = xs[j] := by simp [← hx]
  have hrow0 := hrow
  rcases hrow.2 with ⟨e, e0⟩ | ⟨g, cap, cur, rfl, hgb, hg, h1, h2, h3, h4⟩
  · omega
  have hcell : ∀ w' : World, w'.heap[g]? = some (.cells cur 25 (0, 0)) → w'.cell? ⟨g, j, none⟩ = some (.pointer (some ⟨(L[j]).nb, 0, none⟩)) := fun w' hg' => by
    rw [cell_at hg', ← Array.getElem?_toList]
    have e2 : cur.toList[j]? = (cur.toList.take (xs.length * 1))[j]? := by rw [List.getElem?_take_of_lt (by omega)]
    rw [e2, h4, List.getElem?_map, List.getElem?_eq_getElem hjL]; rfl
  refine ⟨(L[j]).nb, (L[j]).mb, (L[j]).cb, (L[j]).pv, (L[j]).rv, g, cap, rfl, hcell wr hg, ⟨cur, hg⟩, ?_, fun w' x' ht => ?_⟩
  · have := hL.here j hjL
    unfold Nn.At at this
    rwa [hxj] at this
  · have hat : NAt wr (L[j]).nb (L[j]).mb (L[j]).cb (L[j]).pv (L[j]).rv (L[j]).x := hL.here j hjL
    have hnf := hat.not_feet hg (by decide) (by decide) (by decide) (by decide)
    obtain ⟨pv', rv', hnodes, hnew⟩ := hL.step j hjL ht
    obtain ⟨pv2, rv2, hn2, hf2, hs2⟩ := ht
    refine ⟨⟨⟨L.set j ⟨(L[j]).nb, (L[j]).mb, (L[j]).cb, pv', rv', x'⟩, hnodes, ?_, ?_, ?_⟩, ?_⟩, fun b cs t hb t1 t2 t3 t4 => (hf2.block b (lt_blk hb) (hat.not_feet hb t1 t2 t3 t4)).trans hb⟩
    · rw [List.map_set, hx]
    · have e3 : (L.set j ⟨(L[j]).nb, (L[j]).mb, (L[j]).cb, pv', rv', x'⟩).map (fun a => ptrV a.nb) = L.map (fun a => ptrV a.nb) := by
        rw [List.map_set]
        have : ptrV (L[j]).nb = (L.map (fun a => ptrV a.nb))[j]'(by simpa using hjL) := by simp
        rw [this, List.set_getElem_self]
      rw [e3, List.length_set]
      exact own_frm hrow0 hf2 (fun k hk => by simp [Value.ownBlock] at hk; subst hk; exact hnf)
    · intro a ha k hk
      rcases List.mem_or_eq_of_mem_set ha with ha | ha
      · exact hfr a ha k hk
      · subst ha
        rcases hnew k hk with h1 | h1
        · exact hfr _ (List.getElem_mem hjL) k h1
        · exact Nat.le_trans h.below.size h1
    · refine ⟨hf2.os.trans h.below.os, hf2.tape.trans h.below.tape, hf2.output.trans h.below.output, Nat.le_trans h.below.size hf2.size, fun k hk => ?_⟩
      have hk' : k < wr.heap.size := Nat.lt_of_lt_of_le hk h.below.size
      refine (hf2.block k hk' (fun hm => ?_)).trans (h.below.block k hk)
      have := hfr _ (List.getElem_mem hjL) k hm
      omega
/-- A block of packets of the law's own may turn. -/
theorem NI.frm {W w w' : World} {lv : Value} {xs : List Nd} (h : NI W w lv xs) {b : Nat} {cs : Array Value} (hb : w.heap[b]? = some (.cells cs 39 (0, 0))) (hW : W.heap.size ≤ b) (hf : Frm [b] w w') : NI W w' lv xs := by
  obtain ⟨L, h1, h2, h3, h4⟩ := h.ex
  refine ⟨⟨L, ⟨fun i hi => ?_, h1.apart⟩, h2, own_frm h3 hf (fun k hk e => ?_), h4⟩, below_frm h.below hf (by simpa using hW) h.below.size⟩
  · have hat := h1.here i hi
    refine NAt.frm hat hf (fun k hk e => ?_)
    simp only [List.mem_singleton] at e
    subst e
    exact hat.not_feet hb (by decide) (by decide) (by decide) (by decide) hk
  · simp only [List.mem_singleton] at e
    subst e
    obtain ⟨cs', hcs'⟩ := own_blk h3 hk
    rw [hb] at hcs'
    cases hcs'
/-- append, as a step. -/
theorem wpList_append_run {P : Program} {w : World} {ops : Array Oper} {rest : List Oper} {o : Oper} {a : Act} {Q : Exit → Act → World → Prop} (hgd : o.guard = none) (s x : Operand) (t : TypeId)
    (ho : o.op = .call { callee := .builtin .append, args := #[s, x], argTypes := #[t, t] }) {v u v' : Value} {w' : World} (hs : a.eval s = v) (hx : a.eval x = u) (hrun : (Builtin.append_ #[t, t] o.type #[v, u]).run P w = .ok v' w')
    (h : wpList P ops Q rest (a.put o.dst v') w') : wpList P ops Q (o :: rest) a w := by
  refine wpList_plain hgd fun K hK => ?_
  unfold Oper.wp
  simp [execOp, ho, resolve, invoke, builtin, hs, hx, hrun, Result.andThen]
  exact hK _ _ h
/-- append of none behind a cut. -/
theorem append_none {w : World} {v : Value} (h : NoRow w v) (ty : TypeId) (ao : Option Addr) (cap2 : Nat) :
    (Builtin.append_ #[36, 36] ty #[v, .slice ao 0 cap2]).run Tryz.prog w = .ok v w := by
  obtain ⟨ti, hti, hz0, hz1, hz2⟩ := info_parts Tryz.infoPkL
  obtain ⟨g, off, c, cs, rfl, hcm, hg, hfit⟩ := h.ex
  cases ao <;> simp [Builtin.append_, run_underlying Tryz.underlying36, sizeOf, typeInfo, hti, hz1, Builtin.lenOf, Builtin.firstCells, loadCells, loadCellsFrom, storeCells, Result.andThen]
end Go.Proofs.YtnneljcbelgoeaaGreat.wire
