import Derived.Test.YtnneljcbelgoeaaGreatCopy
import Derived.Test.YtnneljcbelgoeaaGreatNTick5
import Derived.Test.YtnneljcbelgoeaaGreatShelf
/- append of a whole row onto a row. -/
namespace Go.Proofs.YtnneljcbelgoeaaGreat.wire
open Go.RowKit

/-- append of a whole row onto a row that is owned. -/
theorem wpList_append_rows {P : Program} {w : World} {ops : Array Oper} {rest : List Oper} {o : Oper} {a : Act} {Q : Exit → Act → World → Prop} (hgd : o.guard = none) (s x : Operand) (t : TypeId)
    (ho : o.op = .call { callee := .builtin .append, args := #[s, x], argTypes := #[t, t] })
    (base base2 : Nat) (e : TypeId) (i : TypeInfo) (z : Value) (size bytes : Nat) (ht : P.underlying t = some (.slice e)) (hi : P.info? e = some i) (hz : i.zero = some z)
    (hsize : i.size = size) (hby : i.bytes = bytes) (hzs : z.cells.size = size) (hsz : 0 < size)
    (v1 : Value) (n1 : Nat) (xs1 : List Value) (v : Value) (n : Nat) (xs : List Value) (hs : a.eval s = v1) (hx : a.eval x = v) (hown1 : w.ownsRow base e size v1 n1 xs1) (hown : w.ownsRow base2 e size v n xs) (h1 : ∀ u ∈ xs, u.oneCell' = true)
    (h63 : n1 + n ≤ maxLen) (hbytes : (n1 + n) * bytes ≤ 140737488355328) (hbase : base ≤ w.heap.size)
    (h : ∀ v' w', w'.ownsRow base e size v' (n1 + n) (xs1 ++ xs) → w.grownBy w' v1.ownBlock → wpList P ops Q rest (a.put o.dst v') w') : wpList P ops Q (o :: rest) a w := by
  refine wpList_plain hgd fun K hK => ?_
  rcases hown.2 with ⟨rfl, h0⟩ | ⟨g, cap, cur, rfl, _, hh, _, _, _, _⟩
  · have hx0 : xs = [] := List.eq_nil_of_length_eq_zero (by rw [hown.1, h0]; simp)
    subst hx0
    have hrun : (Builtin.append_ #[t, t] o.type #[v1, .slice none 0 0]).run P w = .ok v1 w := by
      rcases hown1.2 with ⟨rfl, _⟩ | ⟨g, cap, cur, rfl, _, _, hc, _, _, _⟩
      · simp [Builtin.append_, run_underlying ht, sizeOf, typeInfo, hi, Builtin.lenOf, Builtin.firstCells]
      · simp [Builtin.append_, run_underlying ht, sizeOf, typeInfo, hi, Builtin.lenOf, Builtin.firstCells, hc, storeCells]
    unfold Oper.wp
    simp [execOp, ho, resolve, invoke, builtin, hs, hx, hrun, Result.andThen]
    exact hK _ _ (h _ _ (by rw [h0]; simpa using hown1) ⟨rfl, rfl, rfl, Nat.le_refl _, fun _ _ _ => rfl⟩)
  · obtain ⟨v', w', hrun, r1, r2, _⟩ := run_append_own (P := P) w base t o.type e i z size bytes ht hi hz hsize hby hzs hsz v1 n1 xs1 hown1 ⟨g, 0, none⟩ n cap xs hown.1 (fun j u hu => by
      have hj : j < n * size := by have := (List.getElem?_eq_some_iff.1 hu).1; have := hown.1; omega
      have hadd : (⟨g, 0, none⟩ : Addr).add j = ⟨g, j, none⟩ := by unfold Addr.add; split <;> simp_all
      rw [hadd, hown.cellAt j hj]
      exact hu) h1 h63 hbytes hbase
    unfold Oper.wp
    simp [execOp, ho, resolve, invoke, builtin, hs, hx, hrun, Result.andThen]
    exact hK _ _ (h _ _ r1 r2)
end Go.Proofs.YtnneljcbelgoeaaGreat.wire
/- slices.Delete of one number. -/
namespace Go.Proofs.YtnneljcbelgoeaaGreat.wire
open Go.RowKit Go.Maps Go.Sort

theorem IntsAt.holds {w : World} {g n : Nat} {l : List Int} (h : IntsAt w g n l) : Holds (Value.int .i64) w g 0 l.toArray := by
  obtain ⟨cur, hg, hs, hc⟩ := h.ex
  intro i hi
  have hi' : i < l.length := by simpa using hi
  refine ⟨?_, free_at hg _⟩
  rw [cell_at hg, Nat.zero_add, hc i hi', getElem!_pos l.toArray i hi]
  simp
theorem IntsAt.put {w : World} {g n : Nat} {l : List Int} (h : IntsAt w g n l) (d : List Int) (hd : d.length = l.length) (q : Nat) : IntsAt (putRow (Value.int .i64) (Sort.ahead w q) g 0 d.toArray) g n d ∧ Frm [g] w (putRow (Value.int .i64) (Sort.ahead w q) g 0 d.toArray) := by
  obtain ⟨cur, hg, hs, hc⟩ := h.ex
  have hlt : g < w.heap.size := lt_blk hg
  refine ⟨⟨putCells (Value.int .i64) 0 d.toArray cur, ?_, by simp [putCells, hs], fun i hi => ?_⟩, ⟨rfl, rfl, rfl, ?_, fun k hk hn => ?_⟩⟩
  · simp only [putRow, mapBlock, Sort.ahead]
    rw [Array.getElem?_modify, if_pos rfl, hg]
    rfl
  · have hcs : i < cur.size := (Array.getElem?_eq_some_iff.1 (hc i (by omega))).1
    simp only [putCells]
    rw [Array.getElem?_mapIdx, Array.getElem?_eq_getElem hcs, Option.map_some, if_pos (by simp; omega), Nat.sub_zero, getElem!_pos d.toArray i (by simpa using hi)]
    simp
  · simp [putRow, mapBlock, Sort.ahead]
  · simp only [putRow, mapBlock, Sort.ahead]
    rw [Array.getElem?_modify, if_neg (fun e => hn (by simp [e]))]
theorem delete_any {w : World} {g n cap : Nat} {l : List Int} (h : IntsAt w g n l) (hcap : l.length ≤ cap) (hm : cap ≤ maxLen) (j : Nat) (hj : j < l.length) :
    Calls Tryz.prog 89 #[.slice (some ⟨g, 0, none⟩) l.length cap, .int .i64 j, .int .i64 ((j : Int) + 1)] w fun e w' => e = .returned (.slice (some ⟨g, 0, none⟩) (l.length - 1) cap) ∧ IntsAt w' g n (l.eraseIdx j) ∧ Frm [g] w w' := by
  have hD := AnyG.slices_Delete_int Tryz.delA g 0 cap j (j + 1) l w h.holds hcap (by unfold maxLen at hm; omega) (by omega) (by omega)
  rw [show ((j + 1 : Nat) : Int) = (j : Int) + 1 by simp] at hD
  refine hD.mono ?_
  rintro e w' ⟨rfl, q, rfl⟩
  rw [show j + 1 - j = 1 by omega]
  have hlen : (l.take j ++ l.drop (j + 1) ++ List.replicate 1 (0 : Int)).length = l.length := by simp; omega
  obtain ⟨hi, hf⟩ := h.put (l.take j ++ l.drop (j + 1) ++ List.replicate 1 0) hlen q
  refine ⟨rfl, ?_, hf⟩
  obtain ⟨cur, hg, hs, hc⟩ := hi.ex
  refine ⟨cur, hg, hs, fun i hi => ?_⟩
  have hel : l.eraseIdx j = l.take j ++ l.drop (j + 1) := List.eraseIdx_eq_take_drop_succ l j
  have hi2 : i < (l.take j ++ l.drop (j + 1)).length := by rw [← hel]; exact hi
  have := hc i (by simp at hi2 ⊢; omega)
  rw [this, List.getElem_append_left hi2]
  simp only [hel]
end Go.Proofs.YtnneljcbelgoeaaGreat.wire
