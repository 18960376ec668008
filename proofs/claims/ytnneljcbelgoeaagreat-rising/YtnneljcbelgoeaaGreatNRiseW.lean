import Derived.Test.YtnneljcbelgoeaaGreatNUps
import Derived.Test.YtnneljcbelgoeaaGreatNBound
import Derived.Test.YtnneljcbelgoeaaGreatMessage
import Derived.Deep.CutRange
/- Rising: what a node knows never falls. -/
namespace Go.Proofs.YtnneljcbelgoeaaGreat.wire
open Go.RowKit Go.Maps

set_option maxHeartbeats 1000000 in
theorem greaterK_any (a b : K3) (w : World) : Calls Tryz.prog 16 #[.agg #[.int .i64 a.id, .int .i64 a.inc, .int .i64 a.st], .agg #[.int .i64 b.id, .int .i64 b.inc, .int .i64 b.st]] w fun e w' => e = .returned (.bool (greaterB a b)) ∧ Below w.heap.size w w' := by
  have hz : Below w.heap.size w ((w.alloc (.cells #[.int .i64 a.id, .int .i64 a.inc, .int .i64 a.st] 31)).alloc (.cells #[.int .i64 b.id, .int .i64 b.inc, .int .i64 b.st] 31)) := ((Below.refl _ _).alloc (Nat.le_refl _) _).alloc (by simp) _
  by_cases h : a.inc = b.inc
  · have h1 : (a.inc == b.inc) = true := by simp [h]
    have h2 : ¬ b.inc < a.inc := by omega
    have h3 : decide (b.inc < a.inc) = false := by simp; omega
    have e : greaterB a b = decide (b.st < a.st) := by simp [greaterB, h]
    rw [e]
    go_enter Tryz.func16, Tryz.ntmps16
    go_wp2
    go_ret
    exact ⟨rfl, ((Below.refl _ _).alloc (Nat.le_refl _) _).alloc (by simp) _⟩
  · have h1 : (a.inc == b.inc) = false := by simp [h]
    have e : greaterB a b = decide (b.inc < a.inc) := by simp [greaterB, h]
    rw [e]
    by_cases h2 : b.inc < a.inc
    · go_enter Tryz.func16, Tryz.ntmps16
      go_wp2
      go_ret
      exact ⟨by simp [h2], hz⟩
    · have h3 : decide (b.inc < a.inc) = false := by simp; omega
      go_enter Tryz.func16, Tryz.ntmps16
      go_wp2
      go_ret
      exact ⟨by simp, hz⟩
/-- A raw message that came in. -/
structure RM where
  k : Int
  f : Int
  i : Int
  s : Int
  t : Int
  ao : Option Addr
  l : List K3
  cap : Nat
def RM.m (r : RM) : M6 := msgOf r.k r.f r.i r.s r.t r.l
structure RM.Ok (W : World) (r : RM) : Prop where
  k : isI64 r.k
  f : isI64 r.f
  i : isI64 r.i
  s : isI64 r.s
  t : isI64 r.t
  len : r.l.length ≤ maxLen
  raw : RawAt W r.ao r.l
  keys : ∀ x ∈ r.l, isI64 x.id ∧ isI64 x.inc ∧ isI64 x.st
/-- Messages that came in. -/
structure RawM (W : World) (ao : Option Addr) (l : List RM) : Prop where
  ex : 0 < l.length → ∃ b off, ao = some ⟨b, off, none⟩ ∧ b < W.heap.size ∧ ∀ (i : Nat) (h : i < l.length), W.cell? ⟨b, off + i * 6, none⟩ = some (.int .i64 l[i].k) ∧ W.cell? ⟨b, off + i * 6 + 1, none⟩ = some (.int .i64 l[i].f) ∧ W.cell? ⟨b, off + i * 6 + 2, none⟩ = some (.int .i64 l[i].i) ∧ W.cell? ⟨b, off + i * 6 + 3, none⟩ = some (.int .i64 l[i].s) ∧ W.cell? ⟨b, off + i * 6 + 4, none⟩ = some (.int .i64 l[i].t) ∧ W.cell? ⟨b, off + i * 6 + 5, none⟩ = some (.slice l[i].ao l[i].l.length l[i].cap)
  ok : ∀ r ∈ l, r.Ok W
/-- Keys at the head of a block. -/
structure KRow (w : World) (g n : Nat) (l : List K3) : Prop where
  ex : ∃ cs, w.heap[g]? = some (.cells cs 31 (0, 0)) ∧ cs.size = n ∧ ∀ (i : Nat) (h : i < l.length), cs[i * 3]? = some (.int .i64 l[i].id) ∧ cs[i * 3 + 1]? = some (.int .i64 l[i].inc) ∧ cs[i * 3 + 2]? = some (.int .i64 l[i].st)
theorem KRow.cell {w : World} {g n : Nat} {l : List K3} (h : KRow w g n l) (i : Nat) (hi : i < l.length) : w.cell? ⟨g, i * 3, none⟩ = some (.int .i64 l[i].id) ∧ w.cell? ⟨g, i * 3 + 1, none⟩ = some (.int .i64 l[i].inc) ∧ w.cell? ⟨g, i * 3 + 2, none⟩ = some (.int .i64 l[i].st) := by
  obtain ⟨cs, hg, _, hc⟩ := h.ex
  obtain ⟨h1, h2, h3⟩ := hc i hi
  exact ⟨(cell_at hg _).trans h1, (cell_at hg _).trans h2, (cell_at hg _).trans h3⟩
theorem KRow.lt {w : World} {g n : Nat} {l : List K3} (h : KRow w g n l) : g < w.heap.size := by obtain ⟨cs, hb, _⟩ := h.ex; exact lt_blk hb
theorem KRow.free {w : World} {g n : Nat} {l : List K3} (h : KRow w g n l) (i : Nat) : w.frozen? ⟨g, i, none⟩ = false := by obtain ⟨cs, hb, _⟩ := h.ex; exact free_at hb i
theorem KRow.frm {S : List Nat} {w w' : World} {g n : Nat} {l : List K3} (h : KRow w g n l) (hf : Frm S w w') (hg : g ∉ S) : KRow w' g n l := by
  obtain ⟨cs, hb, hs, hc⟩ := h.ex
  exact ⟨cs, (hf.block g (lt_blk hb) hg).trans hb, hs, hc⟩
theorem KRow.below {w w' : World} {g n : Nat} {l : List K3} (h : KRow w g n l) (hb : Below w.heap.size w w') : KRow w' g n l := h.frm (S := []) (Frm.of_below hb (Nat.le_refl _)) (by simp)
theorem KRow.aside {wr w' : World} {nb mb : Nat} {cb : Dk} {y y' : Nd} {pv rv : Value} {g n : Nat} {l : List K3} (h : KRow wr g n l) (hn : NAt wr nb mb cb pv rv y) (hto : NTo wr w' nb mb cb pv rv y') : KRow w' g n l := by
  obtain ⟨cs, hb, hs, hc⟩ := h.ex
  exact ⟨cs, Mine.aside hn hto hb (by decide) (by decide) (by decide) (by decide), hs, hc⟩
theorem KRow.of_own {w : World} {base g cap : Nat} {l : List K3} (h : w.ownsRow base 31 3 (.slice (some ⟨g, 0, none⟩) l.length cap) l.length (l.flatMap keyC)) : KRow w g (cap * 3) l ∧ base ≤ g ∧ l.length ≤ cap := by
  rcases h.2 with ⟨e, _⟩ | ⟨g', cap', cur, e, hb, hg, h1, h2, h3, h4⟩
  · cases e
  · cases e
    refine ⟨⟨cur, hg, h3, fun i hi => ?_⟩, hb, h1⟩
    have hc : ∀ j, j < 3 → cur[i * 3 + j]? = (keyC l[i])[j]? := fun j hj => by
      rw [← getK l i hi j hj, ← h4, List.getElem?_take, if_pos (by have : (i + 1) * 3 ≤ l.length * 3 := Nat.mul_le_mul_right _ hi; omega), Array.getElem?_toList]
    exact ⟨hc 0 (by omega), hc 1 (by omega), hc 2 (by omega)⟩
/-- An id is written. -/
theorem KRow.set {w : World} {g n : Nat} {l : List K3} (h : KRow w g n l) (i : Nat) (hi : i < l.length) (z : Int) : KRow (w.setCell ⟨g, i * 3, none⟩ (.int .i64 z)) g n (l.set i ⟨z, l[i].inc, l[i].st⟩) := by
  obtain ⟨cs, hb, hs, hc⟩ := h.ex
  refine ⟨cs.setIfInBounds (i * 3) (.int .i64 z), heap_setCell_same w g (i * 3) _ _ _ hb, by simp [hs], fun j hj => ?_⟩
  have hj' : j < l.length := by simpa using hj
  have hlt : i * 3 < cs.size := (Array.getElem?_eq_some_iff.1 (hc i hi).1).1
  obtain ⟨h1, h2, h3⟩ := hc j hj'
  by_cases e : i = j
  · subst e
    rw [List.getElem_set_self]
    refine ⟨by simp [hlt], ?_, ?_⟩
    · rw [Array.getElem?_setIfInBounds_ne (by omega)]; exact h2
    · rw [Array.getElem?_setIfInBounds_ne (by omega)]; exact h3
  · rw [List.getElem_set_ne e]
    refine ⟨?_, ?_, ?_⟩
    · rw [Array.getElem?_setIfInBounds_ne (by omega)]; exact h1
    · rw [Array.getElem?_setIfInBounds_ne (by omega)]; exact h2
    · rw [Array.getElem?_setIfInBounds_ne (by omega)]; exact h3
/-- A row of keys, or none. -/
def URow (w : World) (va : Option Addr) (l : List K3) : Prop := l = [] ∨ ∃ g n, va = some ⟨g, 0, none⟩ ∧ KRow w g n l
theorem URow.below {w w' : World} {va : Option Addr} {l : List K3} (h : URow w va l) (hb : Below w.heap.size w w') : URow w' va l := by
  rcases h with h | ⟨g, n, h1, h2⟩
  · exact .inl h
  · exact .inr ⟨g, n, h1, h2.below hb⟩
theorem URow.aside {wr w' : World} {nb mb : Nat} {cb : Dk} {y y' : Nd} {pv rv : Value} {va : Option Addr} {l : List K3} (h : URow wr va l) (hn : NAt wr nb mb cb pv rv y) (hto : NTo wr w' nb mb cb pv rv y') : URow w' va l := by
  rcases h with h | ⟨g, n, h1, h2⟩
  · exact .inl h
  · exact .inr ⟨g, n, h1, h2.aside hn hto⟩
theorem URow.frm {S : List Nat} {w w' : World} {va : Option Addr} {l : List K3} (h : URow w va l) (hf : Frm S w w') (hs : ∀ k ∈ S, ∀ cs, w.heap[k]? ≠ some (.cells cs 31 (0, 0))) : URow w' va l := by
  rcases h with h | ⟨g, n, h1, h2⟩
  · exact .inl h
  · refine .inr ⟨g, n, h1, h2.frm hf (fun hg => ?_)⟩
    obtain ⟨cs, hb, _⟩ := h2.ex
    exact hs g hg cs hb
theorem URow.of_own {w : World} {base : Nat} {va : Option Addr} {cap : Nat} {l : List K3} (h : w.ownsRow base 31 3 (.slice va l.length cap) l.length (l.flatMap keyC)) : URow w va l := by
  rcases h.2 with ⟨_, e⟩ | ⟨g, cap', cur, e, _⟩
  · exact .inl (List.length_eq_zero_iff.1 e)
  · simp only [Value.slice.injEq] at e
    obtain ⟨rfl, _, rfl⟩ := e
    exact .inr ⟨g, _, rfl, (KRow.of_own h).1⟩
theorem URow.cell {w : World} {va : Option Addr} {l : List K3} (h : URow w va l) (i : Nat) (hi : i < l.length) : ∃ g, va = some ⟨g, 0, none⟩ ∧ g < w.heap.size ∧ w.cell? ⟨g, i * 3, none⟩ = some (.int .i64 l[i].id) ∧ w.cell? ⟨g, i * 3 + 1, none⟩ = some (.int .i64 l[i].inc) ∧ w.cell? ⟨g, i * 3 + 2, none⟩ = some (.int .i64 l[i].st) := by
  rcases h with h | ⟨g, n, h1, h2⟩
  · rw [h] at hi; simp at hi
  · exact ⟨g, h1, h2.lt, h2.cell i hi⟩
/-- What the node keeps to, all along. -/
structure RsOk (k : Nat) (y : Nd) : Prop where
  ok : NdOk y
  b : NdB (5000 + 40 * k) y
  dl : DlOk y.dl
  self : y.c.self = 1
  k2 : Knows 2 y
theorem RsOk.got {k : Nat} {y : Nd} (h : RsOk k y) (l : List UInt8) : RsOk (k + 1) (y.receive l).2.tick.2 ∧ Up y (y.receive l).2.tick.2 ∧ NdOk (y.receive l).2 ∧ NdB (5000 + 40 * k + 10) (y.receive l).2 ∧ DlOk (y.receive l).2.dl := by
  obtain ⟨g, _⟩ := receive_keeps h.ok l
  have u := Up.tick g.ok
  have uu := g.up.trans u
  exact ⟨⟨tick_ok g.ok, (tick_b g.ok (g.b _ h.b)).mono (by omega), by rw [uu.dl]; exact h.dl, by rw [uu.c]; exact h.self, knows_up uu h.k2⟩, uu, g.ok, g.b _ h.b, by rw [g.up.dl]; exact h.dl⟩
theorem RsOk.one {k : Nat} {y : Nd} (h : RsOk k y) : 1 ≤ y.others.length := by
  have := others_ge (x := y) [2] (by decide) (fun i hi => by
    rw [h.self]
    simp at hi
    subst hi
    exact ⟨by decide, h.k2⟩)
  simpa using this
/-- The first k of the keys are bent. -/
def bent (k : Nat) (l : List K3) : List K3 := (l.take k).map bendK ++ l.drop k
theorem bent_len (k : Nat) (l : List K3) : (bent k l).length = l.length := by
  simp [bent]; omega
theorem bent_get (k : Nat) (l : List K3) (h : k < l.length) : (bent k l)[k]'(by rw [bent_len]; exact h) = l[k] := by
  simp only [bent]
  rw [List.getElem_append_right (by simp; omega)]
  simp [Nat.min_eq_left (Nat.le_of_lt h)]
theorem bent_step (k : Nat) (l : List K3) (h : k < l.length) : (bent k l).set k (bendK l[k]) = bent (k + 1) l := by
  simp only [bent]
  have hlen : ((l.take k).map bendK).length = k := by simp; omega
  rw [List.take_succ_eq_append_getElem h, List.map_append, List.drop_eq_getElem_cons h, List.set_append, if_neg (by omega), hlen, Nat.sub_self, List.set_cons_zero, List.append_assoc]
  rfl
theorem bent_all (l : List K3) : bent l.length l = l.map bendK := by simp [bent]
/-- What stands while a message is bent: its box, its keys. -/
structure BendI (w wq : World) (bx : Nat) (M : M6) (f : Int) (va : Option Addr) (vc : Nat) (k : Nat) : Prop where
  below : Below w.heap.size w wq
  box : wq.heap[bx]? = some (.cells #[.int .i64 M.kind, .int .i64 f, .int .i64 M.inc, .int .i64 M.seq, .int .i64 M.tgt, .slice va M.ups.length vc] 29 (0, 0))
  row : (va = none ∧ vc = 0 ∧ M.ups = []) ∨ ∃ g n, va = some ⟨g, 0, none⟩ ∧ w.heap.size ≤ g ∧ g ≠ bx ∧ KRow wq g n (bent k M.ups)
theorem BendI.keys {w wq : World} {bx : Nat} {M : M6} {f : Int} {va : Option Addr} {vc k : Nat} (h : BendI w wq bx M f va vc k) : KeysAt wq (.slice va M.ups.length vc) (bent k M.ups) := by
  rcases h.row with ⟨h1, h2, h3⟩ | ⟨g, n, rfl, _, _, hr⟩
  · exact .inl ⟨by rw [h1, h2, h3]; rfl, by rw [h3]; simp [bent]⟩
  · refine .inr ⟨g, 0, vc, by rw [bent_len], hr.lt, fun i hi => ?_⟩
    obtain ⟨a, b, c⟩ := hr.cell i hi
    exact ⟨by rw [Nat.zero_add]; exact a, by rw [Nat.zero_add]; exact b, by rw [Nat.zero_add]; exact c⟩
theorem BendI.urow {w wq : World} {bx : Nat} {M : M6} {f : Int} {va : Option Addr} {vc k : Nat} (h : BendI w wq bx M f va vc k) : URow wq va (bent k M.ups) := by
  rcases h.row with ⟨_, _, h3⟩ | ⟨g, n, h1, _, _, h2⟩
  · left; rw [h3]; simp [bent]
  · exact .inr ⟨g, n, h1, h2⟩
theorem BendI.step {w wq : World} {bx : Nat} {M : M6} {f : Int} {va : Option Addr} {vc k : Nat} (h : BendI w wq bx M f va vc k) (hk : k < M.ups.length) {g n : Nat} (hva : va = some ⟨g, 0, none⟩) (hg : w.heap.size ≤ g) (hgb : g ≠ bx) (hr : KRow wq g n (bent k M.ups)) {z : Int} (hz : z = 1 + M.ups[k].id.tmod 9) : BendI w (wq.setCell ⟨g, k * 3, none⟩ (.int .i64 z)) bx M f va vc (k + 1) := by
  refine ⟨h.below.setCell hg _, ?_, .inr ⟨g, n, hva, hg, hgb, ?_⟩⟩
  · exact ((set_frm wq g (k * 3) (.int .i64 z)).block bx (lt_blk h.box) (by simpa using fun e => hgb e.symm)).trans h.box
  · have h1 := hr.set k (by rw [bent_len]; exact hk) z
    rw [bent_get k M.ups hk, hz] at h1
    rw [← bent_step k M.ups hk, hz]
    exact h1
theorem BendI.drew {w wq : World} {bx : Nat} {M : M6} {f : Int} {va : Option Addr} {vc k : Nat} (h : BendI w wq bx M f va vc k) : BendI w wq.drew bx M f va vc k :=
  ⟨bdrew h.below, h.box, h.row.elim .inl (fun ⟨g, n, a, b, c, d⟩ => .inr ⟨g, n, a, b, c, ⟨d.ex⟩⟩)⟩
theorem BendI.from {w wq : World} {bx : Nat} {M : M6} {f : Int} {va : Option Addr} {vc k : Nat} (h : BendI w wq bx M f va vc k) (hbx : w.heap.size ≤ bx) (f' : Int) : BendI w (wq.setCell ⟨bx, 1, none⟩ (.int .i64 f')) bx M f' va vc k := by
  refine ⟨h.below.setCell hbx _, ?_, h.row.elim .inl (fun ⟨g, n, a, b, c, d⟩ => .inr ⟨g, n, a, b, c, d.frm (set_frm wq bx 1 _) (by simpa using c)⟩)⟩
  rw [heap_setCell_same wq bx 1 _ _ _ h.box]; rfl
end Go.Proofs.YtnneljcbelgoeaaGreat.wire
