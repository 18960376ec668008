import Derived.Test.YtcjfanbnplaahaaGreatNTab
import Derived.Conc.LoneSelect
import Derived.OwnWalk
import Derived.Deep.Heap
/- A NODE IN MEMORY; what a call on it may turn. -/
namespace Go.Proofs.YtcjfanbnplaahaaGreat.wire
open Go.RowKit Go.Maps

/-- Only the blocks of S turn (and new ones come). -/
structure Frm (S : List Nat) (w w' : World) : Prop where
  os : w'.os = w.os
  tape : w'.tape = w.tape
  output : w'.output = w.output
  size : w.heap.size ≤ w'.heap.size
  block : ∀ k, k < w.heap.size → k ∉ S → w'.heap[k]? = w.heap[k]?
theorem Frm.refl (S : List Nat) (w : World) : Frm S w w := ⟨rfl, rfl, rfl, Nat.le_refl _, fun _ _ _ => rfl⟩
theorem Frm.trans {S S' : List Nat} {a b c : World} (h : Frm S a b) (k : Frm S' b c) (hs : ∀ j ∈ S', j ∈ S ∨ a.heap.size ≤ j) : Frm S a c :=
  ⟨k.os.trans h.os, k.tape.trans h.tape, k.output.trans h.output, Nat.le_trans h.size k.size, fun i hi hn =>
    (k.block i (Nat.lt_of_lt_of_le hi h.size) (fun hm => (hs i hm).elim hn (fun h' => absurd hi (Nat.not_lt.2 h')))).trans (h.block i hi hn)⟩
theorem Frm.of_below {S : List Nat} {B : Nat} {a b : World} (h : Below B a b) (hB : a.heap.size ≤ B) : Frm S a b :=
  ⟨h.os, h.tape, h.output, h.size, fun k hk _ => h.block k (Nat.lt_of_lt_of_le hk hB)⟩
theorem Frm.below {a b : World} (h : Frm [] a b) : Below a.heap.size a b :=
  ⟨h.os, h.tape, h.output, h.size, fun k hk => h.block k hk (by simp)⟩
theorem Frm.of_grown {S : List Nat} {a b : World} {row : Option Nat} (h : a.grownBy b row) (hr : ∀ k, row = some k → k ∈ S ∨ a.heap.size ≤ k) : Frm S a b :=
  ⟨h.os, h.tape, h.output, h.size, fun k hk hn => h.block k hk (fun e => (hr k e.symm).elim hn (fun h' => absurd hk (Nat.not_lt.2 h')))⟩
theorem Frm.step {S : List Nat} {a b c : World} (h : Frm S a b) (k : Below b.heap.size b c) : Frm S a c := h.trans (S' := []) (Frm.of_below k (Nat.le_refl _)) (by simp)
theorem Frm.alloc {S : List Nat} {a b : World} (h : Frm S a b) (o : Obj) : Frm S a (b.alloc o) := h.step ((Below.refl _ _).alloc (Nat.le_refl _) o)
/-- A row whose block is not turned reads on. -/
theorem own_frm {S : List Nat} {a b : World} {base : Nat} {e : TypeId} {size : Nat} {v : Value} {n : Nat} {xs : List Value} (h : a.ownsRow base e size v n xs) (hf : Frm S a b) (hn : ∀ k, v.ownBlock = some k → k ∉ S) : b.ownsRow base e size v n xs := by
  obtain ⟨hl, h | ⟨g, cap, cur, rfl, hb, hg, h1, h2, h3, h4⟩⟩ := h
  · exact ⟨hl, .inl h⟩
  · have hlt : g < a.heap.size := by
      rcases Nat.lt_or_ge g a.heap.size with h | h
      · exact h
      · rw [Array.getElem?_eq_none h] at hg; cases hg
    exact ⟨hl, .inr ⟨g, cap, cur, rfl, hb, (hf.block g hlt (hn g rfl)).trans hg, h1, h2, h3, h4⟩⟩
theorem map_frm {S : List Nat} {a b : World} {P : Program} {k : TypeId} {mb n : Nat} {D : DataW Value} (h : a.ownsMap P k RH mb n D) (hf : Frm S a b) (hn : mb ∉ S) : b.ownsMap P k RH mb n D := by
  have hlt := h.lt
  obtain ⟨es, clock, hb, F, hs, hD⟩ := h
  exact ⟨es, clock, (hf.block mb hlt hn).trans hb, F, hs, hD⟩

def memC (m : Mem) : List Value := [.int .i64 m.k.id, .int .i64 m.k.inc, .int .i64 m.k.st, .int .i64 m.due, .int .i64 m.sends]
def relC (r : Rel) : List Value := [.int .i64 r.tgt, .int .i64 r.num, .int .i64 r.asker, .int .i64 r.under, .int .i64 r.till]
def keyC (k : K3) : List Value := [.int .i64 k.id, .int .i64 k.inc, .int .i64 k.st]
def intC (i : Int) : List Value := [.int .i64 i]
def pkC (p : Pk) : List Value := [.int .i64 p.dest, .string (bs p.bytes)]
def ndC (x : Nd) (mb cb : Nat) (pv rv : Value) : Array Value := #[.int .i64 x.c.self, .int .i64 x.c.period, .int .i64 x.c.wait, .int .i64 x.c.suspect, .int .i64 x.c.proxies, .int .i64 x.c.sends, .int .i64 x.clock, .map (some mb), pv, .int .i64 x.ptgt, .int .i64 x.pnum, .bool x.pack, rv, .int .i64 x.num, .chan (some cb), .int .i64 x.dropped, .int .i64 x.lost]
/-- The blocks of a node. -/
def feet (nb mb cb : Nat) (pv rv : Value) : List Nat := nb :: mb :: cb :: (pv.ownBlock.toList ++ rv.ownBlock.toList)
structure NAt (W : World) (nb mb cb : Nat) (pv rv : Value) (x : Nd) : Prop where
  blk : W.heap[nb]? = some (.cells (ndC x mb cb pv rv) 68 (0, 0))
  map : W.ownsMap Tryz.prog 3 RH mb x.tab.length (tabD x.tab)
  chan : ∃ s r, W.heap[cb]? = some (.chan 8 (x.evs.map kval).toArray false s r false)
  pass : W.ownsRow 0 3 1 pv x.pass.length (x.pass.flatMap intC)
  rel : W.ownsRow 0 114 5 rv x.rels.length (x.rels.flatMap relC)
/-- Behind a call on it. -/
def NTo (W W' : World) (nb mb cb : Nat) (pv rv : Value) (x' : Nd) : Prop :=
  ∃ pv' rv', NAt W' nb mb cb pv' rv' x' ∧ Frm (feet nb mb cb pv rv) W W' ∧ ∀ k ∈ feet nb mb cb pv' rv', k ∈ feet nb mb cb pv rv ∨ W.heap.size ≤ k
theorem NAt.frm {S : List Nat} {W W' : World} {nb mb cb : Nat} {pv rv : Value} {x : Nd} (h : NAt W nb mb cb pv rv x) (hf : Frm S W W') (hn : ∀ k ∈ feet nb mb cb pv rv, k ∉ S) : NAt W' nb mb cb pv rv x := by
  obtain ⟨h1, h2, ⟨s, r, h3⟩, h4, h5⟩ := h
  have lt1 : nb < W.heap.size := by
    rcases Nat.lt_or_ge nb W.heap.size with h | h
    · exact h
    · rw [Array.getElem?_eq_none h] at h1; cases h1
  have lt3 : cb < W.heap.size := by
    rcases Nat.lt_or_ge cb W.heap.size with h | h
    · exact h
    · rw [Array.getElem?_eq_none h] at h3; cases h3
  refine ⟨(hf.block nb lt1 (hn nb (by simp [feet]))).trans h1, map_frm h2 hf (hn mb (by simp [feet])), ⟨s, r, (hf.block cb lt3 (hn cb (by simp [feet]))).trans h3⟩, own_frm h4 hf (fun k hk => hn k (by simp [feet, hk])), own_frm h5 hf (fun k hk => hn k (by simp [feet, hk]))⟩
theorem NAt.below {W W' : World} {nb mb cb : Nat} {pv rv : Value} {x : Nd} (h : NAt W nb mb cb pv rv x) (hb : Below W.heap.size W W') : NAt W' nb mb cb pv rv x :=
  h.frm (S := []) (Frm.of_below hb (Nat.le_refl _)) (by simp)
theorem NAt.alloc {W : World} {nb mb cb : Nat} {pv rv : Value} {x : Nd} (h : NAt W nb mb cb pv rv x) (o : Obj) : NAt (W.alloc o) nb mb cb pv rv x := h.below ((Below.refl _ _).alloc (Nat.le_refl _) o)
end Go.Proofs.YtcjfanbnplaahaaGreat.wire
