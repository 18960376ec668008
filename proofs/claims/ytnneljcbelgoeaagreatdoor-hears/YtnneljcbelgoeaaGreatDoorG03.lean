import Derived.Test.YtnneljcbelgoeaaGreatDoorG02
import Derived.Conc.LoneSelect
import Derived.OwnWalk
import Derived.Deep.Heap
/- A NODE IN MEMORY; what a call on it may turn. -/
namespace Go.Proofs.YtnneljcbelgoeaaGreatDoor.wire
open Go.RowKit Go.Maps

/-- Only the blocks of S turn (and new ones come). -/
structure Frm (S : List Nat) (w w' : World) : Prop where
  os : w'.os = w.os
  tape : w'.tape = w.tape
  output : w'.output = w.output
  size : w.heap.size ≤ w'.heap.size
  block : ∀ k, k < w.heap.size → k ∉ S → w'.heap[k]? = w.heap[k]?
theorem Frm.refl (S : List Nat) (w : World) : Frm S w w := ⟨rfl, rfl, rfl, Nat.le_refl _, fun _ _ _ => rfl⟩
theorem Frm.trans {S S' : List Nat} {a b c : World} (h : Frm S a b) (k : Frm S' b c) (hs : ∀ j ∈ S', j ∈ S ∨ a.heap.size ≤ j) : Frm S a c :=
  ⟨k.os.trans h.os, k.tape.trans h.tape, k.output.trans h.output, Nat.le_trans h.size k.size, fun i hi hn =>
    (k.block i (Nat.lt_of_lt_of_le hi h.size) (fun hm => (hs i hm).elim hn (fun h' => absurd hi (Nat.not_lt.2 h')))).trans (h.block i hi hn)⟩
theorem Frm.of_below {S : List Nat} {B : Nat} {a b : World} (h : Below B a b) (hB : a.heap.size ≤ B) : Frm S a b :=
  ⟨h.os, h.tape, h.output, h.size, fun k hk _ => h.block k (Nat.lt_of_lt_of_le hk hB)⟩
theorem Frm.below {a b : World} (h : Frm [] a b) : Below a.heap.size a b :=
  ⟨h.os, h.tape, h.output, h.size, fun k hk => h.block k hk (by simp)⟩
theorem Frm.of_grown {S : List Nat} {a b : World} {row : Option Nat} (h : a.grownBy b row) (hr : ∀ k, row = some k → k ∈ S ∨ a.heap.size ≤ k) : Frm S a b :=
  ⟨h.os, h.tape, h.output, h.size, fun k hk hn => h.block k hk (fun e => (hr k e.symm).elim hn (fun h' => absurd hk (Nat.not_lt.2 h')))⟩
theorem Frm.step {S : List Nat} {a b c : World} (h : Frm S a b) (k : Below b.heap.size b c) : Frm S a c := h.trans (S' := []) (Frm.of_below k (Nat.le_refl _)) (by simp)
theorem Frm.alloc {S : List Nat} {a b : World} (h : Frm S a b) (o : Obj) : Frm S a (b.alloc o) := h.step ((Below.refl _ _).alloc (Nat.le_refl _) o)
/-- A row whose block is not turned reads on. -/
theorem own_frm {S : List Nat} {a b : World} {base : Nat} {e : TypeId} {size : Nat} {v : Value} {n : Nat} {xs : List Value} (h : a.ownsRow base e size v n xs) (hf : Frm S a b) (hn : ∀ k, v.ownBlock = some k → k ∉ S) : b.ownsRow base e size v n xs := by
  obtain ⟨hl, h | ⟨g, cap, cur, rfl, hb, hg, h1, h2, h3, h4⟩⟩ := h
  · exact ⟨hl, .inl h⟩
  · have hlt : g < a.heap.size := by
      rcases Nat.lt_or_ge g a.heap.size with h | h
      · exact h
      · rw [Array.getElem?_eq_none h] at hg; cases hg
    exact ⟨hl, .inr ⟨g, cap, cur, rfl, hb, (hf.block g hlt (hn g rfl)).trans hg, h1, h2, h3, h4⟩⟩
theorem map_frm {S : List Nat} {a b : World} {P : Program} {k : TypeId} {mb n : Nat} {D : DataW Value} (h : a.ownsMap P k RH mb n D) (hf : Frm S a b) (hn : mb ∉ S) : b.ownsMap P k RH mb n D := by
  have hlt := h.lt
  obtain ⟨es, clock, hb, F, hs, hD⟩ := h
  exact ⟨es, clock, (hf.block mb hlt hn).trans hb, F, hs, hD⟩

def memC (m : Mem) : List Value := [.int .i64 m.k.id, .int .i64 m.k.inc, .int .i64 m.k.st, .int .i64 m.due, .int .i64 m.sends]
def relC (r : Rel) : List Value := [.int .i64 r.tgt, .int .i64 r.num, .int .i64 r.asker, .int .i64 r.under, .int .i64 r.till]
def keyC (k : K3) : List Value := [.int .i64 k.id, .int .i64 k.inc, .int .i64 k.st]
def intC (i : Int) : List Value := [.int .i64 i]
def pkC (p : Pk) : List Value := [.int .i64 p.dest, .string (bs p.bytes)]
/-- Where a node's channel lies, and its draws: the list's cell, the count's cell, the list. -/
structure Dk where
  c : Nat
  ob : Nat
  ab : Nat
  ov : Value
instance : Coe Dk Nat := ⟨Dk.c⟩
def Dk.fn (d : Dk) : Value := .func (.func 83) #[] #[.pointer (some ⟨d.ob, 0, none⟩), .pointer (some ⟨d.ab, 0, none⟩)]
def ndC (x : Nd) (mb : Nat) (cb : Dk) (pv rv : Value) : Array Value := #[.int .i64 x.c.self, .int .i64 x.c.period, .int .i64 x.c.wait, .int .i64 x.c.suspect, .int .i64 x.c.proxies, .int .i64 x.c.sends, cb.fn, .int .i64 x.clock, .map (some mb), pv, .int .i64 x.ptgt, .int .i64 x.pnum, .int .i64 x.pst, .bool x.pack, rv, .int .i64 x.num, .chan (some cb), .int .i64 x.dropped, .int .i64 x.lost]
/-- The pass: a list of numbers that may begin within its block. -/
def PassAt (w : World) (v : Value) (l : List Int) : Prop :=
  (v = .slice none 0 0 ∧ l = []) ∨ ∃ b off cap cs, v = .slice (some ⟨b, off, none⟩) l.length cap ∧ w.heap[b]? = some (.cells cs 3 (0, 0)) ∧ l.length ≤ cap ∧ cap ≤ maxLen ∧ ∀ (i : Nat) (h : i < l.length), cs[off + i]? = some (.int .i64 l[i])
theorem PassAt.blk {w : World} {v : Value} {l : List Int} (h : PassAt w v l) {k : Nat} (hk : v.ownBlock = some k) : ∃ cs, w.heap[k]? = some (.cells cs 3 (0, 0)) := by
  rcases h with ⟨rfl, _⟩ | ⟨b, off, cap, cs, rfl, hb, _⟩
  · simp [Value.ownBlock] at hk
  · simp [Value.ownBlock] at hk; subst hk; exact ⟨cs, hb⟩
theorem PassAt.lt {w : World} {v : Value} {l : List Int} (h : PassAt w v l) {k : Nat} (hk : v.ownBlock = some k) : k < w.heap.size := by
  obtain ⟨cs, hb⟩ := h.blk hk
  rcases Nat.lt_or_ge k w.heap.size with h | h
  · exact h
  · rw [Array.getElem?_eq_none h] at hb; cases hb
theorem PassAt.frm {S : List Nat} {a b : World} {v : Value} {l : List Int} (h : PassAt a v l) (hf : Frm S a b) (hn : ∀ k, v.ownBlock = some k → k ∉ S) : PassAt b v l := by
  have hlt := fun k hk => h.lt (k := k) hk
  rcases h with h | ⟨g, off, cap, cs, rfl, hb, h1, h2, h3⟩
  · exact .inl h
  · exact .inr ⟨g, off, cap, cs, rfl, (hf.block g (hlt g rfl) (hn g rfl)).trans hb, h1, h2, h3⟩
theorem PassAt.below {a b : World} {v : Value} {l : List Int} (h : PassAt a v l) (hb : Below a.heap.size a b) : PassAt b v l := h.frm (S := []) (Frm.of_below hb (Nat.le_refl _)) (by simp)
theorem PassAt.alloc {a : World} {v : Value} {l : List Int} (h : PassAt a v l) (o : Obj) : PassAt (a.alloc o) v l := h.below ((Below.refl _ _).alloc (Nat.le_refl _) o)
theorem flat_int (l : List Int) (i : Nat) : (l.flatMap intC)[i]? = (l[i]?).map (fun z => .int .i64 z) := by
  have : l.flatMap intC = l.map (fun z => .int .i64 z) := by
    induction l with
    | nil => rfl
    | cons a r ih => simp [List.flatMap_cons, intC, ih]
  rw [this, List.getElem?_map]
theorem PassAt.of_own {w : World} {base : Nat} {v : Value} {l : List Int} (h : w.ownsRow base 3 1 v l.length (l.flatMap intC)) : PassAt w v l := by
  rcases h.2 with ⟨rfl, h0⟩ | ⟨g, cap, cur, rfl, hb, hg, h1, h2, h3, h4⟩
  · exact .inl ⟨rfl, List.length_eq_zero_iff.1 h0⟩
  · refine .inr ⟨g, 0, cap, cur, rfl, hg, h1, h2, fun i hi => ?_⟩
    have := congrArg (fun q => q[i]?) h4
    simp only [flat_int, List.getElem?_eq_getElem hi, Option.map_some, List.getElem?_take, Nat.mul_one, if_pos hi] at this
    simpa using this
/-- The draws of a node in memory. -/
structure DrawAt (W : World) (d : Dk) (pv : Value) (l : List Int) (n : Nat) : Prop where
  ob : W.heap[d.ob]? = some (.cells #[d.ov] 24 (0, 0))
  ab : W.heap[d.ab]? = some (.cells #[.int .i64 n] 3 (0, 0))
  row : W.ownsRow 0 3 1 d.ov l.length (l.flatMap intC)
  sep : d.ov.ownBlock ≠ some d.ab
  sepp : pv.ownBlock ≠ some d.ab
theorem heap_lt {w : World} {b : Nat} {o : Obj} (h : w.heap[b]? = some o) : b < w.heap.size := by
  rcases Nat.lt_or_ge b w.heap.size with h' | h'
  · exact h'
  · rw [Array.getElem?_eq_none h'] at h; cases h
def Dk.all (d : Dk) : List Nat := d.ob :: d.ab :: d.ov.ownBlock.toList
theorem DrawAt.frm {S : List Nat} {W W' : World} {d : Dk} {pv : Value} {l : List Int} {n : Nat} (h : DrawAt W d pv l n) (hf : Frm S W W') (hn : ∀ k ∈ d.all, k ∉ S) : DrawAt W' d pv l n :=
  ⟨(hf.block _ (heap_lt h.ob) (hn _ (by simp [Dk.all]))).trans h.ob, (hf.block _ (heap_lt h.ab) (hn _ (by simp [Dk.all]))).trans h.ab, own_frm h.row hf (fun k hk => hn k (by simp [Dk.all, hk])), h.sep, h.sepp⟩
theorem DrawAt.lt {W : World} {d : Dk} {pv : Value} {l : List Int} {n : Nat} (h : DrawAt W d pv l n) {k : Nat} (hk : k ∈ d.all) : k < W.heap.size := by
  simp only [Dk.all, List.mem_cons, Option.mem_toList] at hk
  rcases hk with rfl | rfl | hk
  · exact heap_lt h.ob
  · exact heap_lt h.ab
  · exact (h.row.lt k hk).2
theorem DrawAt.pv {W : World} {d : Dk} {pv pv' : Value} {l : List Int} {n : Nat} (h : DrawAt W d pv l n) (hp : pv'.ownBlock ≠ some d.ab) : DrawAt W d pv' l n := ⟨h.ob, h.ab, h.row, h.sep, hp⟩
/-- Whose type is neither []int nor int is none of them. -/
theorem DrawAt.not {W : World} {d : Dk} {pv : Value} {l : List Int} {n : Nat} (h : DrawAt W d pv l n) {b : Nat} {o : Obj} (hb : W.heap[b]? = some o) (h1 : ∀ cs, o ≠ .cells cs 24 (0, 0)) (h2 : ∀ cs, o ≠ .cells cs 3 (0, 0)) : b ∉ d.all := by
  simp only [Dk.all, List.mem_cons, Option.mem_toList, not_or]
  refine ⟨fun e => ?_, fun e => ?_, fun e => ?_⟩
  · rw [e, h.ob] at hb; cases hb; exact h1 _ rfl
  · rw [e, h.ab] at hb; cases hb; exact h2 _ rfl
  · rcases h.row.2 with ⟨h0, _⟩ | ⟨g, cap, cur, h0, _, hg, _⟩
    · rw [h0] at e; simp [Value.ownBlock] at e
    · rw [h0] at e; simp [Value.ownBlock] at e; subst e; rw [hg] at hb; cases hb; exact h2 _ rfl
/-- The blocks of a node. -/
def feet (nb mb : Nat) (cb : Dk) (pv rv : Value) : List Nat := nb :: mb :: cb :: (pv.ownBlock.toList ++ (rv.ownBlock.toList ++ cb.all))
structure NAt (W : World) (nb mb : Nat) (cb : Dk) (pv rv : Value) (x : Nd) : Prop where
  blk : W.heap[nb]? = some (.cells (ndC x mb cb pv rv) 123 (0, 0))
  map : W.ownsMap Tryz.prog 3 RH mb x.tab.length (tabD x.tab)
  chan : ∃ s r, W.heap[cb.c]? = some (.chan 8 (x.evs.map kval).toArray false s r false)
  pass : PassAt W pv x.pass
  rel : W.ownsRow 0 161 5 rv x.rels.length (x.rels.flatMap relC)
  draw : DrawAt W cb pv x.dl x.dat
/-- Behind a call on it. -/
def NTo (W W' : World) (nb mb : Nat) (cb : Dk) (pv rv : Value) (x' : Nd) : Prop :=
  ∃ pv' rv', NAt W' nb mb cb pv' rv' x' ∧ Frm (feet nb mb cb pv rv) W W' ∧ ∀ k ∈ feet nb mb cb pv' rv', k ∈ feet nb mb cb pv rv ∨ W.heap.size ≤ k
theorem NAt.frm {S : List Nat} {W W' : World} {nb mb : Nat} {cb : Dk} {pv rv : Value} {x : Nd} (h : NAt W nb mb cb pv rv x) (hf : Frm S W W') (hn : ∀ k ∈ feet nb mb cb pv rv, k ∉ S) : NAt W' nb mb cb pv rv x := by
  obtain ⟨h1, h2, ⟨s, r, h3⟩, h4, h5, h6⟩ := h
  have lt1 : nb < W.heap.size := by
    rcases Nat.lt_or_ge nb W.heap.size with h | h
    · exact h
    · rw [Array.getElem?_eq_none h] at h1; cases h1
  have lt3 : cb.c < W.heap.size := by
    rcases Nat.lt_or_ge cb.c W.heap.size with h | h
    · exact h
    · rw [Array.getElem?_eq_none h] at h3; cases h3
  refine ⟨(hf.block nb lt1 (hn nb (by simp [feet]))).trans h1, map_frm h2 hf (hn mb (by simp [feet])), ⟨s, r, (hf.block cb lt3 (hn cb (by simp [feet]))).trans h3⟩, h4.frm hf (fun k hk => hn k (by simp [feet, hk])), own_frm h5 hf (fun k hk => hn k (by simp [feet, hk])), h6.frm hf (fun k hk => hn k (by simp [feet, hk]))⟩
theorem NAt.below {W W' : World} {nb mb : Nat} {cb : Dk} {pv rv : Value} {x : Nd} (h : NAt W nb mb cb pv rv x) (hb : Below W.heap.size W W') : NAt W' nb mb cb pv rv x :=
  h.frm (S := []) (Frm.of_below hb (Nat.le_refl _)) (by simp)
theorem NAt.alloc {W : World} {nb mb : Nat} {cb : Dk} {pv rv : Value} {x : Nd} (h : NAt W nb mb cb pv rv x) (o : Obj) : NAt (W.alloc o) nb mb cb pv rv x := h.below ((Below.refl _ _).alloc (Nat.le_refl _) o)
end Go.Proofs.YtnneljcbelgoeaaGreatDoor.wire
