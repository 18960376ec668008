import Derived.Test.YtnneljcbelgoeaaGreatDoorG12
import Derived.Test.YtnneljcbelgoeaaGreatDoorG18
import Derived.Test.YtnneljcbelgoeaaGreatDoorG01
/- Things in memory that lie apart from one another. -/
namespace Go.Proofs.YtnneljcbelgoeaaGreatDoor.wire
open Go.RowKit Go.Maps

/-- A thing in memory: the blocks that it lies in, what it reads there. -/
structure Th where
  feet : List Nat
  rd : World → Prop
  frm : ∀ {S : List Nat} {W W' : World}, rd W → Frm S W W' → (∀ k ∈ feet, k ∉ S) → rd W'
  lt : ∀ {W : World}, rd W → ∀ k ∈ feet, k < W.heap.size
/-- No thing. -/
def Th.no : Th := ⟨[], fun _ => True, fun _ _ _ => trivial, fun _ _ h => absurd h (by simp)⟩
/-- A block. -/
def cellsT (b : Nat) (cs : Array Value) (t : TypeId) : Th :=
  ⟨[b], fun W => W.heap[b]? = some (.cells cs t (0, 0)), fun h hf hn => (hf.block b (lt_blk h) (hn b (by simp))).trans h, fun h k hk => by simp at hk; subst hk; exact lt_blk h⟩
/-- A row. -/
def rowT (e : TypeId) (z : Nat) (v : Value) (n : Nat) (xs : List Value) : Th :=
  ⟨v.ownBlock.toList, fun W => W.ownsRow 0 e z v n xs, fun h hf hn => own_frm h hf (fun k hk => hn k (by simp [hk])), fun h k hk => (own_lt h (Option.mem_toList.1 hk)).2⟩
/-- A node of the program. -/
def nodeT (n : Nn) : Th := ⟨n.feet, n.At, fun h hf hn => NAt.frm h hf hn, fun h k hk => NAt.feet_lt h k hk⟩
/-- A node of the document, its draws left out. -/
def refT (b : Nat) (v : Rv) (r : Rn) : Th :=
  ⟨rfeet b v, fun W => W.heap[b]? = some (.cells (refC r v) 93 (0, 0)) ∧ RRows0 W v r,
    fun h hf hn => ⟨(hf.block b (lt_blk h.1) (hn b (by simp [rfeet]))).trans h.1, h.2.frm hf (fun k hk => hn k (by simp [rfeet, hk]))⟩,
    fun h k hk => by
      rcases List.mem_cons.1 hk with rfl | hk
      · exact lt_blk h.1
      · exact h.2.lt hk⟩
/-- Lists of draws: nobody writes them. -/
def roT (ds : List (Value × List Int)) : Th :=
  ⟨ds.flatMap (fun p => p.1.ownBlock.toList), fun W => ∀ p ∈ ds, W.ownsRow 0 3 1 p.1 p.2.length (p.2.flatMap intC),
    fun h hf hn p hp => own_frm (h p hp) hf (fun k hk => hn k (List.mem_flatMap.2 ⟨p, hp, by simp [hk]⟩)),
    fun h k hk => by
      obtain ⟨p, hp, hk⟩ := List.mem_flatMap.1 hk
      exact (own_lt (h p hp) (Option.mem_toList.1 hk)).2⟩
/-- All of a family lie apart, from block base on; what was below base is as it was in w. -/
structure Sep {ι : Type} (base : Nat) (w W : World) (T : ι → Th) : Prop where
  rd : ∀ i, (T i).rd W
  apart : ∀ i j, i ≠ j → ∀ k ∈ (T i).feet, k ∉ (T j).feet
  low : ∀ i, ∀ k ∈ (T i).feet, base ≤ k
  below : Below base w W
  top : base ≤ W.heap.size
theorem Sep.mono {ι : Type} {base : Nat} {w W W' : World} {T : ι → Th} (h : Sep base w W T) (hb : Below W.heap.size W W') : Sep base w W' T :=
  ⟨fun i => (T i).frm (h.rd i) (Frm.of_below (S := []) hb (Nat.le_refl _)) (by simp), h.apart, h.low, h.below.trans (hb.mono h.top), Nat.le_trans h.top hb.size⟩
theorem Sep.alloc {ι : Type} {base : Nat} {w W : World} {T : ι → Th} (h : Sep base w W T) (o : Obj) : Sep base w (W.alloc o) T := h.mono ((Below.refl _ _).alloc (Nat.le_refl _) o)
theorem Sep.drewN {ι : Type} {base : Nat} {w W : World} {T : ι → Th} (h : Sep base w W T) (n : Nat) : Sep base w (W.drewN n) T := h.mono (bdrewN (Below.refl _ _) n)
theorem Sep.lt {ι : Type} {base : Nat} {w W : World} {T : ι → Th} (h : Sep base w W T) (i : ι) : ∀ k ∈ (T i).feet, k < W.heap.size := (T i).lt (h.rd i)
/-- One thing turns. -/
theorem Sep.upd {ι : Type} {base : Nat} {w W W' : World} {T T' : ι → Th} (h : Sep base w W T) (i : ι) (hf : Frm (T i).feet W W') (hr : (T' i).rd W') (hs : ∀ k ∈ (T' i).feet, k ∈ (T i).feet ∨ W.heap.size ≤ k) (he : ∀ j, j ≠ i → T' j = T j) : Sep base w W' T' := by
  have hnew : ∀ j, j ≠ i → ∀ k ∈ (T j).feet, k ∉ (T' i).feet := fun j hj k hk hk2 => by
    rcases hs k hk2 with h1 | h1
    · exact h.apart j i hj k hk h1
    · have := h.lt j k hk; omega
  refine ⟨fun j => ?_, fun j j' hne k hk => ?_, fun j k hk => ?_, ?_, Nat.le_trans h.top hf.size⟩
  · by_cases e : j = i
    · subst e; exact hr
    · rw [he j e]; exact (T j).frm (h.rd j) hf (fun k hk hk2 => h.apart j i e k hk hk2)
  · by_cases e : j = i
    · subst e
      rw [he j' (Ne.symm hne)]
      intro hk2
      exact hnew j' (Ne.symm hne) k hk2 hk
    · rw [he j e] at hk
      by_cases e' : j' = i
      · subst e'; exact hnew j e k hk
      · rw [he j' e']; exact h.apart j j' hne k hk
  · by_cases e : j = i
    · subst e
      rcases hs k hk with h1 | h1
      · exact h.low j k h1
      · exact Nat.le_trans h.top h1
    · rw [he j e] at hk; exact h.low j k hk
  · refine h.below.trans ⟨hf.os, hf.tape, hf.output, hf.size, fun k hk => hf.block k (Nat.lt_of_lt_of_le hk h.top) (fun hm => ?_)⟩
    have := h.low i k hm
    omega
/-- A thing more, where there was none. -/
theorem Sep.new {ι : Type} {base : Nat} {w W : World} {T T' : ι → Th} (h : Sep base w W T) (i : ι) (hr : (T' i).rd W) (hs : ∀ k ∈ (T' i).feet, base ≤ k ∧ ∀ j, j ≠ i → k ∉ (T j).feet) (he : ∀ j, j ≠ i → T' j = T j) : Sep base w W T' := by
  refine ⟨fun j => ?_, fun j j' hne k hk => ?_, fun j k hk => ?_, h.below, h.top⟩
  · by_cases e : j = i
    · subst e; exact hr
    · rw [he j e]; exact h.rd j
  · by_cases e : j = i
    · subst e
      rw [he j' (Ne.symm hne)]
      exact (hs k hk).2 j' (Ne.symm hne)
    · rw [he j e] at hk
      by_cases e' : j' = i
      · subst e'
        intro hk2
        exact (hs k hk2).2 j e hk
      · rw [he j' e']; exact h.apart j j' hne k hk
  · by_cases e : j = i
    · subst e; exact (hs k hk).1
    · rw [he j e] at hk; exact h.low j k hk
/-- A block that is none of theirs may turn. -/
theorem Sep.aside {ι : Type} {base : Nat} {w W W' : World} {T : ι → Th} (h : Sep base w W T) {S : List Nat} (hf : Frm S W W') (hS : ∀ k ∈ S, base ≤ k ∧ ∀ i, k ∉ (T i).feet) : Sep base w W' T := by
  refine ⟨fun i => (T i).frm (h.rd i) hf (fun k hk hk2 => (hS k hk2).2 i hk), h.apart, h.low, ?_, Nat.le_trans h.top hf.size⟩
  refine h.below.trans ⟨hf.os, hf.tape, hf.output, hf.size, fun k hk => hf.block k (Nat.lt_of_lt_of_le hk h.top) (fun hm => ?_)⟩
  have := (hS k hm).1
  omega
end Go.Proofs.YtnneljcbelgoeaaGreatDoor.wire
/- The script's World over nodes: what there is, and that it lies apart. -/
namespace Go.Proofs.YtnneljcbelgoeaaGreatDoor.wire
open Go.RowKit Go.Maps

/-- Things of which nobody writes, or one alone. -/
def Th.all (L : List Th) : Th :=
  ⟨L.flatMap Th.feet, fun W => ∀ t ∈ L, t.rd W, fun h hf hn t ht => t.frm (h t ht) hf (fun k hk => hn k (List.mem_flatMap.2 ⟨t, ht, hk⟩)),
    fun h k hk => by
      obtain ⟨t, ht, hk⟩ := List.mem_flatMap.1 hk
      exact t.lt (h t ht) k hk⟩
/-- Things go over wholly into others. -/
theorem Sep.re {ι : Type} {base : Nat} {w W : World} {T T' : ι → Th} (h : Sep base w W T) (f : ι → ι) (hr : ∀ j, (T' j).rd W) (hs : ∀ j, ∀ b ∈ (T' j).feet, ∃ i, f i = j ∧ b ∈ (T i).feet) : Sep base w W T' := by
  refine ⟨hr, fun j j' hne b hb hb' => ?_, fun j b hb => ?_, h.below, h.top⟩
  · obtain ⟨i, rfl, h1⟩ := hs j b hb
    obtain ⟨i', rfl, h2⟩ := hs j' b hb'
    exact h.apart i i' (fun e => hne (by rw [e])) b h1 h2
  · obtain ⟨i, _, h1⟩ := hs j b hb
    exact h.low i b h1
/-- One thing turns, then another one. -/
theorem Sep.upd2 {ι : Type} {base : Nat} {w W W1 W2 : World} {T T' : ι → Th} (h : Sep base w W T) (i j : ι) (hij : i ≠ j) (hf : Frm (T i).feet W W1) (hr : (T' i).rd W1) (hs : ∀ k ∈ (T' i).feet, k ∈ (T i).feet ∨ W.heap.size ≤ k)
    (hf2 : Frm (T j).feet W1 W2) (hr2 : (T' j).rd W2) (hs2 : ∀ k ∈ (T' j).feet, k ∈ (T j).feet ∨ W1.heap.size ≤ k) (he : ∀ q, q ≠ i → q ≠ j → T' q = T q) : Sep base w W2 T' ∧ (T j).rd W1 := by
  have h1 : Sep base w W1 (fun q => @ite _ (q = i) (Classical.propDecidable _) (T' i) (T q)) := by
    refine h.upd i hf (by simp only [if_pos]; exact hr) (fun k hk => ?_) (fun q hq => by rw [if_neg hq])
    simp only [if_pos] at hk
    exact hs k hk
  refine ⟨?_, ?_⟩
  · refine h1.upd j (by rw [if_neg hij.symm]; exact hf2) hr2 (fun k hk => by rw [if_neg hij.symm]; exact hs2 k hk) (fun q hq => ?_)
    by_cases e : q = i
    · subst e; rw [if_pos rfl]
    · rw [if_neg e]; exact he q e hq
  · have := h1.rd j
    rw [if_neg hij.symm] at this
    exact this
/-- A node of the script: its record, the node, its twin, the document's. -/
structure Nt where
  b : Nat
  x : Nn
  y : Nn
  rb : Nat
  rv : Rv
  r : Rn
/-- What there is. -/
structure Sg where
  tv : Value
  ts : List (List UInt8)
  m : M6
  uv : Value
  dv : Value
  ds : List Int
  c : Cfg
  nv : Value
  ns : List Nt
  pv : Value
  ps : List Pk
  lv : Value
  ls : List Value
  wv : Value
  ws : List Value
  ov : Value
  os : List Value
  kv : Value
  ks : List Value
  mark : Int
  fz : List Th
  a : List Th
  b : List Th
inductive Ix where
  | wb | fz | tx | nd | ow | ls | ws | os | ks | ta | tb
  | x (i : Nat)
  | y (i : Nat)
  | r (i : Nat)
abbrev Sg.cells (s : Sg) : Array Value := #[s.tv, .int .i64 s.m.kind, .int .i64 s.m.frm, .int .i64 s.m.inc, .int .i64 s.m.seq, .int .i64 s.m.tgt, s.uv, s.dv, .int .i64 s.c.self, .int .i64 s.c.period, .int .i64 s.c.wait, .int .i64 s.c.suspect, .int .i64 s.c.proxies, .int .i64 s.c.sends, s.nv, s.pv, s.lv, s.wv, s.ov, s.kv, .int .i64 s.mark]
abbrev textT (v : Value) (l : List (List UInt8)) : Th := rowT 9 1 v l.length (l.map fun t => .string (bs t))
abbrev nodesT (v : Value) (l : List Nt) : Th := rowT 51 1 v l.length (l.map fun n => .pointer (some ⟨n.b, 0, none⟩))
abbrev wayT (v : Value) (l : List Pk) : Th := rowT 60 2 v l.length (l.flatMap pkC)
abbrev keysT (v : Value) (l : List K3) : Th := rowT 76 3 v l.length (l.flatMap keyC)
abbrev rkeysT (v : Value) (l : List K3) : Th := rowT 58 3 v l.length (l.flatMap keyC)
abbrev pksT (v : Value) (l : List Pk) : Th := rowT 78 2 v l.length (l.flatMap pkC)
abbrev intsT (v : Value) (l : List Int) : Th := rowT 3 1 v l.length (l.flatMap intC)
abbrev listsT (v : Value) (l : List Value) : Th := rowT 46 1 v l.length l
abbrev outsT (v : Value) (l : List Value) : Th := rowT 77 1 v l.length l
abbrev recT (n : Nt) : Th := cellsT n.b #[.pointer (some ⟨n.x.nb, 0, none⟩), .pointer (some ⟨n.y.nb, 0, none⟩), .pointer (some ⟨n.rb, 0, none⟩)] 88
def onN (l : List Nt) (i : Nat) (f : Nt → Th) : Th := match l[i]? with
  | some n => f n
  | none => Th.no
def Sg.th (wb : Nat) (s : Sg) : Ix → Th
  | .wb => cellsT wb s.cells 41
  | .fz => Th.all s.fz
  | .tx => textT s.tv s.ts
  | .nd => nodesT s.nv s.ns
  | .ow => wayT s.pv s.ps
  | .ls => listsT s.lv s.ls
  | .ws => listsT s.wv s.ws
  | .os => outsT s.ov s.os
  | .ks => outsT s.kv s.ks
  | .ta => Th.all s.a
  | .tb => Th.all s.b
  | .x i => onN s.ns i (fun n => nodeT n.x)
  | .y i => onN s.ns i (fun n => nodeT n.y)
  | .r i => onN s.ns i (fun n => refT n.rb n.rv n.r)
def VS (wb : Nat) (s : Sg) (w W : World) : Prop := Sep w.heap.size w W (s.th wb)
theorem VS.blk {wb : Nat} {s : Sg} {w W : World} (h : VS wb s w W) : W.heap[wb]? = some (.cells s.cells 41 (0, 0)) := Sep.rd h .wb
theorem VS.lt {wb : Nat} {s : Sg} {w W : World} (h : VS wb s w W) : wb < W.heap.size := lt_blk h.blk
theorem VS.low {wb : Nat} {s : Sg} {w W : World} (h : VS wb s w W) : w.heap.size ≤ wb := Sep.low h .wb wb (by simp [Sg.th, cellsT])
theorem VS.cell {wb : Nat} {s : Sg} {w W : World} (h : VS wb s w W) (j : Nat) : W.cell? ⟨wb, j, none⟩ = s.cells[j]? := cell_at h.blk j
theorem VS.free {wb : Nat} {s : Sg} {w W : World} (h : VS wb s w W) (j : Nat) : W.frozen? ⟨wb, j, none⟩ = false := free_at h.blk j
theorem VS.mono {wb : Nat} {s : Sg} {w W W' : World} (h : VS wb s w W) (hb : Below W.heap.size W W') : VS wb s w W' := Sep.mono h hb
theorem VS.alloc {wb : Nat} {s : Sg} {w W : World} (h : VS wb s w W) (o : Obj) : VS wb s w (W.alloc o) := Sep.alloc h o
theorem VS.draws {wb : Nat} {s : Sg} {w W : World} (h : VS wb s w W) (k : Nat) : VS wb s w (W.drewN k) := Sep.drewN h k
theorem VS.has {wb : Nat} {s : Sg} {w W : World} (h : VS wb s w W) {t : Th} (ht : t ∈ s.fz) : t.rd W := Sep.rd h .fz t ht
theorem VS.gate {wb : Nat} {s : Sg} {w W : World} (h : VS wb s w W) {x : Value} (hlt : 0 < w.heap.size) (hg : w.cell? ⟨0, 0, none⟩ = some x) : W.cell? ⟨0, 0, none⟩ = some x := ((Sep.below h).cell (p := ⟨0, 0, none⟩) hlt).trans hg
theorem frm_cell (W : World) (b j : Nat) (u : Value) : Frm [b] W (W.setCell ⟨b, j, none⟩ u) := by
  have hb := (Below.refl 0 W).setCell (p := ⟨b, j, none⟩) (Nat.zero_le _) u
  exact ⟨hb.os, hb.tape, hb.output, hb.size, fun k _ hk => heap_setCell_other W ⟨b, j, none⟩ k u (by simpa using hk)⟩
/-- A store into the World. -/
theorem VS.store {wb : Nat} {s s' : Sg} {w W : World} (h : VS wb s w W) (j : Nat) (u : Value) (hc : s.cells.setIfInBounds j u = s'.cells) (he : ∀ q, q ≠ .wb → s'.th wb q = s.th wb q) : VS wb s' w (W.setCell ⟨wb, j, none⟩ u) := by
  refine Sep.upd h .wb (frm_cell W wb j u) ?_ (fun k hk => .inl hk) he
  show (W.setCell ⟨wb, j, none⟩ u).heap[wb]? = some (.cells s'.cells _ (0, 0))
  rw [heap_setCell_same _ _ _ _ _ _ h.blk, hc]
/-- A row grows, and the World is told. -/
theorem VS.grow {wb : Nat} {s s' : Sg} {w W W1 W2 : World} (h : VS wb s w W) (i : Ix) (hi : i ≠ .wb) (hb : Below W.heap.size W W1) (hf : Frm (s.th wb i).feet W1 W2) (hr : (s'.th wb i).rd W2) (hs : ∀ k ∈ (s'.th wb i).feet, k ∈ (s.th wb i).feet ∨ W1.heap.size ≤ k) (j : Nat) (u : Value) (hc : s.cells.setIfInBounds j u = s'.cells) (he : ∀ q, q ≠ i → q ≠ .wb → s'.th wb q = s.th wb q) :
    VS wb s' w (W2.setCell ⟨wb, j, none⟩ u) ∧ W2.heap[wb]? = some (.cells s.cells 41 (0, 0)) := by
  have hw : wb ∉ (s.th wb i).feet := fun hm => Sep.apart h i .wb hi wb hm (by simp [Sg.th, cellsT])
  have hblk : W2.heap[wb]? = some (.cells s.cells 41 (0, 0)) := (hf.block wb (lt_blk (h.mono hb).blk) hw).trans (h.mono hb).blk
  refine ⟨(Sep.upd2 (h.mono hb) i .wb hi hf hr hs (frm_cell W2 wb j u) ?_ (fun k hk => .inl hk) he).1, hblk⟩
  show (W2.setCell ⟨wb, j, none⟩ u).heap[wb]? = some (.cells s'.cells _ (0, 0))
  rw [heap_setCell_same _ _ _ _ _ _ hblk, hc]
/-- A thing that nobody writes any more. -/
theorem VS.freeze {wb : Nat} {s s' : Sg} {w W : World} (h : VS wb s w W) (L : List Th) (hr : ∀ t ∈ L, t.rd W) (hs : ∀ t ∈ L, ∀ k ∈ t.feet, w.heap.size ≤ k ∧ ∀ j, j ≠ .fz → k ∉ (s.th wb j).feet) (hfz : s'.fz = L ++ s.fz) (he : ∀ q, q ≠ .fz → s'.th wb q = s.th wb q) : VS wb s' w W := by
  have e0 : s'.th wb .fz = Th.all (L ++ s.fz) := by simp [Sg.th, hfz]
  refine ⟨fun q => ?_, fun q q' hne k hk hk' => ?_, fun q k hk => ?_, Sep.below h, Sep.top h⟩
  · by_cases e : q = .fz
    · subst e; rw [e0]
      intro t ht
      rcases List.mem_append.1 ht with h1 | h1
      · exact hr t h1
      · exact h.has h1
    · rw [he q e]; exact Sep.rd h q
  · have key : ∀ q, q ≠ .fz → ∀ k ∈ (s.th wb q).feet, k ∉ (s'.th wb .fz).feet := fun q hq k hk hk' => by
      rw [e0] at hk'
      obtain ⟨t, ht, hk2⟩ := List.mem_flatMap.1 hk'
      rcases List.mem_append.1 ht with h1 | h1
      · exact (hs t h1 k hk2).2 q hq hk
      · exact Sep.apart h q .fz hq k hk (List.mem_flatMap.2 ⟨t, h1, hk2⟩)
    by_cases e : q = .fz
    · subst e
      rw [he q' (Ne.symm hne)] at hk'
      exact key q' (Ne.symm hne) k hk' hk
    · rw [he q e] at hk
      by_cases e' : q' = .fz
      · subst e'; exact key q e k hk hk'
      · rw [he q' e'] at hk'; exact Sep.apart h q q' hne k hk hk'
  · by_cases e : q = .fz
    · subst e
      rw [e0] at hk
      obtain ⟨t, ht, hk2⟩ := List.mem_flatMap.1 hk
      rcases List.mem_append.1 ht with h1 | h1
      · exact (hs t h1 k hk2).1
      · exact Sep.low h .fz k (List.mem_flatMap.2 ⟨t, h1, hk2⟩)
    · rw [he q e] at hk; exact Sep.low h q k hk
/-- What was one's alone is nobody's to write any more. -/
theorem VS.freezeA {wb : Nat} {s : Sg} {w W : World} (h : VS wb s w W) : VS wb { s with a := [], fz := s.a ++ s.fz } w W := by
  refine Sep.re h (fun i => match i with | .ta => .fz | q => q) (fun j => ?_) (fun j k hk => ?_)
  · cases j with
    | fz =>
      intro t ht
      rcases List.mem_append.1 ht with h1 | h1
      · exact Sep.rd h .ta t h1
      · exact h.has h1
    | ta => intro t ht; cases ht
    | wb => exact Sep.rd h .wb
    | tx => exact Sep.rd h .tx
    | nd => exact Sep.rd h .nd
    | ow => exact Sep.rd h .ow
    | ls => exact Sep.rd h .ls
    | ws => exact Sep.rd h .ws
    | os => exact Sep.rd h .os
    | ks => exact Sep.rd h .ks
    | tb => exact Sep.rd h .tb
    | x i => exact Sep.rd h (.x i)
    | y i => exact Sep.rd h (.y i)
    | r i => exact Sep.rd h (.r i)
  · cases j with
    | fz =>
      obtain ⟨t, ht, hk2⟩ := List.mem_flatMap.1 hk
      rcases List.mem_append.1 ht with h1 | h1
      · exact ⟨.ta, rfl, List.mem_flatMap.2 ⟨t, h1, hk2⟩⟩
      · exact ⟨.fz, rfl, List.mem_flatMap.2 ⟨t, h1, hk2⟩⟩
    | ta => exact absurd hk (by simp [Sg.th, Th.all])
    | wb => exact ⟨.wb, rfl, hk⟩
    | tx => exact ⟨.tx, rfl, hk⟩
    | nd => exact ⟨.nd, rfl, hk⟩
    | ow => exact ⟨.ow, rfl, hk⟩
    | ls => exact ⟨.ls, rfl, hk⟩
    | ws => exact ⟨.ws, rfl, hk⟩
    | os => exact ⟨.os, rfl, hk⟩
    | ks => exact ⟨.ks, rfl, hk⟩
    | tb => exact ⟨.tb, rfl, hk⟩
    | x i => exact ⟨.x i, rfl, hk⟩
    | y i => exact ⟨.y i, rfl, hk⟩
    | r i => exact ⟨.r i, rfl, hk⟩
/-- The second becomes the first. -/
theorem VS.moveB {wb : Nat} {s : Sg} {w W : World} (h : VS wb s w W) (_ha : s.a = []) : VS wb { s with a := s.b, b := [] } w W := by
  refine Sep.re h (fun i => match i with | .tb => .ta | .ta => .tb | q => q) (fun j => ?_) (fun j k hk => ?_)
  · cases j with
    | ta => exact Sep.rd h .tb
    | tb => intro t ht; cases ht
    | fz => exact Sep.rd h .fz
    | wb => exact Sep.rd h .wb
    | tx => exact Sep.rd h .tx
    | nd => exact Sep.rd h .nd
    | ow => exact Sep.rd h .ow
    | ls => exact Sep.rd h .ls
    | ws => exact Sep.rd h .ws
    | os => exact Sep.rd h .os
    | ks => exact Sep.rd h .ks
    | x i => exact Sep.rd h (.x i)
    | y i => exact Sep.rd h (.y i)
    | r i => exact Sep.rd h (.r i)
  · cases j with
    | ta => exact ⟨.tb, rfl, hk⟩
    | tb => exact absurd hk (by simp [Sg.th, Th.all])
    | fz => exact ⟨.fz, rfl, hk⟩
    | wb => exact ⟨.wb, rfl, hk⟩
    | tx => exact ⟨.tx, rfl, hk⟩
    | nd => exact ⟨.nd, rfl, hk⟩
    | ow => exact ⟨.ow, rfl, hk⟩
    | ls => exact ⟨.ls, rfl, hk⟩
    | ws => exact ⟨.ws, rfl, hk⟩
    | os => exact ⟨.os, rfl, hk⟩
    | ks => exact ⟨.ks, rfl, hk⟩
    | x i => exact ⟨.x i, rfl, hk⟩
    | y i => exact ⟨.y i, rfl, hk⟩
    | r i => exact ⟨.r i, rfl, hk⟩
/-- A new row that is one's alone. -/
theorem VS.mineA {wb : Nat} {s : Sg} {w W : World} (h : VS wb s w W) (L : List Th) (hr : ∀ t ∈ L, t.rd W) (hs : ∀ t ∈ L, ∀ k ∈ t.feet, w.heap.size ≤ k ∧ ∀ j, j ≠ .ta → k ∉ (s.th wb j).feet) : VS wb { s with a := L } w W := by
  refine Sep.new h .ta hr (fun k hk => ?_) (fun j hj => ?_)
  · obtain ⟨t, ht, hk2⟩ := List.mem_flatMap.1 hk
    exact hs t ht k hk2
  · cases j <;> first | rfl | exact absurd rfl hj
theorem VS.mineB {wb : Nat} {s : Sg} {w W : World} (h : VS wb s w W) (L : List Th) (hr : ∀ t ∈ L, t.rd W) (hs : ∀ t ∈ L, ∀ k ∈ t.feet, w.heap.size ≤ k ∧ ∀ j, j ≠ .tb → k ∉ (s.th wb j).feet) : VS wb { s with b := L } w W := by
  refine Sep.new h .tb hr (fun k hk => ?_) (fun j hj => ?_)
  · obtain ⟨t, ht, hk2⟩ := List.mem_flatMap.1 hk
    exact hs t ht k hk2
  · cases j <;> first | rfl | exact absurd rfl hj
/-- What lies behind all that there was is none of it. -/
theorem VS.beyond {wb : Nat} {s : Sg} {w W : World} (h : VS wb s w W) {k : Nat} (hk : W.heap.size ≤ k) : w.heap.size ≤ k ∧ ∀ j, k ∉ (s.th wb j).feet :=
  ⟨Nat.le_trans (Sep.top h) hk, fun j hm => by have := Sep.lt h j k hm; omega⟩
theorem onN_set_ne {l : List Nt} {i j : Nat} {n : Nt} (h : i ≠ j) (f : Nt → Th) : onN (l.set i n) j f = onN l j f := by
  unfold onN
  rw [List.getElem?_set_ne h]
theorem onN_set_eq {l : List Nt} {i : Nat} {n n0 : Nt} (hn : l[i]? = some n0) (f : Nt → Th) : onN (l.set i n) i f = f n := by
  unfold onN
  rw [List.getElem?_set_self (List.getElem?_eq_some_iff.1 hn).1]
theorem onN_at {l : List Nt} {i : Nat} {n : Nt} (hn : l[i]? = some n) (f : Nt → Th) : onN l i f = f n := by
  unfold onN
  rw [hn]
theorem map_set_same {l : List Nt} {i : Nat} {n n' : Nt} (hn : l[i]? = some n) (hb : n'.b = n.b) : (l.set i n').map (fun n => (.pointer (some ⟨n.b, 0, none⟩) : Value)) = l.map (fun n => .pointer (some ⟨n.b, 0, none⟩)) := by
  rw [List.map_set, hb]
  apply List.ext_getElem?
  intro j
  by_cases e : i = j
  · subst e
    have hlt := (List.getElem?_eq_some_iff.1 hn).1
    rw [List.getElem?_set_self (by simpa using hlt), List.getElem?_map, hn]; rfl
  · rw [List.getElem?_set_ne e]
/-- Another node in its place: all but the node's own things stay. -/
theorem setN_th {wb : Nat} {s : Sg} {i : Nat} {n n' : Nt} (hn : s.ns[i]? = some n) (hb : n'.b = n.b) (q : Ix) (h1 : q = .x i → n'.x = n.x) (h2 : q = .y i → n'.y = n.y) (h3 : q = .r i → n'.rb = n.rb ∧ n'.rv = n.rv ∧ n'.r = n.r) : ({ s with ns := s.ns.set i n' } : Sg).th wb q = s.th wb q := by
  cases q with
  | x j =>
    by_cases e : i = j
    · subst e
      show onN (s.ns.set i n') i _ = onN s.ns i _
      rw [onN_set_eq hn, onN_at hn, h1 rfl]
    · exact onN_set_ne e _
  | y j =>
    by_cases e : i = j
    · subst e
      show onN (s.ns.set i n') i _ = onN s.ns i _
      rw [onN_set_eq hn, onN_at hn, h2 rfl]
    · exact onN_set_ne e _
  | r j =>
    by_cases e : i = j
    · subst e
      show onN (s.ns.set i n') i _ = onN s.ns i _
      obtain ⟨e1, e2, e3⟩ := h3 rfl
      rw [onN_set_eq hn, onN_at hn, e1, e2, e3]
    · exact onN_set_ne e _
  | nd =>
    show rowT _ 1 s.nv (s.ns.set i n').length ((s.ns.set i n').map _) = rowT _ 1 s.nv s.ns.length (s.ns.map _)
    rw [map_set_same hn hb, List.length_set]
  | wb => rfl
  | fz => rfl
  | tx => rfl
  | ow => rfl
  | ls => rfl
  | ws => rfl
  | os => rfl
  | ks => rfl
  | ta => rfl
  | tb => rfl
abbrev Nt.setX (n : Nt) (pv rv : Value) (x : Nd) : Nt := ⟨n.b, ⟨n.x.nb, n.x.mb, n.x.cb, pv, rv, x⟩, n.y, n.rb, n.rv, n.r⟩
abbrev Nt.setY (n : Nt) (pv rv : Value) (x : Nd) : Nt := ⟨n.b, n.x, ⟨n.y.nb, n.y.mb, n.y.cb, pv, rv, x⟩, n.rb, n.rv, n.r⟩
abbrev Nt.setR (n : Nt) (rv : Rv) (r : Rn) : Nt := ⟨n.b, n.x, n.y, n.rb, rv, r⟩
/-- A call on the node, on its twin, on the document's. -/
theorem VS.callX {wb : Nat} {s : Sg} {w W W' : World} (h : VS wb s w W) {i : Nat} {n : Nt} (hn : s.ns[i]? = some n) {x' : Nd} (ht : NTo W W' n.x.nb n.x.mb n.x.cb n.x.pv n.x.rv x') : ∃ pv rv, VS wb { s with ns := s.ns.set i (n.setX pv rv x') } w W' := by
  obtain ⟨pv, rv, h1, h2, h3⟩ := ht
  refine ⟨pv, rv, ?_⟩
  have ex : s.th wb (.x i) = nodeT n.x := onN_at hn _
  have ex' : ({ s with ns := s.ns.set i (n.setX pv rv x') } : Sg).th wb (.x i) = nodeT ⟨n.x.nb, n.x.mb, n.x.cb, pv, rv, x'⟩ := onN_set_eq hn _
  refine Sep.upd h (.x i) (by rw [ex]; exact h2) (by rw [ex']; exact h1) (by rw [ex, ex']; exact h3) (fun q hq => setN_th (n' := n.setX pv rv x') hn rfl q (fun e => absurd e hq) (fun _ => rfl) (fun _ => ⟨rfl, rfl, rfl⟩))
theorem VS.callY {wb : Nat} {s : Sg} {w W W' : World} (h : VS wb s w W) {i : Nat} {n : Nt} (hn : s.ns[i]? = some n) {x' : Nd} (ht : NTo W W' n.y.nb n.y.mb n.y.cb n.y.pv n.y.rv x') : ∃ pv rv, VS wb { s with ns := s.ns.set i (n.setY pv rv x') } w W' := by
  obtain ⟨pv, rv, h1, h2, h3⟩ := ht
  refine ⟨pv, rv, ?_⟩
  have ex : s.th wb (.y i) = nodeT n.y := onN_at hn _
  have ex' : ({ s with ns := s.ns.set i (n.setY pv rv x') } : Sg).th wb (.y i) = nodeT ⟨n.y.nb, n.y.mb, n.y.cb, pv, rv, x'⟩ := onN_set_eq hn _
  refine Sep.upd h (.y i) (by rw [ex]; exact h2) (by rw [ex']; exact h1) (by rw [ex, ex']; exact h3) (fun q hq => setN_th (n' := n.setY pv rv x') hn rfl q (fun _ => rfl) (fun e => absurd e hq) (fun _ => ⟨rfl, rfl, rfl⟩))
theorem VS.callR {wb : Nat} {s : Sg} {w W W' : World} (h : VS wb s w W) {i : Nat} {n : Nt} (hn : s.ns[i]? = some n) {rv' : Rv} {r' : Rn} (h1 : RAt W' n.rb rv' r') (h2 : Frm (rfeet n.rb n.rv) W W') (h3 : ∀ k ∈ rfeet n.rb rv', k ∈ rfeet n.rb n.rv ∨ W.heap.size ≤ k) : VS wb { s with ns := s.ns.set i (n.setR rv' r') } w W' := by
  have ex : s.th wb (.r i) = refT n.rb n.rv n.r := onN_at hn _
  have ex' : ({ s with ns := s.ns.set i (n.setR rv' r') } : Sg).th wb (.r i) = refT n.rb rv' r' := onN_set_eq hn _
  refine Sep.upd h (.r i) (by rw [ex]; exact h2) (by rw [ex']; exact ⟨h1.blk, h1.rows.toRRows0⟩) (by rw [ex, ex']; exact h3) (fun q hq => setN_th (n' := n.setR rv' r') hn rfl q (fun _ => rfl) (fun _ => rfl) (fun e => absurd e hq))
/-- The nodes, read. -/
theorem VS.atX {wb : Nat} {s : Sg} {w W : World} (h : VS wb s w W) {i : Nat} {n : Nt} (hn : s.ns[i]? = some n) : NAt W n.x.nb n.x.mb n.x.cb n.x.pv n.x.rv n.x.x := by
  have := Sep.rd h (.x i)
  rw [show s.th wb (.x i) = nodeT n.x from onN_at hn _] at this
  exact this
theorem VS.atY {wb : Nat} {s : Sg} {w W : World} (h : VS wb s w W) {i : Nat} {n : Nt} (hn : s.ns[i]? = some n) : NAt W n.y.nb n.y.mb n.y.cb n.y.pv n.y.rv n.y.x := by
  have := Sep.rd h (.y i)
  rw [show s.th wb (.y i) = nodeT n.y from onN_at hn _] at this
  exact this
theorem VS.atR {wb : Nat} {s : Sg} {w W : World} (h : VS wb s w W) {i : Nat} {n : Nt} (hn : s.ns[i]? = some n) (hd : intsT n.rv.d n.r.draws ∈ s.fz) : RAt W n.rb n.rv n.r := by
  have e := show s.th wb (.r i) = refT n.rb n.rv n.r from onN_at hn _
  have h1 := Sep.rd h (.r i)
  rw [e] at h1
  have hap := Sep.apart h (.r i) .fz (by simp)
  rw [e] at hap
  refine ⟨h1.1, h1.2, PassAt.of_own (h.has hd), fun g hg hg2 => ?_⟩
  refine hap g (by simp [refT, rfeet, Rv.all, hg]) (List.mem_flatMap.2 ⟨_, hd, ?_⟩)
  simp [rowT, hg2]
end Go.Proofs.YtnneljcbelgoeaaGreatDoor.wire
