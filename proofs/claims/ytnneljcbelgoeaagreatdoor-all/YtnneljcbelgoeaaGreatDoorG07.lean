import Derived.Test.YtnneljcbelgoeaaGreatDoorG06
import Derived.Test.YtnneljcbelgoeaaGreatDoorG05
import Derived.Deep.RegionLaw
import Derived.BigQuiet
import Derived.Deep.QuietTactic
import Derived.Deep.DeepCutAuto
import Derived.Test.YtnneljcbelgoeaaGreatDoorG00
import Derived.LaidEql
import Derived.Stop.Asserts
import Derived.RowKitTokens
/- The script's World over nodes: what there is, and that it lies apart. -/
namespace Go.Proofs.YtnneljcbelgoeaaGreatDoor.wire
open Go.RowKit Go.Maps

/-- Things of which nobody writes, or one alone. -/
def Th.all (L : List Th) : Th :=
  ⟨L.flatMap Th.feet, fun W => ∀ t ∈ L, t.rd W, fun h hf hn t ht => t.frm (h t ht) hf (fun k hk => hn k (List.mem_flatMap.2 ⟨t, ht, hk⟩)),
    fun h k hk => by
      obtain ⟨t, ht, hk⟩ := List.mem_flatMap.1 hk
      exact t.lt (h t ht) k hk⟩
/-- Things go over wholly into others. -/
theorem Sep.re {ι : Type} {base : Nat} {w W : World} {T T' : ι → Th} (h : Sep base w W T) (f : ι → ι) (hr : ∀ j, (T' j).rd W) (hs : ∀ j, ∀ b ∈ (T' j).feet, ∃ i, f i = j ∧ b ∈ (T i).feet) : Sep base w W T' := by
  refine ⟨hr, fun j j' hne b hb hb' => ?_, fun j b hb => ?_, h.below, h.top⟩
  · obtain ⟨i, rfl, h1⟩ := hs j b hb
    obtain ⟨i', rfl, h2⟩ := hs j' b hb'
    exact h.apart i i' (fun e => hne (by rw [e])) b h1 h2
  · obtain ⟨i, _, h1⟩ := hs j b hb
    exact h.low i b h1
/-- One thing turns, then another one. -/
theorem Sep.upd2 {ι : Type} {base : Nat} {w W W1 W2 : World} {T T' : ι → Th} (h : Sep base w W T) (i j : ι) (hij : i ≠ j) (hf : Frm (T i).feet W W1) (hr : (T' i).rd W1) (hs : ∀ k ∈ (T' i).feet, k ∈ (T i).feet ∨ W.heap.size ≤ k)
    (hf2 : Frm (T j).feet W1 W2) (hr2 : (T' j).rd W2) (hs2 : ∀ k ∈ (T' j).feet, k ∈ (T j).feet ∨ W1.heap.size ≤ k) (he : ∀ q, q ≠ i → q ≠ j → T' q = T q) : Sep base w W2 T' ∧ (T j).rd W1 := by
  have h1 : Sep base w W1 (fun q => @ite _ (q = i) (Classical.propDecidable _) (T' i) (T q)) := by
    refine h.upd i hf (by simp only [if_pos]; exact hr) (fun k hk => ?_) (fun q hq => by rw [if_neg hq])
    simp only [if_pos] at hk
    exact hs k hk
  refine ⟨?_, ?_⟩
  · refine h1.upd j (by rw [if_neg hij.symm]; exact hf2) hr2 (fun k hk => by rw [if_neg hij.symm]; exact hs2 k hk) (fun q hq => ?_)
    by_cases e : q = i
    · subst e; rw [if_pos rfl]
    · rw [if_neg e]; exact he q e hq
  · have := h1.rd j
    rw [if_neg hij.symm] at this
    exact this
/-- A node of the script: its record, the node, its twin, the document's. -/
structure Nt where
  b : Nat
  x : Nn
  y : Nn
  rb : Nat
  rv : Rv
  r : Rn
/-- What there is. -/
structure Sg where
  tv : Value
  ts : List (List UInt8)
  m : M6
  uv : Value
  dv : Value
  ds : List Int
  c : Cfg
  nv : Value
  ns : List Nt
  pv : Value
  ps : List Pk
  lv : Value
  ls : List Value
  wv : Value
  ws : List Value
  ov : Value
  os : List Value
  kv : Value
  ks : List Value
  mark : Int
  fz : List Th
  a : List Th
  b : List Th
inductive Ix where
  | wb | fz | tx | nd | ow | ls | ws | os | ks | ta | tb
  | x (i : Nat)
  | y (i : Nat)
  | r (i : Nat)
abbrev Sg.cells (s : Sg) : Array Value := #[s.tv, .int .i64 s.m.kind, .int .i64 s.m.frm, .int .i64 s.m.inc, .int .i64 s.m.seq, .int .i64 s.m.tgt, s.uv, s.dv, .int .i64 s.c.self, .int .i64 s.c.period, .int .i64 s.c.wait, .int .i64 s.c.suspect, .int .i64 s.c.proxies, .int .i64 s.c.sends, s.nv, s.pv, s.lv, s.wv, s.ov, s.kv, .int .i64 s.mark]
abbrev textT (v : Value) (l : List (List UInt8)) : Th := rowT 9 1 v l.length (l.map fun t => .string (bs t))
abbrev nodesT (v : Value) (l : List Nt) : Th := rowT 51 1 v l.length (l.map fun n => .pointer (some ⟨n.b, 0, none⟩))
abbrev wayT (v : Value) (l : List Pk) : Th := rowT 60 2 v l.length (l.flatMap pkC)
abbrev keysT (v : Value) (l : List K3) : Th := rowT 76 3 v l.length (l.flatMap keyC)
abbrev rkeysT (v : Value) (l : List K3) : Th := rowT 58 3 v l.length (l.flatMap keyC)
abbrev pksT (v : Value) (l : List Pk) : Th := rowT 78 2 v l.length (l.flatMap pkC)
abbrev intsT (v : Value) (l : List Int) : Th := rowT 3 1 v l.length (l.flatMap intC)
abbrev listsT (v : Value) (l : List Value) : Th := rowT 46 1 v l.length l
abbrev outsT (v : Value) (l : List Value) : Th := rowT 77 1 v l.length l
abbrev recT (n : Nt) : Th := cellsT n.b #[.pointer (some ⟨n.x.nb, 0, none⟩), .pointer (some ⟨n.y.nb, 0, none⟩), .pointer (some ⟨n.rb, 0, none⟩)] 88
def onN (l : List Nt) (i : Nat) (f : Nt → Th) : Th := match l[i]? with
  | some n => f n
  | none => Th.no
def Sg.th (wb : Nat) (s : Sg) : Ix → Th
  | .wb => cellsT wb s.cells 41
  | .fz => Th.all s.fz
  | .tx => textT s.tv s.ts
  | .nd => nodesT s.nv s.ns
  | .ow => wayT s.pv s.ps
  | .ls => listsT s.lv s.ls
  | .ws => listsT s.wv s.ws
  | .os => outsT s.ov s.os
  | .ks => outsT s.kv s.ks
  | .ta => Th.all s.a
  | .tb => Th.all s.b
  | .x i => onN s.ns i (fun n => nodeT n.x)
  | .y i => onN s.ns i (fun n => nodeT n.y)
  | .r i => onN s.ns i (fun n => refT n.rb n.rv n.r)
def VS (wb : Nat) (s : Sg) (w W : World) : Prop := Sep w.heap.size w W (s.th wb)
theorem VS.blk {wb : Nat} {s : Sg} {w W : World} (h : VS wb s w W) : W.heap[wb]? = some (.cells s.cells 41 (0, 0)) := Sep.rd h .wb
theorem VS.lt {wb : Nat} {s : Sg} {w W : World} (h : VS wb s w W) : wb < W.heap.size := lt_blk h.blk
theorem VS.low {wb : Nat} {s : Sg} {w W : World} (h : VS wb s w W) : w.heap.size ≤ wb := Sep.low h .wb wb (by simp [Sg.th, cellsT])
theorem VS.cell {wb : Nat} {s : Sg} {w W : World} (h : VS wb s w W) (j : Nat) : W.cell? ⟨wb, j, none⟩ = s.cells[j]? := cell_at h.blk j
theorem VS.free {wb : Nat} {s : Sg} {w W : World} (h : VS wb s w W) (j : Nat) : W.frozen? ⟨wb, j, none⟩ = false := free_at h.blk j
theorem VS.mono {wb : Nat} {s : Sg} {w W W' : World} (h : VS wb s w W) (hb : Below W.heap.size W W') : VS wb s w W' := Sep.mono h hb
theorem VS.alloc {wb : Nat} {s : Sg} {w W : World} (h : VS wb s w W) (o : Obj) : VS wb s w (W.alloc o) := Sep.alloc h o
theorem VS.draws {wb : Nat} {s : Sg} {w W : World} (h : VS wb s w W) (k : Nat) : VS wb s w (W.drewN k) := Sep.drewN h k
theorem VS.has {wb : Nat} {s : Sg} {w W : World} (h : VS wb s w W) {t : Th} (ht : t ∈ s.fz) : t.rd W := Sep.rd h .fz t ht
theorem VS.gate {wb : Nat} {s : Sg} {w W : World} (h : VS wb s w W) {x : Value} (hlt : 0 < w.heap.size) (hg : w.cell? ⟨0, 0, none⟩ = some x) : W.cell? ⟨0, 0, none⟩ = some x := ((Sep.below h).cell (p := ⟨0, 0, none⟩) hlt).trans hg
theorem frm_cell (W : World) (b j : Nat) (u : Value) : Frm [b] W (W.setCell ⟨b, j, none⟩ u) := by
  have hb := (Below.refl 0 W).setCell (p := ⟨b, j, none⟩) (Nat.zero_le _) u
  exact ⟨hb.os, hb.tape, hb.output, hb.size, fun k _ hk => heap_setCell_other W ⟨b, j, none⟩ k u (by simpa using hk)⟩
/-- A store into the World. -/
theorem VS.store {wb : Nat} {s s' : Sg} {w W : World} (h : VS wb s w W) (j : Nat) (u : Value) (hc : s.cells.setIfInBounds j u = s'.cells) (he : ∀ q, q ≠ .wb → s'.th wb q = s.th wb q) : VS wb s' w (W.setCell ⟨wb, j, none⟩ u) := by
  refine Sep.upd h .wb (frm_cell W wb j u) ?_ (fun k hk => .inl hk) he
  show (W.setCell ⟨wb, j, none⟩ u).heap[wb]? = some (.cells s'.cells _ (0, 0))
  rw [heap_setCell_same _ _ _ _ _ _ h.blk, hc]
/-- A row grows, and the World is told. -/
theorem VS.grow {wb : Nat} {s s' : Sg} {w W W1 W2 : World} (h : VS wb s w W) (i : Ix) (hi : i ≠ .wb) (hb : Below W.heap.size W W1) (hf : Frm (s.th wb i).feet W1 W2) (hr : (s'.th wb i).rd W2) (hs : ∀ k ∈ (s'.th wb i).feet, k ∈ (s.th wb i).feet ∨ W1.heap.size ≤ k) (j : Nat) (u : Value) (hc : s.cells.setIfInBounds j u = s'.cells) (he : ∀ q, q ≠ i → q ≠ .wb → s'.th wb q = s.th wb q) :
    VS wb s' w (W2.setCell ⟨wb, j, none⟩ u) ∧ W2.heap[wb]? = some (.cells s.cells 41 (0, 0)) := by
  have hw : wb ∉ (s.th wb i).feet := fun hm => Sep.apart h i .wb hi wb hm (by simp [Sg.th, cellsT])
  have hblk : W2.heap[wb]? = some (.cells s.cells 41 (0, 0)) := (hf.block wb (lt_blk (h.mono hb).blk) hw).trans (h.mono hb).blk
  refine ⟨(Sep.upd2 (h.mono hb) i .wb hi hf hr hs (frm_cell W2 wb j u) ?_ (fun k hk => .inl hk) he).1, hblk⟩
  show (W2.setCell ⟨wb, j, none⟩ u).heap[wb]? = some (.cells s'.cells _ (0, 0))
  rw [heap_setCell_same _ _ _ _ _ _ hblk, hc]
/-- A thing that nobody writes any more. -/
theorem VS.freeze {wb : Nat} {s s' : Sg} {w W : World} (h : VS wb s w W) (L : List Th) (hr : ∀ t ∈ L, t.rd W) (hs : ∀ t ∈ L, ∀ k ∈ t.feet, w.heap.size ≤ k ∧ ∀ j, j ≠ .fz → k ∉ (s.th wb j).feet) (hfz : s'.fz = L ++ s.fz) (he : ∀ q, q ≠ .fz → s'.th wb q = s.th wb q) : VS wb s' w W := by
  have e0 : s'.th wb .fz = Th.all (L ++ s.fz) := by simp [Sg.th, hfz]
  refine ⟨fun q => ?_, fun q q' hne k hk hk' => ?_, fun q k hk => ?_, Sep.below h, Sep.top h⟩
  · by_cases e : q = .fz
    · subst e; rw [e0]
      intro t ht
      rcases List.mem_append.1 ht with h1 | h1
      · exact hr t h1
      · exact h.has h1
    · rw [he q e]; exact Sep.rd h q
  · have key : ∀ q, q ≠ .fz → ∀ k ∈ (s.th wb q).feet, k ∉ (s'.th wb .fz).feet := fun q hq k hk hk' => by
      rw [e0] at hk'
      obtain ⟨t, ht, hk2⟩ := List.mem_flatMap.1 hk'
      rcases List.mem_append.1 ht with h1 | h1
      · exact (hs t h1 k hk2).2 q hq hk
      · exact Sep.apart h q .fz hq k hk (List.mem_flatMap.2 ⟨t, h1, hk2⟩)
    by_cases e : q = .fz
    · subst e
      rw [he q' (Ne.symm hne)] at hk'
      exact key q' (Ne.symm hne) k hk' hk
    · rw [he q e] at hk
      by_cases e' : q' = .fz
      · subst e'; exact key q e k hk hk'
      · rw [he q' e'] at hk'; exact Sep.apart h q q' hne k hk hk'
  · by_cases e : q = .fz
    · subst e
      rw [e0] at hk
      obtain ⟨t, ht, hk2⟩ := List.mem_flatMap.1 hk
      rcases List.mem_append.1 ht with h1 | h1
      · exact (hs t h1 k hk2).1
      · exact Sep.low h .fz k (List.mem_flatMap.2 ⟨t, h1, hk2⟩)
    · rw [he q e] at hk; exact Sep.low h q k hk
/-- What was one's alone is nobody's to write any more. -/
theorem VS.freezeA {wb : Nat} {s : Sg} {w W : World} (h : VS wb s w W) : VS wb { s with a := [], fz := s.a ++ s.fz } w W := by
  refine Sep.re h (fun i => match i with | .ta => .fz | q => q) (fun j => ?_) (fun j k hk => ?_)
  · cases j with
    | fz =>
      intro t ht
      rcases List.mem_append.1 ht with h1 | h1
      · exact Sep.rd h .ta t h1
      · exact h.has h1
    | ta => intro t ht; cases ht
    | wb => exact Sep.rd h .wb
    | tx => exact Sep.rd h .tx
    | nd => exact Sep.rd h .nd
    | ow => exact Sep.rd h .ow
    | ls => exact Sep.rd h .ls
    | ws => exact Sep.rd h .ws
    | os => exact Sep.rd h .os
    | ks => exact Sep.rd h .ks
    | tb => exact Sep.rd h .tb
    | x i => exact Sep.rd h (.x i)
    | y i => exact Sep.rd h (.y i)
    | r i => exact Sep.rd h (.r i)
  · cases j with
    | fz =>
      obtain ⟨t, ht, hk2⟩ := List.mem_flatMap.1 hk
      rcases List.mem_append.1 ht with h1 | h1
      · exact ⟨.ta, rfl, List.mem_flatMap.2 ⟨t, h1, hk2⟩⟩
      · exact ⟨.fz, rfl, List.mem_flatMap.2 ⟨t, h1, hk2⟩⟩
    | ta => exact absurd hk (by simp [Sg.th, Th.all])
    | wb => exact ⟨.wb, rfl, hk⟩
    | tx => exact ⟨.tx, rfl, hk⟩
    | nd => exact ⟨.nd, rfl, hk⟩
    | ow => exact ⟨.ow, rfl, hk⟩
    | ls => exact ⟨.ls, rfl, hk⟩
    | ws => exact ⟨.ws, rfl, hk⟩
    | os => exact ⟨.os, rfl, hk⟩
    | ks => exact ⟨.ks, rfl, hk⟩
    | tb => exact ⟨.tb, rfl, hk⟩
    | x i => exact ⟨.x i, rfl, hk⟩
    | y i => exact ⟨.y i, rfl, hk⟩
    | r i => exact ⟨.r i, rfl, hk⟩
/-- The second becomes the first. -/
theorem VS.moveB {wb : Nat} {s : Sg} {w W : World} (h : VS wb s w W) (_ha : s.a = []) : VS wb { s with a := s.b, b := [] } w W := by
  refine Sep.re h (fun i => match i with | .tb => .ta | .ta => .tb | q => q) (fun j => ?_) (fun j k hk => ?_)
  · cases j with
    | ta => exact Sep.rd h .tb
    | tb => intro t ht; cases ht
    | fz => exact Sep.rd h .fz
    | wb => exact Sep.rd h .wb
    | tx => exact Sep.rd h .tx
    | nd => exact Sep.rd h .nd
    | ow => exact Sep.rd h .ow
    | ls => exact Sep.rd h .ls
    | ws => exact Sep.rd h .ws
    | os => exact Sep.rd h .os
    | ks => exact Sep.rd h .ks
    | x i => exact Sep.rd h (.x i)
    | y i => exact Sep.rd h (.y i)
    | r i => exact Sep.rd h (.r i)
  · cases j with
    | ta => exact ⟨.tb, rfl, hk⟩
    | tb => exact absurd hk (by simp [Sg.th, Th.all])
    | fz => exact ⟨.fz, rfl, hk⟩
    | wb => exact ⟨.wb, rfl, hk⟩
    | tx => exact ⟨.tx, rfl, hk⟩
    | nd => exact ⟨.nd, rfl, hk⟩
    | ow => exact ⟨.ow, rfl, hk⟩
    | ls => exact ⟨.ls, rfl, hk⟩
    | ws => exact ⟨.ws, rfl, hk⟩
    | os => exact ⟨.os, rfl, hk⟩
    | ks => exact ⟨.ks, rfl, hk⟩
    | x i => exact ⟨.x i, rfl, hk⟩
    | y i => exact ⟨.y i, rfl, hk⟩
    | r i => exact ⟨.r i, rfl, hk⟩
/-- A new row that is one's alone. -/
theorem VS.mineA {wb : Nat} {s : Sg} {w W : World} (h : VS wb s w W) (L : List Th) (hr : ∀ t ∈ L, t.rd W) (hs : ∀ t ∈ L, ∀ k ∈ t.feet, w.heap.size ≤ k ∧ ∀ j, j ≠ .ta → k ∉ (s.th wb j).feet) : VS wb { s with a := L } w W := by
  refine Sep.new h .ta hr (fun k hk => ?_) (fun j hj => ?_)
  · obtain ⟨t, ht, hk2⟩ := List.mem_flatMap.1 hk
    exact hs t ht k hk2
  · cases j <;> first | rfl | exact absurd rfl hj
theorem VS.mineB {wb : Nat} {s : Sg} {w W : World} (h : VS wb s w W) (L : List Th) (hr : ∀ t ∈ L, t.rd W) (hs : ∀ t ∈ L, ∀ k ∈ t.feet, w.heap.size ≤ k ∧ ∀ j, j ≠ .tb → k ∉ (s.th wb j).feet) : VS wb { s with b := L } w W := by
  refine Sep.new h .tb hr (fun k hk => ?_) (fun j hj => ?_)
  · obtain ⟨t, ht, hk2⟩ := List.mem_flatMap.1 hk
    exact hs t ht k hk2
  · cases j <;> first | rfl | exact absurd rfl hj
/-- What lies behind all that there was is none of it. -/
theorem VS.beyond {wb : Nat} {s : Sg} {w W : World} (h : VS wb s w W) {k : Nat} (hk : W.heap.size ≤ k) : w.heap.size ≤ k ∧ ∀ j, k ∉ (s.th wb j).feet :=
  ⟨Nat.le_trans (Sep.top h) hk, fun j hm => by have := Sep.lt h j k hm; omega⟩
theorem onN_set_ne {l : List Nt} {i j : Nat} {n : Nt} (h : i ≠ j) (f : Nt → Th) : onN (l.set i n) j f = onN l j f := by
  unfold onN
  rw [List.getElem?_set_ne h]
theorem onN_set_eq {l : List Nt} {i : Nat} {n n0 : Nt} (hn : l[i]? = some n0) (f : Nt → Th) : onN (l.set i n) i f = f n := by
  unfold onN
  rw [List.getElem?_set_self (List.getElem?_eq_some_iff.1 hn).1]
theorem onN_at {l : List Nt} {i : Nat} {n : Nt} (hn : l[i]? = some n) (f : Nt → Th) : onN l i f = f n := by
  unfold onN
  rw [hn]
theorem map_set_same {l : List Nt} {i : Nat} {n n' : Nt} (hn : l[i]? = some n) (hb : n'.b = n.b) : (l.set i n').map (fun n => (.pointer (some ⟨n.b, 0, none⟩) : Value)) = l.map (fun n => .pointer (some ⟨n.b, 0, none⟩)) := by
  rw [List.map_set, hb]
  apply List.ext_getElem?
  intro j
  by_cases e : i = j
  · subst e
    have hlt := (List.getElem?_eq_some_iff.1 hn).1
    rw [List.getElem?_set_self (by simpa using hlt), List.getElem?_map, hn]; rfl
  · rw [List.getElem?_set_ne e]
/-- Another node in its place: all but the node's own things stay. -/
theorem setN_th {wb : Nat} {s : Sg} {i : Nat} {n n' : Nt} (hn : s.ns[i]? = some n) (hb : n'.b = n.b) (q : Ix) (h1 : q = .x i → n'.x = n.x) (h2 : q = .y i → n'.y = n.y) (h3 : q = .r i → n'.rb = n.rb ∧ n'.rv = n.rv ∧ n'.r = n.r) : ({ s with ns := s.ns.set i n' } : Sg).th wb q = s.th wb q := by
  cases q with
  | x j =>
    by_cases e : i = j
    · subst e
      show onN (s.ns.set i n') i _ = onN s.ns i _
      rw [onN_set_eq hn, onN_at hn, h1 rfl]
    · exact onN_set_ne e _
  | y j =>
    by_cases e : i = j
    · subst e
      show onN (s.ns.set i n') i _ = onN s.ns i _
      rw [onN_set_eq hn, onN_at hn, h2 rfl]
    · exact onN_set_ne e _
  | r j =>
    by_cases e : i = j
    · subst e
      show onN (s.ns.set i n') i _ = onN s.ns i _
      obtain ⟨e1, e2, e3⟩ := h3 rfl
      rw [onN_set_eq hn, onN_at hn, e1, e2, e3]
    · exact onN_set_ne e _
  | nd =>
    show rowT _ 1 s.nv (s.ns.set i n').length ((s.ns.set i n').map _) = rowT _ 1 s.nv s.ns.length (s.ns.map _)
    rw [map_set_same hn hb, List.length_set]
  | wb => rfl
  | fz => rfl
  | tx => rfl
  | ow => rfl
  | ls => rfl
  | ws => rfl
  | os => rfl
  | ks => rfl
  | ta => rfl
  | tb => rfl
abbrev Nt.setX (n : Nt) (pv rv : Value) (x : Nd) : Nt := ⟨n.b, ⟨n.x.nb, n.x.mb, n.x.cb, pv, rv, x⟩, n.y, n.rb, n.rv, n.r⟩
abbrev Nt.setY (n : Nt) (pv rv : Value) (x : Nd) : Nt := ⟨n.b, n.x, ⟨n.y.nb, n.y.mb, n.y.cb, pv, rv, x⟩, n.rb, n.rv, n.r⟩
abbrev Nt.setR (n : Nt) (rv : Rv) (r : Rn) : Nt := ⟨n.b, n.x, n.y, n.rb, rv, r⟩
/-- A call on the node, on its twin, on the document's. -/
theorem VS.callX {wb : Nat} {s : Sg} {w W W' : World} (h : VS wb s w W) {i : Nat} {n : Nt} (hn : s.ns[i]? = some n) {x' : Nd} (ht : NTo W W' n.x.nb n.x.mb n.x.cb n.x.pv n.x.rv x') : ∃ pv rv, VS wb { s with ns := s.ns.set i (n.setX pv rv x') } w W' := by
  obtain ⟨pv, rv, h1, h2, h3⟩ := ht
  refine ⟨pv, rv, ?_⟩
  have ex : s.th wb (.x i) = nodeT n.x := onN_at hn _
  have ex' : ({ s with ns := s.ns.set i (n.setX pv rv x') } : Sg).th wb (.x i) = nodeT ⟨n.x.nb, n.x.mb, n.x.cb, pv, rv, x'⟩ := onN_set_eq hn _
  refine Sep.upd h (.x i) (by rw [ex]; exact h2) (by rw [ex']; exact h1) (by rw [ex, ex']; exact h3) (fun q hq => setN_th (n' := n.setX pv rv x') hn rfl q (fun e => absurd e hq) (fun _ => rfl) (fun _ => ⟨rfl, rfl, rfl⟩))
theorem VS.callY {wb : Nat} {s : Sg} {w W W' : World} (h : VS wb s w W) {i : Nat} {n : Nt} (hn : s.ns[i]? = some n) {x' : Nd} (ht : NTo W W' n.y.nb n.y.mb n.y.cb n.y.pv n.y.rv x') : ∃ pv rv, VS wb { s with ns := s.ns.set i (n.setY pv rv x') } w W' := by
  obtain ⟨pv, rv, h1, h2, h3⟩ := ht
  refine ⟨pv, rv, ?_⟩
  have ex : s.th wb (.y i) = nodeT n.y := onN_at hn _
  have ex' : ({ s with ns := s.ns.set i (n.setY pv rv x') } : Sg).th wb (.y i) = nodeT ⟨n.y.nb, n.y.mb, n.y.cb, pv, rv, x'⟩ := onN_set_eq hn _
  refine Sep.upd h (.y i) (by rw [ex]; exact h2) (by rw [ex']; exact h1) (by rw [ex, ex']; exact h3) (fun q hq => setN_th (n' := n.setY pv rv x') hn rfl q (fun _ => rfl) (fun e => absurd e hq) (fun _ => ⟨rfl, rfl, rfl⟩))
theorem VS.callR {wb : Nat} {s : Sg} {w W W' : World} (h : VS wb s w W) {i : Nat} {n : Nt} (hn : s.ns[i]? = some n) {rv' : Rv} {r' : Rn} (h1 : RAt W' n.rb rv' r') (h2 : Frm (rfeet n.rb n.rv) W W') (h3 : ∀ k ∈ rfeet n.rb rv', k ∈ rfeet n.rb n.rv ∨ W.heap.size ≤ k) : VS wb { s with ns := s.ns.set i (n.setR rv' r') } w W' := by
  have ex : s.th wb (.r i) = refT n.rb n.rv n.r := onN_at hn _
  have ex' : ({ s with ns := s.ns.set i (n.setR rv' r') } : Sg).th wb (.r i) = refT n.rb rv' r' := onN_set_eq hn _
  refine Sep.upd h (.r i) (by rw [ex]; exact h2) (by rw [ex']; exact ⟨h1.blk, h1.rows.toRRows0⟩) (by rw [ex, ex']; exact h3) (fun q hq => setN_th (n' := n.setR rv' r') hn rfl q (fun _ => rfl) (fun _ => rfl) (fun e => absurd e hq))
/-- The nodes, read. -/
theorem VS.atX {wb : Nat} {s : Sg} {w W : World} (h : VS wb s w W) {i : Nat} {n : Nt} (hn : s.ns[i]? = some n) : NAt W n.x.nb n.x.mb n.x.cb n.x.pv n.x.rv n.x.x := by
  have := Sep.rd h (.x i)
  rw [show s.th wb (.x i) = nodeT n.x from onN_at hn _] at this
  exact this
theorem VS.atY {wb : Nat} {s : Sg} {w W : World} (h : VS wb s w W) {i : Nat} {n : Nt} (hn : s.ns[i]? = some n) : NAt W n.y.nb n.y.mb n.y.cb n.y.pv n.y.rv n.y.x := by
  have := Sep.rd h (.y i)
  rw [show s.th wb (.y i) = nodeT n.y from onN_at hn _] at this
  exact this
theorem VS.atR {wb : Nat} {s : Sg} {w W : World} (h : VS wb s w W) {i : Nat} {n : Nt} (hn : s.ns[i]? = some n) (hd : intsT n.rv.d n.r.draws ∈ s.fz) : RAt W n.rb n.rv n.r := by
  have e := show s.th wb (.r i) = refT n.rb n.rv n.r from onN_at hn _
  have h1 := Sep.rd h (.r i)
  rw [e] at h1
  have hap := Sep.apart h (.r i) .fz (by simp)
  rw [e] at hap
  refine ⟨h1.1, h1.2, PassAt.of_own (h.has hd), fun g hg hg2 => ?_⟩
  refine hap g (by simp [refT, rfeet, Rv.all, hg]) (List.mem_flatMap.2 ⟨_, hd, ?_⟩)
  simp [rowT, hg2]
end Go.Proofs.YtnneljcbelgoeaaGreatDoor.wire
/- The document's node: a change (P6). -/
namespace Go.Proofs.YtnneljcbelgoeaaGreatDoor.wire
open Go.RowKit Go.Maps

theorem ety_of {P : Program} {t e : TypeId} {z : Value} {size bytes : Nat} (hu : P.underlying t = some (.slice e)) (hi : (P.info? e).map (fun i => (i.zero, i.size, i.bytes)) = some (some z, size, bytes)) (hz : z.cells.size = size) (h0 : 0 < size) (hb : bytes ≤ 1000) : Ety P t e size bytes := by
  obtain ⟨ti, h1, h2, h3, h4⟩ := info_parts hi
  exact ⟨⟨ti, z, hu, h1, h2, h3, h4, hz, h0⟩, hb⟩
theorem infoRMember : (Tryz.prog.info? 134).map (fun i => (i.zero, i.size, i.bytes)) = some (some (.agg #[.int .i64 0, .int .i64 0, .int .i64 0, .int .i64 0]), 4, 32) := by kernel_rfl
theorem infoRUpdate : (Tryz.prog.info? 158).map (fun i => (i.zero, i.size, i.bytes)) = some (some (.agg #[.int .i64 0, .int .i64 0, .int .i64 0, .int .i64 0]), 4, 32) := by kernel_rfl
theorem infoRRelay : (Tryz.prog.info? 132).map (fun i => (i.zero, i.size, i.bytes)) = some (some (.agg #[.int .i64 0, .int .i64 0, .int .i64 0, .int .i64 0, .int .i64 0]), 5, 40) := by kernel_rfl
theorem infoRKeyE : (Tryz.prog.info? 58).map (fun i => (i.zero, i.size, i.bytes)) = some (some (.agg #[.int .i64 0, .int .i64 0, .int .i64 0]), 3, 24) := by kernel_rfl
theorem infoRPacket : (Tryz.prog.info? 60).map (fun i => (i.zero, i.size, i.bytes)) = some (some (.agg #[.int .i64 0, .string ⟨#[]⟩]), 2, 24) := by kernel_rfl
theorem infoRInt : (Tryz.prog.info? 3).map (fun i => (i.zero, i.size, i.bytes)) = some (some (.int .i64 0), 1, 8) := by kernel_rfl
theorem etyM : Ety Tryz.prog 89 134 4 32 := ety_of Tryz.underlying89 infoRMember rfl (by omega) (by omega)
theorem etyU : Ety Tryz.prog 90 158 4 32 := ety_of Tryz.underlying90 infoRUpdate rfl (by omega) (by omega)
theorem etyR : Ety Tryz.prog 91 132 5 40 := ety_of Tryz.underlying91 infoRRelay rfl (by omega) (by omega)
theorem etyK : Ety Tryz.prog 31 58 3 24 := ety_of Tryz.underlying31 infoRKeyE rfl (by omega) (by omega)
theorem etyP : Ety Tryz.prog 37 60 2 24 := ety_of Tryz.underlying37 infoRPacket rfl (by omega) (by omega)
theorem etyI : Ety Tryz.prog 24 3 1 8 := ety_of Tryz.underlying24 infoRInt rfl (by omega) (by omega)
theorem one_of {α : Type} {f : α → List Value} (hf : ∀ a, ∀ u ∈ f a, u.oneCell' = true) (l : List α) : ∀ u ∈ l.flatMap f, u.oneCell' = true := fun u hu => by
  obtain ⟨a, _, ha⟩ := List.mem_flatMap.1 hu
  exact hf a u ha
theorem rm_one (m : RM) : ∀ u ∈ rmC m, u.oneCell' = true := by simp [rmC, Value.oneCell']
theorem ru_one (m : RU) : ∀ u ∈ ruC m, u.oneCell' = true := by simp [ruC, Value.oneCell']
theorem rr_one (m : Rel) : ∀ u ∈ rrC m, u.oneCell' = true := by simp [rrC, Value.oneCell']
theorem key_one (m : K3) : ∀ u ∈ keyC m, u.oneCell' = true := by simp [keyC, Value.oneCell']
theorem pk_one (m : Pk) : ∀ u ∈ pkC m, u.oneCell' = true := by simp [pkC, Value.oneCell']
theorem int_one (m : Int) : ∀ u ∈ intC m, u.oneCell' = true := by simp [intC, Value.oneCell']
/-- Where the new row of an append lies. -/
theorem at_grown {w w1 : World} {v v' : Value} (hs : w.heap.size ≤ w1.heap.size) (h : v'.ownBlock = v.ownBlock ∨ v'.ownBlock = some w1.heap.size) : ∀ g, v'.ownBlock = some g → v.ownBlock = some g ∨ w.heap.size ≤ g := fun g hg => by
  rcases h with h | h
  · exact .inl (h ▸ hg)
  · rw [h] at hg; cases hg; exact .inr hs
theorem take_filter {α : Type} (p : α → Bool) (l : List α) (k : Nat) (h : k < l.length) : (l.take (k + 1)).filter p = (l.take k).filter p ++ (if p l[k] then [l[k]] else []) := by
  rw [List.take_succ_eq_append_getElem h, List.filter_append]
  congr 1
  by_cases e : p l[k] <;> simp [e]
theorem own_base0 {W : World} {b : Nat} {e : TypeId} {z : Nat} {v : Value} {n : Nat} {xs : List Value} (h : W.ownsRow b e z v n xs) : W.ownsRow 0 e z v n xs := by
  refine ⟨h.1, ?_⟩
  rcases h.2 with r | ⟨g, c, cur, ev, h1, rest⟩
  · exact .inl r
  · exact .inr ⟨g, c, cur, ev, Nat.zero_le _, rest⟩
theorem RTo.from {W w1 w2 : World} {b : Nat} {v : Rv} {r : Rn} (hb : Below W.heap.size W w1) (h : RTo w1 w2 b v r) : RTo W w2 b v r := .trans rfl (Frm.of_below hb (Nat.le_refl _)) (fun _ hk => .inl hk) h
set_option maxHeartbeats 2000000 in
set_option maxRecDepth 100000 in
theorem rchanged_any {W : World} {b : Nat} {v : Rv} {r : Rn} (h : RAt W b v r) (he : r.evs.length ≤ 8) (hq : r.queue.length ≤ 1000) (hl : 0 ≤ r.lost ∧ r.lost ≤ 1000000000000) (k : K3) :
    Calls Tryz.prog 67 #[.pointer (some ⟨b, 0, none⟩), kval k] W fun e w' => e = .returned (.tuple #[]) ∧ RTo W w' b v (r.changed k) := by
  obtain ⟨ka, kb, kc⟩ := k
  have h0 := h.alloc (.cells #[.int .i64 ka, .int .i64 kb, .int .i64 kc] 58)
  have hb0 := (Below.refl W.heap.size W).alloc (Nat.le_refl _) (.cells #[.int .i64 ka, .int .i64 kb, .int .i64 kc] 58)
  have hx0 : (W.alloc (.cells #[.int .i64 ka, .int .i64 kb, .int .i64 kc] 58)).heap[W.heap.size]? = some (.cells #[.int .i64 ka, .int .i64 kb, .int .i64 kc] 58 (0, 0)) := heap_alloc_new W _
  have hnf : W.heap.size ∉ rfeet b v := fun hm => by have := h.lt hm; omega
  have HNF := hide hnf
  generalize hw1 : W.alloc (.cells #[.int .i64 ka, .int .i64 kb, .int .i64 kc] 58) = w1 at h0 hb0 hx0
  obtain ⟨eo, ec, hev, _⟩ := row_form h0.rows.e
  have c22 := h0.cell 22
  have c23 := h0.cell 23
  have f22 := h0.free 22
  have f23 := h0.free 23
  have hlt := h0.ltb
  have k0 := cell_at hx0 0
  have k1 := cell_at hx0 1
  have k2 := cell_at hx0 2
  have hltk := lt_blk hx0
  simp only [refC, List.getElem?_toArray, List.getElem?_cons_zero, List.getElem?_cons_succ, hev] at c22 c23 k0 k1 k2
  obtain ⟨R1, hR1⟩ : ∃ R1 : Rn, R1 = { r with evs := if r.evs.length = 8 then r.evs else r.evs ++ [⟨ka, kb, kc⟩], lost := if r.evs.length = 8 then r.lost + 1 else r.lost } := ⟨_, rfl⟩
  have hch : r.changed ⟨ka, kb, kc⟩ = { R1 with queue := R1.queue.filter (fun u => !(u.k.id == ka)) ++ [⟨⟨ka, kb, kc⟩, 0⟩] } := by rw [hR1]; rfl
  have hq1 : R1.queue.length ≤ 1000 := by rw [hR1]; exact hq
  rw [hch]
  have H0 := hide h0
  have HB0 := hide hb0
  have HX0 := hide hx0
  clear hch hq h h0 hb0 hx0 hnf
  go_enter Tryz.func67, Tryz.ntmps67
  go_upto_if 12 with fail
  go_cut [] (fun wq => RTo w1 wq b v R1)
  case first =>
   by_cases h8 : r.evs.length = 8
   · have hn8 : ((r.evs.length : Int) == 8) = true := by rw [beq_iff_eq]; omega
     have HS := hide ((unhide H0).set 23 (.int .i64 (r.lost + 1)) (r' := R1) (by rw [hR1]; simp only [if_pos h8]; rfl) (by rw [hR1]) (by rw [hR1]) (by rw [hR1]) (by rw [hR1]) (by rw [hR1]) (by rw [hR1]; simp only [if_pos h8]) (by rw [hR1])).2
     go_wp2
     go_meet
     case rel => exact unhide HS
   · have hn8 : ((r.evs.length : Int) == 8) = false := by rw [beq_eq_false_iff_ne]; omega
     have HOE := hide (hev ▸ (unhide H0).rows.e : w1.ownsRow 0 58 3 (.slice eo r.evs.length ec) r.evs.length (r.evs.flatMap keyC))
     go_wp2_with fail
     clear hw1
     go_region_law
      ((refine step_app (by rfl) _ _ (by rfl) etyK 0 (by rfl) (by rfl) (v1 := .slice eo r.evs.length ec) (n1 := r.evs.length) (xs1 := r.evs.flatMap keyC) (n := 1) (xs := keyC ⟨ka, kb, kc⟩) (((unhide HOE).alloc _).drew) (Src.box 3 1 1 (heap_alloc_new w1 _) (by rfl)) (key_one _) (by omega) (by omega) ?_; intro v' w2 ho2 hg2 hat2))
     all_goals
      have hf2 : Frm v.e.ownBlock.toList w1 w2 := hev ▸ (Frm.of_below (bdrew ((Below.refl _ _).alloc (Nat.le_refl _) _)) (Nat.le_refl _)).trans (frm_grown hg2) (fun j hj => .inl hj)
      have hat3 : ∀ g, v'.ownBlock = some g → v.e.ownBlock = some g ∨ w1.heap.size ≤ g := hev ▸ at_grown (w := w1) (by simp) hat2
      have hs2 := (unhide H0).setE (l := r.evs ++ [⟨ka, kb, kc⟩]) hf2 hat3 (by simpa using ho2)
      have hbb : w2.heap[b]? = some (.cells (refC r v) 93 (0, 0)) := (hf2.block b hlt (fun hm => (unhide H0).rows.not (unhide H0).blk |>.1 (by simp only [Rv.all, List.mem_append]; simp [hm]))).trans (unhide H0).blk
      have d22 := cell_at hbb 22
      have g22 := free_at hbb 22
      obtain ⟨ao', cap', hv'⟩ := own_form ho2
      subst hv'
      simp only [refC, List.getElem?_toArray, List.getElem?_cons_zero, List.getElem?_cons_succ, hev] at d22
      have eR : ({ r with evs := r.evs ++ [⟨ka, kb, kc⟩] } : Rn) = R1 := by rw [hR1]; simp only [if_neg h8]
      rw [eR] at hs2
      have HS := hide hs2
      clear eR hs2 hbb hf2 hat3 ho2 hg2 hat2 c22 c23 f22 f23 hn8 h8 k0 k1 k2 HOE
      go_wp2
      go_meet
      case rel => exact unhide HS
  case rest =>
    obtain ⟨w2, hw2⟩ : ∃ w2, w2 = wc := ⟨_, rfl⟩
    rw [← hw2] at hcut ⊢
    clear hw2
    obtain ⟨v1, hd1, ha1, hf1, hs1⟩ := hcut
    have hx1 : w2.heap[W.heap.size]? = some (.cells #[.int .i64 ka, .int .i64 kb, .int .i64 kc] 58 (0, 0)) := (hf1.block _ hltk (unhide HNF)).trans (unhide HX0)
    obtain ⟨qo, qc, hqv, hqb, hqc, hqm⟩ := row_form ha1.rows.q
    have HOQ := hide (hqv ▸ ha1.rows.q : w2.ownsRow 0 158 4 (.slice qo R1.queue.length qc) R1.queue.length (R1.queue.flatMap ruC))
    have c19 := ha1.cell 19
    have f19 := ha1.free 19
    have k0 := cell_at hx1 0
    have k1 := cell_at hx1 1
    have k2 := cell_at hx1 2
    have hl2 := ha1.ltb
    have hlk2 := lt_blk hx1
    simp only [refC, List.getElem?_toArray, List.getElem?_cons_zero, List.getElem?_cons_succ, hqv] at c19 k0 k1 k2
    have HA1 := hide ha1
    have HF1 := hide hf1
    have HS1 := hide hs1
    have HD1 := hide hd1
    have HQB := hide hqb
    have HR1 := hide hR1
    clear ha1 hf1 hs1 hd1 hx1 hqb hR1 HX0 H0 hqv hev hw1 c22 c23 f22 f23
    obtain ⟨Q, hQ⟩ : ∃ Q, Q = R1.queue := ⟨_, rfl⟩
    rw [← hQ] at hq1 HOQ c19 HQB hqc
    have HQ := hide hQ
    clear hQ
    go_wp2_with fail
    go_loopw [5, 6] (fun q i wr => ∃ k : Nat, i = .int .i64 k ∧ k ≤ Q.length ∧ Fi ruC 158 4 w2 wr q ((Q.take k).filter (fun u => !(u.k.id == ka)))) (fun _ i _ => Q.length - (Go.RowKit.intOf i).toNat)
    case atStart => exact ⟨0, by go_num, by omega, by simpa using Fi.nil _ _ _ (Below.refl _ _)⟩
    case round =>
      obtain ⟨k, rfl, hk, hfi⟩ := hrel
      have hbw := hfi.below
      have e19 := (hbw.cell (p := ⟨b, 19, none⟩) hl2).trans c19
      have e0 := (hbw.cell (p := ⟨W.heap.size, 0, none⟩) hlk2).trans k0
      have e1 := (hbw.cell (p := ⟨W.heap.size, 1, none⟩) hlk2).trans k1
      have e2 := (hbw.cell (p := ⟨W.heap.size, 2, none⟩) hlk2).trans k2
      have hwz := hbw.size
      obtain ⟨ro, rc, hrv, _⟩ := row_form hfi.own
      subst hrv
      have HFI := hide hfi
      have hfl : ((Q.take k).filter (fun u => !(u.k.id == ka))).length ≤ Q.length := Nat.le_trans (List.length_filter_le _ _) (by simp; omega)
      by_cases hlt2 : k < Q.length
      · obtain ⟨g, hg, hgl⟩ := unhide HQB (by omega)
        subst hg
        have hcell : ∀ j, j < 4 → wr.cell? ⟨g, k * 4 + j, none⟩ = (ruC Q[k])[j]? := fun j hj => (hbw.cell (p := ⟨g, k * 4 + j, none⟩) hgl).trans (row_cell ruC 4 (fun _ => rfl) (unhide HOQ) k hlt2 j hj)
        have q0 := hcell 0 (by omega)
        have q1 := hcell 1 (by omega)
        have q2 := hcell 2 (by omega)
        have q3 := hcell 3 (by omega)
        simp only [ruC, List.getElem?_cons_zero, List.getElem?_cons_succ, Nat.add_zero] at q0 q1 q2 q3
        have htf := take_filter (fun u : RU => !(u.k.id == ka)) Q k hlt2
        generalize Q[k] = U at q0 q1 q2 q3 htf
        obtain ⟨⟨ua, ub, uc⟩, us⟩ := U
        have hki : (k : Int) < (Q.length : Int) := by omega
        have HTF := hide htf
        clear hfi hbw hcell htf
        by_cases hid : ua = ka
        · have hne : (ua == ka) = true := by simp [hid]
          go_wp2
          go_quiet (fail)
          go_wp2
          go_roundw
          case rel => exact ⟨k + 1, by go_num, by omega, by rw [unhide HTF]; simpa [hid] using (unhide HFI).mono (bdrewN (Below.refl _ _) _)⟩
          case measure => simp [Go.RowKit.intOf]; omega
        · have hne : (ua == ka) = false := by simp [hid]
          go_wp2
          go_quiet (fail)
          go_wp2_with (at_builtin; refine wpList_app rfl _ _ rfl etyU w2.heap.size rfl rfl (own_below (unhide HFI).own (bdrewN ((Below.refl _ _).alloc (Nat.le_refl _) _) _)) (Src.box (cs := ruC ⟨⟨ua, ub, uc⟩, us⟩) 4 1 1 (heap_alloc_new wr _) (by rfl)) (ru_one _) (by omega) (by simp; omega) ?_)
          intro v' w3 ho3 hg3 _
          have hfi3 := (unhide HFI).push (bdrewN ((Below.refl _ _).alloc (Nat.le_refl _) _) _) hg3 [⟨⟨ua, ub, uc⟩, us⟩] (by simpa using ho3)
          have HFI3 := hide hfi3
          clear ho3 hg3 hfi3
          go_wp2
          go_roundw
          case rel => exact ⟨k + 1, by go_num, by omega, by rw [unhide HTF]; simpa [hid] using unhide HFI3⟩
          case measure => simp [Go.RowKit.intOf]; omega
      · have hke : k = Q.length := by omega
        subst hke
        have f19' := (hbw.frozen (p := ⟨b, 19, none⟩) hl2).trans f19
        clear hfi hbw
        go_wp2_with (at_builtin; refine wpList_app rfl _ _ rfl etyU w2.heap.size rfl rfl (own_below (unhide HFI).own ((Below.refl _ _).alloc (Nat.le_refl _) _)) (Src.box (cs := ruC ⟨⟨ka, kb, kc⟩, 0⟩) 4 1 1 (heap_alloc_new wr _) (by rfl)) (ru_one _) (by omega) (by simp; omega) ?_)
        intro v' w3 ho3 hg3 _
        rw [List.take_length] at HFI
        have hfi3 := (unhide HFI).push ((Below.refl _ _).alloc (Nat.le_refl _) _) hg3 [⟨⟨ka, kb, kc⟩, 0⟩] (by simpa using ho3)
        have e19 := (hfi3.below.cell (p := ⟨b, 19, none⟩) hl2).trans c19
        have g19 := (hfi3.below.frozen (p := ⟨b, 19, none⟩) hl2).trans f19
        obtain ⟨ao', cap', hv'⟩ := own_form ho3
        subst hv'
        have HS3 := hide (RTo.from (unhide HB0) (RTo.trans (unhide HD1) (unhide HF1) (unhide HS1) ((unhide HA1).setQ (l := Q.filter (fun u => !(u.k.id == ka)) ++ [⟨⟨ka, kb, kc⟩, 0⟩]) (Frm.of_below hfi3.below (Nat.le_refl _)) (fun g hg => .inr (own_lt hfi3.own hg).1) (own_base0 hfi3.own))))
        clear ho3 hg3 hfi3
        go_wp2
        go_end0
        rw [← unhide HQ]
        exact ⟨rfl, unhide HS3⟩
end Go.Proofs.YtnneljcbelgoeaaGreatDoor.wire
/- errors.As at the target *api.Errno, and plain.Told. After the manner of the guide's worked example on errors.As. -/
namespace Go.Proofs.YtnneljcbelgoeaaGreatDoor.wire
open Go.RowKit Go.Extern.Stop Go.Stop Go.Extern

section
theorem valueOfP (t : Addr) (w : World) : (ReflectliteValue.unpack (.iface 144 (.pointer (some t)))).run Tryz.prog w
    = .ok (.agg #[.pointer (some ⟨1, 144, none⟩), .pointer (some ⟨w.heap.size, 0, none⟩), .int .u64 150]) (w.alloc (.cells #[.pointer (some t)] 144)) := by kernel_rfl
theorem typeP (a : Addr) (w : World) : (ReflectliteValue.methodAny (ReflectliteValue.valueError "reflectlite.Value.Type" 0) (fun t _ _ _ => ReflectliteType.toType t) #[.agg #[.pointer (some ⟨1, 144, none⟩), .pointer (some a), .int .u64 150]]).run Tryz.prog w
    = .ok (.iface 207 (.agg #[.pointer (some ⟨1, 144, none⟩)])) w := by kernel_rfl
theorem kindP (w : World) : ((ReflectliteType.abiMethod fun t => Functor.map (fun a : Nat => Value.int IntKind.u8 (a : Int)) (Rtype.kind t)) #[.pointer (some ⟨1, 144, none⟩)]).run Tryz.prog w = .ok (.int .u8 22) w := by kernel_rfl
theorem kindE (w : World) : ((ReflectliteType.abiMethod fun t => Functor.map (fun a : Nat => Value.int IntKind.u8 (a : Int)) (Rtype.kind t)) #[.pointer (some ⟨1, 108, none⟩)]).run Tryz.prog w = .ok (.int .u8 2) w := by kernel_rfl
theorem partsP (a : Addr) (w : World) : (ReflectliteValue.parts (.agg #[.pointer (some ⟨1, 144, none⟩), .pointer (some a), .int .u64 150])).run Tryz.prog w = .ok (some (144, a, 150)) w := by kernel_rfl
theorem rlm (z : Sem Value) (f : TypeId → Addr → Nat → Nat → Sem Value) (v : Value) : ReflectliteValue.method z f #[v] = (ReflectliteValue.parts v >>= fun r => match r with | none => z | some (t, a, fl) => f t a fl (fl % 32)) := rfl
theorem isNilP (a p : Addr) (W : World) (ha : W.cell? a = some (.pointer (some p))) :
    (ReflectliteValue.method (ReflectliteValue.valueError "reflectlite.Value.IsNil" 0) ReflectliteValue.isNil #[.agg #[.pointer (some ⟨1, 144, none⟩), .pointer (some a), .int .u64 150]]).run Tryz.prog W = .ok (.bool false) W := by
  rw [rlm]
  simp only [Sem.run_bind, partsP, Result.andThen]
  simp [ReflectliteValue.isNil, loadVar, isAgg, underlying, Tryz.underlying144, ha, Result.andThen]
theorem elemP (w : World) : (ReflectliteType.method ReflectliteType.elem #[.agg #[.pointer (some ⟨1, 144, none⟩)]]).run Tryz.prog w = .ok (.iface 207 (.agg #[.pointer (some ⟨1, 108, none⟩)])) w := by kernel_rfl
theorem implementsE (w : World) : (ReflectliteType.relation "Implements" ReflectliteType.implements_ #[.agg #[.pointer (some ⟨1, 108, none⟩)], .iface 207 (.agg #[.pointer (some ⟨1, 64, none⟩)])]).run Tryz.prog w = .ok (.bool true) w := by kernel_rfl
theorem typeOfE (v : Value) (w : World) : (ReflectliteType.typeOf #[.iface 108 v]).run Tryz.prog w = .ok (.iface 207 (.agg #[.pointer (some ⟨1, 108, none⟩)])) w := by kernel_rfl
theorem assignableE (w : World) : (ReflectliteType.relation "AssignableTo" ReflectliteType.assignableTo #[.agg #[.pointer (some ⟨1, 108, none⟩)], .iface 207 (.agg #[.pointer (some ⟨1, 108, none⟩)])]).run Tryz.prog w = .ok (.bool true) w := by kernel_rfl
theorem valueOfE (n : Int) (w : World) : (ReflectliteValue.unpack (.iface 108 (.int .i64 n))).run Tryz.prog w
    = .ok (.agg #[.pointer (some ⟨1, 108, none⟩), .pointer (some ⟨w.heap.size, 0, none⟩), .int .u64 130]) (w.alloc (.cells #[.int .i64 n] 108)) := by kernel_rfl
theorem elemOfP (w : World) : (Rtype.elem? 144).run Tryz.prog w = .ok (some 108) w := by kernel_rfl
theorem mkE (p : Addr) (w : World) : (ReflectliteValue.mk 108 p ReflectliteValue.flagAddr).run Tryz.prog w = .ok (.agg #[.pointer (some ⟨1, 108, none⟩), .pointer (some p), .int .u64 386]) w := by kernel_rfl
theorem elemVP (a p : Addr) (W : World) (ha : W.cell? a = some (.pointer (some p))) :
    (ReflectliteValue.method (ReflectliteValue.valueError "reflectlite.Value.Elem" 0) ReflectliteValue.elem #[.agg #[.pointer (some ⟨1, 144, none⟩), .pointer (some a), .int .u64 150]]).run Tryz.prog W
      = .ok (.agg #[.pointer (some ⟨1, 108, none⟩), .pointer (some p), .int .u64 386]) W := by
  rw [rlm]
  simp only [Sem.run_bind, partsP, Result.andThen]
  simp [ReflectliteValue.elem, loadVar, isAgg, underlying, Tryz.underlying144, ha, Result.andThen, elemOfP, mkE]
theorem partsEa (a : Addr) (w : World) : (ReflectliteValue.parts (.agg #[.pointer (some ⟨1, 108, none⟩), .pointer (some a), .int .u64 386])).run Tryz.prog w = .ok (some (108, a, 386)) w := by kernel_rfl
theorem partsE (a : Addr) (w : World) : (ReflectliteValue.parts (.agg #[.pointer (some ⟨1, 108, none⟩), .pointer (some a), .int .u64 130])).run Tryz.prog w = .ok (some (108, a, 130)) w := by kernel_rfl
theorem directE (w : World) : (Rtype.directlyAssignable 108 108).run Tryz.prog w = .ok true w := by kernel_rfl
theorem methodKind (h : Value) (w : World) : (Go.method 382 207 (.agg #[h]) "Kind").run Tryz.prog w = .ok (204, h) w := by kernel_rfl
theorem methodElem (h : Value) (w : World) : (Go.method 382 207 (.agg #[h]) "Elem").run Tryz.prog w = .ok (214, .agg #[h]) w := by kernel_rfl
theorem methodImplements (h : Value) (w : World) : (Go.method 382 207 (.agg #[h]) "Implements").run Tryz.prog w = .ok (215, .agg #[h]) w := by kernel_rfl
theorem methodAssignableTo (h : Value) (w : World) : (Go.method 382 207 (.agg #[h]) "AssignableTo").run Tryz.prog w = .ok (212, .agg #[h]) w := by kernel_rfl
end
end Go.Proofs.YtnneljcbelgoeaaGreatDoor.wire
