/- What stands between two steps of a script that plays Encode and Decode: the World of gossiplaw. -/
import Derived.Test.YtnneljcbelgoeaaGreatDoorSpare
import Derived.Deep.AppendLies
namespace Go.Proofs.YtnneljcbelgoeaaGreatDoor.wire
open Go.RowKit

theorem own_grown {W W' : World} {base : Nat} {e : TypeId} {size : Nat} {v : Value} {n : Nat} {xs : List Value} {row : Option Nat} (h : W.ownsRow base e size v n xs) (hg : W.grownBy W' row) (hne : ∀ g, row = some g → v.ownBlock ≠ some g) : W'.ownsRow base e size v n xs := by
  obtain ⟨hl, h⟩ := h
  refine ⟨hl, ?_⟩
  rcases h with h | ⟨g, cap, cur, rfl, hb, hh, h⟩
  · exact .inl h
  · refine .inr ⟨g, cap, cur, rfl, hb, ?_, h⟩
    rw [hg.block g (lt_of_block hh) (fun e => hne g e.symm rfl)]
    exact hh
theorem own_ne {W : World} {b b' : Nat} {e e' : TypeId} {z z' : Nat} {v v' : Value} {n n' : Nat} {xs xs' : List Value} (h : W.ownsRow b e z v n xs) (h' : W.ownsRow b' e' z' v' n' xs') (he : e ≠ e') : ∀ g, v.ownBlock = some g → v'.ownBlock ≠ some g := by
  intro g hv hv'
  rcases h.2 with ⟨rfl, _⟩ | ⟨g1, c1, cur1, rfl, _, hh1, _⟩
  · simp [Value.ownBlock] at hv
  rcases h'.2 with ⟨rfl, _⟩ | ⟨g2, c2, cur2, rfl, _, hh2, _⟩
  · simp [Value.ownBlock] at hv'
  simp [Value.ownBlock] at hv hv'
  subst hv
  subst hv'
  rw [hh1] at hh2
  simp at hh2
  exact he hh2.2
/-- The script's state, plainly. -/
structure St where
  tv : Value
  ts : List (List UInt8)
  m : M6
  uv : Value
  dv : Value
  dn : Nat
  dx : List Value
  c0 : Int
  c1 : Int
  c2 : Int
  c3 : Int
  c4 : Int
  c5 : Int
  lv : Value
  wv : Value
  ls : List Value
  ws : List Value
  mark : Int
abbrev St.cells (s : St) : Array Value := #[s.tv, .int .i64 s.m.kind, .int .i64 s.m.frm, .int .i64 s.m.inc, .int .i64 s.m.seq, .int .i64 s.m.tgt, s.uv, s.dv, .int .i64 s.c0, .int .i64 s.c1, .int .i64 s.c2, .int .i64 s.c3, .int .i64 s.c4, .int .i64 s.c5, .slice none 0 0, .slice none 0 0, s.lv, s.wv, .slice none 0 0, .slice none 0 0, .int .i64 s.mark]
/-- The rows that the World owns. -/
structure Rows4 (base : Nat) (s : St) (W : World) : Prop where
  t : W.ownsRow base 9 1 s.tv s.ts.length (s.ts.map fun l => .string (bs l))
  u : W.ownsRow base 58 3 s.uv s.m.ups.length (kcells s.m.ups)
  d : W.ownsRow base 3 1 s.dv s.dn s.dx
  l : W.ownsRow base 46 1 s.lv s.ls.length s.ls
  w : W.ownsRow base 46 1 s.wv s.ws.length s.ws
  lw : ∀ g, s.lv.ownBlock = some g → s.wv.ownBlock ≠ some g
  p : ∀ (i : Nat) (x y : Value), s.ls[i]? = some x → s.ws[i]? = some y → ∃ ks : List K3, ks.length ≤ 20 ∧ W.ownsRow base 76 3 x ks.length (kcells ks) ∧ W.ownsRow base 76 3 y ks.length (kcells ks)
/-- What any change does that leaves every row alone. -/
theorem Rows4.by {base : Nat} {s : St} {W W' : World} (h : Rows4 base s W) (f : ∀ {e : TypeId} {z : Nat} {v : Value} {n : Nat} {xs : List Value}, W.ownsRow base e z v n xs → W'.ownsRow base e z v n xs) : Rows4 base s W' :=
  ⟨f h.t, f h.u, f h.d, f h.l, f h.w, h.lw, fun i x y hx hy => by
    obtain ⟨ks, hk, h1, h2⟩ := h.p i x y hx hy
    exact ⟨ks, hk, f h1, f h2⟩⟩
/-- The World is block wb. -/
structure WC (wb : Nat) (s : St) (w W : World) : Prop where
  blk : W.heap[wb]? = some (.cells s.cells 41 (0, 0))
  rows : Rows4 (wb + 1) s W
  below : Below w.heap.size w W
  low : w.heap.size ≤ wb
/-- How much there is of everything, when at most n steps were made. -/
structure WB (n : Nat) (s : St) : Prop where
  tn : s.ts.length ≤ n
  tl : ∀ l ∈ s.ts, l.length ≤ 17000
  un : s.m.ups.length ≤ n + 8
  dn : s.dn ≤ n
  pn : s.ls.length ≤ 2 * n
  pw : s.ws.length = s.ls.length
  m0 : 0 ≤ s.mark
  m1 : s.mark ≤ 20 * (n : Int)
  d1 : ∀ u ∈ s.dx, u.oneCell' = true
structure WV (n wb : Nat) (s : St) (w W : World) : Prop extends WC wb s w W, WB n s
theorem WC.lt {wb : Nat} {s : St} {w W : World} (h : WC wb s w W) : wb < W.heap.size := lt_of_block h.blk
theorem WC.mono {wb : Nat} {s : St} {w W W' : World} (h : WC wb s w W) (hb : Below W.heap.size W W') : WC wb s w W' :=
  ⟨(hb.block wb h.lt).trans h.blk, h.rows.by (fun o => own_below o hb), h.below.trans (hb.mono h.below.size), h.low⟩
theorem WC.alloc {wb : Nat} {s : St} {w W : World} (h : WC wb s w W) (o : Obj) : WC wb s w (W.alloc o) := h.mono ((Below.refl _ _).alloc (Nat.le_refl _) _)
theorem WC.draws {wb : Nat} {s : St} {w W : World} (h : WC wb s w W) (k : Nat) : WC wb s w (W.drewN k) := h.mono (below_draws (Below.refl _ _) _)
theorem WC.gate {wb : Nat} {s : St} {w W : World} (h : WC wb s w W) {x : Value} (hlt : 0 < w.heap.size) (hg : w.cell? ⟨0, 0, none⟩ = some x) : W.cell? ⟨0, 0, none⟩ = some x := (h.below.cell (p := ⟨0, 0, none⟩) hlt).trans hg
theorem WC.cell {wb : Nat} {s : St} {w W : World} (h : WC wb s w W) (j : Nat) : W.cell? ⟨wb, j, none⟩ = s.cells[j]? := cell_at h.blk j
theorem WC.free {wb : Nat} {s : St} {w W : World} (h : WC wb s w W) (j : Nat) : W.frozen? ⟨wb, j, none⟩ = false := free_at h.blk j
/-- A store into the World's own block. -/
theorem WC.store {wb : Nat} {s : St} {w W : World} (hblk : W.heap[wb]? = some (.cells s.cells 41 (0, 0))) (hbel : Below w.heap.size w W) (hlow : w.heap.size ≤ wb) (s' : St) (j : Nat) (u : Value) (hc : s.cells.setIfInBounds j u = s'.cells) (hr : Rows4 (wb + 1) s' W) : WC wb s' w (W.setCell ⟨wb, j, none⟩ u) :=
  ⟨by rw [heap_setCell_same _ _ _ _ _ _ hblk, hc], hr.by (fun o => ownsRow_setCell_below o (by simp) _), hbel.setCell hlow _, hlow⟩
/-- What a row's growth leaves of another row. -/
theorem keep_other {W W1 W2 : World} {base : Nat} {e : TypeId} {z : Nat} {v v0 : Value} {n : Nat} {xs : List Value} (h : W.ownsRow base e z v n xs) (hg : W1.grownBy W2 v0.ownBlock) (hb : Below W.heap.size W W1) (hne : ∀ g, v0.ownBlock = some g → v.ownBlock ≠ some g) : W2.ownsRow base e z v n xs :=
  own_grown (own_below h hb) hg hne
/-- The World's own block behind a row's growth. -/
theorem WC.grown {wb : Nat} {s : St} {w W W1 W2 : World} (h : WC wb s w W) {v0 : Value} (hb : Below W.heap.size W W1) (hg : W1.grownBy W2 v0.ownBlock) (hv : ∀ g, v0.ownBlock = some g → wb + 1 ≤ g) :
    W2.heap[wb]? = some (.cells s.cells 41 (0, 0)) ∧ Below w.heap.size w W2 := by
  have hl := h.lt
  have hlo := h.low
  have hz := hb.size
  refine ⟨?_, ?_⟩
  · rw [hg.block wb (by omega) (fun e => by have := hv wb e.symm; omega), hb.block wb hl]
    exact h.blk
  · have h1 := h.below.trans (hb.mono h.below.size)
    exact h1.grown hg (by have := h.below.size; omega) (fun k e => by have := hv k e; omega)
end Go.Proofs.YtnneljcbelgoeaaGreatDoor.wire
