import Derived.Test.YtnneljcbelgoeaaGreatDoorG15
import Derived.BigRegion
import Derived.Deep.RegionLaw
import Derived.Deep.DrawnRows
import Derived.Deep.AppendLies
import Derived.Test.YtnneljcbelgoeaaGreatDoorG01
import Derived.Test.YtnneljcbelgoeaaGreatDoorG24
/- gossiplaw's spare and still. -/
namespace Go.Proofs.YtnneljcbelgoeaaGreatDoor.wire
open Go.RowKit
attribute [local go_sem ↓] Go.wp_at_zero Go.wp_at_succ

def K3.zero : K3 := ⟨0, 0, 0⟩
def K3.seven : K3 := ⟨-7, 0, 0⟩
theorem kcells_set : ∀ (l : List K3) (k : Nat) (K : K3), k < l.length → (((kcells l).set (k * 3) (.int .i64 K.id)).set (k * 3 + 1) (.int .i64 K.inc)).set (k * 3 + 2) (.int .i64 K.st) = kcells (l.set k K)
  | _ :: r, 0, K, _ => rfl
  | x :: r, k + 1, K, h => by
    have := kcells_set r k K (by simpa using h)
    rw [show (k + 1) * 3 = k * 3 + 3 from by omega]
    simp only [kcells, List.set_cons_succ]
    rw [this]
/-- A block that holds keys. -/
abbrev keyBlk (l : List K3) : Obj := .cells (kcells l).toArray 76 (0, 0)
theorem put3 {W : World} {g : Nat} {l : List K3} (h : W.heap[g]? = some (keyBlk l)) (k : Nat) (K : K3) (hk : k < l.length) :
    (((W.setCell ⟨g, k * 3, none⟩ (.int .i64 K.id)).setCell ⟨g, k * 3 + 1, none⟩ (.int .i64 K.inc)).setCell ⟨g, k * 3 + 2, none⟩ (.int .i64 K.st)).heap[g]? = some (keyBlk (l.set k K)) := by
  rw [heap_setCell_same _ _ _ _ _ _ (heap_setCell_same _ _ _ _ _ _ (heap_setCell_same _ _ _ _ _ _ h))]
  simp only [List.setIfInBounds_toArray]
  rw [kcells_set l k K hk]
theorem keyCell {W : World} {g : Nat} {l : List K3} (h : W.heap[g]? = some (keyBlk l)) (k : Nat) (hk : k < l.length) :
    W.cell? ⟨g, k * 3, none⟩ = some (.int .i64 l[k].id) ∧ W.cell? ⟨g, k * 3 + 1, none⟩ = some (.int .i64 l[k].inc) ∧ W.cell? ⟨g, k * 3 + 2, none⟩ = some (.int .i64 l[k].st) := by
  have := kcells_get l k hk
  rw [cell_at h, cell_at h, cell_at h]
  simpa using this
theorem keysAt_blk {W : World} {g : Nat} {l r : List K3} (h : W.heap[g]? = some (keyBlk (l ++ r))) (cap : Nat) : KeysAt W (.slice (some ⟨g, 0, none⟩) l.length cap) l := by
  refine .inr ⟨g, 0, cap, rfl, lt_of_block h, fun i hi => ?_⟩
  have := keyCell h i (by simp; omega)
  rw [List.getElem_append_left hi] at this
  simpa using this
theorem infoKey' : (Tryz.prog.info? 76).map (fun i => (i.zero, i.size, i.bytes)) = some (some (.agg #[.int .i64 0, .int .i64 0, .int .i64 0]), 3, 24) := by kernel_rfl
theorem made_keys (n : Nat) : (madeCells (Value.agg #[.int .i64 0, .int .i64 0, .int .i64 0]).cells (n * 3)).toList = kcells (List.replicate n K3.zero) := by
  have h1 : ∀ n, kcells (List.replicate n K3.zero) = List.replicate (n * 3) (.int .i64 0) := by
    intro n
    induction n with
    | zero => rfl
    | succ n ih => rw [show (n + 1) * 3 = n * 3 + 1 + 1 + 1 from by omega, List.replicate_succ]; simp only [kcells, ih, List.replicate_succ]; rfl
  rw [h1]
  apply List.ext_getElem?
  intro j
  by_cases hj : j < n * 3
  · have h3 : j % 3 = 0 ∨ j % 3 = 1 ∨ j % 3 = 2 := by omega
    rcases h3 with h | h | h <;> simp [madeCells, Value.cells, hj, h]
  · simp [madeCells, hj]
theorem made_blk {W : World} {base g n : Nat} (h : W.ownsRow base 76 3 (.slice (some ⟨g, 0, none⟩) n n) n (madeCells (Value.agg #[.int .i64 0, .int .i64 0, .int .i64 0]).cells (n * 3)).toList) : W.heap[g]? = some (keyBlk (List.replicate n K3.zero)) := by
  rcases h.2 with ⟨e, _⟩ | ⟨g', cap, cur, e, _, hh, _, _, hs, ht⟩
  · cases e
  · simp at e
    obtain ⟨rfl, rfl⟩ := e
    rw [made_keys] at ht
    rw [hh]
    have : cur = (kcells (List.replicate n K3.zero)).toArray := by
      apply Array.ext'
      rw [← ht, List.take_of_length_le (by simp; omega)]
    rw [this]
theorem set_next (l : List K3) (k : Nat) (h : k < l.length) : (l.take k ++ List.replicate (l.length + 2 - k) K3.zero).set k l[k] = l.take (k + 1) ++ List.replicate (l.length + 2 - (k + 1)) K3.zero := by
  rw [List.set_append_right _ _ (by simp; omega), List.take_succ_eq_append_getElem h, List.append_assoc]
  congr 1
  rw [show k - (l.take k).length = 0 from by simp; omega, show l.length + 2 - k = l.length + 2 - (k + 1) + 1 from by omega]
  rfl
set_option maxRecDepth 100000 in
set_option maxHeartbeats 2000000 in
theorem spare_any (l : List K3) (v : Value) (w : World) (hv : KeysAt w v l) (hl : l.length ≤ 20000) :
    Calls Tryz.prog 22 #[v] w fun e w' => e = .returned (.slice (some ⟨w.heap.size, 0, none⟩) l.length (l.length + 2)) ∧ w'.heap[w.heap.size]? = some (keyBlk (l ++ [K3.seven, K3.seven])) ∧ Below w.heap.size w w' := by
  obtain ⟨ao, cap, rfl⟩ := hv.form
  have HV := hide hv
  clear hv
  obtain ⟨ti, hti, hz0, hz1, hz2⟩ := info_parts infoKey'
  go_enter Tryz.func22, Tryz.ntmps22
  go_wp2_with (at_make; refine wpList_make_full _ rfl _ _ 46 rfl w.heap.size 76 ti (.agg #[.int .i64 0, .int .i64 0, .int .i64 0]) 3 Tryz.underlying46 hti hz0 hz1 .i64 .i64 _ _ (l.length + 2) rfl rfl (by simp) (by simp) (by rw [hz2]; omega) (by unfold maxLen; omega) (Nat.le_refl _) ?_)
  intro w1 hown hgrow
  have hblk : w1.heap[w.heap.size]? = some (keyBlk (List.replicate (l.length + 2) K3.zero)) := made_blk hown
  have hB1 : Below w.heap.size w w1 := (Below.refl _ _).grown hgrow (Nat.le_refl _) (fun k e => by cases e)
  have HK := hide hblk
  have HB := hide hB1
  clear hown hgrow hblk hB1
  go_wp2_with fail
  go_loopw [5] (fun i wr => ∃ k : Nat, k ≤ l.length ∧ i = .int .i64 k ∧ wr.heap[w.heap.size]? = some (keyBlk (l.take k ++ List.replicate (l.length + 2 - k) K3.zero)) ∧ Below w.heap.size w wr) (fun i _ => l.length - (intOf i).toNat)
  case atStart => exact ⟨0, Nat.zero_le _, rfl, unhide HK, unhide HB⟩
  case round =>
    obtain ⟨k, hk, rfl, hblk, hbel⟩ := hrel
    clear HK HB
    by_cases hlt : k < l.length
    · have hkm : (k : Int) < (l.length : Int) := by omega
      have hkm2 : (k : Int) < (l.length : Int) + 2 := by omega
      obtain ⟨b, off, rfl, hb, hc⟩ := (unhide HV).elem (by omega)
      obtain ⟨x0, x1, x2⟩ := hc k hlt
      have p0 := (hbel.cell (p := ⟨b, off + k * 3, none⟩) hb).trans x0
      have p1 := (hbel.cell (p := ⟨b, off + k * 3 + 1, none⟩) hb).trans x1
      have p2 := (hbel.cell (p := ⟨b, off + k * 3 + 2, none⟩) hb).trans x2
      clear x0 x1 x2 hc
      obtain ⟨y0, y1, y2⟩ := keyCell hblk k (by simp; omega)
      have yf := free_at hblk
      have HP := hide (put3 hblk k l[k] (by simp; omega))
      have hset : (l.take k ++ List.replicate (l.length + 2 - k) K3.zero).set k l[k] = l.take (k + 1) ++ List.replicate (l.length + 2 - (k + 1)) K3.zero := set_next l k hlt
      have HS := hide hset
      have HB := hide hbel
      clear hblk hbel hset
      generalize hK : l[k] = K at p0 p1 p2 HP HS
      clear hK
      generalize (l.take k ++ List.replicate (l.length + 2 - k) K3.zero)[k]'(by simp; omega) = Y at y0 y1 y2
      go_wp2_with fail
      go_region
      all_goals
        go_wp2
        go_roundw
        case rel =>
          refine ⟨k + 1, by omega, by go_num, ?_, ?_⟩
          · rw [← unhide HS]
            exact unhide HP
          · exact ((((unhide HB).setCell (Nat.le_refl _) _).setCell (Nat.le_refl _) _).setCell (Nat.le_refl _) _).drew
        case measure => simp [intOf]; omega
    · have e : k = l.length := by omega
      have hb0 : wr.heap[w.heap.size]? = some (keyBlk (l ++ [K3.zero, K3.zero])) := by
        have h := hblk
        rw [e, List.take_length, show l.length + 2 - l.length = 2 from by omega] at h
        exact h
      obtain ⟨y0, y1, y2⟩ := keyCell hb0 l.length (by simp)
      obtain ⟨z0, z1, z2⟩ := keyCell hb0 (l.length + 1) (by simp)
      have yf := free_at hb0
      have hs1 : (l ++ [K3.zero, K3.zero]).set l.length K3.seven = l ++ [K3.seven, K3.zero] := by rw [List.set_append_right _ _ (Nat.le_refl _)]; simp
      have hs2 : (l ++ [K3.seven, K3.zero]).set (l.length + 1) K3.seven = l ++ [K3.seven, K3.seven] := by rw [List.set_append_right _ _ (by omega)]; simp
      have hp1 := put3 hb0 l.length K3.seven (by simp)
      rw [hs1] at hp1
      have hp2 := put3 hp1 (l.length + 1) K3.seven (by simp)
      rw [hs2] at hp2
      obtain ⟨a0, a1, a2⟩ := keyCell hp1 (l.length + 1) (by simp)
      have af := free_at hp1
      have HP := hide hp2
      have HB := hide hbel
      generalize (l ++ [K3.zero, K3.zero])[l.length]'(by simp) = Y at y0 y1 y2
      generalize (l ++ [K3.zero, K3.zero])[l.length + 1]'(by simp) = Z at z0 z1 z2
      clear hblk hbel hb0 hs1 hs2 hp1 hp2 e
      simp only [K3.seven] at a0 a1 a2 af HP
      go_wp2
      go_ret
      exact ⟨rfl, unhide HP, ((((((unhide HB).setCell (Nat.le_refl _) _).setCell (Nat.le_refl _) _).setCell (Nat.le_refl _) _).setCell (Nat.le_refl _) _).setCell (Nat.le_refl _) _).setCell (Nat.le_refl _) _⟩
set_option maxRecDepth 100000 in
set_option maxHeartbeats 2000000 in
theorem still_any (l : List K3) (v : Value) (g : Nat) (w : World) (hv : KeysAt w v l) (hb : w.heap[g]? = some (keyBlk (l ++ [K3.seven, K3.seven]))) (hl : l.length ≤ 20000) :
    Calls Tryz.prog 24 #[.slice (some ⟨g, 0, none⟩) l.length (l.length + 2), v] w fun e w' => e = .returned (.bool true) ∧ Below g w w' := by
  obtain ⟨ao, cap, rfl⟩ := hv.form
  have HV := hide hv
  have HB := hide hb
  clear hv hb
  go_enter Tryz.func24, Tryz.ntmps24
  go_wp2_with fail
  refine (lkeys_any l _ _ _ (keysAt_blk (unhide HB) _) (unhide HV) (by omega)).mono ?_
  rintro e w1 ⟨rfl, nq, rfl⟩
  obtain ⟨a0, a1, a2⟩ := keyCell (unhide HB) l.length (by simp)
  obtain ⟨b0, b1, b2⟩ := keyCell (unhide HB) (l.length + 1) (by simp)
  have t1 : (l ++ [K3.seven, K3.seven])[l.length]'(by simp) = K3.seven := by rw [List.getElem_append_right (Nat.le_refl _)]; simp
  have t2 : (l ++ [K3.seven, K3.seven])[l.length + 1]'(by simp) = K3.seven := by rw [List.getElem_append_right (by omega)]; simp
  rw [t1] at a0
  rw [t2] at b0
  simp only [K3.seven] at a0 b0
  clear a1 a2 b1 b2 t1 t2
  have HD : Hid (∃ L : List K3, L.length = l.length + 2 ∧ (w.drewN nq).heap[g]? = some (keyBlk L)) := hide ⟨_, by simp, unhide HB⟩
  go_wp2_with fail
  go_loopw [9] (fun i wr => ∃ k : Nat, k ≤ l.length + 2 ∧ i = .int .i64 k ∧ (∃ L : List K3, L.length = l.length + 2 ∧ wr.heap[g]? = some (keyBlk L)) ∧ Below g w wr) (fun i _ => l.length + 2 - (intOf i).toNat)
  case atStart => exact ⟨0, Nat.zero_le _, rfl, unhide HD, below_draws (Below.refl _ _) _⟩
  case round =>
    obtain ⟨k, hk, rfl, ⟨L, hL, hblk⟩, hbel⟩ := hrel
    clear HB HD a0 b0
    by_cases hlt : k < l.length + 2
    · have hkm2 : (k : Int) < (l.length : Int) + 2 := by omega
      obtain ⟨y0, y1, y2⟩ := keyCell hblk k (by omega)
      have yf := free_at hblk
      have HP := hide (put3 hblk k K3.seven (by omega))
      have HLL : Hid ((L.set k K3.seven).length = l.length + 2) := hide (by simp [hL])
      have HBL := hide hbel
      simp only [K3.seven] at HP
      generalize L[k]'(by omega) = Y at y0 y1 y2
      clear hblk hbel
      go_wp2
      go_roundw
      case rel => exact ⟨k + 1, by omega, by go_num, ⟨_, unhide HLL, unhide HP⟩, ((((unhide HBL).setCell (Nat.le_refl _) _).setCell (Nat.le_refl _) _).setCell (Nat.le_refl _) _)⟩
      case measure => simp [intOf]; omega
    · have HBL := hide hbel
      clear hblk hbel
      go_wp2
      go_ret
      exact ⟨rfl, unhide HBL⟩
end Go.Proofs.YtnneljcbelgoeaaGreatDoor.wire
/- What stands between two steps of a script that plays Encode and Decode: the World of gossiplaw. -/
namespace Go.Proofs.YtnneljcbelgoeaaGreatDoor.wire
open Go.RowKit

theorem own_grown {W W' : World} {base : Nat} {e : TypeId} {size : Nat} {v : Value} {n : Nat} {xs : List Value} {row : Option Nat} (h : W.ownsRow base e size v n xs) (hg : W.grownBy W' row) (hne : ∀ g, row = some g → v.ownBlock ≠ some g) : W'.ownsRow base e size v n xs := by
  obtain ⟨hl, h⟩ := h
  refine ⟨hl, ?_⟩
  rcases h with h | ⟨g, cap, cur, rfl, hb, hh, h⟩
  · exact .inl h
  · refine .inr ⟨g, cap, cur, rfl, hb, ?_, h⟩
    rw [hg.block g (lt_of_block hh) (fun e => hne g e.symm rfl)]
    exact hh
theorem own_ne {W : World} {b b' : Nat} {e e' : TypeId} {z z' : Nat} {v v' : Value} {n n' : Nat} {xs xs' : List Value} (h : W.ownsRow b e z v n xs) (h' : W.ownsRow b' e' z' v' n' xs') (he : e ≠ e') : ∀ g, v.ownBlock = some g → v'.ownBlock ≠ some g := by
  intro g hv hv'
  rcases h.2 with ⟨rfl, _⟩ | ⟨g1, c1, cur1, rfl, _, hh1, _⟩
  · simp [Value.ownBlock] at hv
  rcases h'.2 with ⟨rfl, _⟩ | ⟨g2, c2, cur2, rfl, _, hh2, _⟩
  · simp [Value.ownBlock] at hv'
  simp [Value.ownBlock] at hv hv'
  subst hv
  subst hv'
  rw [hh1] at hh2
  simp at hh2
  exact he hh2.2
/-- The script's state, plainly. -/
structure St where
  tv : Value
  ts : List (List UInt8)
  m : M6
  uv : Value
  dv : Value
  dn : Nat
  dx : List Value
  c0 : Int
  c1 : Int
  c2 : Int
  c3 : Int
  c4 : Int
  c5 : Int
  lv : Value
  wv : Value
  ls : List Value
  ws : List Value
  mark : Int
abbrev St.cells (s : St) : Array Value := #[s.tv, .int .i64 s.m.kind, .int .i64 s.m.frm, .int .i64 s.m.inc, .int .i64 s.m.seq, .int .i64 s.m.tgt, s.uv, s.dv, .int .i64 s.c0, .int .i64 s.c1, .int .i64 s.c2, .int .i64 s.c3, .int .i64 s.c4, .int .i64 s.c5, .slice none 0 0, .slice none 0 0, s.lv, s.wv, .slice none 0 0, .slice none 0 0, .int .i64 s.mark]
/-- The rows that the World owns. -/
structure Rows4 (base : Nat) (s : St) (W : World) : Prop where
  t : W.ownsRow base 9 1 s.tv s.ts.length (s.ts.map fun l => .string (bs l))
  u : W.ownsRow base 58 3 s.uv s.m.ups.length (kcells s.m.ups)
  d : W.ownsRow base 3 1 s.dv s.dn s.dx
  l : W.ownsRow base 46 1 s.lv s.ls.length s.ls
  w : W.ownsRow base 46 1 s.wv s.ws.length s.ws
  lw : ∀ g, s.lv.ownBlock = some g → s.wv.ownBlock ≠ some g
  p : ∀ (i : Nat) (x y : Value), s.ls[i]? = some x → s.ws[i]? = some y → ∃ ks : List K3, ks.length ≤ 20 ∧ W.ownsRow base 76 3 x ks.length (kcells ks) ∧ W.ownsRow base 76 3 y ks.length (kcells ks)
/-- What any change does that leaves every row alone. -/
theorem Rows4.by {base : Nat} {s : St} {W W' : World} (h : Rows4 base s W) (f : ∀ {e : TypeId} {z : Nat} {v : Value} {n : Nat} {xs : List Value}, W.ownsRow base e z v n xs → W'.ownsRow base e z v n xs) : Rows4 base s W' :=
  ⟨f h.t, f h.u, f h.d, f h.l, f h.w, h.lw, fun i x y hx hy => by
    obtain ⟨ks, hk, h1, h2⟩ := h.p i x y hx hy
    exact ⟨ks, hk, f h1, f h2⟩⟩
/-- The World is block wb. -/
structure WC (wb : Nat) (s : St) (w W : World) : Prop where
  blk : W.heap[wb]? = some (.cells s.cells 41 (0, 0))
  rows : Rows4 (wb + 1) s W
  below : Below w.heap.size w W
  low : w.heap.size ≤ wb
/-- How much there is of everything, when at most n steps were made. -/
structure WB (n : Nat) (s : St) : Prop where
  tn : s.ts.length ≤ n
  tl : ∀ l ∈ s.ts, l.length ≤ 17000
  un : s.m.ups.length ≤ n + 8
  dn : s.dn ≤ n
  pn : s.ls.length ≤ 2 * n
  pw : s.ws.length = s.ls.length
  m0 : 0 ≤ s.mark
  m1 : s.mark ≤ 20 * (n : Int)
  d1 : ∀ u ∈ s.dx, u.oneCell' = true
structure WV (n wb : Nat) (s : St) (w W : World) : Prop extends WC wb s w W, WB n s
theorem WC.lt {wb : Nat} {s : St} {w W : World} (h : WC wb s w W) : wb < W.heap.size := lt_of_block h.blk
theorem WC.mono {wb : Nat} {s : St} {w W W' : World} (h : WC wb s w W) (hb : Below W.heap.size W W') : WC wb s w W' :=
  ⟨(hb.block wb h.lt).trans h.blk, h.rows.by (fun o => own_below o hb), h.below.trans (hb.mono h.below.size), h.low⟩
theorem WC.alloc {wb : Nat} {s : St} {w W : World} (h : WC wb s w W) (o : Obj) : WC wb s w (W.alloc o) := h.mono ((Below.refl _ _).alloc (Nat.le_refl _) _)
theorem WC.draws {wb : Nat} {s : St} {w W : World} (h : WC wb s w W) (k : Nat) : WC wb s w (W.drewN k) := h.mono (below_draws (Below.refl _ _) _)
theorem WC.gate {wb : Nat} {s : St} {w W : World} (h : WC wb s w W) {x : Value} (hlt : 0 < w.heap.size) (hg : w.cell? ⟨0, 0, none⟩ = some x) : W.cell? ⟨0, 0, none⟩ = some x := (h.below.cell (p := ⟨0, 0, none⟩) hlt).trans hg
theorem WC.cell {wb : Nat} {s : St} {w W : World} (h : WC wb s w W) (j : Nat) : W.cell? ⟨wb, j, none⟩ = s.cells[j]? := cell_at h.blk j
theorem WC.free {wb : Nat} {s : St} {w W : World} (h : WC wb s w W) (j : Nat) : W.frozen? ⟨wb, j, none⟩ = false := free_at h.blk j
/-- A store into the World's own block. -/
theorem WC.store {wb : Nat} {s : St} {w W : World} (hblk : W.heap[wb]? = some (.cells s.cells 41 (0, 0))) (hbel : Below w.heap.size w W) (hlow : w.heap.size ≤ wb) (s' : St) (j : Nat) (u : Value) (hc : s.cells.setIfInBounds j u = s'.cells) (hr : Rows4 (wb + 1) s' W) : WC wb s' w (W.setCell ⟨wb, j, none⟩ u) :=
  ⟨by rw [heap_setCell_same _ _ _ _ _ _ hblk, hc], hr.by (fun o => ownsRow_setCell_below o (by simp) _), hbel.setCell hlow _, hlow⟩
/-- What a row's growth leaves of another row. -/
theorem keep_other {W W1 W2 : World} {base : Nat} {e : TypeId} {z : Nat} {v v0 : Value} {n : Nat} {xs : List Value} (h : W.ownsRow base e z v n xs) (hg : W1.grownBy W2 v0.ownBlock) (hb : Below W.heap.size W W1) (hne : ∀ g, v0.ownBlock = some g → v.ownBlock ≠ some g) : W2.ownsRow base e z v n xs :=
  own_grown (own_below h hb) hg hne
/-- The World's own block behind a row's growth. -/
theorem WC.grown {wb : Nat} {s : St} {w W W1 W2 : World} (h : WC wb s w W) {v0 : Value} (hb : Below W.heap.size W W1) (hg : W1.grownBy W2 v0.ownBlock) (hv : ∀ g, v0.ownBlock = some g → wb + 1 ≤ g) :
    W2.heap[wb]? = some (.cells s.cells 41 (0, 0)) ∧ Below w.heap.size w W2 := by
  have hl := h.lt
  have hlo := h.low
  have hz := hb.size
  refine ⟨?_, ?_⟩
  · rw [hg.block wb (by omega) (fun e => by have := hv wb e.symm; omega), hb.block wb hl]
    exact h.blk
  · have h1 := h.below.trans (hb.mono h.below.size)
    exact h1.grown hg (by have := h.below.size; omega) (fun k e => by have := hv k e; omega)
end Go.Proofs.YtnneljcbelgoeaaGreatDoor.wire
namespace Go.Proofs.YtnneljcbelgoeaaGreatDoor.wire
open Go.RowKit
set_option maxRecDepth 100000 in
set_option maxHeartbeats 1000000 in
theorem text_any (n wb : Nat) (s : St) (w W : World) (h : WV n wb s w W) (hn : n ≤ 20000) (c : Int) (h0 : -9223372036854775808 ≤ c) (h1 : c ≤ 9223372036854775807) :
    Calls Tryz.prog 13 #[.pointer (some ⟨wb, 0, none⟩), .int .i64 c] W fun e w' => ∃ l, e = .returned (.string (bs l)) ∧ l.length ≤ 17000 ∧ ∃ k, w' = W.drewN k := by
  have ht := h.rows.t
  have htn := h.tn
  have htl := h.tl
  have c0 : W.cell? ⟨wb, 0, none⟩ = some s.tv := h.cell 0
  obtain ⟨ao, cap, hv⟩ := own_form ht
  by_cases hz : s.ts.length = 0
  · rw [hz] at hv
    rw [hv] at c0
    clear ht htl h hv
    go_enter Tryz.func13, Tryz.ntmps13
    go_wp2
    go_ret
    exact ⟨[], by simp [bs], by simp, 0, rfl⟩
  · obtain ⟨g, cap', hv', _, _⟩ := ht.form (by omega)
    rw [hv'] at c0
    obtain ⟨p0, p1⟩ := pickW_bd c (s.ts.length : Int) (by omega)
    obtain ⟨q, hq⟩ := Int.eq_ofNat_of_zero_le p0
    have hql : q < s.ts.length := by omega
    have hcell : W.cell? ⟨g, q, none⟩ = some (.string (bs s.ts[q])) := by
      rw [hv'] at ht
      rw [ht.cellAt q (by omega)]
      simp [hql]
    have hlen := htl s.ts[q] (List.getElem_mem hql)
    have hnz : ((s.ts.length : Int) == 0) = false := beq_eq_false_iff_ne.2 (by omega)
    have hlp : (s.ts.length : Int) ≤ 4294967296 := by omega
    have hlq : (0 : Int) < (s.ts.length : Int) := by omega
    have HP := hide (fun W' => lpick_any c (s.ts.length : Int) W' h0 h1 hlq hlp)
    rw [hq] at HP
    generalize s.ts[q] = l at hcell hlen
    clear ht htl h hv hv' p0 p1 hq
    have hq0 : (0 : Int) ≤ (q : Int) := by omega
    have hq1 : (q : Int) < (s.ts.length : Int) := by omega
    go_enter Tryz.func13, Tryz.ntmps13
    go_wp2_with fail
    go_quiet ((go_at_call 19; exact Calls.quiet_of_same (unhide HP _)))
    go_wp2
    go_ret
    exact ⟨l, rfl, hlen, _, rfl⟩
end Go.Proofs.YtnneljcbelgoeaaGreatDoor.wire
/- gossiplaw's encoded. -/
namespace Go.Proofs.YtnneljcbelgoeaaGreatDoor.wire
open Go.RowKit
/-- What Encode must answer. -/
def encB (m : M6) : List UInt8 := if wholeB m then bytesM m else []
/-- What stands in 'encoded': the message's box, its list, the spare list. -/
structure EN (H g : Nat) (m : M6) (v : Value) (w W : World) : Prop where
  box : W.heap[H]? = some (.cells #[.int .i64 m.kind, .int .i64 m.frm, .int .i64 m.inc, .int .i64 m.seq, .int .i64 m.tgt, v] 33 (0, 0))
  keys : KeysAt W v m.ups
  below : Below w.heap.size w W
  lt : H < g
  hw : w.heap.size ≤ H
theorem EN.mono {H g : Nat} {m : M6} {v : Value} {w W W' : World} (h : EN H g m v w W) (hk : KeysAt w v m.ups) (hb : Below g W W') : EN H g m v w W' := by
  have := h.lt
  have := h.hw
  have hB : Below w.heap.size w W' := h.below.trans (hb.mono (by omega))
  exact ⟨(hb.block H h.lt).trans h.box, hk.below hB, hB, h.lt, h.hw⟩
theorem EN.gate {H g : Nat} {m : M6} {v : Value} {w W : World} (h : EN H g m v w W) {x : Value} (hlt : 0 < w.heap.size) (hg : w.cell? ⟨0, 0, none⟩ = some x) : W.cell? ⟨0, 0, none⟩ = some x := (h.below.cell (p := ⟨0, 0, none⟩) hlt).trans hg
theorem EN.cells {H g : Nat} {m : M6} {v : Value} {w W : World} (h : EN H g m v w W) : W.cell? ⟨H, 0, none⟩ = some (.int .i64 m.kind) ∧ W.cell? ⟨H, 1, none⟩ = some (.int .i64 m.frm) ∧ W.cell? ⟨H, 2, none⟩ = some (.int .i64 m.inc) ∧ W.cell? ⟨H, 3, none⟩ = some (.int .i64 m.seq) ∧ W.cell? ⟨H, 4, none⟩ = some (.int .i64 m.tgt) ∧ W.cell? ⟨H, 5, none⟩ = some v :=
  ⟨cell_at h.box 0, cell_at h.box 1, cell_at h.box 2, cell_at h.box 3, cell_at h.box 4, cell_at h.box 5⟩
set_option maxRecDepth 100000 in
set_option maxHeartbeats 2000000 in
theorem encoded_any (m : M6) (v : Value) (w : World) (hv : KeysAt w v m.ups) (hl : m.ups.length ≤ 20000) (hg : w.cell? ⟨0, 0, none⟩ = some (.iface 207 (.agg #[.pointer (some ⟨1, 64, none⟩)]))) :
    Calls Tryz.prog 12 #[mval m v] w fun e w' => e = .returned (.tuple #[.string (bs (encB m)), .bool true]) ∧ Below w.heap.size w w' := by
  have hlt : 0 < w.heap.size := by
    rcases Nat.eq_zero_or_pos w.heap.size with h0 | h
    · simp [World.cell?, h0] at hg
    · exact h
  obtain ⟨ao, cap, rfl⟩ := hv.form
  have HG := hide hg
  have HV := hide hv
  clear hg hv
  go_enter Tryz.func12, Tryz.ntmps12
  go_wp2_with fail
  refine (spare_any m.ups _ _ ((unhide HV).below ((Below.refl _ _).alloc (Nat.le_refl _) _)) hl).mono ?_
  rintro e w1 ⟨rfl, hblk, hb1⟩
  have E1 : EN w.heap.size (w.heap.size + 1) m (.slice ao m.ups.length cap) w w1 := by
    have hB : Below w.heap.size w w1 := ((Below.refl _ _).alloc (Nat.le_refl _) _).trans (hb1.mono (by simp))
    exact ⟨(hb1.block _ (by simp)).trans (heap_alloc_new _ _), (unhide HV).below hB, hB, by omega, Nat.le_refl _⟩
  rw [World.size_alloc] at hblk
  simp only [World.size_alloc]
  have HK1 := hide hblk
  have HE1 := hide E1
  clear hblk hb1 E1
  obtain ⟨a0, a1, a2, a3, a4, a5⟩ := (unhide HE1).cells
  cases hw : wholeB m
  · have HW := hide hw
    clear hw
    go_wp2_with fail
    clear a0 a1 a2 a3 a4 a5
    refine (gencode_no m (.slice (some ⟨w.heap.size + 1, 0, none⟩) m.ups.length (m.ups.length + 2)) _ (keysAt_blk (unhide HK1) _) (by omega) (unhide HW)).mono ?_
    rintro e w2 ⟨rfl, hb2⟩
    have hgl := lt_of_block (unhide HK1)
    have HK2 := hide ((hb2.block _ hgl).trans (unhide HK1))
    have HE2 := hide ((unhide HE1).mono (unhide HV) (hb2.mono (by omega)))
    clear hb2 hgl HK1 HE1
    have a5 := (unhide HE2).cells.2.2.2.2.2
    go_wp2_with fail
    clear a5
    refine (still_any m.ups _ _ _ (unhide HE2).keys (unhide HK2) hl).mono ?_
    rintro e w3 ⟨rfl, hb3⟩
    have HE3 := hide ((unhide HE2).mono (unhide HV) hb3)
    clear hb3 HE2 HK2
    obtain ⟨a0, a1, a2, a3, a4, a5⟩ := (unhide HE3).cells
    go_wp2_with fail
    clear a0 a1 a2 a3 a4 a5
    refine (rwhole_any m _ _ (unhide HE3).keys (by omega)).mono ?_
    rw [unhide HW]
    rintro e w4 ⟨rfl, hb4⟩
    have HE4 : Hid (EN w.heap.size (w.heap.size + 1) m (.slice ao m.ups.length cap) w w4) := hide ((unhide HE3).mono (unhide HV) (hb4.mono (by have := lt_of_block (unhide HE3).box; omega)))
    clear hb4 HE3
    go_wp2_with fail
    refine (ltold_two _ ((unhide HE4).gate hlt (unhide HG))).mono ?_
    rintro e w5 ⟨rfl, hb5⟩
    have HB5 := hide ((unhide HE4).below.trans (hb5.mono (unhide HE4).below.size))
    clear hb5 HE4
    go_wp2
    go_ret2
    exact ⟨by simp [encB, unhide HW, bs], unhide HB5⟩
  · have HW := hide hw
    clear hw
    go_wp2_with fail
    clear a0 a1 a2 a3 a4 a5
    refine (gencode_yes m (.slice (some ⟨w.heap.size + 1, 0, none⟩) m.ups.length (m.ups.length + 2)) _ (keysAt_blk (unhide HK1) _) (unhide HW)).mono ?_
    rintro e w2 ⟨rfl, hb2⟩
    have hgl := lt_of_block (unhide HK1)
    have HK2 := hide ((hb2.block _ hgl).trans (unhide HK1))
    have HE2 := hide ((unhide HE1).mono (unhide HV) (hb2.mono (by omega)))
    clear hb2 hgl HK1 HE1
    have a5 := (unhide HE2).cells.2.2.2.2.2
    go_wp2_with fail
    clear a5
    refine (still_any m.ups _ _ _ (unhide HE2).keys (unhide HK2) hl).mono ?_
    rintro e w3 ⟨rfl, hb3⟩
    have HE3 := hide ((unhide HE2).mono (unhide HV) hb3)
    clear hb3 HE2 HK2
    obtain ⟨a0, a1, a2, a3, a4, a5⟩ := (unhide HE3).cells
    go_wp2_with fail
    clear a0 a1 a2 a3 a4 a5
    refine (rwhole_any m _ _ (unhide HE3).keys (by omega)).mono ?_
    rw [unhide HW]
    rintro e w4 ⟨rfl, hb4⟩
    have HE4 : Hid (EN w.heap.size (w.heap.size + 1) m (.slice ao m.ups.length cap) w w4) := hide ((unhide HE3).mono (unhide HV) (hb4.mono (by have := lt_of_block (unhide HE3).box; omega)))
    clear hb4 HE3
    obtain ⟨a0, a1, a2, a3, a4, a5⟩ := (unhide HE4).cells
    go_wp2_with fail
    clear a0 a1 a2 a3 a4 a5
    refine (rbytes_any m _ _ (unhide HE4).keys (unhide HW)).mono ?_
    rintro e w5 ⟨rfl, hb5⟩
    have HB5 := hide ((unhide HE4).below.trans (hb5.mono (unhide HE4).below.size))
    clear hb5 HE4
    go_wp2
    go_ret2
    exact ⟨by simp [encB, unhide HW], unhide HB5⟩
end Go.Proofs.YtnneljcbelgoeaaGreatDoor.wire
