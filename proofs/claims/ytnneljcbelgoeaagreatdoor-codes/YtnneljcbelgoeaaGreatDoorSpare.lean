/- gossiplaw's spare and still. -/
import Derived.Test.YtnneljcbelgoeaaGreatDoorLawLeaf
import Derived.BigRegion
import Derived.Deep.RegionLaw
import Derived.Deep.DrawnRows
namespace Go.Proofs.YtnneljcbelgoeaaGreatDoor.wire
open Go.RowKit
attribute [local go_sem ↓] Go.wp_at_zero Go.wp_at_succ

def K3.zero : K3 := ⟨0, 0, 0⟩
def K3.seven : K3 := ⟨-7, 0, 0⟩
theorem kcells_set : ∀ (l : List K3) (k : Nat) (K : K3), k < l.length → (((kcells l).set (k * 3) (.int .i64 K.id)).set (k * 3 + 1) (.int .i64 K.inc)).set (k * 3 + 2) (.int .i64 K.st) = kcells (l.set k K)
  | _ :: r, 0, K, _ => rfl
  | x :: r, k + 1, K, h => by
    have := kcells_set r k K (by simpa using h)
    rw [show (k + 1) * 3 = k * 3 + 3 from by omega]
    simp only [kcells, List.set_cons_succ]
    rw [this]
/-- A block that holds keys. -/
abbrev keyBlk (l : List K3) : Obj := .cells (kcells l).toArray 76 (0, 0)
theorem put3 {W : World} {g : Nat} {l : List K3} (h : W.heap[g]? = some (keyBlk l)) (k : Nat) (K : K3) (hk : k < l.length) :
    (((W.setCell ⟨g, k * 3, none⟩ (.int .i64 K.id)).setCell ⟨g, k * 3 + 1, none⟩ (.int .i64 K.inc)).setCell ⟨g, k * 3 + 2, none⟩ (.int .i64 K.st)).heap[g]? = some (keyBlk (l.set k K)) := by
  rw [heap_setCell_same _ _ _ _ _ _ (heap_setCell_same _ _ _ _ _ _ (heap_setCell_same _ _ _ _ _ _ h))]
  simp only [List.setIfInBounds_toArray]
  rw [kcells_set l k K hk]
theorem keyCell {W : World} {g : Nat} {l : List K3} (h : W.heap[g]? = some (keyBlk l)) (k : Nat) (hk : k < l.length) :
    W.cell? ⟨g, k * 3, none⟩ = some (.int .i64 l[k].id) ∧ W.cell? ⟨g, k * 3 + 1, none⟩ = some (.int .i64 l[k].inc) ∧ W.cell? ⟨g, k * 3 + 2, none⟩ = some (.int .i64 l[k].st) := by
  have := kcells_get l k hk
  rw [cell_at h, cell_at h, cell_at h]
  simpa using this
theorem keysAt_blk {W : World} {g : Nat} {l r : List K3} (h : W.heap[g]? = some (keyBlk (l ++ r))) (cap : Nat) : KeysAt W (.slice (some ⟨g, 0, none⟩) l.length cap) l := by
  refine .inr ⟨g, 0, cap, rfl, lt_of_block h, fun i hi => ?_⟩
  have := keyCell h i (by simp; omega)
  rw [List.getElem_append_left hi] at this
  simpa using this
theorem infoKey' : (Tryz.prog.info? 76).map (fun i => (i.zero, i.size, i.bytes)) = some (some (.agg #[.int .i64 0, .int .i64 0, .int .i64 0]), 3, 24) := by kernel_rfl
theorem made_keys (n : Nat) : (madeCells (Value.agg #[.int .i64 0, .int .i64 0, .int .i64 0]).cells (n * 3)).toList = kcells (List.replicate n K3.zero) := by
  have h1 : ∀ n, kcells (List.replicate n K3.zero) = List.replicate (n * 3) (.int .i64 0) := by
    intro n
    induction n with
    | zero => rfl
    | succ n ih => rw [show (n + 1) * 3 = n * 3 + 1 + 1 + 1 from by omega, List.replicate_succ]; simp only [kcells, ih, List.replicate_succ]; rfl
  rw [h1]
  apply List.ext_getElem?
  intro j
  by_cases hj : j < n * 3
  · have h3 : j % 3 = 0 ∨ j % 3 = 1 ∨ j % 3 = 2 := by omega
    rcases h3 with h | h | h <;> simp [madeCells, Value.cells, hj, h]
  · simp [madeCells, hj]
theorem made_blk {W : World} {base g n : Nat} (h : W.ownsRow base 76 3 (.slice (some ⟨g, 0, none⟩) n n) n (madeCells (Value.agg #[.int .i64 0, .int .i64 0, .int .i64 0]).cells (n * 3)).toList) : W.heap[g]? = some (keyBlk (List.replicate n K3.zero)) := by
  rcases h.2 with ⟨e, _⟩ | ⟨g', cap, cur, e, _, hh, _, _, hs, ht⟩
  · cases e
  · simp at e
    obtain ⟨rfl, rfl⟩ := e
    rw [made_keys] at ht
    rw [hh]
    have : cur = (kcells (List.replicate n K3.zero)).toArray := by
      apply Array.ext'
      rw [← ht, List.take_of_length_le (by simp; omega)]
    rw [this]
theorem set_next (l : List K3) (k : Nat) (h : k < l.length) : (l.take k ++ List.replicate (l.length + 2 - k) K3.zero).set k l[k] = l.take (k + 1) ++ List.replicate (l.length + 2 - (k + 1)) K3.zero := by
  rw [List.set_append_right _ _ (by simp; omega), List.take_succ_eq_append_getElem h, List.append_assoc]
  congr 1
  rw [show k - (l.take k).length = 0 from by simp; omega, show l.length + 2 - k = l.length + 2 - (k + 1) + 1 from by omega]
  rfl
set_option maxRecDepth 100000 in
set_option maxHeartbeats 2000000 in
theorem spare_any (l : List K3) (v : Value) (w : World) (hv : KeysAt w v l) (hl : l.length ≤ 20000) :
    Calls Tryz.prog 22 #[v] w fun e w' => e = .returned (.slice (some ⟨w.heap.size, 0, none⟩) l.length (l.length + 2)) ∧ w'.heap[w.heap.size]? = some (keyBlk (l ++ [K3.seven, K3.seven])) ∧ Below w.heap.size w w' := by
  obtain ⟨ao, cap, rfl⟩ := hv.form
  have HV := hide hv
  clear hv
  obtain ⟨ti, hti, hz0, hz1, hz2⟩ := info_parts infoKey'
  go_enter Tryz.func22, Tryz.ntmps22
  go_wp2_with (at_make; refine wpList_make_full _ rfl _ _ 46 rfl w.heap.size 76 ti (.agg #[.int .i64 0, .int .i64 0, .int .i64 0]) 3 Tryz.underlying46 hti hz0 hz1 .i64 .i64 _ _ (l.length + 2) rfl rfl (by simp) (by simp) (by rw [hz2]; omega) (by unfold maxLen; omega) (Nat.le_refl _) ?_)
  intro w1 hown hgrow
  have hblk : w1.heap[w.heap.size]? = some (keyBlk (List.replicate (l.length + 2) K3.zero)) := made_blk hown
  have hB1 : Below w.heap.size w w1 := (Below.refl _ _).grown hgrow (Nat.le_refl _) (fun k e => by cases e)
  have HK := hide hblk
  have HB := hide hB1
  clear hown hgrow hblk hB1
  go_wp2_with fail
  go_loopw [5] (fun i wr => ∃ k : Nat, k ≤ l.length ∧ i = .int .i64 k ∧ wr.heap[w.heap.size]? = some (keyBlk (l.take k ++ List.replicate (l.length + 2 - k) K3.zero)) ∧ Below w.heap.size w wr) (fun i _ => l.length - (intOf i).toNat)
  case atStart => exact ⟨0, Nat.zero_le _, rfl, unhide HK, unhide HB⟩
  case round =>
    obtain ⟨k, hk, rfl, hblk, hbel⟩ := hrel
    clear HK HB
    by_cases hlt : k < l.length
    · have hkm : (k : Int) < (l.length : Int) := by omega
      have hkm2 : (k : Int) < (l.length : Int) + 2 := by omega
      obtain ⟨b, off, rfl, hb, hc⟩ := (unhide HV).elem (by omega)
      obtain ⟨x0, x1, x2⟩ := hc k hlt
      have p0 := (hbel.cell (p := ⟨b, off + k * 3, none⟩) hb).trans x0
      have p1 := (hbel.cell (p := ⟨b, off + k * 3 + 1, none⟩) hb).trans x1
      have p2 := (hbel.cell (p := ⟨b, off + k * 3 + 2, none⟩) hb).trans x2
      clear x0 x1 x2 hc
      obtain ⟨y0, y1, y2⟩ := keyCell hblk k (by simp; omega)
      have yf := free_at hblk
      have HP := hide (put3 hblk k l[k] (by simp; omega))
      have hset : (l.take k ++ List.replicate (l.length + 2 - k) K3.zero).set k l[k] = l.take (k + 1) ++ List.replicate (l.length + 2 - (k + 1)) K3.zero := set_next l k hlt
      have HS := hide hset
      have HB := hide hbel
      clear hblk hbel hset
      generalize hK : l[k] = K at p0 p1 p2 HP HS
      clear hK
      generalize (l.take k ++ List.replicate (l.length + 2 - k) K3.zero)[k]'(by simp; omega) = Y at y0 y1 y2
      go_wp2_with fail
      go_region
      all_goals
        go_wp2
        go_roundw
        case rel =>
          refine ⟨k + 1, by omega, by go_num, ?_, ?_⟩
          · rw [← unhide HS]
            exact unhide HP
          · exact ((((unhide HB).setCell (Nat.le_refl _) _).setCell (Nat.le_refl _) _).setCell (Nat.le_refl _) _).drew
        case measure => simp [intOf]; omega
    · have e : k = l.length := by omega
      have hb0 : wr.heap[w.heap.size]? = some (keyBlk (l ++ [K3.zero, K3.zero])) := by
        have h := hblk
        rw [e, List.take_length, show l.length + 2 - l.length = 2 from by omega] at h
        exact h
      obtain ⟨y0, y1, y2⟩ := keyCell hb0 l.length (by simp)
      obtain ⟨z0, z1, z2⟩ := keyCell hb0 (l.length + 1) (by simp)
      have yf := free_at hb0
      have hs1 : (l ++ [K3.zero, K3.zero]).set l.length K3.seven = l ++ [K3.seven, K3.zero] := by rw [List.set_append_right _ _ (Nat.le_refl _)]; simp
      have hs2 : (l ++ [K3.seven, K3.zero]).set (l.length + 1) K3.seven = l ++ [K3.seven, K3.seven] := by rw [List.set_append_right _ _ (by omega)]; simp
      have hp1 := put3 hb0 l.length K3.seven (by simp)
      rw [hs1] at hp1
      have hp2 := put3 hp1 (l.length + 1) K3.seven (by simp)
      rw [hs2] at hp2
      obtain ⟨a0, a1, a2⟩ := keyCell hp1 (l.length + 1) (by simp)
      have af := free_at hp1
      have HP := hide hp2
      have HB := hide hbel
      generalize (l ++ [K3.zero, K3.zero])[l.length]'(by simp) = Y at y0 y1 y2
      generalize (l ++ [K3.zero, K3.zero])[l.length + 1]'(by simp) = Z at z0 z1 z2
      clear hblk hbel hb0 hs1 hs2 hp1 hp2 e
      simp only [K3.seven] at a0 a1 a2 af HP
      go_wp2
      go_ret
      exact ⟨rfl, unhide HP, ((((((unhide HB).setCell (Nat.le_refl _) _).setCell (Nat.le_refl _) _).setCell (Nat.le_refl _) _).setCell (Nat.le_refl _) _).setCell (Nat.le_refl _) _).setCell (Nat.le_refl _) _⟩
set_option maxRecDepth 100000 in
set_option maxHeartbeats 2000000 in
theorem still_any (l : List K3) (v : Value) (g : Nat) (w : World) (hv : KeysAt w v l) (hb : w.heap[g]? = some (keyBlk (l ++ [K3.seven, K3.seven]))) (hl : l.length ≤ 20000) :
    Calls Tryz.prog 24 #[.slice (some ⟨g, 0, none⟩) l.length (l.length + 2), v] w fun e w' => e = .returned (.bool true) ∧ Below g w w' := by
  obtain ⟨ao, cap, rfl⟩ := hv.form
  have HV := hide hv
  have HB := hide hb
  clear hv hb
  go_enter Tryz.func24, Tryz.ntmps24
  go_wp2_with fail
  refine (lkeys_any l _ _ _ (keysAt_blk (unhide HB) _) (unhide HV) (by omega)).mono ?_
  rintro e w1 ⟨rfl, nq, rfl⟩
  obtain ⟨a0, a1, a2⟩ := keyCell (unhide HB) l.length (by simp)
  obtain ⟨b0, b1, b2⟩ := keyCell (unhide HB) (l.length + 1) (by simp)
  have t1 : (l ++ [K3.seven, K3.seven])[l.length]'(by simp) = K3.seven := by rw [List.getElem_append_right (Nat.le_refl _)]; simp
  have t2 : (l ++ [K3.seven, K3.seven])[l.length + 1]'(by simp) = K3.seven := by rw [List.getElem_append_right (by omega)]; simp
  rw [t1] at a0
  rw [t2] at b0
  simp only [K3.seven] at a0 b0
  clear a1 a2 b1 b2 t1 t2
  have HD : Hid (∃ L : List K3, L.length = l.length + 2 ∧ (w.drewN nq).heap[g]? = some (keyBlk L)) := hide ⟨_, by simp, unhide HB⟩
  go_wp2_with fail
  go_loopw [9] (fun i wr => ∃ k : Nat, k ≤ l.length + 2 ∧ i = .int .i64 k ∧ (∃ L : List K3, L.length = l.length + 2 ∧ wr.heap[g]? = some (keyBlk L)) ∧ Below g w wr) (fun i _ => l.length + 2 - (intOf i).toNat)
  case atStart => exact ⟨0, Nat.zero_le _, rfl, unhide HD, below_draws (Below.refl _ _) _⟩
  case round =>
    obtain ⟨k, hk, rfl, ⟨L, hL, hblk⟩, hbel⟩ := hrel
    clear HB HD a0 b0
    by_cases hlt : k < l.length + 2
    · have hkm2 : (k : Int) < (l.length : Int) + 2 := by omega
      obtain ⟨y0, y1, y2⟩ := keyCell hblk k (by omega)
      have yf := free_at hblk
      have HP := hide (put3 hblk k K3.seven (by omega))
      have HLL : Hid ((L.set k K3.seven).length = l.length + 2) := hide (by simp [hL])
      have HBL := hide hbel
      simp only [K3.seven] at HP
      generalize L[k]'(by omega) = Y at y0 y1 y2
      clear hblk hbel
      go_wp2
      go_roundw
      case rel => exact ⟨k + 1, by omega, by go_num, ⟨_, unhide HLL, unhide HP⟩, ((((unhide HBL).setCell (Nat.le_refl _) _).setCell (Nat.le_refl _) _).setCell (Nat.le_refl _) _)⟩
      case measure => simp [intOf]; omega
    · have HBL := hide hbel
      clear hblk hbel
      go_wp2
      go_ret
      exact ⟨rfl, unhide HBL⟩
end Go.Proofs.YtnneljcbelgoeaaGreatDoor.wire
