import Derived.Test.YtnneljcbelgoeaaGreatDoorG08
import Derived.Test.YtnneljcbelgoeaaGreatDoorG01
import Derived.Deep.QuietTactic
import Derived.BigQuiet
import Derived.BigRegion
import Derived.Deep.RegionLaw
import Derived.Deep.DrawnRows
import Derived.Deep.AppendLies
import Derived.Laws.CopyRow
import Derived.Deep.RegionLawGrows
import Derived.Deep.DeepAppendRoom
import Derived.Test.YtnneljcbelgoeaaGreatDoorG07
import Derived.Test.YtnneljcbelgoeaaGreatDoorG05
/- gossiplaw's pick, num, told, keys. -/
namespace Go.Proofs.YtnneljcbelgoeaaGreatDoor.wire
open Go.RowKit
def pickW (c n : Int) : Int := (if c < 0 then -(c + 1) else c) % n
theorem pickW_bd (c n : Int) (h : 0 < n) : 0 ≤ pickW c n ∧ pickW c n < n := ⟨Int.emod_nonneg _ (by omega), Int.emod_lt_of_pos _ h⟩
theorem lpick_any (c n : Int) (w : World) (h0 : -9223372036854775808 ≤ c) (h1 : c ≤ 9223372036854775807) (hn : 0 < n) (hn1 : n ≤ 4294967296) :
    Calls Tryz.prog 19 #[.int .i64 c, .int .i64 n] w fun e w' => e = .returned (.int .i64 (pickW c n)) ∧ w' = w := by
  have hz : (n == 0) = false := by simp; omega
  by_cases hc : c < 0
  · go_enter Tryz.func19, Tryz.ntmps19
    go_wp2
    go_ret
    exact ⟨ret_int (by rw [← Int.neg_tmod, Int.tmod_eq_emod_of_nonneg (by omega)]; simp [pickW, hc]), rfl⟩
  · go_enter Tryz.func19, Tryz.ntmps19
    go_wp2
    go_ret
    exact ⟨ret_int (by unfold pickW; rw [if_neg (by omega)]), rfl⟩
theorem num_any (n : Int) (w : World) : Calls Tryz.prog 49 #[.int .i64 n] w fun e w' => e = .returned (.int .i64 n) ∧ w' = w := by
  go_enter Tryz.func49, Tryz.ntmps49
  go_wp2
  go_ret
  exact ⟨rfl, rfl⟩
/-- told: no error, and the number 0. -/
theorem ltold_nil (w : World) : Calls Tryz.prog 26 #[.nilIface, .int .i64 0] w fun e w' => e = .returned (.bool true) ∧ w' = w := by
  go_enter Tryz.func26, Tryz.ntmps26
  go_wp2_with fail
  refine (told_nil _).mono ?_
  rintro e w1 ⟨rfl, rfl⟩
  go_wp2_with fail
  refine (num_any 0 _).mono ?_
  rintro e w1 ⟨rfl, rfl⟩
  go_wp2
  go_ret
  exact ⟨rfl, rfl⟩
/-- told: ErrPacket, and the number 2. -/
theorem ltold_two (w : World) (hg : w.cell? ⟨0, 0, none⟩ = some (.iface 207 (.agg #[.pointer (some ⟨1, 64, none⟩)]))) :
    Calls Tryz.prog 26 #[.iface 108 (.int .i64 2), .int .i64 2] w fun e w' => e = .returned (.bool true) ∧ Below w.heap.size w w' := by
  have HG := hide hg
  clear hg
  go_enter Tryz.func26, Tryz.ntmps26
  go_wp2_with fail
  refine (told_any 2 _ (unhide HG)).mono ?_
  rintro e w1 ⟨rfl, hb⟩
  have HB := hide hb
  clear hb
  go_wp2_with fail
  refine (num_any 2 _).mono ?_
  rintro e w2 ⟨rfl, rfl⟩
  go_wp2
  go_ret
  exact ⟨rfl, unhide HB⟩
theorem below_draws {B : Nat} {x w : World} (h : Below B x w) (n : Nat) : Below B x (w.drewN n) := ⟨h.os, h.tape, h.output, h.size, h.block⟩
set_option maxRecDepth 100000 in
set_option maxHeartbeats 1000000 in
/-- keys: two lists of the same keys. -/
theorem lkeys_any (l : List K3) (v v' : Value) (w : World) (hv : KeysAt w v l) (hv' : KeysAt w v' l) (hl : l.length ≤ 1000000) :
    Calls Tryz.prog 30 #[v, v'] w fun e w' => e = .returned (.bool true) ∧ ∃ n, w' = w.drewN n := by
  obtain ⟨ao, cap, rfl⟩ := hv.form
  obtain ⟨ao', cap', rfl⟩ := hv'.form
  have HV := hide hv
  have HV' := hide hv'
  clear hv hv'
  go_enter Tryz.func30, Tryz.ntmps30
  go_wp2_with fail
  go_loopw [5] (fun i wr => ∃ k : Nat, k ≤ l.length ∧ i = .int .i64 k ∧ ∃ n, wr = w.drewN n) (fun i _ => l.length - (intOf i).toNat)
  case atStart => exact ⟨0, Nat.zero_le _, rfl, 0, rfl⟩
  case round =>
    obtain ⟨k, hk, rfl, n, rfl⟩ := hrel
    by_cases hlt : k < l.length
    · have hkm : (k : Int) < (l.length : Int) := by omega
      obtain ⟨b, off, rfl, hb, hc⟩ := (unhide HV).elem (by omega)
      obtain ⟨b', off', rfl, hb', hc'⟩ := (unhide HV').elem (by omega)
      obtain ⟨p0, p1, p2⟩ := hc k hlt
      obtain ⟨q0, q1, q2⟩ := hc' k hlt
      clear hc hc'
      generalize l[k] = K at p0 p1 p2 q0 q1 q2
      have e1 : (K.id != K.id) = false := by simp
      have e2 : (K.inc != K.inc) = false := by simp
      have e3 : (K.st != K.st) = false := by simp
      go_wp2_with fail
      go_quiet (fail)
      go_wp2
      go_roundw
      case rel => exact ⟨k + 1, by omega, by go_num, _, rfl⟩
      case measure => simp [intOf]; omega
    · go_wp2
      go_ret
      exact ⟨rfl, n, rfl⟩
end Go.Proofs.YtnneljcbelgoeaaGreatDoor.wire
/- gossiplaw's spare and still. -/
namespace Go.Proofs.YtnneljcbelgoeaaGreatDoor.wire
open Go.RowKit
attribute [local go_sem ↓] Go.wp_at_zero Go.wp_at_succ

def K3.zero : K3 := ⟨0, 0, 0⟩
def K3.seven : K3 := ⟨-7, 0, 0⟩
theorem kcells_set : ∀ (l : List K3) (k : Nat) (K : K3), k < l.length → (((kcells l).set (k * 3) (.int .i64 K.id)).set (k * 3 + 1) (.int .i64 K.inc)).set (k * 3 + 2) (.int .i64 K.st) = kcells (l.set k K)
  | _ :: r, 0, K, _ => rfl
  | x :: r, k + 1, K, h => by
    have := kcells_set r k K (by simpa using h)
    rw [show (k + 1) * 3 = k * 3 + 3 from by omega]
    simp only [kcells, List.set_cons_succ]
    rw [this]
/-- A block that holds keys. -/
abbrev keyBlk (l : List K3) : Obj := .cells (kcells l).toArray 76 (0, 0)
theorem put3 {W : World} {g : Nat} {l : List K3} (h : W.heap[g]? = some (keyBlk l)) (k : Nat) (K : K3) (hk : k < l.length) :
    (((W.setCell ⟨g, k * 3, none⟩ (.int .i64 K.id)).setCell ⟨g, k * 3 + 1, none⟩ (.int .i64 K.inc)).setCell ⟨g, k * 3 + 2, none⟩ (.int .i64 K.st)).heap[g]? = some (keyBlk (l.set k K)) := by
  rw [heap_setCell_same _ _ _ _ _ _ (heap_setCell_same _ _ _ _ _ _ (heap_setCell_same _ _ _ _ _ _ h))]
  simp only [List.setIfInBounds_toArray]
  rw [kcells_set l k K hk]
theorem keyCell {W : World} {g : Nat} {l : List K3} (h : W.heap[g]? = some (keyBlk l)) (k : Nat) (hk : k < l.length) :
    W.cell? ⟨g, k * 3, none⟩ = some (.int .i64 l[k].id) ∧ W.cell? ⟨g, k * 3 + 1, none⟩ = some (.int .i64 l[k].inc) ∧ W.cell? ⟨g, k * 3 + 2, none⟩ = some (.int .i64 l[k].st) := by
  have := kcells_get l k hk
  rw [cell_at h, cell_at h, cell_at h]
  simpa using this
theorem keysAt_blk {W : World} {g : Nat} {l r : List K3} (h : W.heap[g]? = some (keyBlk (l ++ r))) (cap : Nat) : KeysAt W (.slice (some ⟨g, 0, none⟩) l.length cap) l := by
  refine .inr ⟨g, 0, cap, rfl, lt_of_block h, fun i hi => ?_⟩
  have := keyCell h i (by simp; omega)
  rw [List.getElem_append_left hi] at this
  simpa using this
theorem infoKey' : (Tryz.prog.info? 76).map (fun i => (i.zero, i.size, i.bytes)) = some (some (.agg #[.int .i64 0, .int .i64 0, .int .i64 0]), 3, 24) := by kernel_rfl
theorem made_keys (n : Nat) : (madeCells (Value.agg #[.int .i64 0, .int .i64 0, .int .i64 0]).cells (n * 3)).toList = kcells (List.replicate n K3.zero) := by
  have h1 : ∀ n, kcells (List.replicate n K3.zero) = List.replicate (n * 3) (.int .i64 0) := by
    intro n
    induction n with
    | zero => rfl
    | succ n ih => rw [show (n + 1) * 3 = n * 3 + 1 + 1 + 1 from by omega, List.replicate_succ]; simp only [kcells, ih, List.replicate_succ]; rfl
  rw [h1]
  apply List.ext_getElem?
  intro j
  by_cases hj : j < n * 3
  · have h3 : j % 3 = 0 ∨ j % 3 = 1 ∨ j % 3 = 2 := by omega
    rcases h3 with h | h | h <;> simp [madeCells, Value.cells, hj, h]
  · simp [madeCells, hj]
theorem made_blk {W : World} {base g n : Nat} (h : W.ownsRow base 76 3 (.slice (some ⟨g, 0, none⟩) n n) n (madeCells (Value.agg #[.int .i64 0, .int .i64 0, .int .i64 0]).cells (n * 3)).toList) : W.heap[g]? = some (keyBlk (List.replicate n K3.zero)) := by
  rcases h.2 with ⟨e, _⟩ | ⟨g', cap, cur, e, _, hh, _, _, hs, ht⟩
  · cases e
  · simp at e
    obtain ⟨rfl, rfl⟩ := e
    rw [made_keys] at ht
    rw [hh]
    have : cur = (kcells (List.replicate n K3.zero)).toArray := by
      apply Array.ext'
      rw [← ht, List.take_of_length_le (by simp; omega)]
    rw [this]
theorem set_next (l : List K3) (k : Nat) (h : k < l.length) : (l.take k ++ List.replicate (l.length + 2 - k) K3.zero).set k l[k] = l.take (k + 1) ++ List.replicate (l.length + 2 - (k + 1)) K3.zero := by
  rw [List.set_append_right _ _ (by simp; omega), List.take_succ_eq_append_getElem h, List.append_assoc]
  congr 1
  rw [show k - (l.take k).length = 0 from by simp; omega, show l.length + 2 - k = l.length + 2 - (k + 1) + 1 from by omega]
  rfl
set_option maxRecDepth 100000 in
set_option maxHeartbeats 2000000 in
theorem spare_any (l : List K3) (v : Value) (w : World) (hv : KeysAt w v l) (hl : l.length ≤ 20000) :
    Calls Tryz.prog 22 #[v] w fun e w' => e = .returned (.slice (some ⟨w.heap.size, 0, none⟩) l.length (l.length + 2)) ∧ w'.heap[w.heap.size]? = some (keyBlk (l ++ [K3.seven, K3.seven])) ∧ Below w.heap.size w w' := by
  obtain ⟨ao, cap, rfl⟩ := hv.form
  have HV := hide hv
  clear hv
  obtain ⟨ti, hti, hz0, hz1, hz2⟩ := info_parts infoKey'
  go_enter Tryz.func22, Tryz.ntmps22
  go_wp2_with (at_make; refine wpList_make_full _ rfl _ _ 46 rfl w.heap.size 76 ti (.agg #[.int .i64 0, .int .i64 0, .int .i64 0]) 3 Tryz.underlying46 hti hz0 hz1 .i64 .i64 _ _ (l.length + 2) rfl rfl (by simp) (by simp) (by rw [hz2]; omega) (by unfold maxLen; omega) (Nat.le_refl _) ?_)
  intro w1 hown hgrow
  have hblk : w1.heap[w.heap.size]? = some (keyBlk (List.replicate (l.length + 2) K3.zero)) := made_blk hown
  have hB1 : Below w.heap.size w w1 := (Below.refl _ _).grown hgrow (Nat.le_refl _) (fun k e => by cases e)
  have HK := hide hblk
  have HB := hide hB1
  clear hown hgrow hblk hB1
  go_wp2_with fail
  go_loopw [5] (fun i wr => ∃ k : Nat, k ≤ l.length ∧ i = .int .i64 k ∧ wr.heap[w.heap.size]? = some (keyBlk (l.take k ++ List.replicate (l.length + 2 - k) K3.zero)) ∧ Below w.heap.size w wr) (fun i _ => l.length - (intOf i).toNat)
  case atStart => exact ⟨0, Nat.zero_le _, rfl, unhide HK, unhide HB⟩
  case round =>
    obtain ⟨k, hk, rfl, hblk, hbel⟩ := hrel
    clear HK HB
    by_cases hlt : k < l.length
    · have hkm : (k : Int) < (l.length : Int) := by omega
      have hkm2 : (k : Int) < (l.length : Int) + 2 := by omega
      obtain ⟨b, off, rfl, hb, hc⟩ := (unhide HV).elem (by omega)
      obtain ⟨x0, x1, x2⟩ := hc k hlt
      have p0 := (hbel.cell (p := ⟨b, off + k * 3, none⟩) hb).trans x0
      have p1 := (hbel.cell (p := ⟨b, off + k * 3 + 1, none⟩) hb).trans x1
      have p2 := (hbel.cell (p := ⟨b, off + k * 3 + 2, none⟩) hb).trans x2
      clear x0 x1 x2 hc
      obtain ⟨y0, y1, y2⟩ := keyCell hblk k (by simp; omega)
      have yf := free_at hblk
      have HP := hide (put3 hblk k l[k] (by simp; omega))
      have hset : (l.take k ++ List.replicate (l.length + 2 - k) K3.zero).set k l[k] = l.take (k + 1) ++ List.replicate (l.length + 2 - (k + 1)) K3.zero := set_next l k hlt
      have HS := hide hset
      have HB := hide hbel
      clear hblk hbel hset
      generalize hK : l[k] = K at p0 p1 p2 HP HS
      clear hK
      generalize (l.take k ++ List.replicate (l.length + 2 - k) K3.zero)[k]'(by simp; omega) = Y at y0 y1 y2
      go_wp2_with fail
      go_region
      all_goals
        go_wp2
        go_roundw
        case rel =>
          refine ⟨k + 1, by omega, by go_num, ?_, ?_⟩
          · rw [← unhide HS]
            exact unhide HP
          · exact ((((unhide HB).setCell (Nat.le_refl _) _).setCell (Nat.le_refl _) _).setCell (Nat.le_refl _) _).drew
        case measure => simp [intOf]; omega
    · have e : k = l.length := by omega
      have hb0 : wr.heap[w.heap.size]? = some (keyBlk (l ++ [K3.zero, K3.zero])) := by
        have h := hblk
        rw [e, List.take_length, show l.length + 2 - l.length = 2 from by omega] at h
        exact h
      obtain ⟨y0, y1, y2⟩ := keyCell hb0 l.length (by simp)
      obtain ⟨z0, z1, z2⟩ := keyCell hb0 (l.length + 1) (by simp)
      have yf := free_at hb0
      have hs1 : (l ++ [K3.zero, K3.zero]).set l.length K3.seven = l ++ [K3.seven, K3.zero] := by rw [List.set_append_right _ _ (Nat.le_refl _)]; simp
      have hs2 : (l ++ [K3.seven, K3.zero]).set (l.length + 1) K3.seven = l ++ [K3.seven, K3.seven] := by rw [List.set_append_right _ _ (by omega)]; simp
      have hp1 := put3 hb0 l.length K3.seven (by simp)
      rw [hs1] at hp1
      have hp2 := put3 hp1 (l.length + 1) K3.seven (by simp)
      rw [hs2] at hp2
      obtain ⟨a0, a1, a2⟩ := keyCell hp1 (l.length + 1) (by simp)
      have af := free_at hp1
      have HP := hide hp2
      have HB := hide hbel
      generalize (l ++ [K3.zero, K3.zero])[l.length]'(by simp) = Y at y0 y1 y2
      generalize (l ++ [K3.zero, K3.zero])[l.length + 1]'(by simp) = Z at z0 z1 z2
      clear hblk hbel hb0 hs1 hs2 hp1 hp2 e
      simp only [K3.seven] at a0 a1 a2 af HP
      go_wp2
      go_ret
      exact ⟨rfl, unhide HP, ((((((unhide HB).setCell (Nat.le_refl _) _).setCell (Nat.le_refl _) _).setCell (Nat.le_refl _) _).setCell (Nat.le_refl _) _).setCell (Nat.le_refl _) _).setCell (Nat.le_refl _) _⟩
set_option maxRecDepth 100000 in
set_option maxHeartbeats 2000000 in
theorem still_any (l : List K3) (v : Value) (g : Nat) (w : World) (hv : KeysAt w v l) (hb : w.heap[g]? = some (keyBlk (l ++ [K3.seven, K3.seven]))) (hl : l.length ≤ 20000) :
    Calls Tryz.prog 24 #[.slice (some ⟨g, 0, none⟩) l.length (l.length + 2), v] w fun e w' => e = .returned (.bool true) ∧ Below g w w' := by
  obtain ⟨ao, cap, rfl⟩ := hv.form
  have HV := hide hv
  have HB := hide hb
  clear hv hb
  go_enter Tryz.func24, Tryz.ntmps24
  go_wp2_with fail
  refine (lkeys_any l _ _ _ (keysAt_blk (unhide HB) _) (unhide HV) (by omega)).mono ?_
  rintro e w1 ⟨rfl, nq, rfl⟩
  obtain ⟨a0, a1, a2⟩ := keyCell (unhide HB) l.length (by simp)
  obtain ⟨b0, b1, b2⟩ := keyCell (unhide HB) (l.length + 1) (by simp)
  have t1 : (l ++ [K3.seven, K3.seven])[l.length]'(by simp) = K3.seven := by rw [List.getElem_append_right (Nat.le_refl _)]; simp
  have t2 : (l ++ [K3.seven, K3.seven])[l.length + 1]'(by simp) = K3.seven := by rw [List.getElem_append_right (by omega)]; simp
  rw [t1] at a0
  rw [t2] at b0
  simp only [K3.seven] at a0 b0
  clear a1 a2 b1 b2 t1 t2
  have HD : Hid (∃ L : List K3, L.length = l.length + 2 ∧ (w.drewN nq).heap[g]? = some (keyBlk L)) := hide ⟨_, by simp, unhide HB⟩
  go_wp2_with fail
  go_loopw [9] (fun i wr => ∃ k : Nat, k ≤ l.length + 2 ∧ i = .int .i64 k ∧ (∃ L : List K3, L.length = l.length + 2 ∧ wr.heap[g]? = some (keyBlk L)) ∧ Below g w wr) (fun i _ => l.length + 2 - (intOf i).toNat)
  case atStart => exact ⟨0, Nat.zero_le _, rfl, unhide HD, below_draws (Below.refl _ _) _⟩
  case round =>
    obtain ⟨k, hk, rfl, ⟨L, hL, hblk⟩, hbel⟩ := hrel
    clear HB HD a0 b0
    by_cases hlt : k < l.length + 2
    · have hkm2 : (k : Int) < (l.length : Int) + 2 := by omega
      obtain ⟨y0, y1, y2⟩ := keyCell hblk k (by omega)
      have yf := free_at hblk
      have HP := hide (put3 hblk k K3.seven (by omega))
      have HLL : Hid ((L.set k K3.seven).length = l.length + 2) := hide (by simp [hL])
      have HBL := hide hbel
      simp only [K3.seven] at HP
      generalize L[k]'(by omega) = Y at y0 y1 y2
      clear hblk hbel
      go_wp2
      go_roundw
      case rel => exact ⟨k + 1, by omega, by go_num, ⟨_, unhide HLL, unhide HP⟩, ((((unhide HBL).setCell (Nat.le_refl _) _).setCell (Nat.le_refl _) _).setCell (Nat.le_refl _) _)⟩
      case measure => simp [intOf]; omega
    · have HBL := hide hbel
      clear hblk hbel
      go_wp2
      go_ret
      exact ⟨rfl, unhide HBL⟩
end Go.Proofs.YtnneljcbelgoeaaGreatDoor.wire
/- What stands between two steps of a script that plays Encode and Decode: the World of gossiplaw. -/
namespace Go.Proofs.YtnneljcbelgoeaaGreatDoor.wire
open Go.RowKit

theorem own_grown {W W' : World} {base : Nat} {e : TypeId} {size : Nat} {v : Value} {n : Nat} {xs : List Value} {row : Option Nat} (h : W.ownsRow base e size v n xs) (hg : W.grownBy W' row) (hne : ∀ g, row = some g → v.ownBlock ≠ some g) : W'.ownsRow base e size v n xs := by
  obtain ⟨hl, h⟩ := h
  refine ⟨hl, ?_⟩
  rcases h with h | ⟨g, cap, cur, rfl, hb, hh, h⟩
  · exact .inl h
  · refine .inr ⟨g, cap, cur, rfl, hb, ?_, h⟩
    rw [hg.block g (lt_of_block hh) (fun e => hne g e.symm rfl)]
    exact hh
theorem own_ne {W : World} {b b' : Nat} {e e' : TypeId} {z z' : Nat} {v v' : Value} {n n' : Nat} {xs xs' : List Value} (h : W.ownsRow b e z v n xs) (h' : W.ownsRow b' e' z' v' n' xs') (he : e ≠ e') : ∀ g, v.ownBlock = some g → v'.ownBlock ≠ some g := by
  intro g hv hv'
  rcases h.2 with ⟨rfl, _⟩ | ⟨g1, c1, cur1, rfl, _, hh1, _⟩
  · simp [Value.ownBlock] at hv
  rcases h'.2 with ⟨rfl, _⟩ | ⟨g2, c2, cur2, rfl, _, hh2, _⟩
  · simp [Value.ownBlock] at hv'
  simp [Value.ownBlock] at hv hv'
  subst hv
  subst hv'
  rw [hh1] at hh2
  simp at hh2
  exact he hh2.2
/-- The script's state, plainly. -/
structure St where
  tv : Value
  ts : List (List UInt8)
  m : M6
  uv : Value
  dv : Value
  dn : Nat
  dx : List Value
  c0 : Int
  c1 : Int
  c2 : Int
  c3 : Int
  c4 : Int
  c5 : Int
  lv : Value
  wv : Value
  ls : List Value
  ws : List Value
  mark : Int
abbrev St.cells (s : St) : Array Value := #[s.tv, .int .i64 s.m.kind, .int .i64 s.m.frm, .int .i64 s.m.inc, .int .i64 s.m.seq, .int .i64 s.m.tgt, s.uv, s.dv, .int .i64 s.c0, .int .i64 s.c1, .int .i64 s.c2, .int .i64 s.c3, .int .i64 s.c4, .int .i64 s.c5, .slice none 0 0, .slice none 0 0, s.lv, s.wv, .slice none 0 0, .slice none 0 0, .int .i64 s.mark]
/-- The rows that the World owns. -/
structure Rows4 (base : Nat) (s : St) (W : World) : Prop where
  t : W.ownsRow base 9 1 s.tv s.ts.length (s.ts.map fun l => .string (bs l))
  u : W.ownsRow base 58 3 s.uv s.m.ups.length (kcells s.m.ups)
  d : W.ownsRow base 3 1 s.dv s.dn s.dx
  l : W.ownsRow base 46 1 s.lv s.ls.length s.ls
  w : W.ownsRow base 46 1 s.wv s.ws.length s.ws
  lw : ∀ g, s.lv.ownBlock = some g → s.wv.ownBlock ≠ some g
  p : ∀ (i : Nat) (x y : Value), s.ls[i]? = some x → s.ws[i]? = some y → ∃ ks : List K3, ks.length ≤ 20 ∧ W.ownsRow base 76 3 x ks.length (kcells ks) ∧ W.ownsRow base 76 3 y ks.length (kcells ks)
/-- What any change does that leaves every row alone. -/
theorem Rows4.by {base : Nat} {s : St} {W W' : World} (h : Rows4 base s W) (f : ∀ {e : TypeId} {z : Nat} {v : Value} {n : Nat} {xs : List Value}, W.ownsRow base e z v n xs → W'.ownsRow base e z v n xs) : Rows4 base s W' :=
  ⟨f h.t, f h.u, f h.d, f h.l, f h.w, h.lw, fun i x y hx hy => by
    obtain ⟨ks, hk, h1, h2⟩ := h.p i x y hx hy
    exact ⟨ks, hk, f h1, f h2⟩⟩
/-- The World is block wb. -/
structure WC (wb : Nat) (s : St) (w W : World) : Prop where
  blk : W.heap[wb]? = some (.cells s.cells 41 (0, 0))
  rows : Rows4 (wb + 1) s W
  below : Below w.heap.size w W
  low : w.heap.size ≤ wb
/-- How much there is of everything, when at most n steps were made. -/
structure WB (n : Nat) (s : St) : Prop where
  tn : s.ts.length ≤ n
  tl : ∀ l ∈ s.ts, l.length ≤ 17000
  un : s.m.ups.length ≤ n + 8
  dn : s.dn ≤ n
  pn : s.ls.length ≤ 2 * n
  pw : s.ws.length = s.ls.length
  m0 : 0 ≤ s.mark
  m1 : s.mark ≤ 20 * (n : Int)
  d1 : ∀ u ∈ s.dx, u.oneCell' = true
structure WV (n wb : Nat) (s : St) (w W : World) : Prop extends WC wb s w W, WB n s
theorem WC.lt {wb : Nat} {s : St} {w W : World} (h : WC wb s w W) : wb < W.heap.size := lt_of_block h.blk
theorem WC.mono {wb : Nat} {s : St} {w W W' : World} (h : WC wb s w W) (hb : Below W.heap.size W W') : WC wb s w W' :=
  ⟨(hb.block wb h.lt).trans h.blk, h.rows.by (fun o => own_below o hb), h.below.trans (hb.mono h.below.size), h.low⟩
theorem WC.alloc {wb : Nat} {s : St} {w W : World} (h : WC wb s w W) (o : Obj) : WC wb s w (W.alloc o) := h.mono ((Below.refl _ _).alloc (Nat.le_refl _) _)
theorem WC.draws {wb : Nat} {s : St} {w W : World} (h : WC wb s w W) (k : Nat) : WC wb s w (W.drewN k) := h.mono (below_draws (Below.refl _ _) _)
theorem WC.gate {wb : Nat} {s : St} {w W : World} (h : WC wb s w W) {x : Value} (hlt : 0 < w.heap.size) (hg : w.cell? ⟨0, 0, none⟩ = some x) : W.cell? ⟨0, 0, none⟩ = some x := (h.below.cell (p := ⟨0, 0, none⟩) hlt).trans hg
theorem WC.cell {wb : Nat} {s : St} {w W : World} (h : WC wb s w W) (j : Nat) : W.cell? ⟨wb, j, none⟩ = s.cells[j]? := cell_at h.blk j
theorem WC.free {wb : Nat} {s : St} {w W : World} (h : WC wb s w W) (j : Nat) : W.frozen? ⟨wb, j, none⟩ = false := free_at h.blk j
/-- A store into the World's own block. -/
theorem WC.store {wb : Nat} {s : St} {w W : World} (hblk : W.heap[wb]? = some (.cells s.cells 41 (0, 0))) (hbel : Below w.heap.size w W) (hlow : w.heap.size ≤ wb) (s' : St) (j : Nat) (u : Value) (hc : s.cells.setIfInBounds j u = s'.cells) (hr : Rows4 (wb + 1) s' W) : WC wb s' w (W.setCell ⟨wb, j, none⟩ u) :=
  ⟨by rw [heap_setCell_same _ _ _ _ _ _ hblk, hc], hr.by (fun o => ownsRow_setCell_below o (by simp) _), hbel.setCell hlow _, hlow⟩
/-- What a row's growth leaves of another row. -/
theorem keep_other {W W1 W2 : World} {base : Nat} {e : TypeId} {z : Nat} {v v0 : Value} {n : Nat} {xs : List Value} (h : W.ownsRow base e z v n xs) (hg : W1.grownBy W2 v0.ownBlock) (hb : Below W.heap.size W W1) (hne : ∀ g, v0.ownBlock = some g → v.ownBlock ≠ some g) : W2.ownsRow base e z v n xs :=
  own_grown (own_below h hb) hg hne
/-- The World's own block behind a row's growth. -/
theorem WC.grown {wb : Nat} {s : St} {w W W1 W2 : World} (h : WC wb s w W) {v0 : Value} (hb : Below W.heap.size W W1) (hg : W1.grownBy W2 v0.ownBlock) (hv : ∀ g, v0.ownBlock = some g → wb + 1 ≤ g) :
    W2.heap[wb]? = some (.cells s.cells 41 (0, 0)) ∧ Below w.heap.size w W2 := by
  have hl := h.lt
  have hlo := h.low
  have hz := hb.size
  refine ⟨?_, ?_⟩
  · rw [hg.block wb (by omega) (fun e => by have := hv wb e.symm; omega), hb.block wb hl]
    exact h.blk
  · have h1 := h.below.trans (hb.mono h.below.size)
    exact h1.grown hg (by have := h.below.size; omega) (fun k e => by have := hv k e; omega)
end Go.Proofs.YtnneljcbelgoeaaGreatDoor.wire
/- gossiplaw's hold: a list is kept, and a copy of it. -/
namespace Go.Proofs.YtnneljcbelgoeaaGreatDoor.wire
open Go.RowKit
theorem kcells_one (l : List K3) : ∀ v ∈ kcells l, v.oneCell' = true := by
  induction l with
  | nil => intro v h; cases h
  | cons k r ih => intro v h; simp [kcells] at h; rcases h with rfl | rfl | rfl | h; rfl; rfl; rfl; exact ih v h
theorem sizeKey : (Tryz.prog.info? 76).map (·.size) = some 3 := by kernel_rfl
theorem run_copy_keys (w : World) (ty : TypeId) (g n : Nat) (a : Addr) (c : Nat) (L0 ks : List K3) (hg : w.heap[g]? = some (keyBlk L0)) (hL : L0.length = n) (hn : ks.length = n) (hsrc : ∀ j v, (kcells ks)[j]? = some v → w.cell? (a.add j) = some v) :
    (Builtin.copy_ #[46, 46] ty #[.slice (some ⟨g, 0, none⟩) n n, .slice (some a) n c]).run Tryz.prog w = .ok (goInt n) (w.setRow g (kcells ks).toArray) := by
  have hl := run_loadCells_list (P := Tryz.prog) w a (kcells ks) hsrc
  have hst := run_storeCells_at Tryz.prog g 0 76 (kcells ks) 0 (kcells L0).toArray w hg (by simp [kcells_len, hL, hn]) (kcells_one ks)
  have e0 : (List.take (0 + 0) (kcells L0).toArray.toList ++ kcells ks ++ List.drop (0 + 0 + (kcells ks).length) (kcells L0).toArray.toList) = kcells ks := by
    simp [kcells_len, hL, hn]
  rw [e0] at hst
  rw [kcells_len, hn] at hl
  cases hq : Tryz.prog.info? 76 with
  | none => have := sizeKey; simp [hq] at this
  | some i =>
    have hi : i.size = 3 := by have := sizeKey; simpa [hq] using this
    simp [Builtin.copy_, run_underlying Tryz.underlying46, Builtin.lenOf, Builtin.firstCells, sizeOf, typeInfo, hq, hi, hl, hst]
theorem wpList_copy_keys {w : World} {ops : Array Oper} {rest : List Oper} {o : Oper} {a : Act} {Q : Exit → Act → World → Prop} (hgd : o.guard = none) (d s : Operand)
    (ho : o.op = .call { callee := .builtin .copy, args := #[d, s], argTypes := #[46, 46] }) (g n : Nat) (v : Value) (hd : a.eval d = .slice (some ⟨g, 0, none⟩) n n) (hs : a.eval s = v) (L0 ks : List K3)
    (hg : w.heap[g]? = some (keyBlk L0)) (hL : L0.length = n) (hn : ks.length = n) {base : Nat} (hv : w.ownsRow base 76 3 v ks.length (kcells ks))
    (h : ∀ w', w'.heap[g]? = some (keyBlk ks) → Below g w w' → wpList Tryz.prog ops Q rest (a.put o.dst (goInt n)) w') : wpList Tryz.prog ops Q (o :: rest) a w := by
  refine wpList_plain hgd fun K hK => ?_
  rcases hv.2 with ⟨rfl, h0⟩ | ⟨g', cap, cur, rfl, _, hh, _, _, _, _⟩
  · have hk0 : ks = [] := List.length_eq_zero_iff.1 h0
    have hrun := run_copy_nil Tryz.prog w 46 46 o.type 76 ⟨g, 0, none⟩ n n Tryz.underlying46 (by rw [sizeKey]; rfl)
    unfold Oper.wp
    simp [execOp, ho, resolve, invoke, builtin, hd, hs, hrun, Result.andThen]
    have hn0 : n = 0 := by omega
    subst hn0
    have hL0 : L0 = [] := List.length_eq_zero_iff.1 hL
    exact hK _ _ (h w (by rw [hg, hL0, hk0]) (Below.refl _ _))
  · have hrun := run_copy_keys w o.type g n ⟨g', 0, none⟩ cap L0 ks hg hL hn (fun j u hu => by
      have hj : j < ks.length * 3 := by
        have := (List.getElem?_eq_some_iff.1 hu).1
        rw [kcells_len] at this
        exact this
      have hadd : (⟨g', 0, none⟩ : Addr).add j = ⟨g', j, none⟩ := by unfold Addr.add; split <;> simp_all
      rw [hadd, hv.cellAt j hj]
      exact hu)
    rw [hn] at hs
    unfold Oper.wp
    simp [execOp, ho, resolve, invoke, builtin, hd, hs, hrun, Result.andThen]
    refine hK _ _ (h _ (setRow_heap w g _ _ _ _ hg) ?_)
    exact ⟨rfl, rfl, rfl, by simp, fun k hk => setRow_other w g k _ (by omega)⟩
theorem infoKeys : (Tryz.prog.info? 46).map (fun i => (i.zero, i.size, i.bytes)) = some (some (.slice none 0 0), 1, 24) := by kernel_rfl
theorem slice_one {base : Nat} {W : World} {e : TypeId} {z : Nat} {v : Value} {n : Nat} {xs : List Value} (h : W.ownsRow base e z v n xs) : v.oneCell' = true := by
  obtain ⟨ao, cap, rfl⟩ := own_form h
  rfl
/-- The lists' row grows by v; all else stays. -/
theorem WC.pushL {wb : Nat} {s : St} {w W W1 W2 : World} (h : WC wb s w W) (hb : Below W.heap.size W W1) (_hz : W1.heap.size = W.heap.size + 1) (hg : W1.grownBy W2 s.lv.ownBlock) (v lv' : Value) (hown : W2.ownsRow (wb + 1) 46 1 lv' (s.ls.length + 1) (s.ls ++ [v])) (hat : lv'.ownBlock = s.lv.ownBlock ∨ lv'.ownBlock = some (W.heap.size + 1)) (hlen : s.ws.length ≤ s.ls.length) :
    WC wb { s with lv := lv', ls := s.ls ++ [v] } w (W2.setCell ⟨wb, 16, none⟩ lv') ∧ W2.heap[wb]? = some (.cells s.cells 41 (0, 0)) ∧ (∀ {x : Value} {n : Nat} {xs : List Value}, W.ownsRow (wb + 1) 76 3 x n xs → (W2.setCell ⟨wb, 16, none⟩ lv').ownsRow (wb + 1) 76 3 x n xs) := by
  have hr := h.rows
  have hgk : ∀ {e : TypeId} {z : Nat} {x : Value} {n : Nat} {xs : List Value}, e ≠ 46 → W.ownsRow (wb + 1) e z x n xs → W2.ownsRow (wb + 1) e z x n xs := fun he ho => keep_other ho hg hb (fun g hg1 => own_ne hr.l ho (fun e => he e.symm) g hg1)
  obtain ⟨hblk, hbel⟩ := h.grown hb hg (fun g e => (own_lt hr.l e).1)
  have hw2 : W2.ownsRow (wb + 1) 46 1 s.wv s.ws.length s.ws := keep_other hr.w hg hb hr.lw
  refine ⟨?_, hblk, fun ho => ownsRow_setCell_below (hgk (by decide) ho) (by simp) _⟩
  have hrows : Rows4 (wb + 1) { s with lv := lv', ls := s.ls ++ [v] } W2 := by
    refine ⟨hgk (by decide) hr.t, hgk (by decide) hr.u, hgk (by decide) hr.d, by simpa using hown, hw2, fun g e => ?_, fun i x y hx hy => ?_⟩
    · rcases hat with e' | e'
      · exact hr.lw g (e' ▸ e)
      · intro e2
        have hlt := own_lt hr.w e2
        rw [e'] at e
        simp at e
        omega
    · have hi : i < s.ws.length := (List.getElem?_eq_some_iff.1 hy).1
      rw [List.getElem?_append_left (by omega)] at hx
      obtain ⟨ks, hk, h1, h2⟩ := hr.p i x y hx hy
      exact ⟨ks, hk, hgk (by decide) h1, hgk (by decide) h2⟩
  exact WC.store hblk hbel h.low _ 16 lv' rfl hrows
/-- The copies' row grows by y, the copy of the list x that the lists' row has got. -/
theorem WC.pushW {wb : Nat} {s : St} {w W W1 W2 : World} (h : WC wb s w W) (hb : Below W.heap.size W W1) (hg : W1.grownBy W2 s.wv.ownBlock) (_hz : W1.heap.size = W.heap.size + 1) (y wv' : Value) (hown : W2.ownsRow (wb + 1) 46 1 wv' (s.ws.length + 1) (s.ws ++ [y])) (hat : wv'.ownBlock = s.wv.ownBlock ∨ wv'.ownBlock = some (W.heap.size + 1)) (_hlen : s.ls.length = s.ws.length + 1) (x : Value) (hx : s.ls[s.ws.length]? = some x) (ks : List K3) (hks : ks.length ≤ 20) (h1 : W.ownsRow (wb + 1) 76 3 x ks.length (kcells ks)) (h2 : W.ownsRow (wb + 1) 76 3 y ks.length (kcells ks)) :
    WC wb { s with wv := wv', ws := s.ws ++ [y] } w (W2.setCell ⟨wb, 17, none⟩ wv') ∧ W2.heap[wb]? = some (.cells s.cells 41 (0, 0)) ∧ (∀ {x : Value} {n : Nat} {xs : List Value}, W.ownsRow (wb + 1) 76 3 x n xs → (W2.setCell ⟨wb, 17, none⟩ wv').ownsRow (wb + 1) 76 3 x n xs) := by
  have hr := h.rows
  have hgk : ∀ {e : TypeId} {z : Nat} {x : Value} {n : Nat} {xs : List Value}, e ≠ 46 → W.ownsRow (wb + 1) e z x n xs → W2.ownsRow (wb + 1) e z x n xs := fun he ho => keep_other ho hg hb (fun g hg1 => own_ne hr.w ho (fun e => he e.symm) g hg1)
  obtain ⟨hblk, hbel⟩ := h.grown hb hg (fun g e => (own_lt hr.w e).1)
  have hl2 : W2.ownsRow (wb + 1) 46 1 s.lv s.ls.length s.ls := keep_other hr.l hg hb (fun g e e' => hr.lw g e' e)
  refine ⟨?_, hblk, fun ho => ownsRow_setCell_below (hgk (by decide) ho) (by simp) _⟩
  have hrows : Rows4 (wb + 1) { s with wv := wv', ws := s.ws ++ [y] } W2 := by
    refine ⟨hgk (by decide) hr.t, hgk (by decide) hr.u, hgk (by decide) hr.d, hl2, by simpa using hown, fun g e => ?_, fun i a b ha hb' => ?_⟩
    · rcases hat with e' | e'
      · intro e2
        exact hr.lw g e (e' ▸ e2)
      · intro e2
        have hlt := own_lt hr.l e
        simp only at e2
        rw [e'] at e2
        simp at e2
        omega
    · by_cases hi : i < s.ws.length
      · rw [List.getElem?_append_left hi] at hb'
        obtain ⟨ks, hk, o1, o2⟩ := hr.p i a b ha hb'
        exact ⟨ks, hk, hgk (by decide) o1, hgk (by decide) o2⟩
      · have hi2 : i < (s.ws ++ [y]).length := (List.getElem?_eq_some_iff.1 hb').1
        have hie : i = s.ws.length := by simp at hi2; omega
        subst hie
        have ha' : s.ls[s.ws.length]? = some a := ha
        rw [hx] at ha'
        simp at hb' ha'
        subst hb'
        subst ha'
        exact ⟨ks, hks, hgk (by decide) h1, hgk (by decide) h2⟩
  exact WC.store hblk hbel h.low _ 17 wv' rfl hrows
set_option maxRecDepth 100000 in
set_option maxHeartbeats 2000000 in
theorem hold_any (wb : Nat) (s : St) (w W : World) (h : WC wb s w W) (hlen : s.ws.length = s.ls.length) (hb : s.ls.length ≤ 40000) (v : Value) (ks : List K3) (hk : ks.length ≤ 20) (hv : W.ownsRow (wb + 1) 76 3 v ks.length (kcells ks)) :
    Calls Tryz.prog 31 #[.pointer (some ⟨wb, 0, none⟩), v] W fun e W' => e = .returned (.tuple #[]) ∧ (∃ (lv wv y : Value), WC wb { s with lv := lv, wv := wv, ls := s.ls ++ [v], ws := s.ws ++ [y] } w W') ∧ (∀ {x : Value} {n : Nat} {xs : List Value}, W.ownsRow (wb + 1) 76 3 x n xs → W'.ownsRow (wb + 1) 76 3 x n xs) := by
  obtain ⟨ao, cap, hvf⟩ := own_form hv
  subst hvf
  obtain ⟨ti, hti, hz0, hz1, hz2⟩ := info_parts infoKey'
  obtain ⟨tj, htj, hy0, hy1, hy2⟩ := info_parts infoKeys
  have HC := hide h
  have HV := hide hv
  have hwl := h.lt
  have HLEN := hide hlen
  have hb' : s.ws.length ≤ 40000 := by omega
  clear h hv hlen
  go_enter Tryz.func31, Tryz.ntmps31
  go_wp2_with (at_make; refine wpList_make_full _ rfl _ _ 46 rfl (wb + 1) 76 ti (.agg #[.int .i64 0, .int .i64 0, .int .i64 0]) 3 Tryz.underlying46 hti hz0 hz1 .i64 .i64 _ _ ks.length rfl rfl rfl rfl (by rw [hz2]; omega) (by unfold maxLen; omega) (by omega) ?_)
  intro w1 hown hgrow
  have hblk : w1.heap[W.heap.size]? = some (keyBlk (List.replicate ks.length K3.zero)) := made_blk hown
  have hB1 : Below W.heap.size W w1 := (Below.refl _ _).grown hgrow (Nat.le_refl _) (fun k e => by cases e)
  have HK := hide hblk
  have HB := hide hB1
  have HV1 := hide (own_below (unhide HV) hB1)
  clear hown hgrow hblk hB1
  go_wp2_with (refine wpList_copy_keys rfl (.tmp 10) (.tmp 11) rfl W.heap.size ks.length (.slice ao ks.length cap) rfl rfl (List.replicate ks.length K3.zero) ks (unhide HK) (by simp) rfl (unhide HV1) ?_)
  intro w2 hk2 hb2
  have hB2 := (unhide HB).trans hb2
  have HK2 := hide hk2
  have HC2 := hide ((unhide HC).mono hB2)
  have HB2 := hide hB2
  clear hk2 hb2 hB2 HK HB HV1
  have c16 : w2.cell? ⟨wb, 16, none⟩ = some s.lv := (unhide HC2).cell 16
  have hs2 := (unhide HC2).lt
  go_wp2_with (at_builtin; refine wpList_append_lies _ rfl _ _ 38 rfl (wb + 1) 46 tj (.slice none 0 0) 1 24 Tryz.underlying38 htj hy0 hy1 hy2 rfl (by decide) s.lv s.ls.length s.ls rfl ((unhide HC2).rows.l.alloc _) ⟨w2.heap.size, 0, none⟩ 1 1 [.slice ao ks.length cap] rfl rfl (World.news_of_block (heap_alloc_new w2 (.cells #[.slice ao ks.length cap] 46))) (by simp [Value.oneCell']) (by omega) (by unfold maxLen; omega) (by omega) (by simp; omega) (w2.heap.size + 1) (by simp) ?_)
  intro g cp w3 hown3 hgrow3 hat3 _
  have hP := (unhide HC2).pushL ((Below.refl _ _).alloc (Nat.le_refl _) _) (by simp) hgrow3 (.slice ao ks.length cap) _ hown3 (hat3.imp (fun e => by rw [e]; rfl) (fun e => by rw [e]; rfl)) (by have := unhide HLEN; omega)
  have d16 : w3.cell? ⟨wb, 16, none⟩ = some s.lv := cell_at hP.2.1 16
  have e16 : w3.frozen? ⟨wb, 16, none⟩ = false := free_at hP.2.1 16
  have HP1 := hide hP.1
  have HP2 := hide (own_below (unhide HV) (unhide HB2))
  have HP3 := hide (hP.2.2 (own_below (unhide HV) (unhide HB2)))
  have hcv : w2.ownsRow (wb + 1) 76 3 (.slice (some ⟨W.heap.size, 0, none⟩) ks.length ks.length) ks.length (kcells ks) := by
    refine ⟨kcells_len ks, .inr ⟨W.heap.size, ks.length, _, rfl, by omega, unhide HK2, Nat.le_refl _, by unfold maxLen; omega, by simp [kcells_len], by rw [List.take_of_length_le (by simp [kcells_len])]⟩⟩
  have HCV := hide (hP.2.2 hcv)
  have HALL : Hid (∀ {x : Value} {n : Nat} {xs : List Value}, W.ownsRow (wb + 1) 76 3 x n xs → (w3.setCell ⟨wb, 16, none⟩ (.slice (some ⟨g, 0, none⟩) (s.ls.length + 1) cp)).ownsRow (wb + 1) 76 3 x n xs) := fun ho => hP.2.2 (own_below ho (unhide HB2))
  clear hP hown3 hgrow3 hat3 hcv c16
  have c17 : (w3.setCell ⟨wb, 16, none⟩ (.slice (some ⟨g, 0, none⟩) (s.ls.length + 1) cp)).cell? ⟨wb, 17, none⟩ = some s.wv := (unhide HP1).cell 17
  have hs4 := (unhide HP1).lt
  rw [World.size_setCell] at hs4
  go_wp2_with (at_builtin; refine wpList_append_lies _ rfl _ _ 38 rfl (wb + 1) 46 tj (.slice none 0 0) 1 24 Tryz.underlying38 htj hy0 hy1 hy2 rfl (by decide) s.wv s.ws.length s.ws rfl ((unhide HP1).rows.w.alloc _) ⟨w3.heap.size, 0, none⟩ 1 1 [.slice (some ⟨W.heap.size, 0, none⟩) ks.length ks.length] rfl rfl (by have hh := heap_alloc_new (w3.setCell ⟨wb, 16, none⟩ (.slice (some ⟨g, 0, none⟩) (s.ls.length + 1) cp)) (.cells #[.slice (some ⟨W.heap.size, 0, none⟩) ks.length ks.length] 46); rw [World.size_setCell] at hh; exact World.news_of_block hh) (by simp [Value.oneCell']) (by omega) (by unfold maxLen; omega) (by omega) (by simp; omega) (w3.heap.size + 1) (by simp) ?_)
  intro g' cp' w5 hown5 hgrow5 hat5 _
  have hP := (unhide HP1).pushW ((Below.refl _ _).alloc (Nat.le_refl _) _) hgrow5 (by simp) (.slice (some ⟨W.heap.size, 0, none⟩) ks.length ks.length) (.slice (some ⟨g', 0, none⟩) (s.ws.length + 1) cp') hown5 (hat5.imp (fun e => by rw [e]; rfl) (fun e => by rw [e]; simp [Value.ownBlock])) (by have := unhide HLEN; simp; omega) (.slice ao ks.length cap) (by simp [unhide HLEN]) ks hk (unhide HP3) (unhide HCV)
  have d17 : w5.cell? ⟨wb, 17, none⟩ = some s.wv := cell_at hP.2.1 17
  have e17 : w5.frozen? ⟨wb, 17, none⟩ = false := free_at hP.2.1 17
  have HQ1 := hide hP.1
  have HALL2 : Hid (∀ {x : Value} {n : Nat} {xs : List Value}, W.ownsRow (wb + 1) 76 3 x n xs → (w5.setCell ⟨wb, 17, none⟩ (.slice (some ⟨g', 0, none⟩) (s.ws.length + 1) cp')).ownsRow (wb + 1) 76 3 x n xs) := fun ho => hP.2.2 (HALL.out ho)
  clear hP hown5 hgrow5 hat5 c17 d16 e16
  go_wp2
  go_end0
  exact ⟨rfl, ⟨_, _, _, unhide HQ1⟩, HALL2.out⟩
end Go.Proofs.YtnneljcbelgoeaaGreatDoor.wire
/- gossiplaw's keep: the caller marks a list that came out, appends to it, and holds both. -/
namespace Go.Proofs.YtnneljcbelgoeaaGreatDoor.wire
open Go.RowKit
theorem own_head {W : World} {base : Nat} {e : TypeId} {z g n m cap : Nat} {xs ys : List Value} (h : W.ownsRow base e z (.slice (some ⟨g, 0, none⟩) (n + m) cap) (n + m) (xs ++ ys)) (hx : xs.length = n * z) : W.ownsRow base e z (.slice (some ⟨g, 0, none⟩) n cap) n xs := by
  refine ⟨hx, ?_⟩
  rcases h.2 with ⟨e, _⟩ | ⟨g', cap', cur, e, hb, hh, hn, hc, hs, ht⟩
  · cases e
  · simp only [Value.slice.injEq, Option.some.injEq, Addr.mk.injEq, and_true, true_and] at e
    obtain ⟨rfl, rfl⟩ := e
    refine .inr ⟨g, cap, cur, rfl, hb, hh, by omega, hc, hs, ?_⟩
    have hm : (n * z) ≤ (n + m) * z := Nat.mul_le_mul_right _ (by omega)
    have := congrArg (List.take (n * z)) ht
    rw [List.take_take, Nat.min_eq_left hm, List.take_left' hx] at this
    exact this
theorem step_append_keeps {P : Program} {ops : Array Oper} {o : Oper} {a : Act} {w : World} {K : Act → World → Prop} {Q : Exit → Act → World → Prop} {E : Prop}
    (hg : o.guard = none) (s x : Operand) (t : TypeId) (hop : o.op = Op.call { callee := Callee.builtin Builtin.append, args := #[s, x], argTypes := #[t, t] })
    (e : TypeId) (i : TypeInfo) (z : Value) (size bytes : Nat) (h1 : P.underlying t = some (.slice e)) (h2 : P.info? e = some i) (h3 : i.zero = some z) (h4 : i.size = size) (h5 : i.bytes = bytes) (h6 : z.cells.size = size) (h7 : 0 < size)
    (base : Nat) (v : Value) (n : Nat) (olds : List Value) (hs : a.eval s = v) (hown : w.ownsRow base e size v n olds)
    (ad : Addr) (m c : Nat) (news : List Value) (hx : a.eval x = .slice (some ad) m c) (hn : news.length = m * size) (hc : ∀ j u, news[j]? = some u → w.cell? (ad.add j) = some u) (h1c : ∀ u ∈ news, u.oneCell' = true)
    (b1 : n + m ≤ maxLen) (b2 : (n + m) * bytes ≤ 140737488355328) (hbase : base ≤ w.heap.size)
    (hK : ∀ v' w', w'.ownsRow base e size v' (n + m) (olds ++ news) → w'.ownsRow base e size v n olds → w.grownBy w' v.ownBlock → K (a.put o.dst v') w') :
    if Region.wanted o (yielded ops a.tmps) = true then Oper.wp P o a w K Q else E := by
  have hw : Region.wanted o (yielded ops a.tmps) = true := by simp [Region.wanted, hg]
  rw [if_pos hw]
  have key : ∃ v' w', (Builtin.append_ #[t, t] o.type #[v, .slice (some ad) m c]).run P w = .ok v' w' ∧ w'.ownsRow base e size v' (n + m) (olds ++ news) ∧ w'.ownsRow base e size v n olds ∧ w.grownBy w' v.ownBlock := by
    have hlo := hown.1
    obtain ⟨ao, cap, hv⟩ := own_form hown
    cases ao with
    | none =>
      subst hv
      obtain ⟨v', w', hrun, r1, r2, _⟩ := run_append_own (P := P) w base t o.type e i z size bytes h1 h2 h3 h4 h5 h6 h7 _ n olds hown ad m c news hn hc h1c b1 b2 hbase
      refine ⟨v', w', hrun, r1, own_grown hown r2 (fun g e => ?_), r2⟩
      simp [Value.ownBlock] at e
    | some b =>
      rcases hown.2 with ⟨e0, _⟩ | ⟨g, cap', cur, e0, hb, hh, hnc, hcm, hcs, htake⟩
      · rw [hv] at e0; cases e0
      · subst e0
        simp only [Value.slice.injEq, Option.some.injEq] at hv
        obtain ⟨rfl, _, rfl⟩ := hv
        by_cases hroom : n + m ≤ cap'
        · obtain ⟨w', hrun, r1, r2⟩ := run_append_own_spare (P := P) w base t o.type e i size h1 h2 h4 g n cap' olds hown ad m c news hn hc h1c hroom
          exact ⟨_, w', hrun, r1, own_head r1 hlo, r2⟩
        · obtain ⟨v', w', hrun, r1, r2⟩ := run_append_arg_grows (P := P) w t o.type e i z size bytes h1 h2 h3 h4 h5 h6 h7 ⟨g, 0, none⟩ n cap' olds hlo (fun j u hu => by
            have hj : j < n * size := by have := (List.getElem?_eq_some_iff.1 hu).1; omega
            have hadd : (⟨g, 0, none⟩ : Addr).add j = ⟨g, j, none⟩ := by unfold Addr.add; split <;> simp_all
            rw [hadd, hown.cellAt j hj]
            exact hu) ad m c news hn hc (by omega) b1 b2
          refine ⟨v', w', hrun, ⟨r1.1, ?_⟩, own_grown hown r2 (fun _ e => by cases e), ⟨r2.os, r2.tape, r2.output, r2.size, fun k hk _ => r2.block k hk (by simp)⟩⟩
          rcases r1.2 with r | ⟨g2, c2, cur2, ev, hb2, rest⟩
          · exact .inl r
          · exact .inr ⟨g2, c2, cur2, ev, by omega, rest⟩
  obtain ⟨v', w', hrun, r1, r2, r3⟩ := key
  unfold Oper.wp
  simp [execOp, hop, resolve, invoke, builtin, hs, hx, hrun, Result.andThen]
  exact hK v' w' r1 r2 r3
/-- No held list lies in block g. -/
def FreshW (s : St) (g : Nat) : Prop := (∀ x ∈ s.ls, x.ownBlock ≠ some g) ∧ ∀ x ∈ s.ws, x.ownBlock ≠ some g
theorem WC.other {wb : Nat} {s : St} {w W W' : World} (h : WC wb s w W) (g : Nat) (hg : W.grownBy W' (some g)) (hgb : wb + 1 ≤ g) (hf : FreshW s g) (hty : ∀ {e : TypeId} {z : Nat} {v : Value} {n : Nat} {xs : List Value}, W.ownsRow (wb + 1) e z v n xs → e ≠ 76 → v.ownBlock ≠ some g) : WC wb s w W' := by
  have hr := h.rows
  have hk : ∀ {e : TypeId} {z : Nat} {v : Value} {n : Nat} {xs : List Value}, W.ownsRow (wb + 1) e z v n xs → e ≠ 76 → W'.ownsRow (wb + 1) e z v n xs := fun ho he => own_grown ho hg (fun g' e' => by cases e'; exact hty ho he)
  have hl := h.lt
  have hlo := h.low
  refine ⟨?_, ⟨hk hr.t (by decide), hk hr.u (by decide), hk hr.d (by decide), hk hr.l (by decide), hk hr.w (by decide), hr.lw, fun i x y hx hy => ?_⟩, ?_, h.low⟩
  · rw [hg.block wb hl (by simp; omega)]; exact h.blk
  · obtain ⟨ks, hk, h1, h2⟩ := hr.p i x y hx hy
    exact ⟨ks, hk, own_grown h1 hg (fun g' e' => by cases e'; exact hf.1 x (List.mem_of_getElem? hx)), own_grown h2 hg (fun g' e' => by cases e'; exact hf.2 y (List.mem_of_getElem? hy))⟩
  · exact h.below.grown hg h.below.size (fun k e => by cases e; omega)
theorem key_ne {W : World} {base : Nat} {g n cap : Nat} {ks : List Value} (h : W.ownsRow base 76 3 (.slice (some ⟨g, 0, none⟩) n cap) n ks) {b' : Nat} {e : TypeId} {z : Nat} {v : Value} {n' : Nat} {xs : List Value} (h' : W.ownsRow b' e z v n' xs) (he : e ≠ 76) : v.ownBlock ≠ some g := own_ne h h' (fun e' => he e'.symm) g rfl
theorem WC.put {wb : Nat} {s : St} {w W : World} (h : WC wb s w W) {g n cap : Nat} {ks : List Value} (ho : W.ownsRow (wb + 1) 76 3 (.slice (some ⟨g, 0, none⟩) n cap) n ks) (hf : FreshW s g) (j : Nat) (u : Value) : WC wb s w (W.setCell ⟨g, j, none⟩ u) ∧ (W.setCell ⟨g, j, none⟩ u).ownsRow (wb + 1) 76 3 (.slice (some ⟨g, 0, none⟩) n cap) n (ks.set j u) := by
  obtain ⟨h1, h2⟩ := ho.stored j u
  exact ⟨h.other g h2 (own_lt ho rfl).1 hf (fun ho' he => key_ne ho ho' he), h1⟩
theorem WC.putKey {wb : Nat} {s : St} {w W : World} (h : WC wb s w W) {g n cap : Nat} {ks : List K3} (ho : W.ownsRow (wb + 1) 76 3 (.slice (some ⟨g, 0, none⟩) n cap) n (kcells ks)) (hf : FreshW s g) (k : Nat) (K : K3) (hk : k < ks.length) :
    WC wb s w (((W.setCell ⟨g, k * 3, none⟩ (.int .i64 K.id)).setCell ⟨g, k * 3 + 1, none⟩ (.int .i64 K.inc)).setCell ⟨g, k * 3 + 2, none⟩ (.int .i64 K.st)) ∧ (((W.setCell ⟨g, k * 3, none⟩ (.int .i64 K.id)).setCell ⟨g, k * 3 + 1, none⟩ (.int .i64 K.inc)).setCell ⟨g, k * 3 + 2, none⟩ (.int .i64 K.st)).ownsRow (wb + 1) 76 3 (.slice (some ⟨g, 0, none⟩) n cap) n (kcells (ks.set k K)) := by
  obtain ⟨a1, b1⟩ := h.put ho hf (k * 3) (.int .i64 K.id)
  obtain ⟨a2, b2⟩ := a1.put b1 hf (k * 3 + 1) (.int .i64 K.inc)
  obtain ⟨a3, b3⟩ := a2.put b2 hf (k * 3 + 2) (.int .i64 K.st)
  rw [kcells_set ks k K hk] at b3
  exact ⟨a3, b3⟩
theorem WC.kept {wb : Nat} {s : St} {w W W1 W' : World} (h : WC wb s w W) (hb : Below W.heap.size W W1) {v : Value} {n : Nat} {xs : List Value} (ho : W.ownsRow (wb + 1) 76 3 v n xs) (hg : W1.grownBy W' v.ownBlock) (hf : ∀ g, v.ownBlock = some g → FreshW s g) : WC wb s w W' := by
  have h1 := h.mono hb
  have ho1 := own_below ho hb
  cases hv : v.ownBlock with
  | none =>
    rw [hv] at hg
    exact h1.mono ((Below.refl _ _).grown hg (Nat.le_refl _) (fun k e => by cases e))
  | some g =>
    rw [hv] at hg
    exact h1.other g hg (own_lt ho hv).1 (hf g hv) (fun ho' he => own_ne ho1 ho' (fun e => he e.symm) g hv)
theorem WC.setMark {wb : Nat} {s : St} {w W : World} (h : WC wb s w W) (x : Int) : WC wb { s with mark := x } w (W.setCell ⟨wb, 20, none⟩ (.int .i64 x)) :=
  WC.store h.blk h.below h.low { s with mark := x } 20 (.int .i64 x) rfl ⟨h.rows.t, h.rows.u, h.rows.d, h.rows.l, h.rows.w, h.rows.lw, h.rows.p⟩
set_option maxRecDepth 100000 in
set_option maxHeartbeats 2000000 in
theorem keep_any (wb : Nat) (s : St) (w W : World) (h : WC wb s w W) (hlen : s.ws.length = s.ls.length) (hb : s.ls.length ≤ 39000) (hm0 : 0 ≤ s.mark) (hm1 : s.mark ≤ 1000000) (v : Value) (ks : List K3) (hk : ks.length ≤ 8) (hv : W.ownsRow (wb + 1) 76 3 v ks.length (kcells ks)) (hf : ∀ g, v.ownBlock = some g → FreshW s g) :
    Calls Tryz.prog 15 #[.pointer (some ⟨wb, 0, none⟩), v] W fun e W' => e = .returned (.tuple #[]) ∧ ∃ (lv wv x y x' : Value), WC wb { s with mark := s.mark + ks.length + 2, lv := lv, wv := wv, ls := s.ls ++ [v] ++ [x], ws := s.ws ++ [y] ++ [x'] } w W' := by
  obtain ⟨ao, cap, hvf⟩ := own_form hv
  obtain ⟨ti, hti, hz0, hz1, hz2⟩ := info_parts infoKey'
  subst hvf
  have HC := hide h
  have HV := hide hv
  have HF := hide hf
  clear h hv hf
  go_enter Tryz.func15, Tryz.ntmps15
  go_wp2
  go_loopw [4] (fun i wr => ∃ (j : Nat) (L : List K3), j ≤ ks.length ∧ i = .int .i64 j ∧ L.length = ks.length ∧ WC wb { s with mark := s.mark + j } w wr ∧ wr.ownsRow (wb + 1) 76 3 (.slice ao ks.length cap) ks.length (kcells L)) (fun i _ => ks.length - (intOf i).toNat)
  case atStart => exact ⟨0, ks, Nat.zero_le _, rfl, rfl, by simpa using unhide HC, unhide HV⟩
  case round =>
    obtain ⟨j, L, hj, rfl, hL, hC, hV⟩ := hrel
    by_cases hlt : j < ks.length
    · have hjl : (j : Int) < (ks.length : Int) := by omega
      obtain ⟨g, cap', e1, hg1, hg2⟩ := hV.form (by omega)
      simp only [Value.slice.injEq] at e1
      obtain ⟨rfl, _, rfl⟩ := e1
      have c20 : wr.cell? ⟨wb, 20, none⟩ = some (.int .i64 (s.mark + j)) := hC.cell 20
      have f20 : wr.frozen? ⟨wb, 20, none⟩ = false := hC.free 20
      have hgw := (own_lt hV rfl).1
      have hne : g ≠ wb := by omega
      have hne2 : wb ≠ g := by omega
      obtain ⟨p0, p1, p2⟩ := kcells_get L j (by omega)
      have q0 : wr.cell? ⟨g, j * 3, none⟩ = some (.int .i64 L[j].id) := (hV.cellAt (j * 3) (by omega)).trans p0
      have q1 : wr.cell? ⟨g, j * 3 + 1, none⟩ = some (.int .i64 L[j].inc) := (hV.cellAt (j * 3 + 1) (by omega)).trans p1
      have q2 : wr.cell? ⟨g, j * 3 + 2, none⟩ = some (.int .i64 L[j].st) := (hV.cellAt (j * 3 + 2) (by omega)).trans p2
      have r0 := hV.frozenAt (j * 3)
      have r1 := hV.frozenAt (j * 3 + 1)
      have r2 := hV.frozenAt (j * 3 + 2)
      have h1 := hC.setMark (s.mark + j + 1)
      have h2 := (h1.putKey (ownsRow_setCell_below hV (a := ⟨wb, 20, none⟩) (by simp) _) (unhide HF g rfl) j ⟨-(s.mark + j + 1), 0, 0⟩ (by omega))
      have H2 := hide h2
      clear h1 h2 hC hV p0 p1 p2
      go_wp2
      go_roundw
      case rel => exact ⟨j + 1, _, by omega, by go_num, by simp [hL], by simpa [Int.add_assoc] using (unhide H2).1, (unhide H2).2⟩
      case measure => simp [intOf]; omega
    · have hje : j = ks.length := by omega
      subst hje
      have c20 : wr.cell? ⟨wb, 20, none⟩ = some (.int .i64 (s.mark + ks.length)) := hC.cell 20
      have f20 : wr.frozen? ⟨wb, 20, none⟩ = false := hC.free 20
      have HC1 := hide (hC.setMark (s.mark + ks.length + 2))
      have HV1 := hide (ownsRow_setCell_below hV (a := ⟨wb, 20, none⟩) (by simp) (.int .i64 (s.mark + ks.length + 2)))
      clear hC hV
      go_wp2_with fail
      generalize wr.setCell ⟨wb, 20, none⟩ (.int .i64 (s.mark + ks.length + 2)) = W1 at HC1 HV1 ⊢
      clear c20 f20
      have d20 : W1.cell? ⟨wb, 20, none⟩ = some (.int .i64 (s.mark + ks.length + 2)) := (unhide HC1).cell 20
      have hs1 := (unhide HC1).lt
      go_region_law
        ((refine step_append_keeps (by rfl) _ _ _ (by rfl) 76 ti (.agg #[.int .i64 0, .int .i64 0, .int .i64 0]) 3 24 Tryz.underlying46 hti hz0 hz1 hz2 rfl (by omega) (wb + 1) (.slice ao ks.length cap) ks.length (kcells L) (by rfl) (((unhide HV1).alloc _).drew) ⟨W1.heap.size, 0, none⟩ 2 2 (kcells [⟨IntKind.i64.wrap (1 - (s.mark + ks.length + 2)), 0, 0⟩, ⟨IntKind.i64.wrap (-(s.mark + ks.length + 2)), 0, 0⟩]) (by rfl) (by rfl) (World.news_of_block (cs := (kcells [⟨IntKind.i64.wrap (1 - (s.mark + ks.length + 2)), 0, 0⟩, ⟨IntKind.i64.wrap (-(s.mark + ks.length + 2)), 0, 0⟩]).toArray) (t := 76) (fr := (0, 0)) (heap_alloc_new W1 _)) (kcells_one _) (by unfold maxLen; omega) (by omega) (by simp [heap_drew]; omega) ?_; intro v' w' ho1 ho2 hgr))
      all_goals
        have hlo : ks.length ≤ 8 := hk
        have hsn : kcells L ++ kcells [⟨IntKind.i64.wrap (1 - (s.mark + ks.length + 2)), 0, 0⟩, ⟨IntKind.i64.wrap (-(s.mark + ks.length + 2)), 0, 0⟩] = kcells (L ++ [⟨IntKind.i64.wrap (1 - (s.mark + ks.length + 2)), 0, 0⟩, ⟨IntKind.i64.wrap (-(s.mark + ks.length + 2)), 0, 0⟩]) := (kcells_append _ _).symm
        rw [hsn] at ho1
        have hN : (L ++ [(⟨IntKind.i64.wrap (1 - (s.mark + ks.length + 2)), 0, 0⟩ : K3), ⟨IntKind.i64.wrap (-(s.mark + ks.length + 2)), 0, 0⟩]).length = ks.length + 2 := by simp [hL]
        generalize (L ++ [(⟨IntKind.i64.wrap (1 - (s.mark + ks.length + 2)), 0, 0⟩ : K3), ⟨IntKind.i64.wrap (-(s.mark + ks.length + 2)), 0, 0⟩]) = LL at ho1 hN
        clear hsn
        obtain ⟨bo, bc, hvf⟩ := own_form ho1
        subst hvf
        have hC2 := (unhide HC1).kept (below_draws ((Below.refl _ _).alloc (Nat.le_refl _) _) 1) (unhide HV1) hgr (fun g e => unhide HF g e)
        have H2 := hide hC2
        have HO1 := hide ho1
        have HO2 := hide ho2
        clear ho1 ho2 hgr hC2 HC1 HV1
        go_wp2_with fail
        have hh := hold_any wb _ w w' (unhide H2) hlen (by simp; omega) (.slice ao ks.length cap) L (by omega) (by rw [hL]; exact unhide HO2)
        refine hh.mono ?_
        clear hh
        rintro e w2 ⟨rfl, ⟨lv1, wv1, y1, hC3⟩, hall⟩
        have HO3 := hide (hall (unhide HO1))
        have H3 := hide hC3
        clear hC3 hall H2 HO1 HO2
        go_wp2_with fail
        have hh := hold_any wb _ w w2 (unhide H3) (by simp [hlen]) (by simp; omega) (.slice bo (ks.length + 2) bc) LL (by omega) (by rw [hN]; exact unhide HO3)
        refine hh.mono ?_
        clear hh
        rintro e w3 ⟨rfl, ⟨lv2, wv2, y2, hC4⟩, _⟩
        have H4 := hide hC4
        clear hC4 H3 HO3
        go_wp2
        go_end0
        exact ⟨rfl, _, _, _, _, _, unhide H4⟩
end Go.Proofs.YtnneljcbelgoeaaGreatDoor.wire
/- copy of a row into a new one. -/
namespace Go.Proofs.YtnneljcbelgoeaaGreatDoor.wire
open Go.RowKit Go.Maps
theorem made_row {W : World} {base g n z : Nat} {e : TypeId} {xs : List Value} (h : W.ownsRow base e z (.slice (some ⟨g, 0, none⟩) n n) n xs) : ∃ c, W.heap[g]? = some (.cells c e (0, 0)) ∧ c.size = n * z := by
  rcases h.2 with ⟨e, _⟩ | ⟨g', cap, cur, e, _, hh, _, _, hs, ht⟩
  · cases e
  · simp at e
    obtain ⟨rfl, rfl⟩ := e
    exact ⟨cur, hh, hs⟩
theorem run_copy_row {P : Program} {t e : TypeId} {size bytes : Nat} (he : Ety P t e size bytes) (w : World) (ty : TypeId) (g n : Nat) (a : Addr) (c : Nat) (c0 : Array Value) (xs : List Value) (hg : w.heap[g]? = some (.cells c0 e (0, 0))) (h0 : c0.size = n * size) (hx : xs.length = n * size) (h1 : ∀ v ∈ xs, v.oneCell' = true) (hsrc : ∀ j v, xs[j]? = some v → w.cell? (a.add j) = some v) :
    (Builtin.copy_ #[t, t] ty #[.slice (some ⟨g, 0, none⟩) n n, .slice (some a) n c]).run P w = .ok (goInt n) (w.setRow g xs.toArray) := by
  obtain ⟨i, z, ht, hi, hz, hsz, hby, hzs, hpos⟩ := he.ex
  have hl := run_loadCells_list (P := P) w a xs hsrc
  have hst := run_storeCells_at P g 0 e xs 0 c0 w hg (by omega) h1
  have e0 : (List.take (0 + 0) c0.toList ++ xs ++ List.drop (0 + 0 + xs.length) c0.toList) = xs := by
    simp [h0, hx]
  rw [e0] at hst
  rw [hx] at hl
  simp [Builtin.copy_, run_underlying ht, Builtin.lenOf, Builtin.firstCells, sizeOf, typeInfo, hi, hsz, hl, hst]
theorem wpList_copy_row {P : Program} {t e : TypeId} {size bytes : Nat} (he : Ety P t e size bytes) {w : World} {ops : Array Oper} {rest : List Oper} {o : Oper} {a : Act} {Q : Exit → Act → World → Prop} (hgd : o.guard = none) (d s : Operand)
    (ho : o.op = .call { callee := .builtin .copy, args := #[d, s], argTypes := #[t, t] }) (g n : Nat) (v : Value) (hd : a.eval d = .slice (some ⟨g, 0, none⟩) n n) (hs : a.eval s = v) (c0 : Array Value) (xs : List Value)
    (hg : w.heap[g]? = some (.cells c0 e (0, 0))) (h0 : c0.size = n * size) (h1 : ∀ v ∈ xs, v.oneCell' = true) {base : Nat} (hv : w.ownsRow base e size v n xs)
    (h : ∀ w', w'.heap[g]? = some (.cells xs.toArray e (0, 0)) → Below g w w' → wpList P ops Q rest (a.put o.dst (goInt n)) w') : wpList P ops Q (o :: rest) a w := by
  refine wpList_plain hgd fun K hK => ?_
  have hx := hv.1
  rcases hv.2 with ⟨rfl, hn0⟩ | ⟨g', cap, cur, rfl, _, hh, _, _, _, _⟩
  · obtain ⟨i, z, ht, hi, hz, hsz, hby, hzs, hpos⟩ := he.ex
    subst hn0
    have hx0 : xs = [] := List.eq_nil_of_length_eq_zero (by rw [hx]; simp)
    have hc0 : c0 = #[] := Array.eq_empty_of_size_eq_zero (by rw [h0]; simp)
    have hrun := run_copy_nil P w t t o.type e ⟨g, 0, none⟩ 0 0 ht (by rw [hi]; rfl)
    unfold Oper.wp
    simp [execOp, ho, resolve, invoke, builtin, hd, hs, hrun, Result.andThen]
    exact hK _ _ (h w (by rw [hg, hx0, hc0]) (Below.refl _ _))
  · have hrun := run_copy_row he w o.type g n ⟨g', 0, none⟩ cap c0 xs hg h0 hx h1 (fun j u hu => by
      have hj : j < n * size := by
        have := (List.getElem?_eq_some_iff.1 hu).1
        omega
      rw [add0, Nat.zero_add, hv.cellAt j hj]
      exact hu)
    unfold Oper.wp
    simp [execOp, ho, resolve, invoke, builtin, hd, hs, hrun, Result.andThen]
    refine hK _ _ (h _ (setRow_heap w g _ _ _ _ hg) ?_)
    exact ⟨rfl, rfl, rfl, by simp, fun k hk => setRow_other w g k _ (by omega)⟩
/-- append in a region that draws; the list that it grew from reads on. -/
theorem step_keeps {P : Program} {ops : Array Oper} {o : Oper} {a : Act} {w : World} {K : Act → World → Prop} {Q : Exit → Act → World → Prop} {E : Prop}
    (hg : o.guard = none) (s x : Operand) {t : TypeId} (hop : o.op = Op.call { callee := Callee.builtin Builtin.append, args := #[s, x], argTypes := #[t, t] })
    {e : TypeId} {size bytes : Nat} (he : Ety P t e size bytes)
    (v : Value) (n : Nat) (olds : List Value) (hs : a.eval s = v) (hown : w.ownsRow 0 e size v n olds)
    (b m c : Nat) (news : List Value) (hx : a.eval x = .slice (some ⟨b, 0, none⟩) m c) (hn : news.length = m * size) (hb : w.heap[b]? = some (.cells news.toArray e (0, 0))) (h1c : ∀ u ∈ news, u.oneCell' = true)
    (b1 : n + m ≤ 1000000)
    (hK : ∀ v' w', w'.ownsRow 0 e size v' (n + m) (olds ++ news) → w'.ownsRow 0 e size v n olds → w.grownBy w' v.ownBlock → (∀ k, v'.ownBlock = some k → v.ownBlock = some k ∨ w.heap.size ≤ k) → K (a.put o.dst v') w') :
    if Region.wanted o (yielded ops a.tmps) = true then Oper.wp P o a w K Q else E := by
  have hw : Region.wanted o (yielded ops a.tmps) = true := by simp [Region.wanted, hg]
  rw [if_pos hw]
  obtain ⟨i, z, ht, hi, hz, hsize, hby, hzs, hsz⟩ := he.ex
  have hsm := he.small
  have hlim : (n + m) * bytes ≤ 140737488355328 := by have := Nat.mul_le_mul b1 hsm; omega
  have hc : ∀ j u, news[j]? = some u → w.cell? ((⟨b, 0, none⟩ : Addr).add j) = some u := fun j u hu => by
    rw [add0, Nat.zero_add, cell_at hb]
    simpa using hu
  have key : ∃ v' w', (Builtin.append_ #[t, t] o.type #[v, .slice (some ⟨b, 0, none⟩) m c]).run P w = .ok v' w' ∧ w'.ownsRow 0 e size v' (n + m) (olds ++ news) ∧ w'.ownsRow 0 e size v n olds ∧ w.grownBy w' v.ownBlock ∧ (∀ k, v'.ownBlock = some k → v.ownBlock = some k ∨ w.heap.size ≤ k) := by
    have hlo := hown.1
    rcases hown.2 with ⟨e0, hn0⟩ | ⟨g, cap', cur, e0, hb0, hh, hnc, hcm, hcs, htake⟩
    · subst e0
      obtain ⟨v', w', hrun, r1, r2, _, r3⟩ := run_append_own_at (P := P) w 0 t o.type e i z size bytes ht hi hz hsize hby hzs hsz _ n olds hown ⟨b, 0, none⟩ m c news hn hc h1c (by unfold maxLen; omega) hlim (Nat.zero_le _)
      refine ⟨v', w', hrun, r1, own_grown hown r2 (fun g e => ?_), r2, fun k hk => ?_⟩
      · simp [Value.ownBlock] at e
      · rcases r3 with r3 | r3
        · exact .inl (r3 ▸ hk)
        · rw [r3] at hk; cases hk; exact .inr (Nat.le_refl _)
    · subst e0
      by_cases hroom : n + m ≤ cap'
      · obtain ⟨w', hrun, r1, r2⟩ := run_append_own_spare (P := P) w 0 t o.type e i size ht hi hsize g n cap' olds hown ⟨b, 0, none⟩ m c news hn hc h1c hroom
        exact ⟨_, w', hrun, r1, own_head r1 hlo, r2, fun k hk => .inl hk⟩
      · obtain ⟨v', w', hrun, r1, r2⟩ := run_append_arg_grows (P := P) w t o.type e i z size bytes ht hi hz hsize hby hzs hsz ⟨g, 0, none⟩ n cap' olds hlo (fun j u hu => by
          have hj : j < n * size := by have := (List.getElem?_eq_some_iff.1 hu).1; omega
          rw [add0, Nat.zero_add, hown.cellAt j hj]
          exact hu) ⟨b, 0, none⟩ m c news hn hc (by omega) (by unfold maxLen; omega) hlim
        refine ⟨v', w', hrun, own_mono r1 (Nat.zero_le _), own_grown hown r2 (fun _ e => by cases e), ⟨r2.os, r2.tape, r2.output, r2.size, fun k hk _ => r2.block k hk (by simp)⟩, fun k hk => .inr (own_lt r1 hk).1⟩
  obtain ⟨v', w', hrun, r1, r2, r3, r4⟩ := key
  unfold Oper.wp
  simp [execOp, hop, resolve, invoke, builtin, hs, hx, hrun, Result.andThen]
  exact hK v' w' r1 r2 r3 r4
/-- What is one's alone turns. -/
theorem VS.updA {wb : Nat} {s : Sg} {w W W' : World} (h : VS wb s w W) (L : List Th) (hf : Frm (Th.all s.a).feet W W') (hr : ∀ t ∈ L, t.rd W') (hs : ∀ t ∈ L, ∀ k ∈ t.feet, k ∈ (Th.all s.a).feet ∨ W.heap.size ≤ k) : VS wb { s with a := L } w W' := by
  refine Sep.upd h .ta hf hr (fun k hk => ?_) (fun j hj => ?_)
  · obtain ⟨t, ht, hk2⟩ := List.mem_flatMap.1 hk
    exact hs t ht k hk2
  · cases j <;> first | rfl | exact absurd rfl hj
/-- A store into a row that is one's alone. -/
theorem VS.putA {wb : Nat} {s : Sg} {w W : World} (h : VS wb s w W) {e : TypeId} {z g n cap : Nat} {xs : List Value} (ha : s.a = [rowT e z (.slice (some ⟨g, 0, none⟩) n cap) n xs]) (j : Nat) (u : Value) : VS wb { s with a := [rowT e z (.slice (some ⟨g, 0, none⟩) n cap) n (xs.set j u)] } w (W.setCell ⟨g, j, none⟩ u) := by
  have ho : W.ownsRow 0 e z (.slice (some ⟨g, 0, none⟩) n cap) n xs := by
    have := Sep.rd h .ta
    simp only [Sg.th, ha] at this
    exact this _ (List.mem_singleton.2 rfl)
  obtain ⟨h1, h2⟩ := ho.stored j u
  have ef : (Th.all s.a).feet = [g] := by rw [ha]; simp [Th.all, rowT, Value.ownBlock]
  refine h.updA _ (by rw [ef]; exact Frm.of_grown h2 (fun k e => by cases e; exact .inl (by simp))) (by intro t ht; simp at ht; subst ht; exact h1) (fun t ht k hk => ?_)
  simp at ht; subst ht
  rw [ef]
  exact .inl (by simpa [rowT, Value.ownBlock] using hk)
theorem VS.setMark {wb : Nat} {s : Sg} {w W : World} (h : VS wb s w W) (x : Int) : VS wb { s with mark := x } w (W.setCell ⟨wb, 20, none⟩ (.int .i64 x)) :=
  h.store 20 _ rfl (fun q hq => by cases q <;> first | rfl | exact absurd rfl hq)
theorem keys_set (l : List K3) (k : Nat) (K : K3) (h : k < l.length) : (((l.flatMap keyC).set (k * 3) (.int .i64 K.id)).set (k * 3 + 1) (.int .i64 K.inc)).set (k * 3 + 2) (.int .i64 K.st) = (l.set k K).flatMap keyC := by
  have := kcells_set l k K h
  rw [kcells_flat, kcells_flat] at this
  exact this
theorem pks_set : ∀ (l : List Pk) (k : Nat) (p : Pk), k < l.length → ((l.flatMap pkC).set (k * 2) (.int .i64 p.dest)).set (k * 2 + 1) (.string (bs p.bytes)) = (l.set k p).flatMap pkC
  | a :: r, 0, p, _ => by simp [pkC, List.flatMap_cons]
  | a :: r, k + 1, p, h => by
    have ih := pks_set r k p (by simpa using h)
    rw [List.set_cons_succ, List.flatMap_cons, List.flatMap_cons, ← ih]
    simp only [pkC, show (k + 1) * 2 = k * 2 + 1 + 1 by omega, List.cons_append, List.nil_append, List.set_cons_succ]
end Go.Proofs.YtnneljcbelgoeaaGreatDoor.wire
