import Derived.Test.YtnneljcbelgoeaaGreatNChange
import Derived.Shelf.Abstract
/- Package list: Keep. (Written by wip/gen/mklist.py.) -/
namespace Go.Proofs.YtnneljcbelgoeaaGreat.wire
open Go.RowKit Go.Maps

theorem own_below2 {w w' : World} {base : Nat} {e : TypeId} {size : Nat} {v : Value} {n : Nat} {xs : List Value} (h : w.ownsRow base e size v n xs) (hb : Below w.heap.size w w') : w'.ownsRow base e size v n xs :=
  own_frm (S := []) h (Frm.of_below hb (Nat.le_refl _)) (by simp)
def rowsM (w : World) (b off : Nat) (l : List Mem) : Prop := ∀ (i : Nat) (h : i < l.length), w.cell? ⟨b, off + i * 5, none⟩ = some (.int .i64 l[i].k.id) ∧ w.cell? ⟨b, off + i * 5 + 1, none⟩ = some (.int .i64 l[i].k.inc) ∧ w.cell? ⟨b, off + i * 5 + 2, none⟩ = some (.int .i64 l[i].k.st) ∧ w.cell? ⟨b, off + i * 5 + 3, none⟩ = some (.int .i64 l[i].due) ∧ w.cell? ⟨b, off + i * 5 + 4, none⟩ = some (.int .i64 l[i].sends)
theorem lenM (l : List Mem) : (l.flatMap memC).length = l.length * 5 := by
  induction l with
  | nil => rfl
  | cons a r ih => simp only [List.flatMap_cons, List.length_append, ih, List.length_cons, memC, List.length_nil]; omega
theorem getM : ∀ (l : List Mem) (i : Nat) (h : i < l.length) (j : Nat), j < 5 → (l.flatMap memC)[i * 5 + j]? = (memC l[i])[j]?
  | a :: r, 0, _, j, hj => by
    rw [List.flatMap_cons, List.getElem?_append_left (by simp [memC]; omega)]; simp
  | a :: r, i + 1, h, j, hj => by
    rw [List.flatMap_cons, List.getElem?_append_right (by simp [memC]; omega)]
    have := getM r i (by simpa using h) j hj
    simp only [List.getElem_cons_succ]
    rw [← this]
    congr 1
    simp [memC]; omega
theorem rowM {w : World} {base b cap n : Nat} {l : List Mem} (h : w.ownsRow base 80 5 (.slice (some ⟨b, 0, none⟩) n cap) l.length (l.flatMap memC)) : rowsM w b 0 l := by
  intro i hi
  rcases h.2 with ⟨e, _⟩ | ⟨g, cap', cur, e, hb, hg, h1, h2, h3, h4⟩
  · cases e
  · cases e
    have hc : ∀ j, j < 5 → w.cell? ⟨b, 0 + i * 5 + j, none⟩ = (memC l[i])[j]? := fun j hj => by
      rw [cell_at hg, ← getM l i hi j hj, ← h4, List.getElem?_take, if_pos (by have : (i + 1) * 5 ≤ l.length * 5 := Nat.mul_le_mul_right _ hi; omega), Array.getElem?_toList, Nat.zero_add]
    exact ⟨hc 0 (by omega), hc 1 (by omega), hc 2 (by omega), hc 3 (by omega), hc 4 (by omega)⟩
theorem Tryz.infoML : (Tryz.prog.info? 80).map (fun i => (i.zero, i.size, i.bytes)) = some (some (.agg #[.int .i64 0, .int .i64 0, .int .i64 0, .int .i64 0, .int .i64 0]), 5, 40) := by kernel_rfl
def rowsR (w : World) (b off : Nat) (l : List Rel) : Prop := ∀ (i : Nat) (h : i < l.length), w.cell? ⟨b, off + i * 5, none⟩ = some (.int .i64 l[i].tgt) ∧ w.cell? ⟨b, off + i * 5 + 1, none⟩ = some (.int .i64 l[i].num) ∧ w.cell? ⟨b, off + i * 5 + 2, none⟩ = some (.int .i64 l[i].asker) ∧ w.cell? ⟨b, off + i * 5 + 3, none⟩ = some (.int .i64 l[i].under) ∧ w.cell? ⟨b, off + i * 5 + 4, none⟩ = some (.int .i64 l[i].till)
theorem lenR (l : List Rel) : (l.flatMap relC).length = l.length * 5 := by
  induction l with
  | nil => rfl
  | cons a r ih => simp only [List.flatMap_cons, List.length_append, ih, List.length_cons, relC, List.length_nil]; omega
theorem getR : ∀ (l : List Rel) (i : Nat) (h : i < l.length) (j : Nat), j < 5 → (l.flatMap relC)[i * 5 + j]? = (relC l[i])[j]?
  | a :: r, 0, _, j, hj => by
    rw [List.flatMap_cons, List.getElem?_append_left (by simp [relC]; omega)]; simp
  | a :: r, i + 1, h, j, hj => by
    rw [List.flatMap_cons, List.getElem?_append_right (by simp [relC]; omega)]
    have := getR r i (by simpa using h) j hj
    simp only [List.getElem_cons_succ]
    rw [← this]
    congr 1
    simp [relC]; omega
theorem rowR {w : World} {base b cap n : Nat} {l : List Rel} (h : w.ownsRow base 107 5 (.slice (some ⟨b, 0, none⟩) n cap) l.length (l.flatMap relC)) : rowsR w b 0 l := by
  intro i hi
  rcases h.2 with ⟨e, _⟩ | ⟨g, cap', cur, e, hb, hg, h1, h2, h3, h4⟩
  · cases e
  · cases e
    have hc : ∀ j, j < 5 → w.cell? ⟨b, 0 + i * 5 + j, none⟩ = (relC l[i])[j]? := fun j hj => by
      rw [cell_at hg, ← getR l i hi j hj, ← h4, List.getElem?_take, if_pos (by have : (i + 1) * 5 ≤ l.length * 5 := Nat.mul_le_mul_right _ hi; omega), Array.getElem?_toList, Nat.zero_add]
    exact ⟨hc 0 (by omega), hc 1 (by omega), hc 2 (by omega), hc 3 (by omega), hc 4 (by omega)⟩
theorem Tryz.infoRL : (Tryz.prog.info? 107).map (fun i => (i.zero, i.size, i.bytes)) = some (some (.agg #[.int .i64 0, .int .i64 0, .int .i64 0, .int .i64 0, .int .i64 0]), 5, 40) := by kernel_rfl
def rowsI (w : World) (b off : Nat) (l : List Int) : Prop := ∀ (i : Nat) (h : i < l.length), w.cell? ⟨b, off + i, none⟩ = some (.int .i64 l[i])
theorem lenI (l : List Int) : (l.flatMap intC).length = l.length * 1 := by
  induction l with
  | nil => rfl
  | cons a r ih => simp only [List.flatMap_cons, List.length_append, ih, List.length_cons, intC, List.length_nil]; omega
theorem getI : ∀ (l : List Int) (i : Nat) (h : i < l.length) (j : Nat), j < 1 → (l.flatMap intC)[i * 1 + j]? = (intC l[i])[j]?
  | a :: r, 0, _, j, hj => by
    rw [List.flatMap_cons, List.getElem?_append_left (by simp [intC]; omega)]; simp
  | a :: r, i + 1, h, j, hj => by
    rw [List.flatMap_cons, List.getElem?_append_right (by simp [intC]; omega)]
    have := getI r i (by simpa using h) j hj
    simp only [List.getElem_cons_succ]
    rw [← this]
    congr 1
    simp [intC]
theorem rowI {w : World} {base b cap n : Nat} {l : List Int} (h : w.ownsRow base 3 1 (.slice (some ⟨b, 0, none⟩) n cap) l.length (l.flatMap intC)) : rowsI w b 0 l := by
  intro i hi
  rcases h.2 with ⟨e, _⟩ | ⟨g, cap', cur, e, hb, hg, h1, h2, h3, h4⟩
  · cases e
  · cases e
    have hc : ∀ j, j < 1 → w.cell? ⟨b, 0 + i * 1 + j, none⟩ = (intC l[i])[j]? := fun j hj => by
      rw [cell_at hg, ← getI l i hi j hj, ← h4, List.getElem?_take, if_pos (by have : (i + 1) * 1 ≤ l.length * 1 := Nat.mul_le_mul_right _ hi; omega), Array.getElem?_toList, Nat.zero_add]
    have := hc 0 (by omega); simpa [intC] using this
theorem Tryz.infoIL : (Tryz.prog.info? 3).map (fun i => (i.zero, i.size, i.bytes)) = some (some (.int .i64 0), 1, 8) := by kernel_rfl
set_option maxHeartbeats 2000000 in
theorem keepM_at (l : List Mem) (p : Mem → Bool) (g : Nat) (pre lb : Array Value) (b off cap : Nat) (w : World) (hb : b < w.heap.size) (hl : l.length ≤ 1000) (hrow : rowsM w b off l) (eg : ∀ args w, (callFunc g args).run Tryz.prog w = .ok (.enter g args) w)
    (hp : ∀ m W, Below w.heap.size w W → Calls Tryz.prog g (pre ++ #[.agg #[.int .i64 m.k.id, .int .i64 m.k.inc, .int .i64 m.k.st, .int .i64 m.due, .int .i64 m.sends]] ++ lb) W fun e w' => e = .returned (.bool (p m)) ∧ Below W.heap.size W w') :
    Calls Tryz.prog 27 #[.slice (some ⟨b, off, none⟩) l.length cap, .func (.func g) pre lb] w fun e w' => ∃ v', e = .returned v' ∧ w'.ownsRow w.heap.size 80 5 v' (l.filter p).length ((l.filter p).flatMap memC) ∧ Below w.heap.size w w' := by
  obtain ⟨ti, hti, hz0, hz1, hz2⟩ := info_parts Tryz.infoML
  have HP := hide hp
  clear hp
  go_enter Tryz.func27, Tryz.ntmps27
  go_wp2
  go_loopw [5, 10] (fun o i wr => ∃ k : Nat, k ≤ l.length ∧ i = .int .i64 k ∧ Hid (wr.ownsRow w.heap.size 80 5 o ((l.take k).filter p).length (((l.take k).filter p).flatMap memC)) ∧ Below w.heap.size w wr) (fun _ i _ => l.length - (Go.RowKit.intOf i).toNat)
  case atStart => exact ⟨0, Nat.zero_le _, rfl, ⟨rfl, .inl ⟨rfl, rfl⟩⟩, Below.refl _ _⟩
  case round =>
    rename_i o i
    obtain ⟨k, hk, rfl, HO, hbel⟩ := hrel
    by_cases hlt : k < l.length
    · have hrk := hrow k hlt
      have hsz := hbel.size
      have hfl : ((l.take k).filter p).length ≤ 1000 := Nat.le_trans (List.length_filter_le _ _) (by simp; omega)
      have hft : (l.take (k + 1)).filter p = (l.take k).filter p ++ (if p l[k] then [l[k]] else []) := by
        rw [List.take_succ_eq_append_getElem hlt, List.filter_append]; cases h : p l[k] <;> simp [h]
      have HFT := hide hft
      clear hft
      generalize l[k] = K at hrk HFT
      obtain ⟨c0, c1, c2, c3, c4⟩ := hrk
      have d0 := (hbel.cell (p := ⟨b, off + k * 5, none⟩) hb).trans c0
      have d1 := (hbel.cell (p := ⟨b, off + k * 5 + 1, none⟩) hb).trans c1
      have d2 := (hbel.cell (p := ⟨b, off + k * 5 + 2, none⟩) hb).trans c2
      have d3 := (hbel.cell (p := ⟨b, off + k * 5 + 3, none⟩) hb).trans c3
      have d4 := (hbel.cell (p := ⟨b, off + k * 5 + 4, none⟩) hb).trans c4
      clear c0 c1 c2 c3 c4
      cases hq : p K
      all_goals
        have HQ := hide hq
        clear hq
        have hB0 := hide (heap_alloc_new wr (.cells #[.int .i64 K.k.id, .int .i64 K.k.inc, .int .i64 K.k.st, .int .i64 K.due, .int .i64 K.sends] 80))
        go_wp2_with fail
        refine ((unhide HP) K _ (hbel.alloc hsz _)).mono ?_
        rw [unhide HQ]
        rintro e w1 ⟨rfl, hb1⟩
        have hbx := (hb1.block wr.heap.size (by simp)).trans (unhide hB0)
        clear hB0
        have e0 := cell_at hbx 0
        have e1 := cell_at hbx 1
        have e2 := cell_at hbx 2
        have e3 := cell_at hbx 3
        have e4 := cell_at hbx 4
        simp only [List.getElem?_toArray, List.getElem?_cons_zero, List.getElem?_cons_succ] at e0 e1 e2 e3 e4
        clear hbx
        have hbel1 : Below w.heap.size w w1 := (hbel.alloc (by have := hbel.size; omega) _).trans (hb1.mono (by simp; omega))
        have HO1 := hide (own_below2 (HO.out.alloc _) hb1)
        have HB := hide hbel1
        have hs1 := hbel1.size
        clear hb1 hbel1 d0 d1 d2 d3 d4 HO
      · go_wp2
        go_roundw
        case rel =>
          refine ⟨k + 1, by omega, by go_num, ?_, unhide HB⟩
          rw [unhide HFT, unhide HQ]
          exact hide (by simpa using unhide HO1)
        case measure => simp [Go.RowKit.intOf]; omega
      · go_wp2_with (at_builtin; refine wpList_append_own _ rfl _ _ 77 rfl w.heap.size 80 ti (.agg #[.int .i64 0, .int .i64 0, .int .i64 0, .int .i64 0, .int .i64 0]) 5 40 Tryz.underlying77 hti hz0 hz1 hz2 rfl (by decide) _ _ _ rfl ((unhide HO1).alloc _) ⟨w1.heap.size, 0, none⟩ 1 1 [.int .i64 K.k.id, .int .i64 K.k.inc, .int .i64 K.k.st, .int .i64 K.due, .int .i64 K.sends] rfl rfl ?c1 ?c2 ?c3 ?c4 ?c5 ?_)
        case c1 => exact World.news_of_block (heap_alloc_new w1 _)
        case c2 => intro u hu; simp at hu; rcases hu with rfl | rfl | rfl | rfl | rfl <;> rfl
        case c3 => unfold maxLen; omega
        case c4 => omega
        case c5 => simp; omega
        intro v' w2 hown' hgrow _
        have hbel2 : Below w.heap.size w w2 := ((unhide HB).alloc hs1 _).grown hgrow (by simp; omega) (fun j hj => (own_lt (unhide HO1) hj).1)
        have HO2 := hide hown'
        have HB2 := hide hbel2
        clear hown' hgrow hbel2
        go_wp2
        go_roundw
        case rel =>
          refine ⟨k + 1, by omega, by go_num, ?_, unhide HB2⟩
          rw [unhide HFT, unhide HQ]
          exact hide (by simpa [memC] using unhide HO2)
        case measure => simp [Go.RowKit.intOf]; omega
    · have e : k = l.length := by omega
      rw [e, List.take_length] at HO
      go_wp2
      go_ret
      exact ⟨_, rfl, HO.out, hbel⟩
theorem keepM_nil (p : Mem → Bool) (fv : Value) (w : World) : Calls Tryz.prog 27 #[.slice none 0 0, fv] w fun e w' => ∃ v', e = .returned v' ∧ w'.ownsRow w.heap.size 80 5 v' (([] : List Mem).filter p).length ((([] : List Mem).filter p).flatMap memC) ∧ Below w.heap.size w w' := by
  go_enter Tryz.func27, Tryz.ntmps27
  go_wp2
  refine wp_loop_rounds 1 ?_
  rw [rounds_succ]
  go_wp2
  go_ret
  exact ⟨_, rfl, ⟨rfl, .inl ⟨rfl, rfl⟩⟩, Below.refl _ _⟩
theorem keepM_any (l : List Mem) (p : Mem → Bool) (g : Nat) (pre lb : Array Value) {v : Value} {w : World} {base : Nat} (hv : w.ownsRow base 80 5 v l.length (l.flatMap memC)) (hl : l.length ≤ 1000) (eg : ∀ args w, (callFunc g args).run Tryz.prog w = .ok (.enter g args) w)
    (hp : ∀ m W, Below w.heap.size w W → Calls Tryz.prog g (pre ++ #[.agg #[.int .i64 m.k.id, .int .i64 m.k.inc, .int .i64 m.k.st, .int .i64 m.due, .int .i64 m.sends]] ++ lb) W fun e w' => e = .returned (.bool (p m)) ∧ Below W.heap.size W w') :
    Calls Tryz.prog 27 #[v, .func (.func g) pre lb] w fun e w' => ∃ v', e = .returned v' ∧ w'.ownsRow w.heap.size 80 5 v' (l.filter p).length ((l.filter p).flatMap memC) ∧ Below w.heap.size w w' := by
  have hv0 := hv
  rcases hv.2 with ⟨rfl, h0⟩ | ⟨b, cap, cur, rfl, hb, hg, _⟩
  · obtain rfl : l = [] := List.length_eq_zero_iff.1 h0
    exact keepM_nil p _ w
  · exact keepM_at l p g pre lb b 0 cap w (lt_blk hg) hl (rowM hv0) eg hp
set_option maxHeartbeats 2000000 in
theorem keepR_at (l : List Rel) (p : Rel → Bool) (g : Nat) (pre lb : Array Value) (b off cap : Nat) (w : World) (hb : b < w.heap.size) (hl : l.length ≤ 1000) (hrow : rowsR w b off l) (eg : ∀ args w, (callFunc g args).run Tryz.prog w = .ok (.enter g args) w)
    (hp : ∀ m W, Below w.heap.size w W → Calls Tryz.prog g (pre ++ #[.agg #[.int .i64 m.tgt, .int .i64 m.num, .int .i64 m.asker, .int .i64 m.under, .int .i64 m.till]] ++ lb) W fun e w' => e = .returned (.bool (p m)) ∧ Below W.heap.size W w') :
    Calls Tryz.prog 81 #[.slice (some ⟨b, off, none⟩) l.length cap, .func (.func g) pre lb] w fun e w' => ∃ v', e = .returned v' ∧ w'.ownsRow w.heap.size 107 5 v' (l.filter p).length ((l.filter p).flatMap relC) ∧ Below w.heap.size w w' := by
  obtain ⟨ti, hti, hz0, hz1, hz2⟩ := info_parts Tryz.infoRL
  have HP := hide hp
  clear hp
  go_enter Tryz.func81, Tryz.ntmps81
  go_wp2
  go_loopw [5, 10] (fun o i wr => ∃ k : Nat, k ≤ l.length ∧ i = .int .i64 k ∧ Hid (wr.ownsRow w.heap.size 107 5 o ((l.take k).filter p).length (((l.take k).filter p).flatMap relC)) ∧ Below w.heap.size w wr) (fun _ i _ => l.length - (Go.RowKit.intOf i).toNat)
  case atStart => exact ⟨0, Nat.zero_le _, rfl, ⟨rfl, .inl ⟨rfl, rfl⟩⟩, Below.refl _ _⟩
  case round =>
    rename_i o i
    obtain ⟨k, hk, rfl, HO, hbel⟩ := hrel
    by_cases hlt : k < l.length
    · have hrk := hrow k hlt
      have hsz := hbel.size
      have hfl : ((l.take k).filter p).length ≤ 1000 := Nat.le_trans (List.length_filter_le _ _) (by simp; omega)
      have hft : (l.take (k + 1)).filter p = (l.take k).filter p ++ (if p l[k] then [l[k]] else []) := by
        rw [List.take_succ_eq_append_getElem hlt, List.filter_append]; cases h : p l[k] <;> simp [h]
      have HFT := hide hft
      clear hft
      generalize l[k] = K at hrk HFT
      obtain ⟨c0, c1, c2, c3, c4⟩ := hrk
      have d0 := (hbel.cell (p := ⟨b, off + k * 5, none⟩) hb).trans c0
      have d1 := (hbel.cell (p := ⟨b, off + k * 5 + 1, none⟩) hb).trans c1
      have d2 := (hbel.cell (p := ⟨b, off + k * 5 + 2, none⟩) hb).trans c2
      have d3 := (hbel.cell (p := ⟨b, off + k * 5 + 3, none⟩) hb).trans c3
      have d4 := (hbel.cell (p := ⟨b, off + k * 5 + 4, none⟩) hb).trans c4
      clear c0 c1 c2 c3 c4
      cases hq : p K
      all_goals
        have HQ := hide hq
        clear hq
        have hB0 := hide (heap_alloc_new wr (.cells #[.int .i64 K.tgt, .int .i64 K.num, .int .i64 K.asker, .int .i64 K.under, .int .i64 K.till] 107))
        go_wp2_with fail
        refine ((unhide HP) K _ (hbel.alloc hsz _)).mono ?_
        rw [unhide HQ]
        rintro e w1 ⟨rfl, hb1⟩
        have hbx := (hb1.block wr.heap.size (by simp)).trans (unhide hB0)
        clear hB0
        have e0 := cell_at hbx 0
        have e1 := cell_at hbx 1
        have e2 := cell_at hbx 2
        have e3 := cell_at hbx 3
        have e4 := cell_at hbx 4
        simp only [List.getElem?_toArray, List.getElem?_cons_zero, List.getElem?_cons_succ] at e0 e1 e2 e3 e4
        clear hbx
        have hbel1 : Below w.heap.size w w1 := (hbel.alloc (by have := hbel.size; omega) _).trans (hb1.mono (by simp; omega))
        have HO1 := hide (own_below2 (HO.out.alloc _) hb1)
        have HB := hide hbel1
        have hs1 := hbel1.size
        clear hb1 hbel1 d0 d1 d2 d3 d4 HO
      · go_wp2
        go_roundw
        case rel =>
          refine ⟨k + 1, by omega, by go_num, ?_, unhide HB⟩
          rw [unhide HFT, unhide HQ]
          exact hide (by simpa using unhide HO1)
        case measure => simp [Go.RowKit.intOf]; omega
      · go_wp2_with (at_builtin; refine wpList_append_own _ rfl _ _ 67 rfl w.heap.size 107 ti (.agg #[.int .i64 0, .int .i64 0, .int .i64 0, .int .i64 0, .int .i64 0]) 5 40 Tryz.underlying67 hti hz0 hz1 hz2 rfl (by decide) _ _ _ rfl ((unhide HO1).alloc _) ⟨w1.heap.size, 0, none⟩ 1 1 [.int .i64 K.tgt, .int .i64 K.num, .int .i64 K.asker, .int .i64 K.under, .int .i64 K.till] rfl rfl ?c1 ?c2 ?c3 ?c4 ?c5 ?_)
        case c1 => exact World.news_of_block (heap_alloc_new w1 _)
        case c2 => intro u hu; simp at hu; rcases hu with rfl | rfl | rfl | rfl | rfl <;> rfl
        case c3 => unfold maxLen; omega
        case c4 => omega
        case c5 => simp; omega
        intro v' w2 hown' hgrow _
        have hbel2 : Below w.heap.size w w2 := ((unhide HB).alloc hs1 _).grown hgrow (by simp; omega) (fun j hj => (own_lt (unhide HO1) hj).1)
        have HO2 := hide hown'
        have HB2 := hide hbel2
        clear hown' hgrow hbel2
        go_wp2
        go_roundw
        case rel =>
          refine ⟨k + 1, by omega, by go_num, ?_, unhide HB2⟩
          rw [unhide HFT, unhide HQ]
          exact hide (by simpa [relC] using unhide HO2)
        case measure => simp [Go.RowKit.intOf]; omega
    · have e : k = l.length := by omega
      rw [e, List.take_length] at HO
      go_wp2
      go_ret
      exact ⟨_, rfl, HO.out, hbel⟩
theorem keepR_nil (p : Rel → Bool) (fv : Value) (w : World) : Calls Tryz.prog 81 #[.slice none 0 0, fv] w fun e w' => ∃ v', e = .returned v' ∧ w'.ownsRow w.heap.size 107 5 v' (([] : List Rel).filter p).length ((([] : List Rel).filter p).flatMap relC) ∧ Below w.heap.size w w' := by
  go_enter Tryz.func81, Tryz.ntmps81
  go_wp2
  refine wp_loop_rounds 1 ?_
  rw [rounds_succ]
  go_wp2
  go_ret
  exact ⟨_, rfl, ⟨rfl, .inl ⟨rfl, rfl⟩⟩, Below.refl _ _⟩
theorem keepR_any (l : List Rel) (p : Rel → Bool) (g : Nat) (pre lb : Array Value) {v : Value} {w : World} {base : Nat} (hv : w.ownsRow base 107 5 v l.length (l.flatMap relC)) (hl : l.length ≤ 1000) (eg : ∀ args w, (callFunc g args).run Tryz.prog w = .ok (.enter g args) w)
    (hp : ∀ m W, Below w.heap.size w W → Calls Tryz.prog g (pre ++ #[.agg #[.int .i64 m.tgt, .int .i64 m.num, .int .i64 m.asker, .int .i64 m.under, .int .i64 m.till]] ++ lb) W fun e w' => e = .returned (.bool (p m)) ∧ Below W.heap.size W w') :
    Calls Tryz.prog 81 #[v, .func (.func g) pre lb] w fun e w' => ∃ v', e = .returned v' ∧ w'.ownsRow w.heap.size 107 5 v' (l.filter p).length ((l.filter p).flatMap relC) ∧ Below w.heap.size w w' := by
  have hv0 := hv
  rcases hv.2 with ⟨rfl, h0⟩ | ⟨b, cap, cur, rfl, hb, hg, _⟩
  · obtain rfl : l = [] := List.length_eq_zero_iff.1 h0
    exact keepR_nil p _ w
  · exact keepR_at l p g pre lb b 0 cap w (lt_blk hg) hl (rowR hv0) eg hp
set_option maxHeartbeats 2000000 in
theorem keepI_at (l : List Int) (p : Int → Bool) (g : Nat) (pre lb : Array Value) (b off cap : Nat) (w : World) (hb : b < w.heap.size) (hl : l.length ≤ 1000) (hrow : rowsI w b off l) (eg : ∀ args w, (callFunc g args).run Tryz.prog w = .ok (.enter g args) w)
    (hp : ∀ m W, Below w.heap.size w W → Calls Tryz.prog g (pre ++ #[.int .i64 m] ++ lb) W fun e w' => e = .returned (.bool (p m)) ∧ Below W.heap.size W w') :
    Calls Tryz.prog 103 #[.slice (some ⟨b, off, none⟩) l.length cap, .func (.func g) pre lb] w fun e w' => ∃ v', e = .returned v' ∧ w'.ownsRow w.heap.size 3 1 v' (l.filter p).length ((l.filter p).flatMap intC) ∧ Below w.heap.size w w' := by
  obtain ⟨ti, hti, hz0, hz1, hz2⟩ := info_parts Tryz.infoIL
  have HP := hide hp
  clear hp
  go_enter Tryz.func103, Tryz.ntmps103
  go_wp2
  go_loopw [5, 10] (fun o i wr => ∃ k : Nat, k ≤ l.length ∧ i = .int .i64 k ∧ Hid (wr.ownsRow w.heap.size 3 1 o ((l.take k).filter p).length (((l.take k).filter p).flatMap intC)) ∧ Below w.heap.size w wr) (fun _ i _ => l.length - (Go.RowKit.intOf i).toNat)
  case atStart => exact ⟨0, Nat.zero_le _, rfl, ⟨rfl, .inl ⟨rfl, rfl⟩⟩, Below.refl _ _⟩
  case round =>
    rename_i o i
    obtain ⟨k, hk, rfl, HO, hbel⟩ := hrel
    by_cases hlt : k < l.length
    · have hrk := hrow k hlt
      have hsz := hbel.size
      have hfl : ((l.take k).filter p).length ≤ 1000 := Nat.le_trans (List.length_filter_le _ _) (by simp; omega)
      have hft : (l.take (k + 1)).filter p = (l.take k).filter p ++ (if p l[k] then [l[k]] else []) := by
        rw [List.take_succ_eq_append_getElem hlt, List.filter_append]; cases h : p l[k] <;> simp [h]
      have HFT := hide hft
      clear hft
      generalize l[k] = K at hrk HFT
      have c0 := hrk
      clear hrk
      have d0 := (hbel.cell (p := ⟨b, off + k, none⟩) hb).trans c0
      clear c0
      cases hq : p K
      all_goals
        have HQ := hide hq
        clear hq
        go_wp2_with fail
        refine ((unhide HP) K _ (hbel)).mono ?_
        rw [unhide HQ]
        rintro e w1 ⟨rfl, hb1⟩
        have hbel1 : Below w.heap.size w w1 := hbel.trans (hb1.mono hbel.size)
        have HO1 := hide (own_below2 HO.out hb1)
        have HB := hide hbel1
        have hs1 := hbel1.size
        clear hb1 hbel1 d0 HO
      · go_wp2
        go_roundw
        case rel =>
          refine ⟨k + 1, by omega, by go_num, ?_, unhide HB⟩
          rw [unhide HFT, unhide HQ]
          exact hide (by simpa using unhide HO1)
        case measure => simp [Go.RowKit.intOf]; omega
      · go_wp2_with (at_builtin; refine wpList_append_own _ rfl _ _ 22 rfl w.heap.size 3 ti (.int .i64 0) 1 8 Tryz.underlying22 hti hz0 hz1 hz2 rfl (by decide) _ _ _ rfl ((unhide HO1).alloc _) ⟨w1.heap.size, 0, none⟩ 1 1 [.int .i64 K] rfl rfl ?c1 ?c2 ?c3 ?c4 ?c5 ?_)
        case c1 => exact World.news_of_block (heap_alloc_new w1 _)
        case c2 => intro u hu; simp at hu; subst hu; rfl
        case c3 => unfold maxLen; omega
        case c4 => omega
        case c5 => simp; omega
        intro v' w2 hown' hgrow _
        have hbel2 : Below w.heap.size w w2 := ((unhide HB).alloc hs1 _).grown hgrow (by simp; omega) (fun j hj => (own_lt (unhide HO1) hj).1)
        have HO2 := hide hown'
        have HB2 := hide hbel2
        clear hown' hgrow hbel2
        go_wp2
        go_roundw
        case rel =>
          refine ⟨k + 1, by omega, by go_num, ?_, unhide HB2⟩
          rw [unhide HFT, unhide HQ]
          exact hide (by simpa [intC] using unhide HO2)
        case measure => simp [Go.RowKit.intOf]; omega
    · have e : k = l.length := by omega
      rw [e, List.take_length] at HO
      go_wp2
      go_ret
      exact ⟨_, rfl, HO.out, hbel⟩
theorem keepI_nil (p : Int → Bool) (fv : Value) (w : World) : Calls Tryz.prog 103 #[.slice none 0 0, fv] w fun e w' => ∃ v', e = .returned v' ∧ w'.ownsRow w.heap.size 3 1 v' (([] : List Int).filter p).length ((([] : List Int).filter p).flatMap intC) ∧ Below w.heap.size w w' := by
  go_enter Tryz.func103, Tryz.ntmps103
  go_wp2
  refine wp_loop_rounds 1 ?_
  rw [rounds_succ]
  go_wp2
  go_ret
  exact ⟨_, rfl, ⟨rfl, .inl ⟨rfl, rfl⟩⟩, Below.refl _ _⟩
theorem keepI_any (l : List Int) (p : Int → Bool) (g : Nat) (pre lb : Array Value) {v : Value} {w : World} (hv : PassAt w v l) (hl : l.length ≤ 1000) (eg : ∀ args w, (callFunc g args).run Tryz.prog w = .ok (.enter g args) w)
    (hp : ∀ m W, Below w.heap.size w W → Calls Tryz.prog g (pre ++ #[.int .i64 m] ++ lb) W fun e w' => e = .returned (.bool (p m)) ∧ Below W.heap.size W w') :
    Calls Tryz.prog 103 #[v, .func (.func g) pre lb] w fun e w' => ∃ v', e = .returned v' ∧ w'.ownsRow w.heap.size 3 1 v' (l.filter p).length ((l.filter p).flatMap intC) ∧ Below w.heap.size w w' := by
  rcases hv with ⟨rfl, rfl⟩ | ⟨b, off, cap, cs, rfl, hg, _, _, hr⟩
  · exact keepI_nil p _ w
  · exact keepI_at l p g pre lb b off cap w (lt_blk hg) hl (fun i hi => (cell_at hg (off + i)).trans (hr i hi)) eg hp
end Go.Proofs.YtnneljcbelgoeaaGreat.wire
/- Package list: Turn, Drop. (Written by wip/gen/mklist.py.) -/
namespace Go.Proofs.YtnneljcbelgoeaaGreat.wire
open Go.RowKit Go.Maps

theorem Tryz.infoKL : (Tryz.prog.info? 31).map (fun i => (i.zero, i.size, i.bytes)) = some (some (.agg #[.int .i64 0, .int .i64 0, .int .i64 0]), 3, 24) := by kernel_rfl
set_option maxHeartbeats 2000000 in
theorem turnMK_at (l : List Mem) (f : Mem → K3) (g : Nat) (pre lb : Array Value) (b off cap : Nat) (w : World) (hb : b < w.heap.size) (hl : l.length ≤ 1000) (hrow : rowsM w b off l) (eg : ∀ args w, (callFunc g args).run Tryz.prog w = .ok (.enter g args) w)
    (hp : ∀ m ∈ l, ∀ W, Below w.heap.size w W → Calls Tryz.prog g (pre ++ #[.agg #[.int .i64 m.k.id, .int .i64 m.k.inc, .int .i64 m.k.st, .int .i64 m.due, .int .i64 m.sends]] ++ lb) W fun e w' => e = .returned (.agg #[.int .i64 ((f m)).id, .int .i64 ((f m)).inc, .int .i64 ((f m)).st]) ∧ Below W.heap.size W w') :
    Calls Tryz.prog 51 #[.slice (some ⟨b, off, none⟩) l.length cap, .func (.func g) pre lb] w fun e w' => ∃ v', e = .returned v' ∧ w'.ownsRow w.heap.size 31 3 v' (l.map f).length ((l.map f).flatMap keyC) ∧ Below w.heap.size w w' := by
  obtain ⟨ti, hti, hz0, hz1, hz2⟩ := info_parts Tryz.infoKL
  have HP := hide hp
  clear hp
  go_enter Tryz.func51, Tryz.ntmps51
  go_wp2
  go_loopw [5, 10] (fun o i wr => ∃ k : Nat, k ≤ l.length ∧ i = .int .i64 k ∧ Hid (wr.ownsRow w.heap.size 31 3 o k (((l.take k).map f).flatMap keyC)) ∧ Below w.heap.size w wr) (fun _ i _ => l.length - (Go.RowKit.intOf i).toNat)
  case atStart => exact ⟨0, Nat.zero_le _, rfl, ⟨rfl, .inl ⟨rfl, rfl⟩⟩, Below.refl _ _⟩
  case round =>
    rename_i o i
    obtain ⟨k, hk, rfl, HO, hbel⟩ := hrel
    by_cases hlt : k < l.length
    · have hrk := hrow k hlt
      have hsz := hbel.size
      have hft : (l.take (k + 1)).map f = (l.take k).map f ++ [f l[k]] := by
        rw [List.take_succ_eq_append_getElem hlt, List.map_append]; rfl
      have HFT := hide hft
      have HC := hide ((unhide HP) l[k] (List.getElem_mem hlt))
      clear hft
      generalize l[k] = K at hrk HFT HC
      obtain ⟨c0, c1, c2, c3, c4⟩ := hrk
      have d0 := (hbel.cell (p := ⟨b, off + k * 5, none⟩) hb).trans c0
      have d1 := (hbel.cell (p := ⟨b, off + k * 5 + 1, none⟩) hb).trans c1
      have d2 := (hbel.cell (p := ⟨b, off + k * 5 + 2, none⟩) hb).trans c2
      have d3 := (hbel.cell (p := ⟨b, off + k * 5 + 3, none⟩) hb).trans c3
      have d4 := (hbel.cell (p := ⟨b, off + k * 5 + 4, none⟩) hb).trans c4
      clear c0 c1 c2 c3 c4
      go_wp2_with fail
      refine ((unhide HC) _ (hbel.alloc hsz _)).mono ?_
      rintro e w1 ⟨rfl, hb1⟩
      have hbel1 : Below w.heap.size w w1 := (hbel.alloc (by have := hbel.size; omega) _).trans (hb1.mono (by simp; omega))
      have HO1 := hide (own_below2 (HO.out.alloc _) hb1)
      have HB := hide hbel1
      have hs1 := hbel1.size
      clear hb1 hbel1 d0 d1 d2 d3 d4 HO HC
      go_wp2_with (at_builtin; refine wpList_append_own _ rfl _ _ 27 rfl w.heap.size 31 ti (.agg #[.int .i64 0, .int .i64 0, .int .i64 0]) 3 24 Tryz.underlying27 hti hz0 hz1 hz2 rfl (by decide) _ _ _ rfl ((unhide HO1).alloc _) ⟨w1.heap.size, 0, none⟩ 1 1 [.int .i64 ((f K)).id, .int .i64 ((f K)).inc, .int .i64 ((f K)).st] rfl rfl ?c1 ?c2 ?c3 ?c4 ?c5 ?_)
      case c1 => exact World.news_of_block (heap_alloc_new w1 _)
      case c2 => intro u hu; simp at hu; rcases hu with rfl | rfl | rfl <;> rfl
      case c3 => unfold maxLen; omega
      case c4 => omega
      case c5 => simp; omega
      intro v' w2 hown' hgrow _
      have hbel2 : Below w.heap.size w w2 := ((unhide HB).alloc hs1 _).grown hgrow (by simp; omega) (fun j hj => (own_lt (unhide HO1) hj).1)
      have HO2 := hide hown'
      have HB2 := hide hbel2
      clear hown' hgrow hbel2
      go_wp2
      go_roundw
      case rel =>
        refine ⟨k + 1, by omega, by go_num, ?_, unhide HB2⟩
        rw [unhide HFT]
        exact hide (by simpa [keyC] using unhide HO2)
      case measure => simp [Go.RowKit.intOf]; omega
    · have e : k = l.length := by omega
      rw [e, List.take_length] at HO
      go_wp2
      go_ret
      exact ⟨_, rfl, by simpa using HO.out, hbel⟩
theorem turnMK_nil (f : Mem → K3) (fv : Value) (w : World) : Calls Tryz.prog 51 #[.slice none 0 0, fv] w fun e w' => ∃ v', e = .returned v' ∧ w'.ownsRow w.heap.size 31 3 v' (([] : List Mem).map f).length ((([] : List Mem).map f).flatMap keyC) ∧ Below w.heap.size w w' := by
  go_enter Tryz.func51, Tryz.ntmps51
  go_wp2
  refine wp_loop_rounds 1 ?_
  rw [rounds_succ]
  go_wp2
  go_ret
  exact ⟨_, rfl, ⟨rfl, .inl ⟨rfl, rfl⟩⟩, Below.refl _ _⟩
theorem turnMK_any (l : List Mem) (f : Mem → K3) (g : Nat) (pre lb : Array Value) {v : Value} {w : World} {base : Nat} (hv : w.ownsRow base 80 5 v l.length (l.flatMap memC)) (hl : l.length ≤ 1000) (eg : ∀ args w, (callFunc g args).run Tryz.prog w = .ok (.enter g args) w)
    (hp : ∀ m ∈ l, ∀ W, Below w.heap.size w W → Calls Tryz.prog g (pre ++ #[.agg #[.int .i64 m.k.id, .int .i64 m.k.inc, .int .i64 m.k.st, .int .i64 m.due, .int .i64 m.sends]] ++ lb) W fun e w' => e = .returned (.agg #[.int .i64 ((f m)).id, .int .i64 ((f m)).inc, .int .i64 ((f m)).st]) ∧ Below W.heap.size W w') :
    Calls Tryz.prog 51 #[v, .func (.func g) pre lb] w fun e w' => ∃ v', e = .returned v' ∧ w'.ownsRow w.heap.size 31 3 v' (l.map f).length ((l.map f).flatMap keyC) ∧ Below w.heap.size w w' := by
  have hv0 := hv
  rcases hv.2 with ⟨rfl, h0⟩ | ⟨b, cap, cur, rfl, hb, hg, _⟩
  · obtain rfl : l = [] := List.length_eq_zero_iff.1 h0
    exact turnMK_nil f _ w
  · exact turnMK_at l f g pre lb b 0 cap w (lt_blk hg) hl (rowM hv0) eg hp
set_option maxHeartbeats 2000000 in
theorem turnIM_at (l : List Int) (f : Int → Mem) (g : Nat) (pre lb : Array Value) (b off cap : Nat) (w : World) (hb : b < w.heap.size) (hl : l.length ≤ 1000) (hrow : rowsI w b off l) (eg : ∀ args w, (callFunc g args).run Tryz.prog w = .ok (.enter g args) w)
    (hp : ∀ m ∈ l, ∀ W, Below w.heap.size w W → Calls Tryz.prog g (pre ++ #[.int .i64 m] ++ lb) W fun e w' => e = .returned (.agg #[.int .i64 ((f m)).k.id, .int .i64 ((f m)).k.inc, .int .i64 ((f m)).k.st, .int .i64 ((f m)).due, .int .i64 ((f m)).sends]) ∧ Below W.heap.size W w') :
    Calls Tryz.prog 57 #[.slice (some ⟨b, off, none⟩) l.length cap, .func (.func g) pre lb] w fun e w' => ∃ v', e = .returned v' ∧ w'.ownsRow w.heap.size 80 5 v' (l.map f).length ((l.map f).flatMap memC) ∧ Below w.heap.size w w' := by
  obtain ⟨ti, hti, hz0, hz1, hz2⟩ := info_parts Tryz.infoML
  have HP := hide hp
  clear hp
  go_enter Tryz.func57, Tryz.ntmps57
  go_wp2
  go_loopw [5, 10] (fun o i wr => ∃ k : Nat, k ≤ l.length ∧ i = .int .i64 k ∧ Hid (wr.ownsRow w.heap.size 80 5 o k (((l.take k).map f).flatMap memC)) ∧ Below w.heap.size w wr) (fun _ i _ => l.length - (Go.RowKit.intOf i).toNat)
  case atStart => exact ⟨0, Nat.zero_le _, rfl, ⟨rfl, .inl ⟨rfl, rfl⟩⟩, Below.refl _ _⟩
  case round =>
    rename_i o i
    obtain ⟨k, hk, rfl, HO, hbel⟩ := hrel
    by_cases hlt : k < l.length
    · have hrk := hrow k hlt
      have hsz := hbel.size
      have hft : (l.take (k + 1)).map f = (l.take k).map f ++ [f l[k]] := by
        rw [List.take_succ_eq_append_getElem hlt, List.map_append]; rfl
      have HFT := hide hft
      have HC := hide ((unhide HP) l[k] (List.getElem_mem hlt))
      clear hft
      generalize l[k] = K at hrk HFT HC
      have c0 := hrk
      clear hrk
      have d0 := (hbel.cell (p := ⟨b, off + k, none⟩) hb).trans c0
      clear c0
      go_wp2_with fail
      refine ((unhide HC) _ (hbel)).mono ?_
      rintro e w1 ⟨rfl, hb1⟩
      have hbel1 : Below w.heap.size w w1 := hbel.trans (hb1.mono hbel.size)
      have HO1 := hide (own_below2 HO.out hb1)
      have HB := hide hbel1
      have hs1 := hbel1.size
      clear hb1 hbel1 d0 HO HC
      go_wp2_with (at_builtin; refine wpList_append_own _ rfl _ _ 77 rfl w.heap.size 80 ti (.agg #[.int .i64 0, .int .i64 0, .int .i64 0, .int .i64 0, .int .i64 0]) 5 40 Tryz.underlying77 hti hz0 hz1 hz2 rfl (by decide) _ _ _ rfl ((unhide HO1).alloc _) ⟨w1.heap.size, 0, none⟩ 1 1 [.int .i64 ((f K)).k.id, .int .i64 ((f K)).k.inc, .int .i64 ((f K)).k.st, .int .i64 ((f K)).due, .int .i64 ((f K)).sends] rfl rfl ?c1 ?c2 ?c3 ?c4 ?c5 ?_)
      case c1 => exact World.news_of_block (heap_alloc_new w1 _)
      case c2 => intro u hu; simp at hu; rcases hu with rfl | rfl | rfl | rfl | rfl <;> rfl
      case c3 => unfold maxLen; omega
      case c4 => omega
      case c5 => simp; omega
      intro v' w2 hown' hgrow _
      have hbel2 : Below w.heap.size w w2 := ((unhide HB).alloc hs1 _).grown hgrow (by simp; omega) (fun j hj => (own_lt (unhide HO1) hj).1)
      have HO2 := hide hown'
      have HB2 := hide hbel2
      clear hown' hgrow hbel2
      go_wp2
      go_roundw
      case rel =>
        refine ⟨k + 1, by omega, by go_num, ?_, unhide HB2⟩
        rw [unhide HFT]
        exact hide (by simpa [memC] using unhide HO2)
      case measure => simp [Go.RowKit.intOf]; omega
    · have e : k = l.length := by omega
      rw [e, List.take_length] at HO
      go_wp2
      go_ret
      exact ⟨_, rfl, by simpa using HO.out, hbel⟩
theorem turnIM_nil (f : Int → Mem) (fv : Value) (w : World) : Calls Tryz.prog 57 #[.slice none 0 0, fv] w fun e w' => ∃ v', e = .returned v' ∧ w'.ownsRow w.heap.size 80 5 v' (([] : List Int).map f).length ((([] : List Int).map f).flatMap memC) ∧ Below w.heap.size w w' := by
  go_enter Tryz.func57, Tryz.ntmps57
  go_wp2
  refine wp_loop_rounds 1 ?_
  rw [rounds_succ]
  go_wp2
  go_ret
  exact ⟨_, rfl, ⟨rfl, .inl ⟨rfl, rfl⟩⟩, Below.refl _ _⟩
theorem turnIM_any (l : List Int) (f : Int → Mem) (g : Nat) (pre lb : Array Value) {v : Value} {w : World} {base : Nat} (hv : w.ownsRow base 3 1 v l.length (l.flatMap intC)) (hl : l.length ≤ 1000) (eg : ∀ args w, (callFunc g args).run Tryz.prog w = .ok (.enter g args) w)
    (hp : ∀ m ∈ l, ∀ W, Below w.heap.size w W → Calls Tryz.prog g (pre ++ #[.int .i64 m] ++ lb) W fun e w' => e = .returned (.agg #[.int .i64 ((f m)).k.id, .int .i64 ((f m)).k.inc, .int .i64 ((f m)).k.st, .int .i64 ((f m)).due, .int .i64 ((f m)).sends]) ∧ Below W.heap.size W w') :
    Calls Tryz.prog 57 #[v, .func (.func g) pre lb] w fun e w' => ∃ v', e = .returned v' ∧ w'.ownsRow w.heap.size 80 5 v' (l.map f).length ((l.map f).flatMap memC) ∧ Below w.heap.size w w' := by
  have hv0 := hv
  rcases hv.2 with ⟨rfl, h0⟩ | ⟨b, cap, cur, rfl, hb, hg, _⟩
  · obtain rfl : l = [] := List.length_eq_zero_iff.1 h0
    exact turnIM_nil f _ w
  · exact turnIM_at l f g pre lb b 0 cap w (lt_blk hg) hl (rowI hv0) eg hp
set_option maxHeartbeats 1000000 in
theorem dropM_any (l : List Mem) (p : Mem → Bool) (g : Nat) (pre lb : Array Value) {v : Value} {w : World} {base : Nat} (hv : w.ownsRow base 80 5 v l.length (l.flatMap memC)) (hl : l.length ≤ 1000) (eg : ∀ args w, (callFunc g args).run Tryz.prog w = .ok (.enter g args) w)
    (hp : ∀ m W, Below w.heap.size w W → Calls Tryz.prog g (pre ++ #[.agg #[.int .i64 m.k.id, .int .i64 m.k.inc, .int .i64 m.k.st, .int .i64 m.due, .int .i64 m.sends]] ++ lb) W fun e w' => e = .returned (.bool (p m)) ∧ Below W.heap.size W w') :
    Calls Tryz.prog 52 #[v, .func (.func g) pre lb] w fun e w' => ∃ v', e = .returned v' ∧ w'.ownsRow w.heap.size 80 5 v' (l.filter (fun m => !(p m))).length ((l.filter (fun m => !(p m))).flatMap memC) ∧ Below w.heap.size w w' := by
  have hclo : ∀ m W, Below (w.alloc (.cells #[.func (.func g) pre lb] 82)).heap.size (w.alloc (.cells #[.func (.func g) pre lb] 82)) W → Calls Tryz.prog 84 (#[] ++ #[.agg #[.int .i64 m.k.id, .int .i64 m.k.inc, .int .i64 m.k.st, .int .i64 m.due, .int .i64 m.sends]] ++ #[.pointer (some ⟨w.heap.size, 0, none⟩)]) W fun e w' => e = .returned (.bool (!(p m))) ∧ Below W.heap.size W w' := by
    intro m W hb
    have hcell : W.cell? ⟨w.heap.size, 0, none⟩ = some (.func (.func g) pre lb) := (hb.cell (p := ⟨w.heap.size, 0, none⟩) (by simp)).trans (by simp)
    have hsz : w.heap.size < W.heap.size := by have := hb.size; simp at this; omega
    have hB : Below w.heap.size w W := ((Below.refl _ _).alloc (Nat.le_refl _) _).trans (hb.mono (by simp))
    have HC := fun W' (hb' : Below W.heap.size W W') => hide (hp m W' (hB.trans (hb'.mono hB.size)))
    clear hb hB hp hv
    simp only [List.append_toArray, List.nil_append, List.cons_append]
    go_enter Tryz.func84, Tryz.ntmps84
    go_wp2_with fail
    refine (unhide (HC _ ((Below.refl _ _).alloc (Nat.le_refl _) _))).mono ?_
    rintro e w1 ⟨rfl, hb1⟩
    have HB1 := hide hb1
    clear hb1 HC
    go_wp2
    go_ret
    have hb1 := unhide HB1
    exact ⟨rfl, ((Below.refl _ _).alloc (Nat.le_refl _) _).trans (hb1.mono (by simp))⟩
  have HK := fun v' w' hb => hide (keepM_any l (fun m => !(p m)) 84 #[] #[.pointer (some ⟨w.heap.size, 0, none⟩)] (v := v') (w := w') (base := base) hb hl (enters_of Tryz.func84 (by kernel_rfl) rfl))
  have HV := hide (HK v _ (hv.alloc (.cells #[.func (.func g) pre lb] 82)) |> fun h => (unhide h) hclo)
  clear HK hv hp hclo
  go_enter Tryz.func52, Tryz.ntmps52
  go_wp2_with fail
  refine (unhide HV).mono ?_
  rintro e w1 ⟨v', rfl, ho, hb1⟩
  have HO := hide ho
  have HB1 := hide hb1
  clear ho hb1 HV
  go_wp2
  go_ret
  exact ⟨v', rfl, own_mono (unhide HO) (by simp), ((Below.refl _ _).alloc (Nat.le_refl _) _).trans ((unhide HB1).mono (by simp))⟩
set_option maxHeartbeats 1000000 in
theorem dropR_any (l : List Rel) (p : Rel → Bool) (g : Nat) (pre lb : Array Value) {v : Value} {w : World} {base : Nat} (hv : w.ownsRow base 107 5 v l.length (l.flatMap relC)) (hl : l.length ≤ 1000) (eg : ∀ args w, (callFunc g args).run Tryz.prog w = .ok (.enter g args) w)
    (hp : ∀ m W, Below w.heap.size w W → Calls Tryz.prog g (pre ++ #[.agg #[.int .i64 m.tgt, .int .i64 m.num, .int .i64 m.asker, .int .i64 m.under, .int .i64 m.till]] ++ lb) W fun e w' => e = .returned (.bool (p m)) ∧ Below W.heap.size W w') :
    Calls Tryz.prog 59 #[v, .func (.func g) pre lb] w fun e w' => ∃ v', e = .returned v' ∧ w'.ownsRow w.heap.size 107 5 v' (l.filter (fun m => !(p m))).length ((l.filter (fun m => !(p m))).flatMap relC) ∧ Below w.heap.size w w' := by
  have hclo : ∀ m W, Below (w.alloc (.cells #[.func (.func g) pre lb] 108)).heap.size (w.alloc (.cells #[.func (.func g) pre lb] 108)) W → Calls Tryz.prog 88 (#[] ++ #[.agg #[.int .i64 m.tgt, .int .i64 m.num, .int .i64 m.asker, .int .i64 m.under, .int .i64 m.till]] ++ #[.pointer (some ⟨w.heap.size, 0, none⟩)]) W fun e w' => e = .returned (.bool (!(p m))) ∧ Below W.heap.size W w' := by
    intro m W hb
    have hcell : W.cell? ⟨w.heap.size, 0, none⟩ = some (.func (.func g) pre lb) := (hb.cell (p := ⟨w.heap.size, 0, none⟩) (by simp)).trans (by simp)
    have hsz : w.heap.size < W.heap.size := by have := hb.size; simp at this; omega
    have hB : Below w.heap.size w W := ((Below.refl _ _).alloc (Nat.le_refl _) _).trans (hb.mono (by simp))
    have HC := fun W' (hb' : Below W.heap.size W W') => hide (hp m W' (hB.trans (hb'.mono hB.size)))
    clear hb hB hp hv
    simp only [List.append_toArray, List.nil_append, List.cons_append]
    go_enter Tryz.func88, Tryz.ntmps88
    go_wp2_with fail
    refine (unhide (HC _ ((Below.refl _ _).alloc (Nat.le_refl _) _))).mono ?_
    rintro e w1 ⟨rfl, hb1⟩
    have HB1 := hide hb1
    clear hb1 HC
    go_wp2
    go_ret
    have hb1 := unhide HB1
    exact ⟨rfl, ((Below.refl _ _).alloc (Nat.le_refl _) _).trans (hb1.mono (by simp))⟩
  have HK := fun v' w' hb => hide (keepR_any l (fun m => !(p m)) 88 #[] #[.pointer (some ⟨w.heap.size, 0, none⟩)] (v := v') (w := w') (base := base) hb hl (enters_of Tryz.func88 (by kernel_rfl) rfl))
  have HV := hide (HK v _ (hv.alloc (.cells #[.func (.func g) pre lb] 108)) |> fun h => (unhide h) hclo)
  clear HK hv hp hclo
  go_enter Tryz.func59, Tryz.ntmps59
  go_wp2_with fail
  refine (unhide HV).mono ?_
  rintro e w1 ⟨v', rfl, ho, hb1⟩
  have HO := hide ho
  have HB1 := hide hb1
  clear ho hb1 HV
  go_wp2
  go_ret
  exact ⟨v', rfl, own_mono (unhide HO) (by simp), ((Below.refl _ _).alloc (Nat.le_refl _) _).trans ((unhide HB1).mono (by simp))⟩
set_option maxHeartbeats 1000000 in
theorem dropI_any (l : List Int) (p : Int → Bool) (g : Nat) (pre lb : Array Value) {v : Value} {w : World} (hv : PassAt w v l) (hl : l.length ≤ 1000) (eg : ∀ args w, (callFunc g args).run Tryz.prog w = .ok (.enter g args) w)
    (hp : ∀ m W, Below w.heap.size w W → Calls Tryz.prog g (pre ++ #[.int .i64 m] ++ lb) W fun e w' => e = .returned (.bool (p m)) ∧ Below W.heap.size W w') :
    Calls Tryz.prog 95 #[v, .func (.func g) pre lb] w fun e w' => ∃ v', e = .returned v' ∧ w'.ownsRow w.heap.size 3 1 v' (l.filter (fun m => !(p m))).length ((l.filter (fun m => !(p m))).flatMap intC) ∧ Below w.heap.size w w' := by
  have hclo : ∀ m W, Below (w.alloc (.cells #[.func (.func g) pre lb] 87)).heap.size (w.alloc (.cells #[.func (.func g) pre lb] 87)) W → Calls Tryz.prog 104 (#[] ++ #[.int .i64 m] ++ #[.pointer (some ⟨w.heap.size, 0, none⟩)]) W fun e w' => e = .returned (.bool (!(p m))) ∧ Below W.heap.size W w' := by
    intro m W hb
    have hcell : W.cell? ⟨w.heap.size, 0, none⟩ = some (.func (.func g) pre lb) := (hb.cell (p := ⟨w.heap.size, 0, none⟩) (by simp)).trans (by simp)
    have hsz : w.heap.size < W.heap.size := by have := hb.size; simp at this; omega
    have hB : Below w.heap.size w W := ((Below.refl _ _).alloc (Nat.le_refl _) _).trans (hb.mono (by simp))
    have HC := fun W' (hb' : Below W.heap.size W W') => hide (hp m W' (hB.trans (hb'.mono hB.size)))
    clear hb hB hp hv
    simp only [List.append_toArray, List.nil_append, List.cons_append]
    go_enter Tryz.func104, Tryz.ntmps104
    go_wp2_with fail
    refine (unhide (HC _ (Below.refl _ _))).mono ?_
    rintro e w1 ⟨rfl, hb1⟩
    have HB1 := hide hb1
    clear hb1 HC
    go_wp2
    go_ret
    have hb1 := unhide HB1
    exact ⟨rfl, hb1⟩
  have HK := fun v' w' hb => hide (keepI_any l (fun m => !(p m)) 104 #[] #[.pointer (some ⟨w.heap.size, 0, none⟩)] (v := v') (w := w') hb hl (enters_of Tryz.func104 (by kernel_rfl) rfl))
  have HV := hide (HK v _ (hv.alloc (.cells #[.func (.func g) pre lb] 87)) |> fun h => (unhide h) hclo)
  clear HK hv hp hclo
  go_enter Tryz.func95, Tryz.ntmps95
  go_wp2_with fail
  refine (unhide HV).mono ?_
  rintro e w1 ⟨v', rfl, ho, hb1⟩
  have HO := hide ho
  have HB1 := hide hb1
  clear ho hb1 HV
  go_wp2
  go_ret
  exact ⟨v', rfl, own_mono (unhide HO) (by simp), ((Below.refl _ _).alloc (Nat.le_refl _) _).trans ((unhide HB1).mono (by simp))⟩
end Go.Proofs.YtnneljcbelgoeaaGreat.wire
/- Package list: Keep of keys, Turn of keys into ids. (Written by wip/gen/mklist.py.) -/
namespace Go.Proofs.YtnneljcbelgoeaaGreat.wire
open Go.RowKit Go.Maps

def rowsK (w : World) (b off : Nat) (l : List K3) : Prop := ∀ (i : Nat) (h : i < l.length), w.cell? ⟨b, off + i * 3, none⟩ = some (.int .i64 l[i].id) ∧ w.cell? ⟨b, off + i * 3 + 1, none⟩ = some (.int .i64 l[i].inc) ∧ w.cell? ⟨b, off + i * 3 + 2, none⟩ = some (.int .i64 l[i].st)
theorem lenK (l : List K3) : (l.flatMap keyC).length = l.length * 3 := by
  induction l with
  | nil => rfl
  | cons a r ih => simp only [List.flatMap_cons, List.length_append, ih, List.length_cons, keyC, List.length_nil]; omega
theorem getK : ∀ (l : List K3) (i : Nat) (h : i < l.length) (j : Nat), j < 3 → (l.flatMap keyC)[i * 3 + j]? = (keyC l[i])[j]?
  | a :: r, 0, _, j, hj => by
    rw [List.flatMap_cons, List.getElem?_append_left (by simp [keyC]; omega)]; simp
  | a :: r, i + 1, h, j, hj => by
    rw [List.flatMap_cons, List.getElem?_append_right (by simp [keyC]; omega)]
    have := getK r i (by simpa using h) j hj
    simp only [List.getElem_cons_succ]
    rw [← this]
    congr 1
    simp [keyC]; omega
theorem rowK {w : World} {base b cap n : Nat} {l : List K3} (h : w.ownsRow base 31 3 (.slice (some ⟨b, 0, none⟩) n cap) l.length (l.flatMap keyC)) : rowsK w b 0 l := by
  intro i hi
  rcases h.2 with ⟨e, _⟩ | ⟨g, cap', cur, e, hb, hg, h1, h2, h3, h4⟩
  · cases e
  · cases e
    have hc : ∀ j, j < 3 → w.cell? ⟨b, 0 + i * 3 + j, none⟩ = (keyC l[i])[j]? := fun j hj => by
      rw [cell_at hg, ← getK l i hi j hj, ← h4, List.getElem?_take, if_pos (by have : (i + 1) * 3 ≤ l.length * 3 := Nat.mul_le_mul_right _ hi; omega), Array.getElem?_toList, Nat.zero_add]
    exact ⟨hc 0 (by omega), hc 1 (by omega), hc 2 (by omega)⟩
set_option maxHeartbeats 2000000 in
theorem keepK_at (l : List K3) (p : K3 → Bool) (g : Nat) (pre lb : Array Value) (b off cap : Nat) (w : World) (hb : b < w.heap.size) (hl : l.length ≤ 1000) (hrow : rowsK w b off l) (eg : ∀ args w, (callFunc g args).run Tryz.prog w = .ok (.enter g args) w)
    (hp : ∀ m W, Below w.heap.size w W → Calls Tryz.prog g (pre ++ #[.agg #[.int .i64 m.id, .int .i64 m.inc, .int .i64 m.st]] ++ lb) W fun e w' => e = .returned (.bool (p m)) ∧ Below W.heap.size W w') :
    Calls Tryz.prog 91 #[.slice (some ⟨b, off, none⟩) l.length cap, .func (.func g) pre lb] w fun e w' => ∃ v', e = .returned v' ∧ w'.ownsRow w.heap.size 31 3 v' (l.filter p).length ((l.filter p).flatMap keyC) ∧ Below w.heap.size w w' := by
  obtain ⟨ti, hti, hz0, hz1, hz2⟩ := info_parts Tryz.infoKL
  have HP := hide hp
  clear hp
  go_enter Tryz.func91, Tryz.ntmps91
  go_wp2
  go_loopw [5, 10] (fun o i wr => ∃ k : Nat, k ≤ l.length ∧ i = .int .i64 k ∧ Hid (wr.ownsRow w.heap.size 31 3 o ((l.take k).filter p).length (((l.take k).filter p).flatMap keyC)) ∧ Below w.heap.size w wr) (fun _ i _ => l.length - (Go.RowKit.intOf i).toNat)
  case atStart => exact ⟨0, Nat.zero_le _, rfl, ⟨rfl, .inl ⟨rfl, rfl⟩⟩, Below.refl _ _⟩
  case round =>
    rename_i o i
    obtain ⟨k, hk, rfl, HO, hbel⟩ := hrel
    by_cases hlt : k < l.length
    · have hrk := hrow k hlt
      have hsz := hbel.size
      have hfl : ((l.take k).filter p).length ≤ 1000 := Nat.le_trans (List.length_filter_le _ _) (by simp; omega)
      have hft : (l.take (k + 1)).filter p = (l.take k).filter p ++ (if p l[k] then [l[k]] else []) := by
        rw [List.take_succ_eq_append_getElem hlt, List.filter_append]; cases h : p l[k] <;> simp [h]
      have HFT := hide hft
      clear hft
      generalize l[k] = K at hrk HFT
      obtain ⟨c0, c1, c2⟩ := hrk
      have d0 := (hbel.cell (p := ⟨b, off + k * 3, none⟩) hb).trans c0
      have d1 := (hbel.cell (p := ⟨b, off + k * 3 + 1, none⟩) hb).trans c1
      have d2 := (hbel.cell (p := ⟨b, off + k * 3 + 2, none⟩) hb).trans c2
      clear c0 c1 c2
      cases hq : p K
      all_goals
        have HQ := hide hq
        clear hq
        have hB0 := hide (heap_alloc_new wr (.cells #[.int .i64 K.id, .int .i64 K.inc, .int .i64 K.st] 31))
        go_wp2_with fail
        refine ((unhide HP) K _ (hbel.alloc hsz _)).mono ?_
        rw [unhide HQ]
        rintro e w1 ⟨rfl, hb1⟩
        have hbx := (hb1.block wr.heap.size (by simp)).trans (unhide hB0)
        clear hB0
        have e0 := cell_at hbx 0
        have e1 := cell_at hbx 1
        have e2 := cell_at hbx 2
        simp only [List.getElem?_toArray, List.getElem?_cons_zero, List.getElem?_cons_succ] at e0 e1 e2
        clear hbx
        have hbel1 : Below w.heap.size w w1 := (hbel.alloc (by have := hbel.size; omega) _).trans (hb1.mono (by simp; omega))
        have HO1 := hide (own_below2 (HO.out.alloc _) hb1)
        have HB := hide hbel1
        have hs1 := hbel1.size
        clear hb1 hbel1 d0 d1 d2 HO
      · go_wp2
        go_roundw
        case rel =>
          refine ⟨k + 1, by omega, by go_num, ?_, unhide HB⟩
          rw [unhide HFT, unhide HQ]
          exact hide (by simpa using unhide HO1)
        case measure => simp [Go.RowKit.intOf]; omega
      · go_wp2_with (at_builtin; refine wpList_append_own _ rfl _ _ 27 rfl w.heap.size 31 ti (.agg #[.int .i64 0, .int .i64 0, .int .i64 0]) 3 24 Tryz.underlying27 hti hz0 hz1 hz2 rfl (by decide) _ _ _ rfl ((unhide HO1).alloc _) ⟨w1.heap.size, 0, none⟩ 1 1 [.int .i64 K.id, .int .i64 K.inc, .int .i64 K.st] rfl rfl ?c1 ?c2 ?c3 ?c4 ?c5 ?_)
        case c1 => exact World.news_of_block (heap_alloc_new w1 _)
        case c2 => intro u hu; simp at hu; rcases hu with rfl | rfl | rfl <;> rfl
        case c3 => unfold maxLen; omega
        case c4 => omega
        case c5 => simp; omega
        intro v' w2 hown' hgrow _
        have hbel2 : Below w.heap.size w w2 := ((unhide HB).alloc hs1 _).grown hgrow (by simp; omega) (fun j hj => (own_lt (unhide HO1) hj).1)
        have HO2 := hide hown'
        have HB2 := hide hbel2
        clear hown' hgrow hbel2
        go_wp2
        go_roundw
        case rel =>
          refine ⟨k + 1, by omega, by go_num, ?_, unhide HB2⟩
          rw [unhide HFT, unhide HQ]
          exact hide (by simpa [keyC] using unhide HO2)
        case measure => simp [Go.RowKit.intOf]; omega
    · have e : k = l.length := by omega
      rw [e, List.take_length] at HO
      go_wp2
      go_ret
      exact ⟨_, rfl, HO.out, hbel⟩
theorem keepK_nil (p : K3 → Bool) (fv : Value) (w : World) : Calls Tryz.prog 91 #[.slice none 0 0, fv] w fun e w' => ∃ v', e = .returned v' ∧ w'.ownsRow w.heap.size 31 3 v' (([] : List K3).filter p).length ((([] : List K3).filter p).flatMap keyC) ∧ Below w.heap.size w w' := by
  go_enter Tryz.func91, Tryz.ntmps91
  go_wp2
  refine wp_loop_rounds 1 ?_
  rw [rounds_succ]
  go_wp2
  go_ret
  exact ⟨_, rfl, ⟨rfl, .inl ⟨rfl, rfl⟩⟩, Below.refl _ _⟩
theorem keepK_any (l : List K3) (p : K3 → Bool) (g : Nat) (pre lb : Array Value) {v : Value} {w : World} {base : Nat} (hv : w.ownsRow base 31 3 v l.length (l.flatMap keyC)) (hl : l.length ≤ 1000) (eg : ∀ args w, (callFunc g args).run Tryz.prog w = .ok (.enter g args) w)
    (hp : ∀ m W, Below w.heap.size w W → Calls Tryz.prog g (pre ++ #[.agg #[.int .i64 m.id, .int .i64 m.inc, .int .i64 m.st]] ++ lb) W fun e w' => e = .returned (.bool (p m)) ∧ Below W.heap.size W w') :
    Calls Tryz.prog 91 #[v, .func (.func g) pre lb] w fun e w' => ∃ v', e = .returned v' ∧ w'.ownsRow w.heap.size 31 3 v' (l.filter p).length ((l.filter p).flatMap keyC) ∧ Below w.heap.size w w' := by
  have hv0 := hv
  rcases hv.2 with ⟨rfl, h0⟩ | ⟨b, cap, cur, rfl, hb, hg, _⟩
  · obtain rfl : l = [] := List.length_eq_zero_iff.1 h0
    exact keepK_nil p _ w
  · exact keepK_at l p g pre lb b 0 cap w (lt_blk hg) hl (rowK hv0) eg hp
set_option maxHeartbeats 2000000 in
theorem turnKI_at (l : List K3) (f : K3 → Int) (g : Nat) (pre lb : Array Value) (b off cap : Nat) (w : World) (hb : b < w.heap.size) (hl : l.length ≤ 1000) (hrow : rowsK w b off l) (eg : ∀ args w, (callFunc g args).run Tryz.prog w = .ok (.enter g args) w)
    (hp : ∀ m ∈ l, ∀ W, Below w.heap.size w W → Calls Tryz.prog g (pre ++ #[.agg #[.int .i64 m.id, .int .i64 m.inc, .int .i64 m.st]] ++ lb) W fun e w' => e = .returned (.int .i64 (f m)) ∧ Below W.heap.size W w') :
    Calls Tryz.prog 90 #[.slice (some ⟨b, off, none⟩) l.length cap, .func (.func g) pre lb] w fun e w' => ∃ v', e = .returned v' ∧ w'.ownsRow w.heap.size 3 1 v' (l.map f).length ((l.map f).flatMap intC) ∧ Below w.heap.size w w' := by
  obtain ⟨ti, hti, hz0, hz1, hz2⟩ := info_parts Tryz.infoIL
  have HP := hide hp
  clear hp
  go_enter Tryz.func90, Tryz.ntmps90
  go_wp2
  go_loopw [5, 10] (fun o i wr => ∃ k : Nat, k ≤ l.length ∧ i = .int .i64 k ∧ Hid (wr.ownsRow w.heap.size 3 1 o k (((l.take k).map f).flatMap intC)) ∧ Below w.heap.size w wr) (fun _ i _ => l.length - (Go.RowKit.intOf i).toNat)
  case atStart => exact ⟨0, Nat.zero_le _, rfl, ⟨rfl, .inl ⟨rfl, rfl⟩⟩, Below.refl _ _⟩
  case round =>
    rename_i o i
    obtain ⟨k, hk, rfl, HO, hbel⟩ := hrel
    by_cases hlt : k < l.length
    · have hrk := hrow k hlt
      have hsz := hbel.size
      have hft : (l.take (k + 1)).map f = (l.take k).map f ++ [f l[k]] := by
        rw [List.take_succ_eq_append_getElem hlt, List.map_append]; rfl
      have HFT := hide hft
      have HC := hide ((unhide HP) l[k] (List.getElem_mem hlt))
      clear hft
      generalize l[k] = K at hrk HFT HC
      obtain ⟨c0, c1, c2⟩ := hrk
      have d0 := (hbel.cell (p := ⟨b, off + k * 3, none⟩) hb).trans c0
      have d1 := (hbel.cell (p := ⟨b, off + k * 3 + 1, none⟩) hb).trans c1
      have d2 := (hbel.cell (p := ⟨b, off + k * 3 + 2, none⟩) hb).trans c2
      clear c0 c1 c2
      go_wp2_with fail
      refine ((unhide HC) _ (hbel.alloc hsz _)).mono ?_
      rintro e w1 ⟨rfl, hb1⟩
      have hbel1 : Below w.heap.size w w1 := (hbel.alloc (by have := hbel.size; omega) _).trans (hb1.mono (by simp; omega))
      have HO1 := hide (own_below2 (HO.out.alloc _) hb1)
      have HB := hide hbel1
      have hs1 := hbel1.size
      clear hb1 hbel1 d0 d1 d2 HO HC
      go_wp2_with (at_builtin; refine wpList_append_own _ rfl _ _ 22 rfl w.heap.size 3 ti (.int .i64 0) 1 8 Tryz.underlying22 hti hz0 hz1 hz2 rfl (by decide) _ _ _ rfl ((unhide HO1).alloc _) ⟨w1.heap.size, 0, none⟩ 1 1 [.int .i64 (f K)] rfl rfl ?c1 ?c2 ?c3 ?c4 ?c5 ?_)
      case c1 => exact World.news_of_block (heap_alloc_new w1 _)
      case c2 => intro u hu; simp at hu; subst hu; rfl
      case c3 => unfold maxLen; omega
      case c4 => omega
      case c5 => simp; omega
      intro v' w2 hown' hgrow _
      have hbel2 : Below w.heap.size w w2 := ((unhide HB).alloc hs1 _).grown hgrow (by simp; omega) (fun j hj => (own_lt (unhide HO1) hj).1)
      have HO2 := hide hown'
      have HB2 := hide hbel2
      clear hown' hgrow hbel2
      go_wp2
      go_roundw
      case rel =>
        refine ⟨k + 1, by omega, by go_num, ?_, unhide HB2⟩
        rw [unhide HFT]
        exact hide (by simpa [intC] using unhide HO2)
      case measure => simp [Go.RowKit.intOf]; omega
    · have e : k = l.length := by omega
      rw [e, List.take_length] at HO
      go_wp2
      go_ret
      exact ⟨_, rfl, by simpa using HO.out, hbel⟩
theorem turnKI_nil (f : K3 → Int) (fv : Value) (w : World) : Calls Tryz.prog 90 #[.slice none 0 0, fv] w fun e w' => ∃ v', e = .returned v' ∧ w'.ownsRow w.heap.size 3 1 v' (([] : List K3).map f).length ((([] : List K3).map f).flatMap intC) ∧ Below w.heap.size w w' := by
  go_enter Tryz.func90, Tryz.ntmps90
  go_wp2
  refine wp_loop_rounds 1 ?_
  rw [rounds_succ]
  go_wp2
  go_ret
  exact ⟨_, rfl, ⟨rfl, .inl ⟨rfl, rfl⟩⟩, Below.refl _ _⟩
theorem turnKI_any (l : List K3) (f : K3 → Int) (g : Nat) (pre lb : Array Value) {v : Value} {w : World} {base : Nat} (hv : w.ownsRow base 31 3 v l.length (l.flatMap keyC)) (hl : l.length ≤ 1000) (eg : ∀ args w, (callFunc g args).run Tryz.prog w = .ok (.enter g args) w)
    (hp : ∀ m ∈ l, ∀ W, Below w.heap.size w W → Calls Tryz.prog g (pre ++ #[.agg #[.int .i64 m.id, .int .i64 m.inc, .int .i64 m.st]] ++ lb) W fun e w' => e = .returned (.int .i64 (f m)) ∧ Below W.heap.size W w') :
    Calls Tryz.prog 90 #[v, .func (.func g) pre lb] w fun e w' => ∃ v', e = .returned v' ∧ w'.ownsRow w.heap.size 3 1 v' (l.map f).length ((l.map f).flatMap intC) ∧ Below w.heap.size w w' := by
  have hv0 := hv
  rcases hv.2 with ⟨rfl, h0⟩ | ⟨b, cap, cur, rfl, hb, hg, _⟩
  · obtain rfl : l = [] := List.length_eq_zero_iff.1 h0
    exact turnKI_nil f _ w
  · exact turnKI_at l f g pre lb b 0 cap w (lt_blk hg) hl (rowK hv0) eg hp
end Go.Proofs.YtnneljcbelgoeaaGreat.wire
