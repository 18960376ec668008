import Derived.Test.YtnneljcbelgoeaaGreatDoorG05
import Derived.StillTailTactics
/- change: a key into the table, an event, an update (P6). -/
namespace Go.Proofs.YtnneljcbelgoeaaGreatDoor.wire
open Go.RowKit Go.Maps Go.Conc

theorem key_bounds {k : K3} (h : isKeyB k = true) : (1 ≤ k.id ∧ k.id ≤ 250) ∧ (1 ≤ k.inc ∧ k.inc ≤ 1073741824) ∧ (1 ≤ k.st ∧ k.st ≤ 4) := by
  simp only [isKeyB, Bool.and_eq_true] at h
  exact ⟨isId_of h.1, isInc_of h.2.1, isSt_of h.2.2⟩
theorem NdOk.cfgs {x : Nd} (h : NdOk x) : (1 ≤ x.c.self ∧ x.c.self ≤ 250) ∧ (4 ≤ x.c.period ∧ x.c.period ≤ 50) ∧ (1 ≤ x.c.suspect ∧ x.c.suspect ≤ 500) ∧ (1 ≤ x.c.sends ∧ x.c.sends ≤ 8) := by
  have := h.cfg
  simp only [cfgB, Bool.and_eq_true, decide_eq_true_eq] at this
  exact ⟨isId_of this.1, this.2.1, this.2.2.2.1, this.2.2.2.2.2⟩
set_option maxHeartbeats 400000 in
set_option maxRecDepth 100000 in
theorem change_any {x : Nd} (hx : NdOk x) {nb mb : Nat} {cb : Dk} {pv rv : Value} {W : World} (hn : NAt W nb mb cb pv rv x) (k : K3) (hk : isKeyB k = true) (hc0 : 0 ≤ x.clock) (hc1 : x.clock ≤ 1000000000000) (hl0 : 0 ≤ x.lost) (hl1 : x.lost ≤ 1000000000000) :
    Calls Tryz.prog 66 #[.pointer (some ⟨nb, 0, none⟩), .agg #[.int .i64 k.id, .int .i64 k.inc, .int .i64 k.st]] W fun e w' => e = .returned (.tuple #[]) ∧ NAt w' nb mb cb pv rv (x.change k) ∧ Frm [nb, mb, cb] W w' := by
  have HX := hide hx
  obtain ⟨⟨k1, k2⟩, _⟩ := key_bounds hk
  obtain ⟨_, _, ⟨s1, s2⟩, _⟩ := hx.cfgs
  clear hx hk
  have hn1 := (hn.alloc (.cells #[.int .i64 k.id, .int .i64 k.inc, .int .i64 k.st] 76)).drew
  have hf1 : Frm [nb, mb, cb] W (W.alloc (.cells #[.int .i64 k.id, .int .i64 k.inc, .int .i64 k.st] 76)).drew := Frm.of_below ((Below.refl _ _).alloc (Nat.le_refl _) _).drew (Nat.le_refl _)
  have hbx : (W.alloc (.cells #[.int .i64 k.id, .int .i64 k.inc, .int .i64 k.st] 76)).drew.heap[W.heap.size]? = some (.cells #[.int .i64 k.id, .int .i64 k.inc, .int .i64 k.st] 76 (0, 0)) := heap_alloc_new W _
  obtain ⟨w1, hrun, hown, hg⟩ := hn1.map.update law Tryz.underlying117 (key := .int .i64 k.id) (val := memv ⟨k, x.clock + x.c.suspect, x.c.sends⟩) (by have := (unhide HX).len; unfold maxLen; omega) (key_wf (by omega) (by omega)) (d := .held (memv ⟨k, x.clock + x.c.suspect, x.c.sends⟩)) (ps := []) rfl
  have hn2 := hn1.put (unhide HX).rise ⟨k, x.clock + x.c.suspect, x.c.sends⟩ hown hg
  have hf2 : Frm [nb, mb, cb] W w1 := hf1.trans (Frm.of_grown (S := [mb]) hg (fun j hj => by simp at hj; simp [hj])) (by simp)
  have hb2 : w1.heap[W.heap.size]? = some (.cells #[.int .i64 k.id, .int .i64 k.inc, .int .i64 k.st] 76 (0, 0)) := (hg.block W.heap.size (by simp) (by have := hn.lt_mb; simp; omega)).trans hbx
  have a0 := hn.c_map
  have a1 := hn.c_clock
  have a2 := hn.c_suspect
  have a3 := hn.c_sends
  have hlt := hn.lt
  simp only [memv] at hrun
  have HN := hide hn2
  have HF := hide hf2
  have HB := hide hb2
  clear hn hn1 hn2 hf1 hf2 hb2 hbx hown hg
  refine calls_lone Tryz.func66 rfl (by rintro _ ⟨h, _⟩; cases h) (fun cs b hbf hbk => ?_)
  simp only [Tryz.ntmps66, List.size_toArray, List.length_cons, List.length_nil, Nat.reduceAdd, Nat.reduceSub, Array.replicate_succ, Array.replicate_zero, List.push_toArray, List.append_toArray, List.nil_append, List.cons_append]
  refine lone_seq ?_
  go_wp2
  refine lone_seq ?_
  refine wp_region_still_tail 23 (by kernel_rfl) (by kernel_rfl) ?_
  simp only [List.take_succ_cons, List.take_zero, List.drop_succ_cons, List.drop_zero]
  change wpStill _ _ (W.alloc (.cells #[.int .i64 k.id, .int .i64 k.inc, .int .i64 k.st] 76)).drew (fun a' => wpList _ _ _ _ a' (W.alloc (.cells #[.int .i64 k.id, .int .i64 k.inc, .int .i64 k.st] 76)).drew) _ _
  repeat still_step
  refine wpStill_nil ?_
  go_wp2
  rw [hrun]
  go_wp2
  clear hrun
  have hn2 := unhide HN
  have b0 := hn2.c_evs
  have b1 := hn2.c_lost
  have b2 := free_at hn2.blk 18
  obtain ⟨s, r, hch⟩ := hn2.chan
  have HC := hide hch
  have d0 := cell_at (unhide HB) 0
  have d1 := cell_at (unhide HB) 1
  have d2 := cell_at (unhide HB) 2
  simp only [List.getElem?_toArray, List.getElem?_cons_zero, List.getElem?_cons_succ] at d0 d1 d2
  clear hn2 hch
  refine lone_seq ?_
  go_wp2
  refine lone_split ?_
  by_cases hroom : x.evs.length < 8
  · refine lone_send_room (val := kval k) (z := .agg #[.int .i64 0, .int .i64 0, .int .i64 0]) (by rw [hbk]; decide) rfl rfl (by simp [go_sem, execOp, scase, Act.eval]) (unhide HC) (by simpa using hroom) ?_
    go_wp2
    refine lone_last Tryz.func66 hbf hbk (by rintro _ ⟨h, _⟩; cases h) ?_
    go_wp2
    go_end0
    obtain ⟨e1, e2⟩ := (unhide HN).event (x.evs ++ [k]) (buf := (List.map kval x.evs ++ [kval k]).toArray) (by simp) (s + 1) r
    refine ⟨rfl, ?_, (unhide HF).trans e2 (by simp)⟩
    have : x.change k = { x with tab := putM ⟨k, x.clock + x.c.suspect, x.c.sends⟩ x.tab, evs := x.evs ++ [k] } := by simp [Nd.change, hroom]
    rw [this]
    exact e1
  · refine lone_send_full (val := kval k) (z := .agg #[.int .i64 0, .int .i64 0, .int .i64 0]) (by rw [hbk]; decide) rfl rfl (by simp [go_sem, execOp, scase, Act.eval]) (unhide HC) (by simp; omega) ?_
    go_wp2
    refine lone_last Tryz.func66 hbf hbk (by rintro _ ⟨h, _⟩; cases h) ?_
    go_wp2
    go_end0
    obtain ⟨e1, e2⟩ := (unhide HN).set 18 (.int .i64 (x.lost + 1)) (x' := { x with tab := putM ⟨k, x.clock + x.c.suspect, x.c.sends⟩ x.tab, lost := x.lost + 1 }) rfl rfl rfl rfl rfl
    refine ⟨rfl, ?_, (unhide HF).trans e2 (by simp)⟩
    have : x.change k = { x with tab := putM ⟨k, x.clock + x.c.suspect, x.c.sends⟩ x.tab, lost := x.lost + 1 } := by simp [Nd.change, hroom]
    rw [this]
    exact e1
end Go.Proofs.YtnneljcbelgoeaaGreatDoor.wire
/- Package list: Keep. (Written by wip/gen/mklist.py.) -/
namespace Go.Proofs.YtnneljcbelgoeaaGreatDoor.wire
open Go.RowKit Go.Maps

theorem own_below2 {w w' : World} {base : Nat} {e : TypeId} {size : Nat} {v : Value} {n : Nat} {xs : List Value} (h : w.ownsRow base e size v n xs) (hb : Below w.heap.size w w') : w'.ownsRow base e size v n xs :=
  own_frm (S := []) h (Frm.of_below hb (Nat.le_refl _)) (by simp)
def rowsM (w : World) (b off : Nat) (l : List Mem) : Prop := ∀ (i : Nat) (h : i < l.length), w.cell? ⟨b, off + i * 5, none⟩ = some (.int .i64 l[i].k.id) ∧ w.cell? ⟨b, off + i * 5 + 1, none⟩ = some (.int .i64 l[i].k.inc) ∧ w.cell? ⟨b, off + i * 5 + 2, none⟩ = some (.int .i64 l[i].k.st) ∧ w.cell? ⟨b, off + i * 5 + 3, none⟩ = some (.int .i64 l[i].due) ∧ w.cell? ⟨b, off + i * 5 + 4, none⟩ = some (.int .i64 l[i].sends)
theorem lenM (l : List Mem) : (l.flatMap memC).length = l.length * 5 := by
  induction l with
  | nil => rfl
  | cons a r ih => simp only [List.flatMap_cons, List.length_append, ih, List.length_cons, memC, List.length_nil]; omega
theorem getM : ∀ (l : List Mem) (i : Nat) (h : i < l.length) (j : Nat), j < 5 → (l.flatMap memC)[i * 5 + j]? = (memC l[i])[j]?
  | a :: r, 0, _, j, hj => by
    rw [List.flatMap_cons, List.getElem?_append_left (by simp [memC]; omega)]; simp
  | a :: r, i + 1, h, j, hj => by
    rw [List.flatMap_cons, List.getElem?_append_right (by simp [memC]; omega)]
    have := getM r i (by simpa using h) j hj
    simp only [List.getElem_cons_succ]
    rw [← this]
    congr 1
    simp [memC]; omega
theorem rowM {w : World} {base b cap n : Nat} {l : List Mem} (h : w.ownsRow base 150 5 (.slice (some ⟨b, 0, none⟩) n cap) l.length (l.flatMap memC)) : rowsM w b 0 l := by
  intro i hi
  rcases h.2 with ⟨e, _⟩ | ⟨g, cap', cur, e, hb, hg, h1, h2, h3, h4⟩
  · cases e
  · cases e
    have hc : ∀ j, j < 5 → w.cell? ⟨b, 0 + i * 5 + j, none⟩ = (memC l[i])[j]? := fun j hj => by
      rw [cell_at hg, ← getM l i hi j hj, ← h4, List.getElem?_take, if_pos (by have : (i + 1) * 5 ≤ l.length * 5 := Nat.mul_le_mul_right _ hi; omega), Array.getElem?_toList, Nat.zero_add]
    exact ⟨hc 0 (by omega), hc 1 (by omega), hc 2 (by omega), hc 3 (by omega), hc 4 (by omega)⟩
theorem Tryz.infoML : (Tryz.prog.info? 150).map (fun i => (i.zero, i.size, i.bytes)) = some (some (.agg #[.int .i64 0, .int .i64 0, .int .i64 0, .int .i64 0, .int .i64 0]), 5, 40) := by kernel_rfl
def rowsR (w : World) (b off : Nat) (l : List Rel) : Prop := ∀ (i : Nat) (h : i < l.length), w.cell? ⟨b, off + i * 5, none⟩ = some (.int .i64 l[i].tgt) ∧ w.cell? ⟨b, off + i * 5 + 1, none⟩ = some (.int .i64 l[i].num) ∧ w.cell? ⟨b, off + i * 5 + 2, none⟩ = some (.int .i64 l[i].asker) ∧ w.cell? ⟨b, off + i * 5 + 3, none⟩ = some (.int .i64 l[i].under) ∧ w.cell? ⟨b, off + i * 5 + 4, none⟩ = some (.int .i64 l[i].till)
theorem lenR (l : List Rel) : (l.flatMap relC).length = l.length * 5 := by
  induction l with
  | nil => rfl
  | cons a r ih => simp only [List.flatMap_cons, List.length_append, ih, List.length_cons, relC, List.length_nil]; omega
theorem getR : ∀ (l : List Rel) (i : Nat) (h : i < l.length) (j : Nat), j < 5 → (l.flatMap relC)[i * 5 + j]? = (relC l[i])[j]?
  | a :: r, 0, _, j, hj => by
    rw [List.flatMap_cons, List.getElem?_append_left (by simp [relC]; omega)]; simp
  | a :: r, i + 1, h, j, hj => by
    rw [List.flatMap_cons, List.getElem?_append_right (by simp [relC]; omega)]
    have := getR r i (by simpa using h) j hj
    simp only [List.getElem_cons_succ]
    rw [← this]
    congr 1
    simp [relC]; omega
theorem rowR {w : World} {base b cap n : Nat} {l : List Rel} (h : w.ownsRow base 161 5 (.slice (some ⟨b, 0, none⟩) n cap) l.length (l.flatMap relC)) : rowsR w b 0 l := by
  intro i hi
  rcases h.2 with ⟨e, _⟩ | ⟨g, cap', cur, e, hb, hg, h1, h2, h3, h4⟩
  · cases e
  · cases e
    have hc : ∀ j, j < 5 → w.cell? ⟨b, 0 + i * 5 + j, none⟩ = (relC l[i])[j]? := fun j hj => by
      rw [cell_at hg, ← getR l i hi j hj, ← h4, List.getElem?_take, if_pos (by have : (i + 1) * 5 ≤ l.length * 5 := Nat.mul_le_mul_right _ hi; omega), Array.getElem?_toList, Nat.zero_add]
    exact ⟨hc 0 (by omega), hc 1 (by omega), hc 2 (by omega), hc 3 (by omega), hc 4 (by omega)⟩
theorem Tryz.infoRL : (Tryz.prog.info? 161).map (fun i => (i.zero, i.size, i.bytes)) = some (some (.agg #[.int .i64 0, .int .i64 0, .int .i64 0, .int .i64 0, .int .i64 0]), 5, 40) := by kernel_rfl
def rowsI (w : World) (b off : Nat) (l : List Int) : Prop := ∀ (i : Nat) (h : i < l.length), w.cell? ⟨b, off + i, none⟩ = some (.int .i64 l[i])
theorem lenI (l : List Int) : (l.flatMap intC).length = l.length * 1 := by
  induction l with
  | nil => rfl
  | cons a r ih => simp only [List.flatMap_cons, List.length_append, ih, List.length_cons, intC, List.length_nil]; omega
theorem getI : ∀ (l : List Int) (i : Nat) (h : i < l.length) (j : Nat), j < 1 → (l.flatMap intC)[i * 1 + j]? = (intC l[i])[j]?
  | a :: r, 0, _, j, hj => by
    rw [List.flatMap_cons, List.getElem?_append_left (by simp [intC]; omega)]; simp
  | a :: r, i + 1, h, j, hj => by
    rw [List.flatMap_cons, List.getElem?_append_right (by simp [intC]; omega)]
    have := getI r i (by simpa using h) j hj
    simp only [List.getElem_cons_succ]
    rw [← this]
    congr 1
    simp [intC]
theorem rowI {w : World} {base b cap n : Nat} {l : List Int} (h : w.ownsRow base 3 1 (.slice (some ⟨b, 0, none⟩) n cap) l.length (l.flatMap intC)) : rowsI w b 0 l := by
  intro i hi
  rcases h.2 with ⟨e, _⟩ | ⟨g, cap', cur, e, hb, hg, h1, h2, h3, h4⟩
  · cases e
  · cases e
    have hc : ∀ j, j < 1 → w.cell? ⟨b, 0 + i * 1 + j, none⟩ = (intC l[i])[j]? := fun j hj => by
      rw [cell_at hg, ← getI l i hi j hj, ← h4, List.getElem?_take, if_pos (by have : (i + 1) * 1 ≤ l.length * 1 := Nat.mul_le_mul_right _ hi; omega), Array.getElem?_toList, Nat.zero_add]
    have := hc 0 (by omega); simpa [intC] using this
theorem Tryz.infoIL : (Tryz.prog.info? 3).map (fun i => (i.zero, i.size, i.bytes)) = some (some (.int .i64 0), 1, 8) := by kernel_rfl
set_option maxHeartbeats 2000000 in
theorem keepM_at (l : List Mem) (p : Mem → Bool) (g : Nat) (pre lb : Array Value) (b off cap : Nat) (w : World) (hb : b < w.heap.size) (hl : l.length ≤ 1000) (hrow : rowsM w b off l) (eg : ∀ args w, (callFunc g args).run Tryz.prog w = .ok (.enter g args) w)
    (hp : ∀ m W, Below w.heap.size w W → Calls Tryz.prog g (pre ++ #[.agg #[.int .i64 m.k.id, .int .i64 m.k.inc, .int .i64 m.k.st, .int .i64 m.due, .int .i64 m.sends]] ++ lb) W fun e w' => e = .returned (.bool (p m)) ∧ Below W.heap.size W w') :
    Calls Tryz.prog 94 #[.slice (some ⟨b, off, none⟩) l.length cap, .func (.func g) pre lb] w fun e w' => ∃ v', e = .returned v' ∧ w'.ownsRow w.heap.size 150 5 v' (l.filter p).length ((l.filter p).flatMap memC) ∧ Below w.heap.size w w' := by
  obtain ⟨ti, hti, hz0, hz1, hz2⟩ := info_parts Tryz.infoML
  have HP := hide hp
  clear hp
  go_enter Tryz.func94, Tryz.ntmps94
  go_wp2
  go_loopw [5, 10] (fun o i wr => ∃ k : Nat, k ≤ l.length ∧ i = .int .i64 k ∧ Hid (wr.ownsRow w.heap.size 150 5 o ((l.take k).filter p).length (((l.take k).filter p).flatMap memC)) ∧ Below w.heap.size w wr) (fun _ i _ => l.length - (Go.RowKit.intOf i).toNat)
  case atStart => exact ⟨0, Nat.zero_le _, rfl, ⟨rfl, .inl ⟨rfl, rfl⟩⟩, Below.refl _ _⟩
  case round =>
    rename_i o i
    obtain ⟨k, hk, rfl, HO, hbel⟩ := hrel
    by_cases hlt : k < l.length
    · have hrk := hrow k hlt
      have hsz := hbel.size
      have hfl : ((l.take k).filter p).length ≤ 1000 := Nat.le_trans (List.length_filter_le _ _) (by simp; omega)
      have hft : (l.take (k + 1)).filter p = (l.take k).filter p ++ (if p l[k] then [l[k]] else []) := by
        rw [List.take_succ_eq_append_getElem hlt, List.filter_append]; cases h : p l[k] <;> simp [h]
      have HFT := hide hft
      clear hft
      generalize l[k] = K at hrk HFT
      obtain ⟨c0, c1, c2, c3, c4⟩ := hrk
      have d0 := (hbel.cell (p := ⟨b, off + k * 5, none⟩) hb).trans c0
      have d1 := (hbel.cell (p := ⟨b, off + k * 5 + 1, none⟩) hb).trans c1
      have d2 := (hbel.cell (p := ⟨b, off + k * 5 + 2, none⟩) hb).trans c2
      have d3 := (hbel.cell (p := ⟨b, off + k * 5 + 3, none⟩) hb).trans c3
      have d4 := (hbel.cell (p := ⟨b, off + k * 5 + 4, none⟩) hb).trans c4
      clear c0 c1 c2 c3 c4
      cases hq : p K
      all_goals
        have HQ := hide hq
        clear hq
        have hB0 := hide (heap_alloc_new wr (.cells #[.int .i64 K.k.id, .int .i64 K.k.inc, .int .i64 K.k.st, .int .i64 K.due, .int .i64 K.sends] 150))
        go_wp2_with fail
        refine ((unhide HP) K _ (hbel.alloc hsz _)).mono ?_
        rw [unhide HQ]
        rintro e w1 ⟨rfl, hb1⟩
        have hbx := (hb1.block wr.heap.size (by simp)).trans (unhide hB0)
        clear hB0
        have e0 := cell_at hbx 0
        have e1 := cell_at hbx 1
        have e2 := cell_at hbx 2
        have e3 := cell_at hbx 3
        have e4 := cell_at hbx 4
        simp only [List.getElem?_toArray, List.getElem?_cons_zero, List.getElem?_cons_succ] at e0 e1 e2 e3 e4
        clear hbx
        have hbel1 : Below w.heap.size w w1 := (hbel.alloc (by have := hbel.size; omega) _).trans (hb1.mono (by simp; omega))
        have HO1 := hide (own_below2 (HO.out.alloc _) hb1)
        have HB := hide hbel1
        have hs1 := hbel1.size
        clear hb1 hbel1 d0 d1 d2 d3 d4 HO
      · go_wp2
        go_roundw
        case rel =>
          refine ⟨k + 1, by omega, by go_num, ?_, unhide HB⟩
          rw [unhide HFT, unhide HQ]
          exact hide (by simpa using unhide HO1)
        case measure => simp [Go.RowKit.intOf]; omega
      · go_wp2_with (at_builtin; refine wpList_append_own _ rfl _ _ 163 rfl w.heap.size 150 ti (.agg #[.int .i64 0, .int .i64 0, .int .i64 0, .int .i64 0, .int .i64 0]) 5 40 Tryz.underlying163 hti hz0 hz1 hz2 rfl (by decide) _ _ _ rfl ((unhide HO1).alloc _) ⟨w1.heap.size, 0, none⟩ 1 1 [.int .i64 K.k.id, .int .i64 K.k.inc, .int .i64 K.k.st, .int .i64 K.due, .int .i64 K.sends] rfl rfl ?c1 ?c2 ?c3 ?c4 ?c5 ?_)
        case c1 => exact World.news_of_block (heap_alloc_new w1 _)
        case c2 => intro u hu; simp at hu; rcases hu with rfl | rfl | rfl | rfl | rfl <;> rfl
        case c3 => unfold maxLen; omega
        case c4 => omega
        case c5 => simp; omega
        intro v' w2 hown' hgrow _
        have hbel2 : Below w.heap.size w w2 := ((unhide HB).alloc hs1 _).grown hgrow (by simp; omega) (fun j hj => (own_lt (unhide HO1) hj).1)
        have HO2 := hide hown'
        have HB2 := hide hbel2
        clear hown' hgrow hbel2
        go_wp2
        go_roundw
        case rel =>
          refine ⟨k + 1, by omega, by go_num, ?_, unhide HB2⟩
          rw [unhide HFT, unhide HQ]
          exact hide (by simpa [memC] using unhide HO2)
        case measure => simp [Go.RowKit.intOf]; omega
    · have e : k = l.length := by omega
      rw [e, List.take_length] at HO
      go_wp2
      go_ret
      exact ⟨_, rfl, HO.out, hbel⟩
theorem keepM_nil (p : Mem → Bool) (fv : Value) (w : World) : Calls Tryz.prog 94 #[.slice none 0 0, fv] w fun e w' => ∃ v', e = .returned v' ∧ w'.ownsRow w.heap.size 150 5 v' (([] : List Mem).filter p).length ((([] : List Mem).filter p).flatMap memC) ∧ Below w.heap.size w w' := by
  go_enter Tryz.func94, Tryz.ntmps94
  go_wp2
  refine wp_loop_rounds 1 ?_
  rw [rounds_succ]
  go_wp2
  go_ret
  exact ⟨_, rfl, ⟨rfl, .inl ⟨rfl, rfl⟩⟩, Below.refl _ _⟩
theorem keepM_any (l : List Mem) (p : Mem → Bool) (g : Nat) (pre lb : Array Value) {v : Value} {w : World} {base : Nat} (hv : w.ownsRow base 150 5 v l.length (l.flatMap memC)) (hl : l.length ≤ 1000) (eg : ∀ args w, (callFunc g args).run Tryz.prog w = .ok (.enter g args) w)
    (hp : ∀ m W, Below w.heap.size w W → Calls Tryz.prog g (pre ++ #[.agg #[.int .i64 m.k.id, .int .i64 m.k.inc, .int .i64 m.k.st, .int .i64 m.due, .int .i64 m.sends]] ++ lb) W fun e w' => e = .returned (.bool (p m)) ∧ Below W.heap.size W w') :
    Calls Tryz.prog 94 #[v, .func (.func g) pre lb] w fun e w' => ∃ v', e = .returned v' ∧ w'.ownsRow w.heap.size 150 5 v' (l.filter p).length ((l.filter p).flatMap memC) ∧ Below w.heap.size w w' := by
  have hv0 := hv
  rcases hv.2 with ⟨rfl, h0⟩ | ⟨b, cap, cur, rfl, hb, hg, _⟩
  · obtain rfl : l = [] := List.length_eq_zero_iff.1 h0
    exact keepM_nil p _ w
  · exact keepM_at l p g pre lb b 0 cap w (lt_blk hg) hl (rowM hv0) eg hp
set_option maxHeartbeats 2000000 in
theorem keepR_at (l : List Rel) (p : Rel → Bool) (g : Nat) (pre lb : Array Value) (b off cap : Nat) (w : World) (hb : b < w.heap.size) (hl : l.length ≤ 1000) (hrow : rowsR w b off l) (eg : ∀ args w, (callFunc g args).run Tryz.prog w = .ok (.enter g args) w)
    (hp : ∀ m W, Below w.heap.size w W → Calls Tryz.prog g (pre ++ #[.agg #[.int .i64 m.tgt, .int .i64 m.num, .int .i64 m.asker, .int .i64 m.under, .int .i64 m.till]] ++ lb) W fun e w' => e = .returned (.bool (p m)) ∧ Below W.heap.size W w') :
    Calls Tryz.prog 127 #[.slice (some ⟨b, off, none⟩) l.length cap, .func (.func g) pre lb] w fun e w' => ∃ v', e = .returned v' ∧ w'.ownsRow w.heap.size 161 5 v' (l.filter p).length ((l.filter p).flatMap relC) ∧ Below w.heap.size w w' := by
  obtain ⟨ti, hti, hz0, hz1, hz2⟩ := info_parts Tryz.infoRL
  have HP := hide hp
  clear hp
  go_enter Tryz.func127, Tryz.ntmps127
  go_wp2
  go_loopw [5, 10] (fun o i wr => ∃ k : Nat, k ≤ l.length ∧ i = .int .i64 k ∧ Hid (wr.ownsRow w.heap.size 161 5 o ((l.take k).filter p).length (((l.take k).filter p).flatMap relC)) ∧ Below w.heap.size w wr) (fun _ i _ => l.length - (Go.RowKit.intOf i).toNat)
  case atStart => exact ⟨0, Nat.zero_le _, rfl, ⟨rfl, .inl ⟨rfl, rfl⟩⟩, Below.refl _ _⟩
  case round =>
    rename_i o i
    obtain ⟨k, hk, rfl, HO, hbel⟩ := hrel
    by_cases hlt : k < l.length
    · have hrk := hrow k hlt
      have hsz := hbel.size
      have hfl : ((l.take k).filter p).length ≤ 1000 := Nat.le_trans (List.length_filter_le _ _) (by simp; omega)
      have hft : (l.take (k + 1)).filter p = (l.take k).filter p ++ (if p l[k] then [l[k]] else []) := by
        rw [List.take_succ_eq_append_getElem hlt, List.filter_append]; cases h : p l[k] <;> simp [h]
      have HFT := hide hft
      clear hft
      generalize l[k] = K at hrk HFT
      obtain ⟨c0, c1, c2, c3, c4⟩ := hrk
      have d0 := (hbel.cell (p := ⟨b, off + k * 5, none⟩) hb).trans c0
      have d1 := (hbel.cell (p := ⟨b, off + k * 5 + 1, none⟩) hb).trans c1
      have d2 := (hbel.cell (p := ⟨b, off + k * 5 + 2, none⟩) hb).trans c2
      have d3 := (hbel.cell (p := ⟨b, off + k * 5 + 3, none⟩) hb).trans c3
      have d4 := (hbel.cell (p := ⟨b, off + k * 5 + 4, none⟩) hb).trans c4
      clear c0 c1 c2 c3 c4
      cases hq : p K
      all_goals
        have HQ := hide hq
        clear hq
        have hB0 := hide (heap_alloc_new wr (.cells #[.int .i64 K.tgt, .int .i64 K.num, .int .i64 K.asker, .int .i64 K.under, .int .i64 K.till] 161))
        go_wp2_with fail
        refine ((unhide HP) K _ (hbel.alloc hsz _)).mono ?_
        rw [unhide HQ]
        rintro e w1 ⟨rfl, hb1⟩
        have hbx := (hb1.block wr.heap.size (by simp)).trans (unhide hB0)
        clear hB0
        have e0 := cell_at hbx 0
        have e1 := cell_at hbx 1
        have e2 := cell_at hbx 2
        have e3 := cell_at hbx 3
        have e4 := cell_at hbx 4
        simp only [List.getElem?_toArray, List.getElem?_cons_zero, List.getElem?_cons_succ] at e0 e1 e2 e3 e4
        clear hbx
        have hbel1 : Below w.heap.size w w1 := (hbel.alloc (by have := hbel.size; omega) _).trans (hb1.mono (by simp; omega))
        have HO1 := hide (own_below2 (HO.out.alloc _) hb1)
        have HB := hide hbel1
        have hs1 := hbel1.size
        clear hb1 hbel1 d0 d1 d2 d3 d4 HO
      · go_wp2
        go_roundw
        case rel =>
          refine ⟨k + 1, by omega, by go_num, ?_, unhide HB⟩
          rw [unhide HFT, unhide HQ]
          exact hide (by simpa using unhide HO1)
        case measure => simp [Go.RowKit.intOf]; omega
      · go_wp2_with (at_builtin; refine wpList_append_own _ rfl _ _ 120 rfl w.heap.size 161 ti (.agg #[.int .i64 0, .int .i64 0, .int .i64 0, .int .i64 0, .int .i64 0]) 5 40 Tryz.underlying120 hti hz0 hz1 hz2 rfl (by decide) _ _ _ rfl ((unhide HO1).alloc _) ⟨w1.heap.size, 0, none⟩ 1 1 [.int .i64 K.tgt, .int .i64 K.num, .int .i64 K.asker, .int .i64 K.under, .int .i64 K.till] rfl rfl ?c1 ?c2 ?c3 ?c4 ?c5 ?_)
        case c1 => exact World.news_of_block (heap_alloc_new w1 _)
        case c2 => intro u hu; simp at hu; rcases hu with rfl | rfl | rfl | rfl | rfl <;> rfl
        case c3 => unfold maxLen; omega
        case c4 => omega
        case c5 => simp; omega
        intro v' w2 hown' hgrow _
        have hbel2 : Below w.heap.size w w2 := ((unhide HB).alloc hs1 _).grown hgrow (by simp; omega) (fun j hj => (own_lt (unhide HO1) hj).1)
        have HO2 := hide hown'
        have HB2 := hide hbel2
        clear hown' hgrow hbel2
        go_wp2
        go_roundw
        case rel =>
          refine ⟨k + 1, by omega, by go_num, ?_, unhide HB2⟩
          rw [unhide HFT, unhide HQ]
          exact hide (by simpa [relC] using unhide HO2)
        case measure => simp [Go.RowKit.intOf]; omega
    · have e : k = l.length := by omega
      rw [e, List.take_length] at HO
      go_wp2
      go_ret
      exact ⟨_, rfl, HO.out, hbel⟩
theorem keepR_nil (p : Rel → Bool) (fv : Value) (w : World) : Calls Tryz.prog 127 #[.slice none 0 0, fv] w fun e w' => ∃ v', e = .returned v' ∧ w'.ownsRow w.heap.size 161 5 v' (([] : List Rel).filter p).length ((([] : List Rel).filter p).flatMap relC) ∧ Below w.heap.size w w' := by
  go_enter Tryz.func127, Tryz.ntmps127
  go_wp2
  refine wp_loop_rounds 1 ?_
  rw [rounds_succ]
  go_wp2
  go_ret
  exact ⟨_, rfl, ⟨rfl, .inl ⟨rfl, rfl⟩⟩, Below.refl _ _⟩
theorem keepR_any (l : List Rel) (p : Rel → Bool) (g : Nat) (pre lb : Array Value) {v : Value} {w : World} {base : Nat} (hv : w.ownsRow base 161 5 v l.length (l.flatMap relC)) (hl : l.length ≤ 1000) (eg : ∀ args w, (callFunc g args).run Tryz.prog w = .ok (.enter g args) w)
    (hp : ∀ m W, Below w.heap.size w W → Calls Tryz.prog g (pre ++ #[.agg #[.int .i64 m.tgt, .int .i64 m.num, .int .i64 m.asker, .int .i64 m.under, .int .i64 m.till]] ++ lb) W fun e w' => e = .returned (.bool (p m)) ∧ Below W.heap.size W w') :
    Calls Tryz.prog 127 #[v, .func (.func g) pre lb] w fun e w' => ∃ v', e = .returned v' ∧ w'.ownsRow w.heap.size 161 5 v' (l.filter p).length ((l.filter p).flatMap relC) ∧ Below w.heap.size w w' := by
  have hv0 := hv
  rcases hv.2 with ⟨rfl, h0⟩ | ⟨b, cap, cur, rfl, hb, hg, _⟩
  · obtain rfl : l = [] := List.length_eq_zero_iff.1 h0
    exact keepR_nil p _ w
  · exact keepR_at l p g pre lb b 0 cap w (lt_blk hg) hl (rowR hv0) eg hp
set_option maxHeartbeats 2000000 in
theorem keepI_at (l : List Int) (p : Int → Bool) (g : Nat) (pre lb : Array Value) (b off cap : Nat) (w : World) (hb : b < w.heap.size) (hl : l.length ≤ 1000) (hrow : rowsI w b off l) (eg : ∀ args w, (callFunc g args).run Tryz.prog w = .ok (.enter g args) w)
    (hp : ∀ m W, Below w.heap.size w W → Calls Tryz.prog g (pre ++ #[.int .i64 m] ++ lb) W fun e w' => e = .returned (.bool (p m)) ∧ Below W.heap.size W w') :
    Calls Tryz.prog 164 #[.slice (some ⟨b, off, none⟩) l.length cap, .func (.func g) pre lb] w fun e w' => ∃ v', e = .returned v' ∧ w'.ownsRow w.heap.size 3 1 v' (l.filter p).length ((l.filter p).flatMap intC) ∧ Below w.heap.size w w' := by
  obtain ⟨ti, hti, hz0, hz1, hz2⟩ := info_parts Tryz.infoIL
  have HP := hide hp
  clear hp
  go_enter Tryz.func164, Tryz.ntmps164
  go_wp2
  go_loopw [5, 10] (fun o i wr => ∃ k : Nat, k ≤ l.length ∧ i = .int .i64 k ∧ Hid (wr.ownsRow w.heap.size 3 1 o ((l.take k).filter p).length (((l.take k).filter p).flatMap intC)) ∧ Below w.heap.size w wr) (fun _ i _ => l.length - (Go.RowKit.intOf i).toNat)
  case atStart => exact ⟨0, Nat.zero_le _, rfl, ⟨rfl, .inl ⟨rfl, rfl⟩⟩, Below.refl _ _⟩
  case round =>
    rename_i o i
    obtain ⟨k, hk, rfl, HO, hbel⟩ := hrel
    by_cases hlt : k < l.length
    · have hrk := hrow k hlt
      have hsz := hbel.size
      have hfl : ((l.take k).filter p).length ≤ 1000 := Nat.le_trans (List.length_filter_le _ _) (by simp; omega)
      have hft : (l.take (k + 1)).filter p = (l.take k).filter p ++ (if p l[k] then [l[k]] else []) := by
        rw [List.take_succ_eq_append_getElem hlt, List.filter_append]; cases h : p l[k] <;> simp [h]
      have HFT := hide hft
      clear hft
      generalize l[k] = K at hrk HFT
      have c0 := hrk
      clear hrk
      have d0 := (hbel.cell (p := ⟨b, off + k, none⟩) hb).trans c0
      clear c0
      cases hq : p K
      all_goals
        have HQ := hide hq
        clear hq
        go_wp2_with fail
        refine ((unhide HP) K _ (hbel)).mono ?_
        rw [unhide HQ]
        rintro e w1 ⟨rfl, hb1⟩
        have hbel1 : Below w.heap.size w w1 := hbel.trans (hb1.mono hbel.size)
        have HO1 := hide (own_below2 HO.out hb1)
        have HB := hide hbel1
        have hs1 := hbel1.size
        clear hb1 hbel1 d0 HO
      · go_wp2
        go_roundw
        case rel =>
          refine ⟨k + 1, by omega, by go_num, ?_, unhide HB⟩
          rw [unhide HFT, unhide HQ]
          exact hide (by simpa using unhide HO1)
        case measure => simp [Go.RowKit.intOf]; omega
      · go_wp2_with (at_builtin; refine wpList_append_own _ rfl _ _ 24 rfl w.heap.size 3 ti (.int .i64 0) 1 8 Tryz.underlying24 hti hz0 hz1 hz2 rfl (by decide) _ _ _ rfl ((unhide HO1).alloc _) ⟨w1.heap.size, 0, none⟩ 1 1 [.int .i64 K] rfl rfl ?c1 ?c2 ?c3 ?c4 ?c5 ?_)
        case c1 => exact World.news_of_block (heap_alloc_new w1 _)
        case c2 => intro u hu; simp at hu; subst hu; rfl
        case c3 => unfold maxLen; omega
        case c4 => omega
        case c5 => simp; omega
        intro v' w2 hown' hgrow _
        have hbel2 : Below w.heap.size w w2 := ((unhide HB).alloc hs1 _).grown hgrow (by simp; omega) (fun j hj => (own_lt (unhide HO1) hj).1)
        have HO2 := hide hown'
        have HB2 := hide hbel2
        clear hown' hgrow hbel2
        go_wp2
        go_roundw
        case rel =>
          refine ⟨k + 1, by omega, by go_num, ?_, unhide HB2⟩
          rw [unhide HFT, unhide HQ]
          exact hide (by simpa [intC] using unhide HO2)
        case measure => simp [Go.RowKit.intOf]; omega
    · have e : k = l.length := by omega
      rw [e, List.take_length] at HO
      go_wp2
      go_ret
      exact ⟨_, rfl, HO.out, hbel⟩
theorem keepI_nil (p : Int → Bool) (fv : Value) (w : World) : Calls Tryz.prog 164 #[.slice none 0 0, fv] w fun e w' => ∃ v', e = .returned v' ∧ w'.ownsRow w.heap.size 3 1 v' (([] : List Int).filter p).length ((([] : List Int).filter p).flatMap intC) ∧ Below w.heap.size w w' := by
  go_enter Tryz.func164, Tryz.ntmps164
  go_wp2
  refine wp_loop_rounds 1 ?_
  rw [rounds_succ]
  go_wp2
  go_ret
  exact ⟨_, rfl, ⟨rfl, .inl ⟨rfl, rfl⟩⟩, Below.refl _ _⟩
theorem keepI_any (l : List Int) (p : Int → Bool) (g : Nat) (pre lb : Array Value) {v : Value} {w : World} (hv : PassAt w v l) (hl : l.length ≤ 1000) (eg : ∀ args w, (callFunc g args).run Tryz.prog w = .ok (.enter g args) w)
    (hp : ∀ m W, Below w.heap.size w W → Calls Tryz.prog g (pre ++ #[.int .i64 m] ++ lb) W fun e w' => e = .returned (.bool (p m)) ∧ Below W.heap.size W w') :
    Calls Tryz.prog 164 #[v, .func (.func g) pre lb] w fun e w' => ∃ v', e = .returned v' ∧ w'.ownsRow w.heap.size 3 1 v' (l.filter p).length ((l.filter p).flatMap intC) ∧ Below w.heap.size w w' := by
  rcases hv with ⟨rfl, rfl⟩ | ⟨b, off, cap, cs, rfl, hg, _, _, hr⟩
  · exact keepI_nil p _ w
  · exact keepI_at l p g pre lb b off cap w (lt_blk hg) hl (fun i hi => (cell_at hg (off + i)).trans (hr i hi)) eg hp
end Go.Proofs.YtnneljcbelgoeaaGreatDoor.wire
