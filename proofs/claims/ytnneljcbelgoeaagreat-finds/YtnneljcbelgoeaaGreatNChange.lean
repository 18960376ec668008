import Derived.Test.YtnneljcbelgoeaaGreatNStep
import Derived.StillTailTactics
/- change: a key into the table, an event, an update (P6). -/
namespace Go.Proofs.YtnneljcbelgoeaaGreat.wire
open Go.RowKit Go.Maps Go.Conc

theorem key_bounds {k : K3} (h : isKeyB k = true) : (1 ≤ k.id ∧ k.id ≤ 250) ∧ (1 ≤ k.inc ∧ k.inc ≤ 1073741824) ∧ (1 ≤ k.st ∧ k.st ≤ 4) := by
  simp only [isKeyB, Bool.and_eq_true] at h
  exact ⟨isId_of h.1, isInc_of h.2.1, isSt_of h.2.2⟩
theorem NdOk.cfgs {x : Nd} (h : NdOk x) : (1 ≤ x.c.self ∧ x.c.self ≤ 250) ∧ (4 ≤ x.c.period ∧ x.c.period ≤ 50) ∧ (1 ≤ x.c.suspect ∧ x.c.suspect ≤ 500) ∧ (1 ≤ x.c.sends ∧ x.c.sends ≤ 8) := by
  have := h.cfg
  simp only [cfgB, Bool.and_eq_true, decide_eq_true_eq] at this
  exact ⟨isId_of this.1, this.2.1, this.2.2.2.1, this.2.2.2.2.2⟩
set_option maxHeartbeats 400000 in
set_option maxRecDepth 100000 in
theorem change_any {x : Nd} (hx : NdOk x) {nb mb : Nat} {cb : Dk} {pv rv : Value} {W : World} (hn : NAt W nb mb cb pv rv x) (k : K3) (hk : isKeyB k = true) (hc0 : 0 ≤ x.clock) (hc1 : x.clock ≤ 1000000000000) (hl0 : 0 ≤ x.lost) (hl1 : x.lost ≤ 1000000000000) :
    Calls Tryz.prog 76 #[.pointer (some ⟨nb, 0, none⟩), .agg #[.int .i64 k.id, .int .i64 k.inc, .int .i64 k.st]] W fun e w' => e = .returned (.tuple #[]) ∧ NAt w' nb mb cb pv rv (x.change k) ∧ Frm [nb, mb, cb] W w' := by
  have HX := hide hx
  obtain ⟨⟨k1, k2⟩, _⟩ := key_bounds hk
  obtain ⟨_, _, ⟨s1, s2⟩, _⟩ := hx.cfgs
  clear hx hk
  have hn1 := (hn.alloc (.cells #[.int .i64 k.id, .int .i64 k.inc, .int .i64 k.st] 31)).drew
  have hf1 : Frm [nb, mb, cb] W (W.alloc (.cells #[.int .i64 k.id, .int .i64 k.inc, .int .i64 k.st] 31)).drew := Frm.of_below ((Below.refl _ _).alloc (Nat.le_refl _) _).drew (Nat.le_refl _)
  have hbx : (W.alloc (.cells #[.int .i64 k.id, .int .i64 k.inc, .int .i64 k.st] 31)).drew.heap[W.heap.size]? = some (.cells #[.int .i64 k.id, .int .i64 k.inc, .int .i64 k.st] 31 (0, 0)) := heap_alloc_new W _
  obtain ⟨w1, hrun, hown, hg⟩ := hn1.map.update law Tryz.underlying64 (key := .int .i64 k.id) (val := memv ⟨k, x.clock + x.c.suspect, x.c.sends⟩) (by have := (unhide HX).len; unfold maxLen; omega) (key_wf (by omega) (by omega)) (d := .held (memv ⟨k, x.clock + x.c.suspect, x.c.sends⟩)) (ps := []) rfl
  have hn2 := hn1.put (unhide HX).rise ⟨k, x.clock + x.c.suspect, x.c.sends⟩ hown hg
  have hf2 : Frm [nb, mb, cb] W w1 := hf1.trans (Frm.of_grown (S := [mb]) hg (fun j hj => by simp at hj; simp [hj])) (by simp)
  have hb2 : w1.heap[W.heap.size]? = some (.cells #[.int .i64 k.id, .int .i64 k.inc, .int .i64 k.st] 31 (0, 0)) := (hg.block W.heap.size (by simp) (by have := hn.lt_mb; simp; omega)).trans hbx
  have a0 := hn.c_map
  have a1 := hn.c_clock
  have a2 := hn.c_suspect
  have a3 := hn.c_sends
  have hlt := hn.lt
  simp only [memv] at hrun
  have HN := hide hn2
  have HF := hide hf2
  have HB := hide hb2
  clear hn hn1 hn2 hf1 hf2 hb2 hbx hown hg
  refine calls_lone Tryz.func76 rfl (by rintro _ ⟨h, _⟩; cases h) (fun cs b hbf hbk => ?_)
  simp only [Tryz.ntmps76, List.size_toArray, List.length_cons, List.length_nil, Nat.reduceAdd, Nat.reduceSub, Array.replicate_succ, Array.replicate_zero, List.push_toArray, List.append_toArray, List.nil_append, List.cons_append]
  refine lone_seq ?_
  go_wp2
  refine lone_seq ?_
  refine wp_region_still_tail 23 (by kernel_rfl) (by kernel_rfl) ?_
  simp only [List.take_succ_cons, List.take_zero, List.drop_succ_cons, List.drop_zero]
  change wpStill _ _ (W.alloc (.cells #[.int .i64 k.id, .int .i64 k.inc, .int .i64 k.st] 31)).drew (fun a' => wpList _ _ _ _ a' (W.alloc (.cells #[.int .i64 k.id, .int .i64 k.inc, .int .i64 k.st] 31)).drew) _ _
  repeat still_step
  refine wpStill_nil ?_
  go_wp2
  rw [hrun]
  go_wp2
  clear hrun
  have hn2 := unhide HN
  have b0 := hn2.c_evs
  have b1 := hn2.c_lost
  have b2 := free_at hn2.blk 18
  obtain ⟨s, r, hch⟩ := hn2.chan
  have HC := hide hch
  have d0 := cell_at (unhide HB) 0
  have d1 := cell_at (unhide HB) 1
  have d2 := cell_at (unhide HB) 2
  simp only [List.getElem?_toArray, List.getElem?_cons_zero, List.getElem?_cons_succ] at d0 d1 d2
  clear hn2 hch
  refine lone_seq ?_
  go_wp2
  refine lone_split ?_
  by_cases hroom : x.evs.length < 8
  · refine lone_send_room (val := kval k) (z := .agg #[.int .i64 0, .int .i64 0, .int .i64 0]) (by rw [hbk]; decide) rfl rfl (by simp [go_sem, execOp, scase, Act.eval]) (unhide HC) (by simpa using hroom) ?_
    go_wp2
    refine lone_last Tryz.func76 hbf hbk (by rintro _ ⟨h, _⟩; cases h) ?_
    go_wp2
    go_end0
    obtain ⟨e1, e2⟩ := (unhide HN).event (x.evs ++ [k]) (buf := (List.map kval x.evs ++ [kval k]).toArray) (by simp) (s + 1) r
    refine ⟨rfl, ?_, (unhide HF).trans e2 (by simp)⟩
    have : x.change k = { x with tab := putM ⟨k, x.clock + x.c.suspect, x.c.sends⟩ x.tab, evs := x.evs ++ [k] } := by simp [Nd.change, hroom]
    rw [this]
    exact e1
  · refine lone_send_full (val := kval k) (z := .agg #[.int .i64 0, .int .i64 0, .int .i64 0]) (by rw [hbk]; decide) rfl rfl (by simp [go_sem, execOp, scase, Act.eval]) (unhide HC) (by simp; omega) ?_
    go_wp2
    refine lone_last Tryz.func76 hbf hbk (by rintro _ ⟨h, _⟩; cases h) ?_
    go_wp2
    go_end0
    obtain ⟨e1, e2⟩ := (unhide HN).set 18 (.int .i64 (x.lost + 1)) (x' := { x with tab := putM ⟨k, x.clock + x.c.suspect, x.c.sends⟩ x.tab, lost := x.lost + 1 }) rfl rfl rfl rfl rfl
    refine ⟨rfl, ?_, (unhide HF).trans e2 (by simp)⟩
    have : x.change k = { x with tab := putM ⟨k, x.clock + x.c.suspect, x.c.sends⟩ x.tab, lost := x.lost + 1 } := by simp [Nd.change, hroom]
    rw [this]
    exact e1
end Go.Proofs.YtnneljcbelgoeaaGreat.wire
