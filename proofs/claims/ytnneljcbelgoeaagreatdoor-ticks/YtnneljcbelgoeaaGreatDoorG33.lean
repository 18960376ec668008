import Derived.Test.YtnneljcbelgoeaaGreatDoorG32
import Derived.Deep.RegionHeld3
import Derived.Deep.RegionWith
import Derived.Outline
/- The document's node: a ping for another one (P7). -/
namespace Go.Proofs.YtnneljcbelgoeaaGreatDoor.wire
open Go.RowKit Go.Maps

/-- What stands behind the new relay. -/
theorem asked_frm {w2 w3 : World} {b B n lc : Nat} {lo : Option Addr} {v2 : Rv} {r2 : Rn} {o : Obj} (hlv : v2.l = .slice lo n lc) (h : RAt w2 b v2 r2) (hg : (w2.alloc o).drew.grownBy w3 (Value.slice lo n lc).ownBlock) (hb : b ∉ v2.l.ownBlock.toList) (hB : B ∉ rfeet b v2) (hlB : B < w2.heap.size) :
    Frm v2.l.ownBlock.toList w2 w3 ∧ (w3.cell? ⟨b, 20, none⟩ = w2.cell? ⟨b, 20, none⟩) ∧ (w3.cell? ⟨b, 8, none⟩ = w2.cell? ⟨b, 8, none⟩) ∧ (w3.cell? ⟨b, 1, none⟩ = w2.cell? ⟨b, 1, none⟩) ∧ (w3.cell? ⟨B, 1, none⟩ = w2.cell? ⟨B, 1, none⟩) ∧ (w3.cell? ⟨B, 3, none⟩ = w2.cell? ⟨B, 3, none⟩) ∧ (w3.cell? ⟨B, 4, none⟩ = w2.cell? ⟨B, 4, none⟩) := by
  have hf : Frm v2.l.ownBlock.toList w2 w3 := hlv ▸ (Frm.of_below (bdrew ((Below.refl _ _).alloc (Nat.le_refl _) _)) (Nat.le_refl _)).trans (frm_grown hg) (fun j hj => .inl hj)
  have e1 := hf.block b h.ltb hb
  have e2 := hf.block B hlB (fun hm => hB (by simp only [rfeet, Rv.all, List.mem_cons, List.mem_append]; simp [hm]))
  refine ⟨hf, ?_, ?_, ?_, ?_, ?_, ?_⟩ <;> simp [World.cell?, e1, e2]
set_option maxHeartbeats 2000000 in
set_option maxRecDepth 100000 in
theorem rasked_any {W : World} {b : Nat} {v : Rv} {r : Rn} (h : RAt W b v r) (ho : r.out.length ≤ 1000) (hq : r.queue.length ≤ 1000) (hs : ∀ u ∈ r.queue, -1000000 ≤ u.sent ∧ u.sent ≤ 1000000) (hr4 : r.rels.length ≤ 4) (hsq : 0 ≤ r.seq ∧ r.seq ≤ 1000000000000) (hcl : 0 ≤ r.clock ∧ r.clock ≤ 1000000000000) (hpd : 0 ≤ r.c.period ∧ r.c.period ≤ 1000) (m : M6) (vu : Value) (huv : ∃ ao n c, vu = .slice ao n c)
    (hwA : m.tgt = r.self.id → wholeB ⟨2, r.self.id, r.self.inc, m.seq, r.self.id, r.updates.1⟩ = true) (hwP : wholeB ⟨1, r.self.id, r.self.inc, r.seq + 1, m.tgt, r.updates.1⟩ = true) :
    Calls Tryz.prog 87 #[.pointer (some ⟨b, 0, none⟩), mval m vu] W fun e w' => e = .returned (.tuple #[]) ∧ RTo W w' b v (r.askd m) := by
  obtain ⟨ua, un, uc, rfl⟩ := huv
  have h0 := h.alloc (.cells #[.int .i64 m.kind, .int .i64 m.frm, .int .i64 m.inc, .int .i64 m.seq, .int .i64 m.tgt, .slice ua un uc] 33)
  have hb0 := (Below.refl W.heap.size W).alloc (Nat.le_refl _) (.cells #[.int .i64 m.kind, .int .i64 m.frm, .int .i64 m.inc, .int .i64 m.seq, .int .i64 m.tgt, .slice ua un uc] 33)
  have hx0 : (W.alloc (.cells #[.int .i64 m.kind, .int .i64 m.frm, .int .i64 m.inc, .int .i64 m.seq, .int .i64 m.tgt, .slice ua un uc] 33)).heap[W.heap.size]? = some (.cells #[.int .i64 m.kind, .int .i64 m.frm, .int .i64 m.inc, .int .i64 m.seq, .int .i64 m.tgt, .slice ua un uc] 33 (0, 0)) := heap_alloc_new W _
  have HNF := hide (fun hm => by have := h.lt hm; omega : W.heap.size ∉ rfeet b v)
  generalize hw1 : W.alloc (.cells #[.int .i64 m.kind, .int .i64 m.frm, .int .i64 m.inc, .int .i64 m.seq, .int .i64 m.tgt, .slice ua un uc] 33) = w1 at h0 hb0 hx0
  have c10 := h0.cell 10
  have k1 := cell_at hx0 1
  have k3 := cell_at hx0 3
  have k4 := cell_at hx0 4
  have hlt := h0.ltb
  have hltk := lt_blk hx0
  simp only [refC, List.getElem?_toArray, List.getElem?_cons_zero, List.getElem?_cons_succ] at c10 k1 k3 k4
  have H0 := hide h0
  have HB0 := hide hb0
  have HX0 := hide hx0
  have HQS := hide hs
  have HDF : Hid (r.askd m = if m.tgt = r.self.id then r.direct m.frm 2 m.seq r.self.id else if r.rels.length = 4 then r else ({ r with seq := r.seq + 1, rels := r.rels ++ [⟨m.tgt, r.seq + 1, m.frm, m.seq, r.clock + r.c.period⟩] } : Rn).direct m.tgt 1 (r.seq + 1) m.tgt) := hide rfl
  by_cases hid : m.tgt = r.self.id
  · have HSD := hide (fun q => rsend_direct ((unhide H0).drewN q).drew ho hq (unhide HQS) m.frm 2 m.seq r.self.id (by omega) (hwA hid))
    have HE : Hid (r.askd m = r.direct m.frm 2 m.seq r.self.id) := hide (by rw [unhide HDF, if_pos hid])
    have hid' : (m.tgt == r.self.id) = true := by simp [hid]
    clear h h0 hb0 hx0 hwA hwP HDF hid hs
    go_enter Tryz.func87, Tryz.ntmps87
    go_wp2
    go_quiet (fail)
    go_wp2_with fail
    go_region_with (go_at_call 62; refine (unhide HSD _).mono ?_; rintro e w3 ⟨rfl, h3⟩)
    all_goals
      have HT := hide (RTo.from (unhide HB0) (RTo.from (bdrew (bdrewN (Below.refl _ _) _)) h3))
      clear h3
      go_wp2
      refine bodyPost_ret (results_none rfl _ _ _) rfl ?_
      rw [unhide HE]
      exact ⟨rfl, unhide HT⟩
  have hid' : (m.tgt == r.self.id) = false := by simp [hid]
  obtain ⟨lo, lc, hlv, _⟩ := row_form h0.rows.l
  have c20 := h0.cell 20
  simp only [refC, List.getElem?_toArray, List.getElem?_cons_zero, List.getElem?_cons_succ, hlv] at c20
  by_cases h4 : r.rels.length = 4
  · have HE : Hid (r.askd m = r) := hide (by rw [unhide HDF, if_neg hid, if_pos h4])
    rw [h4] at c20
    have HH := hide h4
    clear h h0 hb0 hx0 hwA hwP HDF hid hs h4
    go_enter Tryz.func87, Tryz.ntmps87
    go_wp2
    go_quiet (fail)
    go_wp2
    refine bodyPost_ret (results_none rfl _ _ _) rfl ?_
    rw [unhide HE]
    exact ⟨rfl, RTo.from (unhide HB0) (RTo.same (unhide H0) (bdrewN (Below.refl _ _) _))⟩
  have h4' : ((r.rels.length : Int) == 4) = false := by rw [beq_eq_false_iff_ne]; omega
  have HE : Hid (r.askd m = ({ r with seq := r.seq + 1, rels := r.rels ++ [⟨m.tgt, r.seq + 1, m.frm, m.seq, r.clock + r.c.period⟩] } : Rn).direct m.tgt 1 (r.seq + 1) m.tgt) := hide (by rw [unhide HDF, if_neg hid, if_neg h4])
  have HN := hide (fun q => rnext_any ((unhide H0).drewN q) hsq)
  have HWP := hide hwP
  clear h h0 hb0 hx0 hwA hwP HDF hid hs hlv
  go_enter Tryz.func87, Tryz.ntmps87
  go_wp2
  go_quiet (fail)
  go_wp2_with fail
  clear hw1
  refine (unhide HN _).mono ?_
  rintro e w2 ⟨rfl, h2⟩
  obtain ⟨v2, hd2, ha2, hf2, hs2⟩ := RTo.from (bdrewN (Below.refl w1.heap.size w1) _) h2
  have hx2 := (hf2.block _ hltk (unhide HNF)).trans (unhide HX0)
  obtain ⟨lo2, lc2, hlv2, _⟩ := row_form ha2.rows.l
  have HOL := hide (hlv2 ▸ ha2.rows.l : w2.ownsRow 0 132 5 (.slice lo2 r.rels.length lc2) r.rels.length (r.rels.flatMap rrC))
  have d20 := ha2.cell 20
  have d8 := ha2.cell 8
  have d1 := ha2.cell 1
  have i1 := cell_at hx2 1
  have i3 := cell_at hx2 3
  have i4 := cell_at hx2 4
  have hlt2 := ha2.ltb
  have hltk2 := lt_blk hx2
  simp only [refC, List.getElem?_toArray, List.getElem?_cons_zero, List.getElem?_cons_succ, hlv2] at d20 d8 d1 i1 i3 i4
  have hbl : b ∉ v2.l.ownBlock.toList := fun hm => (ha2.rows.not ha2.blk).1 (by simp only [Rv.all, List.mem_append]; simp [hm])
  have hkl : W.heap.size ∉ rfeet b v2 := fun hm => by
    rcases hs2 _ hm with h | h
    · exact unhide HNF h
    · omega
  have H2 := hide ha2
  have HF2 := hide hf2
  have HS2 := hide hs2
  have HD2 := hide hd2
  have HX2 := hide hx2
  have HLV := hide hlv2
  have HBL := hide hbl
  have HKL := hide hkl
  clear h2 ha2 hf2 hs2 hd2 hx2 hlv2 hbl hkl HN c10 c20 k1 k3 k4
  have hwrap : IntKind.i64.wrap (r.clock + r.c.period) = r.clock + r.c.period := Go.IntWalk.i64_in _ (by omega)
  go_wp2_with fail
  go_region_held3 (fun w' => w'.cell? ⟨b, 20, none⟩ = some (.slice lo2 r.rels.length lc2) ∧ w'.cell? ⟨b, 8, none⟩ = some (.int .i64 r.clock) ∧ w'.cell? ⟨b, 1, none⟩ = some (.int .i64 r.c.period) ∧ w'.cell? ⟨W.heap.size, 1, none⟩ = some (.int .i64 m.frm) ∧ w'.cell? ⟨W.heap.size, 3, none⟩ = some (.int .i64 m.seq) ∧ w'.cell? ⟨W.heap.size, 4, none⟩ = some (.int .i64 m.tgt)) (go_keep)
    ((refine step_app (by rfl) _ _ (by rfl) etyR 0 (by rfl) (by rfl) (v1 := .slice lo2 r.rels.length lc2) (n1 := r.rels.length) (xs1 := r.rels.flatMap rrC) (n := 1) (xs := rrC ⟨m.tgt, r.seq + 1, m.frm, m.seq, r.clock + r.c.period⟩) (((unhide HOL).alloc _).drew) (Src.box 5 1 1 (heap_alloc_new w2 _) (by rfl)) (rr_one _) (by omega) (by omega) ?_; intro v' w3 ho3 hg3 hat3; have FF := asked_frm (unhide HLV) (unhide H2) hg3 (unhide HBL) (unhide HKL) hltk2; have j20 := FF.2.1.trans d20; have j8 := FF.2.2.1.trans d8; have j1 := FF.2.2.2.1.trans d1; have y1 := FF.2.2.2.2.1.trans i1; have y3 := FF.2.2.2.2.2.1.trans i3; have y4 := FF.2.2.2.2.2.2.trans i4))
  have hf3 := FF.1
  have hat4 : ∀ g, v'.ownBlock = some g → v2.l.ownBlock = some g ∨ w2.heap.size ≤ g := unhide HLV ▸ at_new (w := w2) (H := w2.heap.size + 1) (by omega) (by simpa using hat3)
  have hs3 := (unhide H2).setL (l := r.rels ++ [⟨m.tgt, r.seq + 1, m.frm, m.seq, r.clock + r.c.period⟩]) hf3 hat4 (by simpa using ho3)
  have hbb : w3.heap[b]? = some (.cells (refC _ v2) 93 (0, 0)) := (hf3.block b hlt2 (unhide HBL)).trans (unhide H2).blk
  have z20 := free_at hbb 20
  obtain ⟨ao', cap', hv'⟩ := own_form ho3
  subst hv'
  obtain ⟨v4, hd4, ha4, hf4, hs4⟩ := hs3
  have hx4 := (hf4.block _ hltk2 (unhide HKL)).trans (unhide HX2)
  have u4 := cell_at hx4 4
  simp only [List.getElem?_toArray, List.getElem?_cons_zero, List.getElem?_cons_succ] at u4
  have hltk4 := lt_blk hx4
  have HSD := hide (rsend_direct ha4 ho hq (unhide HQS) m.tgt 1 (r.seq + 1) m.tgt (by omega) (unhide HWP))
  have HF4 := hide hf4
  have HS4 := hide hs4
  have HD4 := hide hd4
  clear hf3 hat4 hbb ha4 hf4 hs4 hd4 hx4 FF ho3 hg3 hat3
  go_wp2_with fail
  refine (unhide HSD).mono ?_
  rintro e w5 ⟨rfl, h5⟩
  have HT := hide (RTo.from (unhide HB0) (RTo.trans (unhide HD2) (unhide HF2) (unhide HS2) (RTo.trans (unhide HD4) (unhide HF4) (unhide HS4) h5)))
  clear h5 HSD
  go_wp2
  go_end0
  rw [unhide HE]
  exact ⟨rfl, unhide HT⟩
end Go.Proofs.YtnneljcbelgoeaaGreatDoor.wire
