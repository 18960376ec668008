import Derived.Test.YtnneljcbelgoeaaGreatDoorG14
import Derived.StillTailTactics
/- What a node does for an Ack (P7). -/
namespace Go.Proofs.YtnneljcbelgoeaaGreatDoor.wire
open Go.RowKit Go.Maps

theorem itsB_eq (m : M6) (r : Rel) : itsB m r = ((r.tgt == m.tgt) && (r.num == m.seq)) := by
  unfold itsB
  cases h1 : (r.tgt == m.tgt) <;> cases h2 : (r.num == m.seq) <;> simp_all
set_option maxHeartbeats 1000000 in
set_option maxRecDepth 100000 in
theorem its_any (m : M6) (r : Rel) {W : World} {b : Nat} {u0 u1 u2 u5 : Value} (hb : W.heap[b]? = some (.cells #[u0, u1, u2, .int .i64 m.seq, .int .i64 m.tgt, u5] 68 (0, 0))) :
    Calls Tryz.prog 149 (#[] ++ #[.agg #[.int .i64 r.tgt, .int .i64 r.num, .int .i64 r.asker, .int .i64 r.under, .int .i64 r.till]] ++ #[.pointer (some ⟨b, 0, none⟩)]) W fun e w' => e = .returned (.bool (itsB m r)) ∧ Below W.heap.size W w' := by
  have s3 := cell_at hb 3
  have s4 := cell_at hb 4
  have hlt := lt_blk hb
  simp only [List.getElem?_toArray, List.getElem?_cons_zero, List.getElem?_cons_succ] at s3 s4
  rw [itsB_eq]
  show Calls Tryz.prog 149 #[.agg #[.int .i64 r.tgt, .int .i64 r.num, .int .i64 r.asker, .int .i64 r.under, .int .i64 r.till], .pointer (some ⟨b, 0, none⟩)] W _
  clear hb
  cases h1 : (r.tgt == m.tgt)
  all_goals cases h2 : (r.num == m.seq)
  all_goals
    go_enter Tryz.func149, Tryz.ntmps149
    go_wp2
    go_ret
    exact ⟨rfl, (Below.refl _ _).alloc (Nat.le_refl _) _⟩
def ackB (x : Nd) (m : M6) : Nd := { x with pack := if x.ptgt = m.tgt ∧ x.pnum = m.seq then true else x.pack }
/-- The relays are another list. -/
theorem NAt.setRels {W : World} {nb mb : Nat} {cb : Dk} {pv rv : Value} {x : Nd} (h : NAt W nb mb cb pv rv x) {rv' : Value} {l : List Rel} (hp : W.ownsRow 0 161 5 rv' l.length (l.flatMap relC)) :
    NAt (W.setCell ⟨nb, 14, none⟩ rv') nb mb cb pv rv' { x with rels := l } ∧ Frm [nb] W (W.setCell ⟨nb, 14, none⟩ rv') := by
  have hf : Frm [nb] W (W.setCell ⟨nb, 14, none⟩ rv') := by
    have hb := (Below.refl 0 W).setCell (p := ⟨nb, 14, none⟩) (Nat.zero_le _) rv'
    exact ⟨hb.os, hb.tape, hb.output, hb.size, fun k _ hk => heap_setCell_other W ⟨nb, 14, none⟩ k rv' (by simpa using hk)⟩
  refine ⟨⟨?_, map_frm h.map hf (by simpa using h.mb_nb), ?_, h.pass.frm hf (fun k hk => by simpa using (h.pass_ne hk).1), ?_, h.draw_frm hf (by simp)⟩, hf⟩
  · rw [heap_setCell_same W nb 14 _ _ rv' h.blk]; rfl
  · obtain ⟨s, r, hc⟩ := h.chan
    exact ⟨s, r, (hf.block cb h.lt_cb (by simpa using h.cb_nb)).trans hc⟩
  · refine own_frm hp hf (fun k hk => ?_)
    obtain ⟨cs, hb⟩ := own_blk hp hk
    simp only [List.mem_cons, List.not_mem_nil, or_false]
    intro e
    rw [e, h.blk] at hb; cases hb
theorem relay_ok {x : Nd} (hx : NdOk x) (b : Bool) {l : List Rel} (hl : l.length ≤ 4) : NdOk { x with pack := b, rels := l } :=
  ⟨hx.cfg, hx.rise, hx.len, hx.keys, hx.sends, hx.self, hx.evs, hl, hx.pass⟩
set_option maxHeartbeats 1000000 in
set_option maxRecDepth 100000 in
theorem ack_any {x : Nd} (hx : NdOk x) (m : M6) (hk : m.kind = 2) : DeedOk 123 x m := by
  intro nb mb cb pv rv v W hn hv
  obtain ⟨ao, cap, rfl⟩ := hv.form
  clear hv
  have e1 : x.deed m = x.takeAck m := by simp [Nd.deed, hk]
  rw [e1]
  clear e1 hk
  obtain ⟨rao, rcap, hrv⟩ := own_form hn.rel
  subst hrv
  have hb1 : Below W.heap.size W ((W.alloc (.cells #[.pointer (some ⟨nb, 0, none⟩)] 79)).alloc (.cells #[.int .i64 m.kind, .int .i64 m.frm, .int .i64 m.inc, .int .i64 m.seq, .int .i64 m.tgt, .slice ao m.ups.length cap] 68)) := ((Below.refl _ _).alloc (Nat.le_refl _) _).alloc (by simp) _
  have hn1 := hn.below hb1
  have HB1 := hide hb1
  have HN := hide hn
  have HX := hide hx
  have bx : ((W.alloc (.cells #[.pointer (some ⟨nb, 0, none⟩)] 79)).alloc (.cells #[.int .i64 m.kind, .int .i64 m.frm, .int .i64 m.inc, .int .i64 m.seq, .int .i64 m.tgt, .slice ao m.ups.length cap] 68)).heap[W.heap.size]? = some (.cells #[.pointer (some ⟨nb, 0, none⟩)] 79 (0, 0)) := (Below.heap_alloc _ _ _ (by simp)).trans (heap_alloc_new W _)
  have bm : ((W.alloc (.cells #[.pointer (some ⟨nb, 0, none⟩)] 79)).alloc (.cells #[.int .i64 m.kind, .int .i64 m.frm, .int .i64 m.inc, .int .i64 m.seq, .int .i64 m.tgt, .slice ao m.ups.length cap] 68)).heap[W.heap.size + 1]? = some (.cells #[.int .i64 m.kind, .int .i64 m.frm, .int .i64 m.inc, .int .i64 m.seq, .int .i64 m.tgt, .slice ao m.ups.length cap] 68 (0, 0)) := by
    have := heap_alloc_new (W.alloc (.cells #[.pointer (some ⟨nb, 0, none⟩)] 79)) (.cells #[.int .i64 m.kind, .int .i64 m.frm, .int .i64 m.inc, .int .i64 m.seq, .int .i64 m.tgt, .slice ao m.ups.length cap] 68)
    simpa using this
  have HBX := hide bx
  have HBM := hide bm
  have c9 := hn.c_ptgt
  have c10 := hn.c_pnum
  have f11 := free_at hn.blk 13
  have c11 := hn.c_pack
  have c12 := hn.c_rels
  have HN1 := hide hn1
  have hlt := hn.lt
  clear hn hx hb1 hn1 bx bm
  have hne : W.heap.size ≠ nb := by omega
  have hne' : nb ≠ W.heap.size := by omega
  have hcase : ((x.ptgt == m.tgt) = true ∧ (x.pnum == m.seq) = true) ∨ (x.ptgt == m.tgt) = false ∨ ((x.ptgt == m.tgt) = true ∧ (x.pnum == m.seq) = false) := by
    cases (x.ptgt == m.tgt) <;> cases (x.pnum == m.seq) <;> simp
  rcases hcase with h1 | h1 | h1
  all_goals
    have H12 := hide h1
    try obtain ⟨h1, h2⟩ := h1
    go_enter Tryz.func123, Tryz.ntmps123
    go_wp2
    go_quiet (fail)
    go_wp2_with fail
    first
      | (
        have hs := (unhide HN1).drewN nq |>.set 13 (.bool true) (x' := { x with pack := true }) rfl rfl rfl rfl rfl
        have hy : ackB x m = { x with pack := true } := by simp only [ackB]; rw [if_pos (by have := unhide H12; simpa using this)]
        have HNA : Hid (NAt _ nb mb cb pv (.slice rao x.rels.length rcap) (ackB x m)) := hide (by rw [hy]; exact hs.1)
        have HFA := hide ((Frm.of_below (S := [nb]) (bdrewN (unhide HB1) nq) (Nat.le_refl _)).trans hs.2 (by simp))
        have HXA := hide ((hs.2.block W.heap.size (by simp; omega) (by simp; omega)).trans (unhide HBX))
        have HMA := hide ((hs.2.block (W.heap.size + 1) (by simp) (by simp; omega)).trans (unhide HBM))
        clear hs hy
        generalize ((((W.alloc (.cells #[.pointer (some ⟨nb, 0, none⟩)] 79)).alloc (.cells #[.int .i64 m.kind, .int .i64 m.frm, .int .i64 m.inc, .int .i64 m.seq, .int .i64 m.tgt, .slice ao m.ups.length cap] 68))).drewN nq).setCell ⟨nb, 13, none⟩ (.bool true) = wA at HNA HFA HXA HMA ⊢)
      | (
        have hy : ackB x m = x := by simp only [ackB]; rw [if_neg (by intro h; have := unhide H12; simp_all)]
        have HNA : Hid (NAt _ nb mb cb pv (.slice rao x.rels.length rcap) (ackB x m)) := hide (by rw [hy]; exact (unhide HN1).drewN nq)
        have HFA := hide (Frm.of_below (S := [nb]) (bdrewN (unhide HB1) nq) (Nat.le_refl _))
        have HXA : Hid (((((W.alloc (.cells #[.pointer (some ⟨nb, 0, none⟩)] 79)).alloc (.cells #[.int .i64 m.kind, .int .i64 m.frm, .int .i64 m.inc, .int .i64 m.seq, .int .i64 m.tgt, .slice ao m.ups.length cap] 68))).drewN nq).heap[W.heap.size]? = _) := HBX
        have HMA : Hid (((((W.alloc (.cells #[.pointer (some ⟨nb, 0, none⟩)] 79)).alloc (.cells #[.int .i64 m.kind, .int .i64 m.frm, .int .i64 m.inc, .int .i64 m.seq, .int .i64 m.tgt, .slice ao m.ups.length cap] 68))).drewN nq).heap[W.heap.size + 1]? = _) := HBM
        clear hy
        generalize ((((W.alloc (.cells #[.pointer (some ⟨nb, 0, none⟩)] 79)).alloc (.cells #[.int .i64 m.kind, .int .i64 m.frm, .int .i64 m.inc, .int .i64 m.seq, .int .i64 m.tgt, .slice ao m.ups.length cap] 68))).drewN nq) = wA at HNA HFA HXA HMA ⊢)
    have hlA : W.heap.size + 1 < wA.heap.size := lt_blk (unhide HMA)
    clear c9 c10 f11 c11 c12 HN1 HB1 HBX HBM h1 H12
    try clear h2
    have hK := keepR_any x.rels (itsB m) 149 #[] #[.pointer (some ⟨W.heap.size + 1, 0, none⟩)] (unhide HNA).rel (by have := (unhide HX).rels; omega) (enters_of Tryz.func149 (by kernel_rfl) rfl) (fun r W' hb => its_any m r ((hb.block _ hlA).trans (unhide HMA)))
    refine hK.mono ?_
    clear hK
    rintro e w2 ⟨v2, rfl, ho2, hb2⟩
    have HO2 := hide ho2
    have hn2 := (unhide HNA).below hb2
    have HN2 := hide hn2
    have HF2 := hide ((unhide HFA).step hb2)
    have HX2 := hide ((hb2.block W.heap.size (by omega)).trans (unhide HXA))
    have HM2 := hide ((hb2.block (W.heap.size + 1) hlA).trans (unhide HMA))
    have hs2 : W.heap.size + 1 < w2.heap.size := Nat.lt_of_lt_of_le hlA hb2.size
    have hA2 := hb2.size
    have p0 := cell_at (unhide HX2) 0
    have p12 := hn2.c_rels
    have pf := free_at hn2.blk 14
    have HD := hide (dropR_any x.rels (itsB m) 149 #[] #[.pointer (some ⟨W.heap.size + 1, 0, none⟩)] (w := w2.drew) hn2.rel.drew (by have := (unhide HX).rels; omega) (enters_of Tryz.func149 (by kernel_rfl) rfl) (fun r W' hb => its_any m r ((hb.block _ hs2).trans (unhide HM2))))
    simp only [List.getElem?_toArray, List.getElem?_cons_zero] at p0
    clear ho2 hb2 hn2
    go_wp2_with fail
    go_region_with
      (refine (unhide HD).mono ?_; rintro e w3 ⟨v3, rfl, ho3, hb30⟩; obtain ⟨ao3, cap3, rfl⟩ := own_form ho3; have hb3 : Below w2.heap.size w2 w3 := ⟨hb30.os, hb30.tape, hb30.output, hb30.size, hb30.block⟩; have p0_3 := (hb3.cell (p := ⟨W.heap.size, 0, none⟩) (show W.heap.size < w2.heap.size by omega)).trans p0; have p12_3 := (hb3.cell (p := ⟨nb, 14, none⟩) (show nb < w2.heap.size by omega)).trans p12; have pf_3 := (hb3.frozen (p := ⟨nb, 14, none⟩) (show nb < w2.heap.size by omega)).trans pf; clear hb30)
    all_goals
     clear HD p0_3 p12_3 pf_3
     have hn3 := (unhide HN2).below (W' := w3) hb3
     have HS3 := hide (hn3.setRels (own_mono ho3 (Nat.zero_le _)))
     have HO3 := hide ho3
     have HF3 := hide ((unhide HF2).step hb3)
     have HX3 := hide ((hb3.block W.heap.size (show W.heap.size < w2.heap.size by omega)).trans (unhide HX2))
     have HO23 := hide (own_below2 (unhide HO2) (w' := w3) hb3)
     have hs3 : w2.heap.size ≤ w3.heap.size := hb3.size
     clear hn3 ho3 hb3 p0 p12 pf HN2 HF2 HX2 HM2 HO2
     go_wp2_with fail
     obtain ⟨Y, hY⟩ : ∃ Y : Nd, Y = { ackB x m with rels := x.rels.filter (fun r => !(itsB m r)) } := ⟨_, rfl⟩
     have hYok : NdOk Y := by rw [hY]; exact relay_ok (unhide HX) _ (Nat.le_trans (List.length_filter_le _ _) (unhide HX).rels)
     have hE : x.takeAck m = Y.relayed (x.rels.filter (itsB m)) := by rw [hY]; rfl
     have HE := hide hE
     have hs4 := unhide HS3
     rw [← hY] at hs4
     have HF4 := hide ((unhide HF3).trans hs4.2 (by simp))
     have hx4 := (hs4.2.block W.heap.size (by omega) (by simpa using hne)).trans (unhide HX3)
     have ho4 := own_frm (unhide HO23) hs4.2 (fun k hk => by
       obtain ⟨cs, hb'⟩ := own_blk (unhide HO23) hk
       simp only [List.mem_singleton]
       intro e
       subst e
       have := (unhide HNA).lt
       have := own_lt (unhide HO23) hk
       omega)
     have hR := relayed_any (x.rels.filter (itsB m)) hYok hs4.1 hx4 ho4 (Nat.le_trans (List.length_filter_le _ _) (by have := (unhide HX).rels; omega))
     refine hR.mono ?_
     clear hR ho4 hx4 hs4 hE
     rintro e w5 ⟨o, rfl, ho5, hn5, hf5⟩
     have HO5 := hide ho5
     have HN5 := hide hn5
     have HF5 := hide hf5
     clear ho5 hn5 hf5
     go_wp2
     go_ret
     rw [unhide HE]
     refine ⟨o, rfl, own_mono (unhide HO5) (unhide HF4).size, pv, _, unhide HN5, ?_, fun k hk => ?_⟩
     · exact ((Frm.refl _ W).trans (unhide HF4) (by simp [feet])).trans (unhide HF5) (by simp [feet])
     · simp only [feet, List.mem_cons, List.mem_append, Option.mem_toList] at hk ⊢
       rcases hk with h | h | h | h | h | h
       · exact .inl (.inl h)
       · exact .inl (.inr (.inl h))
       · exact .inl (.inr (.inr (.inl h)))
       · exact .inl (.inr (.inr (.inr (.inl h))))
       · exact .inr (Nat.le_trans (show W.heap.size ≤ w2.heap.size by omega) (own_lt (unhide HO3) h).1)
       · exact .inl (.inr (.inr (.inr (.inr (.inr h)))))
end Go.Proofs.YtnneljcbelgoeaaGreatDoor.wire
