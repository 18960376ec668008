import Derived.Test.YtnneljcbelgoeaaGreatDoorG13
import Derived.BigRegion
import Derived.Outline
import Derived.Deep.RegionHeld3
/- The document's node: what it hears (P5). -/
namespace Go.Proofs.YtnneljcbelgoeaaGreatDoor.wire
open Go.RowKit Go.Maps

set_option maxHeartbeats 2000000 in
set_option maxRecDepth 100000 in
theorem rheard_any {W : World} {b : Nat} {v : Rv} {r : Rn} (h : RAt W b v r) (hr : RBd r) (k : K3) (hk : isKeyB k = true) :
    Calls Tryz.prog 72 #[.pointer (some ⟨b, 0, none⟩), kval k] W fun e w' => e = .returned (.tuple #[]) ∧ RTo W w' b v (r.heard k) := by
  have hkb := key_bounds hk
  obtain ⟨ka, kb, kc⟩ := k
  simp only at hkb
  have h0 := h.alloc (.cells #[.int .i64 ka, .int .i64 kb, .int .i64 kc] 58)
  have hb0 := (Below.refl W.heap.size W).alloc (Nat.le_refl _) (.cells #[.int .i64 ka, .int .i64 kb, .int .i64 kc] 58)
  have hx0 : (W.alloc (.cells #[.int .i64 ka, .int .i64 kb, .int .i64 kc] 58)).heap[W.heap.size]? = some (.cells #[.int .i64 ka, .int .i64 kb, .int .i64 kc] 58 (0, 0)) := heap_alloc_new W _
  have hnf : W.heap.size ∉ rfeet b v := fun hm => by have := h.lt hm; omega
  have HNF := hide hnf
  generalize hw1 : W.alloc (.cells #[.int .i64 ka, .int .i64 kb, .int .i64 kc] 58) = w1 at h0 hb0 hx0
  have c10 := h0.cell 10
  have hlt := h0.ltb
  have k0 := cell_at hx0 0
  have k1 := cell_at hx0 1
  have k2 := cell_at hx0 2
  have hltk := lt_blk hx0
  simp only [refC, List.getElem?_toArray, List.getElem?_cons_zero, List.getElem?_cons_succ] at c10 k0 k1 k2
  have H0 := hide h0
  have HB0 := hide hb0
  have HX0 := hide hx0
  have HR := hide hr
  have HKY := hide hk
  clear h h0 hb0 hx0 hnf hr hk
  by_cases hself : ka = r.self.id
  · have HE : Hid (r.heard ⟨ka, kb, kc⟩ = r.own ⟨ka, kb, kc⟩) := hide (by unfold Rn.heard; rw [if_pos hself])
    have hs1 : (ka == r.self.id) = true := by simp [hself]
    have HSF := hide hself
    clear hself
    go_enter Tryz.func72, Tryz.ntmps72
    go_wp2
    go_quiet (fail)
    go_wp2_with fail
    refine (rown_any ((unhide H0).drewN _) (unhide HR).evs (unhide HR).queue (unhide HR).lost ⟨ka, kb, kc⟩ (by simp only; omega)).mono ?_
    rintro e w2 ⟨rfl, h2⟩
    have HT := hide (RTo.from (unhide HB0) (RTo.from (bdrewN (Below.refl _ _) _) h2))
    clear h2
    go_wp2
    refine bodyPost_ret (results_none rfl _ _ _) rfl ?_
    rw [unhide HE]
    exact ⟨rfl, unhide HT⟩
  have hs1 : (ka == r.self.id) = false := by simp [hself]
  have HO : Hid (r.heard ⟨ka, kb, kc⟩ = match findR ka r.others with | some o => if greaterB ⟨ka, kb, kc⟩ o.k then r.put ⟨ka, kb, kc⟩ else r | none => if r.others.length = 7 then r else r.put ⟨ka, kb, kc⟩) := hide (by unfold Rn.heard; rw [if_neg hself]; rfl)
  clear hself
  go_enter Tryz.func72, Tryz.ntmps72
  go_wp2
  go_quiet (fail)
  go_wp2_with fail
  clear hw1
  refine (rfind_any ((unhide H0).drewN _) (unhide HR).rise (by have := (unhide HR).len; omega) ka).mono ?_
  rintro e w2 ⟨rfl, hb2⟩
  have hb2' := (bdrewN (Below.refl w1.heap.size w1) _).trans (hb2.mono (by simp))
  have h2 := (unhide H0).below hb2'
  have hx2 := (hb2'.block _ hltk).trans (unhide HX0)
  have HB2 := hide ((unhide HB0).trans (hb2'.mono (unhide HB0).size))
  have hz2 := hb2'.size
  clear hb2 hb2' HB0 H0 HX0 c10 k0 k1 k2
  obtain ⟨ao, cap, hov, hao, hoc, hom⟩ := row_form h2.rows.o
  have c13 := h2.cell 13
  have f13 := h2.free 13
  have k0 := cell_at hx2 0
  have k1 := cell_at hx2 1
  have k2 := cell_at hx2 2
  have hlt2 := h2.ltb
  have hltk2 := lt_blk hx2
  simp only [refC, List.getElem?_toArray, List.getElem?_cons_zero, List.getElem?_cons_succ, hov] at c13 k0 k1 k2
  have hlen := (unhide HR).len
  have hple := posR_le ka r.others
  have HOW := hide (hov ▸ h2.rows.o : w2.ownsRow 0 134 4 (.slice ao r.others.length cap) r.others.length (r.others.flatMap rmC))
  have HAO := hide hao
  have H2 := hide h2
  have HX2 := hide hx2
  clear h2 hx2 hao
  have hpr : (thereR ka r.others = false ∧ r.others.length = 7 ∧ r.heard ⟨ka, kb, kc⟩ = r) ∨ (∃ h : posR ka r.others < r.others.length, thereR ka r.others = true ∧ greaterB ⟨ka, kb, kc⟩ r.others[posR ka r.others].k = false ∧ r.heard ⟨ka, kb, kc⟩ = r) ∨
      (r.heard ⟨ka, kb, kc⟩ = r.put ⟨ka, kb, kc⟩ ∧ ((thereR ka r.others = false ∧ ¬ r.others.length = 7) ∨ (∃ h : posR ka r.others < r.others.length, thereR ka r.others = true ∧ r.others[posR ka r.others].k.id = ka ∧ greaterB ⟨ka, kb, kc⟩ r.others[posR ka r.others].k = true))) := by
    rcases htr : thereR ka r.others with _ | _
    · have ho := unhide HO
      rw [there_not htr] at ho
      by_cases h7 : r.others.length = 7
      · exact .inl ⟨rfl, h7, by rw [ho]; simp [h7]⟩
      · exact .inr (.inr ⟨by rw [ho]; simp [h7], .inl ⟨rfl, h7⟩⟩)
    · obtain ⟨hpl, hpi, hpf⟩ := there_pos (unhide HR).rise htr
      have ho := unhide HO
      rw [hpf] at ho
      rcases hg : greaterB ⟨ka, kb, kc⟩ r.others[posR ka r.others].k with _ | _
      · exact .inr (.inl ⟨hpl, rfl, hg, by rw [ho]; simp [hg]⟩)
      · exact .inr (.inr ⟨by rw [ho]; simp [hg], .inr ⟨hpl, rfl, hpi, hg⟩⟩)
  clear HO
  have hgr : ∀ (h : posR ka r.others < r.others.length), ∃ g, ao = some ⟨g, 0, none⟩ ∧ ∃ m, m = r.others[posR ka r.others] ∧ w2.cell? ⟨g, posR ka r.others * 4, none⟩ = some (.int .i64 m.k.id) ∧ w2.cell? ⟨g, posR ka r.others * 4 + 1, none⟩ = some (.int .i64 m.k.inc) ∧ w2.cell? ⟨g, posR ka r.others * 4 + 2, none⟩ = some (.int .i64 m.k.st) := fun h => by
    obtain ⟨g, hao, hg⟩ := unhide HAO (by omega)
    subst hao
    have q := fun j hj => row_cell rmC 4 (fun _ => rfl) (unhide HOW) _ h j hj
    exact ⟨g, rfl, _, rfl, q 0 (by omega), q 1 (by omega), q 2 (by omega)⟩
  rcases hpr with ⟨htr, h7, HE⟩ | ⟨hpl, htr, hg, HE⟩ | ⟨HE, hpr⟩
  · have HE := hide HE
    rw [h7] at c13
    have HLE : Hid (r.others.length = 7) := hide h7
    clear h7 hgr
    go_wp2
    refine bodyPost_ret (results_none rfl _ _ _) rfl ?_
    rw [unhide HE]
    exact ⟨rfl, RTo.from (unhide HB2) (RTo.same (unhide H2) (Below.refl _ _))⟩
  · have HE := hide HE
    obtain ⟨g, hao, m, hm, q0, q1, q2⟩ := hgr hpl
    subst hao
    rw [← hm] at hg
    have HG := hide (fun w => hg ▸ rgreater_any ⟨ka, kb, kc⟩ m.k w)
    have hpi : (posR ka r.others : Int) < (r.others.length : Int) := by omega
    clear hgr hm
    go_wp2_with fail
    go_region_with (go_at_call 105; refine (unhide HG _).mono ?_; rintro e w3 ⟨rfl, hb3⟩)
    all_goals
      have hb3' : Below w2.heap.size w2 w3 := ⟨hb3.os, hb3.tape, hb3.output, hb3.size, hb3.block⟩
      have HT := hide (RTo.from (unhide HB2) (RTo.same (unhide H2) hb3'))
      clear hb3 hb3'
      go_wp2
      refine bodyPost_ret (results_none rfl _ _ _) rfl ?_
      rw [unhide HE]
      exact ⟨rfl, unhide HT⟩
  · have HE := hide HE
    have hpi : (0 : Int) ≤ (posR ka r.others : Int) := by omega
    obtain ⟨T, hT⟩ : ∃ T, T = thereR ka r.others := ⟨_, rfl⟩
    rw [← hT] at hpr ⊢
    have HTR := hide hT
    clear hT
    go_upto_if 28 with fail
    go_cut [] (fun wq => ∃ OL : List RM, RTo w2 wq b v { r with others := OL } ∧ posR ka r.others < OL.length ∧ OL.length ≤ 7 ∧ ∀ d, OL.set (posR ka r.others) ⟨⟨ka, kb, kc⟩, d⟩ = putR ⟨⟨ka, kb, kc⟩, d⟩ r.others)
    case first =>
      rcases hpr with ⟨htr, h7⟩ | ⟨hpl, htr, hid, hg⟩
      · subst htr
        have h7' : ((r.others.length : Int) == 7) = false := by rw [beq_eq_false_iff_ne]; omega
        have hpc : (posR ka r.others : Int) ≤ (cap : Int) := by omega
        have hpl : (posR ka r.others : Int) ≤ (r.others.length : Int) := by omega
        clear hgr
        go_wp2_with (at_builtin; refine wpList_app rfl _ _ rfl etyM w2.heap.size (n := posR ka r.others) (xs := (r.others.flatMap rmC).take (posR ka r.others * 4)) (n1 := 0) (xs1 := []) rfl rfl (World.ownsRow_nil _ _ _ _) ?hs (fun u hu => one_of rm_one _ u (List.mem_of_mem_take hu)) (by omega) (by omega) ?h2)
        case hs => (simp [Act.eval]; exact Src.head (unhide HOW) _ hple)
        intro v3 w3 ho3 hg3 _
        have hf3 : Fi rmC 134 4 w2 w3 v3 (r.others.take (posR ka r.others)) := by
          have := (Fi.nil rmC 134 4 (Below.refl w2.heap.size w2)).push (Below.refl _ _) hg3 (r.others.take (posR ka r.others)) (by rw [row_take rmC 4 (fun _ => rfl)] at ho3; simpa [Nat.min_eq_left hple] using ho3)
          simpa using this
        have HF3 := hide hf3
        have hlp : (r.others.take (posR ka r.others)).length = posR ka r.others := by simp; omega
        have hl3 : (r.others.take (posR ka r.others)).length ≤ 7 := by omega
        have HLP := hide hlp
        clear hlp
        have hz3 := hf3.below.size
        clear ho3 hg3 hf3
        go_wp2_with (at_builtin; refine wpList_app rfl _ _ rfl etyM w2.heap.size rfl rfl (own_below (unhide HF3).own ((Below.refl _ _).alloc (Nat.le_refl _) _)) (Src.box (cs := rmC ⟨⟨0, 0, 0⟩, 0⟩) 4 1 1 (heap_alloc_new w3 _) (by rfl)) (rm_one _) (by omega) (by simp; omega) ?h3)
        intro v4 w4 ho4 hg4 _
        have hf4 := (unhide HF3).push ((Below.refl _ _).alloc (Nat.le_refl _) _) hg4 [⟨⟨0, 0, 0⟩, 0⟩] (by rw [unhide HLP]; first | simpa using ho4 | (rw [unhide HLP] at ho4; simpa using ho4))
        have HF4 := hide hf4
        have hl4 : (r.others.take (posR ka r.others) ++ [(⟨⟨0, 0, 0⟩, 0⟩ : RM)]).length ≤ 8 := by simp; omega
        have e13 := (hf4.below.cell (p := ⟨b, 13, none⟩) hlt2).trans c13
        have HOW4 := hide (own_below (unhide HOW) (hf4.below.mono (Nat.le_refl _)))
        have hz4 := hf4.below.size
        clear ho4 hg4 hf4 HF3 hz3 hl3
        go_wp2_with (refine wpList_tail rfl _ _ rfl etyM (posR ka r.others) rfl rfl (unhide HOW4) hple ?_)
        intro vt hvt
        have HVT := hide hvt
        clear hvt
        go_wp2_with (at_builtin; refine wpList_app rfl _ _ rfl etyM w2.heap.size rfl rfl (unhide HF4).own (unhide HVT) (fun u hu => one_of rm_one _ u (List.mem_of_mem_drop hu)) (by omega) (by omega) ?h4)
        intro v5 w5 ho5 hg5 _
        have hf5 := (unhide HF4).push (Below.refl _ _) hg5 (r.others.drop (posR ka r.others)) (by rw [row_drop rmC 4 (fun _ => rfl)] at ho5; rw [List.length_append, unhide HLP, List.length_drop]; first | exact ho5 | simpa using ho5 | (rw [List.length_append, unhide HLP] at ho5; exact ho5))
        have e13' := (hf5.below.cell (p := ⟨b, 13, none⟩) hlt2).trans c13
        have g13' := (hf5.below.frozen (p := ⟨b, 13, none⟩) hlt2).trans f13
        obtain ⟨ao', cap', hv'⟩ := own_form ho5
        subst hv'
        have HT := hide ((unhide H2).setO (l := r.others.take (posR ka r.others) ++ [⟨⟨0, 0, 0⟩, 0⟩] ++ r.others.drop (posR ka r.others)) (Frm.of_below hf5.below (Nat.le_refl _)) (fun g hg => .inr (own_lt hf5.own hg).1) (own_base0 hf5.own))
        clear ho5 hg5 hf5 HF4 e13
        go_wp2
        go_meet
        case rel =>
          refine ⟨_, unhide HT, by simp; omega, by simp; omega, fun d => ?_⟩
          have := putR_new ⟨⟨ka, kb, kc⟩, d⟩ r.others (unhide HR).rise (unhide HTR).symm
          rw [← this]
          have hlp := unhide HLP
          rw [List.append_assoc, List.set_append_right _ _ (by omega), hlp, Nat.sub_self]
          rfl
      · subst htr
        obtain ⟨g, hao, m, hm, q0, q1, q2⟩ := hgr hpl
        subst hao
        rw [← hm] at hg
        have HG := hide (fun w => hg ▸ rgreater_any ⟨ka, kb, kc⟩ m.k w)
        have hpi : (posR ka r.others : Int) < (r.others.length : Int) := by omega
        have HID := hide hid
        clear hgr hm hid
        go_wp2_with fail
        go_region_with (go_at_call 105; refine (unhide HG _).mono ?_; rintro e w3 ⟨rfl, hb3⟩)
        all_goals
          have hb3' : Below w2.heap.size w2 w3 := ⟨hb3.os, hb3.tape, hb3.output, hb3.size, hb3.block⟩
          have HT := hide (RTo.same (unhide H2) hb3')
          clear hb3 hb3'
          go_wp2
          go_meet
          case rel => exact ⟨r.others, unhide HT, hpl, hlen, fun d => putR_at ⟨⟨ka, kb, kc⟩, d⟩ r.others (unhide HR).rise hpl (unhide HID)⟩
    case rest =>
      obtain ⟨w3, hw3⟩ : ∃ w3, w3 = wc := ⟨_, rfl⟩
      rw [← hw3] at hcut ⊢
      clear hw3 hpr hgr c13 f13 k0 k1 k2 HOW HAO
      obtain ⟨OL, ⟨v1, hd1, ha1, hf1, hs1⟩, hp1, hl7, hset⟩ := hcut
      have hx3 := (hf1.block _ hltk2 (unhide HNF)).trans (unhide HX2)
      obtain ⟨ao1, cap1, hov1, hao1, hoc1, hom1⟩ := row_form ha1.rows.o
      obtain ⟨g, hg1, hgl⟩ := hao1 (by simp only; omega)
      subst hg1
      have how1 := ha1.rows.o
      rw [hov1] at how1
      have hcell : ∀ j, j < 4 → w3.cell? ⟨g, posR ka r.others * 4 + j, none⟩ = (rmC OL[posR ka r.others])[j]? := fun j hj => row_cell rmC 4 (fun _ => rfl) how1 _ hp1 j hj
      have q0 := hcell 0 (by omega)
      have q1 := hcell 1 (by omega)
      have q2 := hcell 2 (by omega)
      have q3 := hcell 3 (by omega)
      have z0 := how1.frozenAt (posR ka r.others * 4)
      have z1 := how1.frozenAt (posR ka r.others * 4 + 1)
      have z2 := how1.frozenAt (posR ka r.others * 4 + 2)
      have z3 := how1.frozenAt (posR ka r.others * 4 + 3)
      have c13 := ha1.cell 13
      have c3 := ha1.cell 3
      have c8 := ha1.cell 8
      have k0 := cell_at hx3 0
      have k1 := cell_at hx3 1
      have k2 := cell_at hx3 2
      simp only [rmC, refC, List.getElem?_toArray, List.getElem?_cons_zero, List.getElem?_cons_succ, Nat.add_zero, hov1] at q0 q1 q2 q3 c13 c3 c8 k0 k1 k2
      have hlt3 := ha1.ltb
      have hltk3 := lt_blk hx3
      have hgb : g ≠ b := fun e => (ha1.rows.not ha1.blk).1 (by subst e; simp [Rv.all, hov1, Value.ownBlock])
      have hgf : g ∈ rfeet b v1 := by simp [rfeet, Rv.all, hov1, Value.ownBlock]
      have hgk : g ≠ W.heap.size := fun e => by
        rcases hs1 g hgf with h | h
        · exact unhide HNF (e ▸ h)
        · rw [e] at h; omega
      have hpi2 : (posR ka r.others : Int) < (OL.length : Int) := by omega
      have HS := hide (RTo.from (bdrew (Below.refl _ _)) (ha1.drew.putM_to hov1 (posR ka r.others) hp1 ⟨⟨ka, kb, kc⟩, 0⟩))
      have HF1 := hide hf1
      have HS1 := hide hs1
      have HD1 := hide hd1
      have HX3 := hide hx3
      have HSET := hide hset
      have hov1' := hide hov1
      clear hx3 hcell how1 ha1 hf1 hs1 hd1 hset hao1 hov1 H2
      go_upto_region 13 with fail
      go_cut [] (fun wq => RTo w2 wq b v { r with others := OL.set (posR ka r.others) ⟨⟨ka, kb, kc⟩, 0⟩ })
      case first =>
        go_region
        all_goals
          go_wp2
          go_meet
          case rel => exact RTo.trans (unhide HD1) (unhide HF1) (unhide HS1) (unhide HS)
      case rest =>
        obtain ⟨w4, hw4⟩ : ∃ w4, w4 = wc := ⟨_, rfl⟩
        rw [← hw4] at hcut ⊢
        clear hw4 HF1 HS1 HD1 HX3 HS q0 q1 q2 q3 z0 z1 z2 z3 c13 c3 c8 k0 k1 k2 hlt3 hltk3 hgb hgf hgk hov1' hgl
        have HCUT := hide hcut
        obtain ⟨v3, hd3, ha3, hf3, hs3⟩ := hcut
        have hx4 := (hf3.block _ hltk2 (unhide HNF)).trans (unhide HX2)
        have k2 := cell_at hx4 2
        have hltk4 := lt_blk hx4
        simp only [List.getElem?_toArray, List.getElem?_cons_zero, List.getElem?_cons_succ] at k2
        go_upto_if 81 with fail
        go_cut [] (fun wq => RTo w2 wq b v { r with others := OL.set (posR ka r.others) ⟨⟨ka, kb, kc⟩, if kc = 2 then r.clock + r.c.suspect else 0⟩ })
        case first =>
          by_cases hc2 : kc = 2
          · have hc2' : (kc == 2) = true := by simp [hc2]
            have HC2 := hide hc2
            obtain ⟨ao3, cap3, hov3, hao3, hoc3, hom3⟩ := row_form ha3.rows.o
            obtain ⟨g3, hg3, hgl3⟩ := hao3 (by simp only [List.length_set]; omega)
            subst hg3
            have how3 := ha3.rows.o
            rw [hov3] at how3
            have q3 := row_cell rmC 4 (fun _ => rfl) how3 (posR ka r.others) (by simpa using hp1) 3 (by omega)
            have z3 := how3.frozenAt (posR ka r.others * 4 + 3)
            have c13 := ha3.cell 13
            have c3 := ha3.cell 3
            have c8 := ha3.cell 8
            simp only [rmC, refC, List.getElem?_toArray, List.getElem?_cons_zero, List.getElem?_cons_succ, hov3, List.length_set] at q3 c13 c3 c8
            have hlt4 := ha3.ltb
            have hcl := (unhide HR).clock
            have hcs := (unhide HR).susp
            have hst := RTo.trans hd3 hf3 hs3 (RTo.from (bdrew (Below.refl _ _)) (ha3.drew.putD_to hov3 (posR ka r.others) (by simpa using hp1) (r.clock + r.c.suspect)))
            have e1 : ({ r with others := (OL.set (posR ka r.others) ⟨⟨ka, kb, kc⟩, 0⟩).set (posR ka r.others) ⟨((OL.set (posR ka r.others) ⟨⟨ka, kb, kc⟩, 0⟩)[posR ka r.others]'(by simpa using hp1)).k, r.clock + r.c.suspect⟩ } : Rn) = { r with others := OL.set (posR ka r.others) ⟨⟨ka, kb, kc⟩, if kc = 2 then r.clock + r.c.suspect else 0⟩ } := by simp [hc2]
            have HS := hide (e1 ▸ hst)
            clear hst e1 how3 ha3 hf3 hs3 hd3 hov3 hao3 hx4 hc2
            go_wp2_with fail
            go_region
            all_goals
              go_wp2
              go_meet
              case rel => exact unhide HS
          · have hc2' : (kc == 2) = false := by simp [hc2]
            have E2 := hide (if_neg hc2 : (if kc = 2 then r.clock + r.c.suspect else 0) = 0)
            clear hc2 hx4 ha3 hf3 hs3 hd3
            go_wp2
            go_meet
            case rel => (rw [unhide E2]; exact unhide HCUT)
        case rest =>
          obtain ⟨w5, hw5⟩ : ∃ w5, w5 = wc := ⟨_, rfl⟩
          rw [← hw5] at hcut ⊢
          rw [unhide HSET] at hcut
          clear hw5 HCUT k2 hltk4 ha3 hf3 hs3 hd3 hx4 HSET hp1 hl7 hpi2
          obtain ⟨R5, hR5⟩ : ∃ R5 : Rn, R5 = { r with others := putR ⟨⟨ka, kb, kc⟩, if kc = 2 then r.clock + r.c.suspect else 0⟩ r.others } := ⟨_, rfl⟩
          rw [← hR5] at hcut
          have hput : r.put ⟨ka, kb, kc⟩ = ({ R5 with pass := if 2 < kc then R5.pass.filter (fun i => !(i == ka)) else R5.pass } : Rn).changed ⟨ka, kb, kc⟩ := by rw [hR5]; rfl
          have hp5 : R5.pass.length ≤ 1000 := by rw [hR5]; exact (unhide HR).pass
          have hev5 : R5.evs.length ≤ 8 := by rw [hR5]; exact (unhide HR).evs
          have hq5 : R5.queue.length ≤ 1000 := by rw [hR5]; exact (unhide HR).queue
          have hlo5 : 0 ≤ R5.lost ∧ R5.lost ≤ 1000000000000 := by rw [hR5]; exact (unhide HR).lost
          have HPUT := hide hput
          clear hR5 hput
          have HCUT := hide hcut
          obtain ⟨v5, hd5, ha5, hf5, hs5⟩ := hcut
          have hx5 := (hf5.block _ hltk2 (unhide HNF)).trans (unhide HX2)
          have k0 := cell_at hx5 0
          have k2 := cell_at hx5 2
          have hltk5 := lt_blk hx5
          simp only [List.getElem?_toArray, List.getElem?_cons_zero, List.getElem?_cons_succ] at k0 k2
          go_upto_if 101 with fail
          go_cut [] (fun wq => RTo w2 wq b v { R5 with pass := if 2 < kc then R5.pass.filter (fun i => !(i == ka)) else R5.pass })
          case first =>
            by_cases hc3 : 2 < kc
            · obtain ⟨po, pc, hpv, hpb, hpc, hpm⟩ := row_form ha5.rows.p
              have HOP := hide (hpv ▸ ha5.rows.p : w5.ownsRow 0 3 1 (.slice po R5.pass.length pc) R5.pass.length (R5.pass.flatMap intC))
              have c14 := ha5.cell 14
              have f14 := ha5.free 14
              have hlt5 := ha5.ltb
              simp only [refC, List.getElem?_toArray, List.getElem?_cons_zero, List.getElem?_cons_succ, hpv] at c14
              have HA5 := hide ha5
              have HF5 := hide hf5
              have HS5 := hide hs5
              have HD5 := hide hd5
              have HPB := hide hpb
              obtain ⟨Q, hQ⟩ : ∃ Q, Q = R5.pass := ⟨_, rfl⟩
              rw [← hQ] at hp5 HOP c14 HPB hpc
              have E3 : Hid ((if 2 < kc then R5.pass.filter (fun i => !(i == ka)) else R5.pass) = Q.filter (fun i => !(i == ka))) := hide (by rw [if_pos hc3, hQ])
              clear ha5 hf5 hs5 hd5 hx5 hpb hpv hQ
              go_wp2_with fail
              go_loopw [8, 9] (fun q i wr => ∃ k : Nat, i = .int .i64 k ∧ k ≤ Q.length ∧ Fi intC 3 1 w5 wr q ((Q.take k).filter (fun u => !(u == ka)))) (fun _ i _ => Q.length - (Go.RowKit.intOf i).toNat)
              case atStart => exact ⟨0, by go_num, by omega, by simpa using Fi.nil _ _ _ (Below.refl _ _)⟩
              case round =>
                obtain ⟨k, rfl, hk, hfi⟩ := hrel
                have hbw := hfi.below
                have e14 := (hbw.cell (p := ⟨b, 14, none⟩) hlt5).trans c14
                have e0 := (hbw.cell (p := ⟨W.heap.size, 0, none⟩) hltk5).trans k0
                have hwz := hbw.size
                obtain ⟨ro, rc, hrv, _⟩ := row_form hfi.own
                subst hrv
                have HFI := hide hfi
                have hfl : ((Q.take k).filter (fun u => !(u == ka))).length ≤ Q.length := Nat.le_trans (List.length_filter_le _ _) (by simp; omega)
                by_cases hltq : k < Q.length
                · obtain ⟨g, hg, hgl⟩ := unhide HPB (by omega)
                  subst hg
                  have q0 := (hbw.cell (p := ⟨g, k * 1 + 0, none⟩) hgl).trans (row_cell intC 1 (fun _ => rfl) (unhide HOP) k hltq 0 (by omega))
                  simp only [intC, List.getElem?_cons_zero, Nat.add_zero, Nat.mul_one] at q0
                  have htf := take_filter (fun u : Int => !(u == ka)) Q k hltq
                  generalize Q[k] = U at q0 htf
                  have hki : (k : Int) < (Q.length : Int) := by omega
                  have HTF := hide htf
                  clear hfi hbw htf
                  by_cases hid : U = ka
                  · subst hid
                    have hne : (U == U) = true := by simp
                    go_wp2
                    go_quiet (fail)
                    go_wp2
                    go_roundw
                    case rel => exact ⟨k + 1, by go_num, by omega, by rw [unhide HTF]; simpa using (unhide HFI).mono (bdrewN (Below.refl _ _) _)⟩
                    case measure => simp [Go.RowKit.intOf]; omega
                  · have hne : (U == ka) = false := by simp [hid]
                    go_wp2
                    go_quiet (fail)
                    go_wp2_with (at_builtin; refine wpList_app rfl _ _ rfl etyI w5.heap.size rfl rfl (own_below (unhide HFI).own (bdrewN ((Below.refl _ _).alloc (Nat.le_refl _) _) _)) (Src.box (cs := intC U) 1 1 1 (heap_alloc_new wr _) (by rfl)) (int_one _) (by omega) (by simp; omega) ?_)
                    intro v' w3 ho3 hg3 _
                    have hfi3 := (unhide HFI).push (bdrewN ((Below.refl _ _).alloc (Nat.le_refl _) _) _) hg3 [U] (by simpa using ho3)
                    have HFI3 := hide hfi3
                    clear ho3 hg3 hfi3
                    go_wp2
                    go_roundw
                    case rel => exact ⟨k + 1, by go_num, by omega, by rw [unhide HTF]; simpa [hid] using unhide HFI3⟩
                    case measure => simp [Go.RowKit.intOf]; omega
                · have hke : k = Q.length := by omega
                  subst hke
                  have f14' := (hbw.frozen (p := ⟨b, 14, none⟩) hlt5).trans f14
                  have HS6 := hide (RTo.trans (unhide HD5) (unhide HF5) (unhide HS5) ((unhide HA5).setP (l := (Q.take Q.length).filter (fun i => !(i == ka))) (Frm.of_below hfi.below (Nat.le_refl _)) (fun g hg => .inr (own_lt hfi.own hg).1) (own_base0 hfi.own)))
                  rw [List.take_length] at HS6
                  clear hfi hbw
                  go_wp2
                  go_meet
                  case rel => (rw [unhide E3]; exact unhide HS6)
            · have E3 := hide (if_neg hc3 : (if 2 < kc then R5.pass.filter (fun i => !(i == ka)) else R5.pass) = R5.pass)
              clear hx5 ha5 hf5 hs5 hd5
              go_wp2
              go_meet
              case rel => (rw [unhide E3]; exact unhide HCUT)
          case rest =>
            obtain ⟨w6, hw6⟩ : ∃ w6, w6 = wc := ⟨_, rfl⟩
            rw [← hw6] at hcut ⊢
            clear hw6 HCUT k2 k0 hltk5 ha5 hf5 hs5 hd5 hx5
            obtain ⟨v6, hd6, ha6, hf6, hs6⟩ := hcut
            have hx6 := (hf6.block _ hltk2 (unhide HNF)).trans (unhide HX2)
            have k0 := cell_at hx6 0
            have k1 := cell_at hx6 1
            have k2 := cell_at hx6 2
            have hltk6 := lt_blk hx6
            simp only [List.getElem?_toArray, List.getElem?_cons_zero, List.getElem?_cons_succ] at k0 k1 k2
            have HC := hide (rchanged_any ha6 hev5 hq5 hlo5 ⟨ka, kb, kc⟩)
            have HF6 := hide hf6
            have HS6 := hide hs6
            have HD6 := hide hd6
            clear ha6 hf6 hs6 hd6 hx6
            go_wp2_with fail
            refine (unhide HC).mono ?_
            rintro e w7 ⟨rfl, h7⟩
            have HT7 := hide (RTo.from (unhide HB2) (RTo.trans (unhide HD6) (unhide HF6) (unhide HS6) h7))
            clear h7 HC
            go_wp2
            go_end0
            rw [unhide HE, unhide HPUT]
            exact ⟨rfl, unhide HT7⟩
end Go.Proofs.YtnneljcbelgoeaaGreatDoor.wire
