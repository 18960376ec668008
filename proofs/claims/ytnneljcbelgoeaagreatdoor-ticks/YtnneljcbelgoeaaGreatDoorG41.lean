import Derived.Test.YtnneljcbelgoeaaGreatDoorG34
import Derived.Deep.RegionWith
import Derived.Outline
/- The document's node: the next probe (P9). -/
namespace Go.Proofs.YtnneljcbelgoeaaGreatDoor.wire
open Go.RowKit Go.Maps

/-- Who of them, by id. -/
def idsOf (p : RM → Bool) (l : List RM) : List Int := (l.filter p).map (fun m => m.k.id)
theorem idsOf_len (p : RM → Bool) (l : List RM) : (idsOf p l).length ≤ l.length := by unfold idsOf; rw [List.length_map]; exact List.length_filter_le _ _
theorem take_idsOf (l : List RM) (p : RM → Bool) (k : Nat) (h : k < l.length) : idsOf p (l.take (k + 1)) = idsOf p (l.take k) ++ (if p l[k] then [l[k].k.id] else []) := by
  unfold idsOf
  rw [take_filter p l k h, List.map_append]
  congr 1
  split <;> rfl
/-- While a pass is mixed: the node, and a list of the call's own. -/
structure Mx (W wr : World) (b : Nat) (v : Rv) (rc : Rn) (g cap : Nat) (L : List Int) : Prop where
  node : RAt wr b v rc
  row : wr.ownsRow W.heap.size 3 1 (.slice (some ⟨g, 0, none⟩) L.length cap) L.length (L.flatMap intC)
  frm : Frm (rfeet b v) W wr
  out : g ∉ rfeet b v ∧ v.d.ownBlock ≠ some g
theorem Mx.draw {W wr w' : World} {b : Nat} {v : Rv} {rc rc' : Rn} {g cap : Nat} {L : List Int} (h : Mx W wr b v rc g cap L) (ha : RAt w' b v rc') (hf : Frm [b] wr w') : Mx W w' b v rc' g cap L :=
  ⟨ha, own_frm h.row hf (fun k hk e => by simp only [List.mem_singleton] at e; simp [Value.ownBlock] at hk; subst hk; subst e; exact h.out.1 (by simp [rfeet])), h.frm.trans hf (by simp [rfeet]), h.out⟩
theorem Mx.put {W wr : World} {b : Nat} {v : Rv} {rc : Rn} {g cap : Nat} {L : List Int} (h : Mx W wr b v rc g cap L) (i : Nat) (hi : i < L.length) (z : Int) : Mx W (wr.setCell ⟨g, i, none⟩ (.int .i64 z)) b v rc g cap (L.set i z) := by
  have hg := (own_lt h.row (k := g) rfl).1
  obtain ⟨h1, h2⟩ := h.row.stored i (.int .i64 z)
  have e := row_set intC 1 (fun _ => rfl) L i hi 0 (by omega) (.int .i64 z) z rfl
  simp only [Nat.mul_one, Nat.add_zero] at e
  rw [e] at h1
  have hf := frm_set wr g i (.int .i64 z)
  refine ⟨h.node.frm hf (fun k hk e => ?_) (fun k hk e => ?_), by rw [List.length_set]; exact h1, ?_, h.out⟩
  · simp only [List.mem_singleton] at e; subst e; exact h.out.1 hk
  · simp only [List.mem_singleton] at e; subst e; exact h.out.2 hk
  · exact h.frm.trans hf (fun j hj => .inr (by simp only [List.mem_singleton] at hj; omega))
/-- The mixed list becomes the pass. -/
theorem Mx.pass {W wr : World} {b : Nat} {v : Rv} {rc : Rn} {g cap : Nat} {L : List Int} (h : Mx W wr b v rc g cap L) : RTo W (wr.setCell ⟨b, 14, none⟩ (.slice (some ⟨g, 0, none⟩) L.length cap)) b v { rc with pass := L } := by
  have hg := (own_lt h.row (k := g) rfl).1
  have ha := RAt.store h.node.blk (h.node.rows.setP (Frm.refl _ _) (u := .slice (some ⟨g, 0, none⟩) L.length cap) (l := L) (own_base0 h.row) (fun k hk => by simp [Value.ownBlock] at hk; subst hk; exact h.out.2)) 14 _ rfl
  refine ⟨{ v with p := .slice (some ⟨g, 0, none⟩) L.length cap }, rfl, ha, h.frm.trans (frm_set wr b 14 _) (by simp [rfeet]), fun k hk => ?_⟩
  simp only [rfeet, Rv.all, List.mem_cons, List.mem_append, Option.mem_toList] at hk ⊢
  rcases hk with hk | hk | hk | hk | hk | hk | hk
  · exact .inl (.inl hk)
  · exact .inl (.inr (.inl hk))
  · simp [Value.ownBlock] at hk; exact .inr (by omega)
  · exact .inl (.inr (.inr (.inr (.inl hk))))
  · exact .inl (.inr (.inr (.inr (.inr (.inl hk)))))
  · exact .inl (.inr (.inr (.inr (.inr (.inr (.inl hk))))))
  · exact .inl (.inr (.inr (.inr (.inr (.inr (.inr hk))))))
theorem RTo.then' {W W1 W2 : World} {b : Nat} {v : Rv} {r2 : Rn} (hf : Frm (rfeet b v) W W1) (h : RTo W1 W2 b v r2) : RTo W W2 b v r2 := RTo.trans rfl hf (fun _ hk => .inl hk) h
theorem mix_clock : ∀ (i : Nat) (l : List Int) (r : Rn), (r.mixFrom i l).2.clock = r.clock
  | 0, _, _ => rfl
  | i + 1, l, r => by
    show ((r.draw ((i : Int) + 2)).2.mixFrom i (swapL l (i + 1) (r.draw ((i : Int) + 2)).1.toNat)).2.clock = r.clock
    rw [mix_clock i]
    unfold Rn.draw
    split <;> rfl
theorem renew_clock (r : Rn) : r.renew.clock = r.clock := by
  unfold Rn.renew
  split
  · exact mix_clock _ _ _
  · rfl
theorem mixFrom_step (r : Rn) (L : List Int) (i : Nat) : r.mixFrom (i + 1) L = (r.draw ((i : Int) + 2)).2.mixFrom i (swapL L (i + 1) (r.draw ((i : Int) + 2)).1.toNat) := rfl
set_option maxHeartbeats 2000000 in
set_option maxRecDepth 100000 in
theorem rbegin_any {B : Int} {x : Nd} {r : Rn} (hg : Gh B x r) (hB : B ≤ 999999998000) (_hxn : x.ptgt = 0) {W : World} {b : Nat} {v : Rv} (h : RAt W b v r) :
    Calls Tryz.prog 74 #[.pointer (some ⟨b, 0, none⟩)] W fun e w' => e = .returned (.tuple #[]) ∧ RTo W w' b v r.begin := by
  have hbs := hg.bs (by unfold Big; omega)
  obtain ⟨po, pc, hpv, _, hpc, _⟩ := row_form h.rows.p
  have c14 := h.cell 14
  have hlt := h.ltb
  simp only [refC, List.getElem?_toArray, List.getElem?_cons_zero, List.getElem?_cons_succ, hpv] at c14
  have H0 := hide h
  have HBS := hide hbs
  have HGR := hide (hg.rf.renew hg.ok hg.rl)
  have HRN : Hid (r.renew = if r.pass.length = 0 then { (r.mixFrom (r.present.length - 1) r.present).2 with pass := (r.mixFrom (r.present.length - 1) r.present).1 } else r) := hide rfl
  have HBG : Hid (r.begin = r.renew.probeOne) := hide rfl
  have HG := hide hg
  clear h hbs hg hpv
  go_enter Tryz.func74, Tryz.ntmps74
  go_upto_if 13 with fail
  go_cut [] (fun wq => RTo W wq b v r.renew)
  case first =>
    by_cases hp0 : r.pass.length = 0
    · have HE := hide (by rw [unhide HRN, if_pos hp0] : r.renew = { (r.mixFrom (r.present.length - 1) r.present).2 with pass := (r.mixFrom (r.present.length - 1) r.present).1 })
      have hp0' : ((r.pass.length : Int) == 0) = true := by rw [beq_iff_eq]; omega
      obtain ⟨oo, oc, hov, hob, hocc, _⟩ := row_form (unhide H0).rows.o
      have HOW := hide (hov ▸ (unhide H0).rows.o : W.ownsRow 0 134 4 (.slice oo r.others.length oc) r.others.length (r.others.flatMap rmC))
      have c13 := (unhide H0).cell 13
      simp only [refC, List.getElem?_toArray, List.getElem?_cons_zero, List.getElem?_cons_succ, hov] at c13
      have HOB := hide hob
      have hol := (unhide HBS).len
      have HPR : Hid (r.present = (r.others.filter (fun m => decide (m.k.st ≤ 2))).map (fun m => m.k.id)) := hide rfl
      obtain ⟨A, hA⟩ : ∃ A, A = r.others := ⟨_, rfl⟩
      rw [← hA] at c13 HOW HOB hol hocc HPR
      have HP0 := hide hp0
      clear hob hov hA hp0
      go_wp2_with fail
      go_loopw [2, 3] (fun l i wr => ∃ k : Nat, i = .int .i64 k ∧ k ≤ A.length ∧ Fi intC 3 1 W wr l (idsOf (fun m => decide (m.k.st ≤ 2)) (A.take k))) (fun _ i _ => A.length - (Go.RowKit.intOf i).toNat)
      case atStart => exact ⟨0, by go_num, by omega, by simpa [idsOf] using Fi.nil _ _ _ (Below.refl _ _)⟩
      case round =>
        obtain ⟨k, rfl, hk, hfi⟩ := hrel
        have hbw := hfi.below
        have e13 := (hbw.cell (p := ⟨b, 13, none⟩) hlt).trans c13
        have hwz := hbw.size
        obtain ⟨ro, rc, hrv, hrb, _⟩ := row_form hfi.own
        have hfl : (idsOf (fun m => decide (m.k.st ≤ 2)) (A.take k)).length ≤ A.length := Nat.le_trans (idsOf_len _ _) (by simp; omega)
        subst hrv
        have HFI := hide hfi
        by_cases hlt2 : k < A.length
        · obtain ⟨g, hg, hgl⟩ := unhide HOB (by omega)
          subst hg
          have p0 := (hbw.cell (p := ⟨g, k * 4 + 0, none⟩) hgl).trans (row_cell rmC 4 (fun _ => rfl) (unhide HOW) k hlt2 0 (by omega))
          have p2 := (hbw.cell (p := ⟨g, k * 4 + 2, none⟩) hgl).trans (row_cell rmC 4 (fun _ => rfl) (unhide HOW) k hlt2 2 (by omega))
          simp only [rmC, List.getElem?_cons_zero, List.getElem?_cons_succ, Nat.add_zero] at p0 p2
          have htf := take_idsOf A (fun m => decide (m.k.st ≤ 2)) k hlt2
          generalize A[k] = U at p0 p2 htf
          obtain ⟨⟨ui, ua, ub⟩, ud⟩ := U
          simp only at p0 p2 htf
          have hki : (k : Int) < (A.length : Int) := by omega
          have HTF := hide htf
          clear hfi hbw htf hrb
          by_cases hst : ub ≤ 2
          · go_wp2_with (at_builtin; refine wpList_app rfl _ _ rfl etyI W.heap.size rfl rfl (own_below (unhide HFI).own ((Below.refl _ _).alloc (Nat.le_refl _) _)) (Src.box (cs := intC ui) 1 1 1 (heap_alloc_new wr _) (by rfl)) (int_one _) (by omega) (by simp; omega) ?_)
            intro v' w3 ho3 hg3 _
            have HFI3 := hide ((unhide HFI).push ((Below.refl _ _).alloc (Nat.le_refl _) _) hg3 [ui] (by first | simpa using ho3 | (simp only [List.length_singleton, List.flatMap_singleton]; exact ho3)))
            clear ho3 hg3
            go_wp2
            go_roundw
            case rel => exact ⟨k + 1, by go_num, by omega, by rw [unhide HTF, if_pos (by simpa using hst)]; exact unhide HFI3⟩
            case measure => simp [Go.RowKit.intOf]; omega
          · go_wp2
            go_roundw
            case rel => exact ⟨k + 1, by go_num, by omega, by rw [unhide HTF, if_neg (by simpa using hst), List.append_nil]; exact unhide HFI⟩
            case measure => simp [Go.RowKit.intOf]; omega
        · have hke : k = A.length := by omega
          subst hke
          have hpr : idsOf (fun m => decide (m.k.st ≤ 2)) (A.take A.length) = r.present := by rw [List.take_length, unhide HPR]; rfl
          rw [hpr] at hfl
          have hfi' := hfi
          rw [hpr] at hfi'
          have HPL := hide hpr
          obtain ⟨P, hP⟩ : ∃ P, P = r.present := ⟨_, rfl⟩
          rw [← hP] at hfl hfi' HE HPL
          clear hpr
          have hPl : (idsOf (fun m => decide (m.k.st ≤ 2)) A).length = P.length := by rw [← unhide HPL, List.take_length]
          have HPL2 := hide hPl
          have hpA : idsOf (fun m => decide (m.k.st ≤ 2)) (A.take A.length) = idsOf (fun m => decide (m.k.st ≤ 2)) A := by rw [List.take_length]
          by_cases hP1 : P.length ≤ 1
          · have hS := (unhide H0).setP (l := P) (Frm.of_below hfi'.below (Nat.le_refl _)) (fun g hg => .inr (own_lt hfi'.own hg).1) (own_base0 hfi'.own)
            have hm : r.mixFrom (P.length - 1) P = (P, r) := by
              rw [show P.length - 1 = 0 by omega]; rfl
            rw [hm] at HE
            have e14 := (hbw.cell (p := ⟨b, 14, none⟩) hlt).trans c14
            have g14 := (hbw.frozen (p := ⟨b, 14, none⟩) hlt).trans ((unhide H0).free 14)
            have hlen1 : ((idsOf (fun m => decide (m.k.st ≤ 2)) A).length : Int) ≤ 1 := by omega
            rw [← hPl] at hS
            have HS := hide hS
            clear hfi hbw hfi' hS hm hrb hPl hpA
            go_wp2_with fail
            refine wp_loop_rounds 1 ?_
            rw [rounds_succ]
            go_wp2
            go_meet
            case rel => (rw [unhide HE]; exact unhide HS)
          · obtain ⟨g, cap, hgf, hg1, hg2⟩ := hfi'.own.form (by omega)
            simp only [Value.slice.injEq, true_and] at hgf
            obtain ⟨hro, hrc⟩ := hgf
            subst hro
            subst hrc
            have hMx : Mx W wr b v r g rc P := ⟨(unhide H0).below hfi'.below, hfi'.own, Frm.of_below hfi'.below (Nat.le_refl _), fun hm => by have := (unhide H0).lt hm; omega, fun hm => by have := (unhide H0).rows.d.lt hm; omega⟩
            have HMX := hide hMx
            have hlen2 : (2 : Int) ≤ ((idsOf (fun m => decide (m.k.st ≤ 2)) A).length : Int) := by omega
            have hlen7 : ((idsOf (fun m => decide (m.k.st ≤ 2)) A).length : Int) ≤ 7 := by omega
            have hdrn := (unhide HG).b.tk.2
            rw [← (unhide HG).rf.drawn] at hdrn
            have HDL := hide (unhide HBS).dl
            have hPle : ((idsOf (fun m => decide (m.k.st ≤ 2)) A).length : Int) - 1 = ((P.length - 1 : Nat) : Int) := by omega
            have HPLE := hide hPle
            have HL2 : Hid (2 ≤ P.length ∧ P.length ≤ 7) := hide (by omega)
            clear hfi hbw hfi' hrb hMx hg1 hg2 HPL HFI hPl hPle
            rw [hpA]
            clear hpA
            go_wp2_with fail
            go_loopw [4, 5, 6] (fun i _ _ w' => ∃ (n : Nat) (L : List Int) (q : Rn), i = .int .i64 n ∧ n < P.length ∧ L.length = P.length ∧ Mx W w' b v q g rc L ∧ Hid (r.mixFrom (P.length - 1) P = q.mixFrom n L) ∧ q.draws = r.draws ∧ q.drawn + n ≤ r.drawn + P.length) (fun i _ _ _ => (Go.RowKit.intOf i).toNat)
            case atStart => exact ⟨P.length - 1, P, r, by rw [← unhide HPLE], by have := unhide HL2; omega, rfl, unhide HMX, hide rfl, rfl, by omega⟩
            case round =>
              obtain ⟨n, L, q, rfl, hn, hL, hmx, HMF, hqd, hqn⟩ := hrel
              obtain ⟨wq, hwq⟩ : ∃ wq, wq = wr := ⟨_, rfl⟩
              have hnA : (n : Int) < ((idsOf (fun m => decide (m.k.st ≤ 2)) A).length : Int) := by have := unhide HPL2; omega
              have HQD := hide hqd
              have HLL := hide hL
              have HNP := hide hn
              have HMXR := hide hmx
              have hP7 := (unhide HL2).2
              by_cases hn0 : 0 < n
              · obtain ⟨m, hm⟩ : ∃ m, n = m + 1 := ⟨n - 1, by omega⟩
                have hn0' : (0 : Int) < (n : Int) := by omega
                have hdr := rdraw_at hmx.node (by rw [hqd]; exact unhide HDL) (by omega) ((n : Int) + 1) (by omega) (by omega)
                obtain ⟨d0, d1⟩ := draw_bd q (by rw [hqd]; exact unhide HDL) (n := (n : Int) + 1) (by omega)
                obtain ⟨e1, e2, _, _⟩ := draw_keep q ((n : Int) + 1)
                have hst := unhide HMF
                rw [hm, mixFrom_step] at hst
                rw [show ((m : Int) + 2) = (n : Int) + 1 by omega] at hst
                obtain ⟨z, hz⟩ := Int.eq_ofNat_of_zero_le d0
                rw [hz] at hdr d1 hst
                have hzl : z < L.length := by omega
                have hnl : n < L.length := by omega
                have c1 := fun (w' : World) (hM : Mx W w' b v (q.draw ((n : Int) + 1)).2 g rc L) (i : Nat) (hi : i < L.length) => row_cell intC 1 (fun _ => rfl) hM.row i hi 0 (by omega)
                simp only [Nat.mul_one, Nat.add_zero, intC, List.getElem?_cons_zero] at c1
                have HC1 := hide c1
                have HDR := hide hdr
                have HST := hide hst
                have HM := hide hm
                have HE1 := hide (e1.trans hqd)
                have hq2 : (q.draw ((n : Int) + 1)).2.drawn + m ≤ r.drawn + P.length := by omega
                have hzi : (z : Int) < ((idsOf (fun m => decide (m.k.st ≤ 2)) A).length : Int) := by have := unhide HPL2; omega
                generalize q.draw ((n : Int) + 1) = dq at HDR HST HE1 hq2 HC1
                clear hdr hst hmx hm e1 e2 d0 d1 hz hL hqd c1 hqn hn hwq
                go_wp2_with fail
                refine (unhide HDR).mono ?_
                rintro e w3 ⟨rfl, ha3, hf3⟩
                have hm3 := (unhide HMXR).draw ha3 hf3
                have p1 := unhide HC1 w3 hm3 n hnl
                have p2 := unhide HC1 w3 hm3 z hzl
                have f1 := hm3.row.frozenAt n
                have f2 := hm3.row.frozenAt z
                have hg3 := (own_lt hm3.row (k := g) rfl).2
                have hm4 := (hm3.put n hnl L[z]).put z (by simpa using hzl) L[n]
                have HM4 := hide hm4
                have HSW : Hid (swapL L n z = (L.set n L[z]).set z L[n]) := hide (by
                  unfold swapL
                  rw [List.getD_eq_getElem?_getD, List.getD_eq_getElem?_getD, List.getElem?_eq_getElem hzl, List.getElem?_eq_getElem hnl]
                  rfl)
                generalize L[z] = lz at p2 HM4 HSW
                generalize L[n] = ln at p1 HM4 HSW
                clear ha3 hf3 hm3 hm4 HC1
                obtain ⟨SW, hSW⟩ : ∃ SW, SW = swapL L n z := ⟨_, rfl⟩
                have R2 : Hid (SW.length = P.length) := hide (by rw [hSW, unhide HSW]; simpa using unhide HLL)
                have R3 := hide (unhide HM4)
                rw [← unhide HSW, ← hSW] at R3
                have R4 : Hid (r.mixFrom (P.length - 1) P = dq.2.mixFrom m SW) := by
                  have h1 := unhide HST
                  rw [← unhide HM] at h1
                  rw [hSW]
                  exact hide h1
                have R5 : m < P.length := by have h1 := unhide HM; have h2 := unhide HNP; omega
                have R1 : Hid ((Value.int .i64 ((n : Int) - 1)) = .int .i64 (m : Int)) := hide (by
                  have h1 := unhide HM
                  rw [show ((n : Int) - 1) = (m : Int) by omega])
                clear HSW HM4 HST hSW
                by_cases hnz : n = z
                case' pos =>
                  subst hnz
                  have hll : lz = ln := by
                    have h1 := p2.symm.trans p1
                    simpa using h1
                  subst hll
                case' neg => have hzn : z ≠ n := fun e => hnz e.symm
                all_goals
                  go_wp2
                  go_roundw
                  case rel =>
                    first
                      | exact ⟨m, SW, dq.2, unhide R1, R5, unhide R2, unhide R3, R4, unhide HE1, hq2⟩
                      | ((repeat apply Exists.intro); exact ⟨⟨m, SW, dq.2, unhide R1, R5, unhide R2, unhide R3, R4, unhide HE1, hq2⟩, rfl⟩)
                  case measure => (have h1 := unhide HM; simp [Go.RowKit.intOf]; omega)
              · have hn00 : n = 0 := by omega
                subst hn00
                have hmf := unhide HMF
                have hS := hmx.pass
                have e14 := hmx.node.cell 14
                have g14 := hmx.node.free 14
                obtain ⟨po', pc', hpv', _⟩ := row_form hmx.node.rows.p
                simp only [refC, List.getElem?_toArray, List.getElem?_cons_zero, List.getElem?_cons_succ, hpv'] at e14
                have hlt' := hmx.node.ltb
                rw [hmf] at HE
                rw [hL, ← unhide HPL2] at hS
                have HS := hide hS
                clear hmx hS hmf HMXR hpv' hL hqd hwq
                go_wp2
                go_meet
                case rel => (rw [unhide HE]; exact unhide HS)
    · have HE := hide (by rw [unhide HRN, if_neg hp0] : r.renew = r)
      have hp0' : ((r.pass.length : Int) == 0) = false := by rw [beq_eq_false_iff_ne]; omega
      clear hp0
      go_wp2
      go_meet
      case rel => (rw [unhide HE]; exact RTo.same (unhide H0) (Below.refl _ _))
  case rest =>
    obtain ⟨w2, hw2⟩ : ∃ w2, w2 = wc := ⟨_, rfl⟩
    rw [← hw2] at hcut ⊢
    clear hw2 c14
    obtain ⟨g1, g2, g3, g4, g5⟩ := unhide HGR
    have hokr := renew_ok (unhide HG).ok
    have hnum := (unhide HG).num
    have hnb := (unhide HG).b.num
    have hcl : 0 ≤ r.renew.clock ∧ r.renew.clock ≤ 1000000000000 := by
      have h1 := (unhide HBS).clock
      have e : r.renew.clock = r.clock := renew_clock r
      rw [e]; exact h1
    generalize hR : r.renew = R at *
    generalize hX : x.renew = X at *
    have hsq : R.seq = x.num := by rw [g1.seq, g4]
    have hql : R.queue.length ≤ 1000 := by
      rw [g1.queue.length_eq, List.length_map]
      have := hokr.len
      have := List.length_filter_le pendB X.tab
      omega
    have hqs : ∀ u ∈ R.queue, -1000000 ≤ u.sent ∧ u.sent ≤ 1000000 := fun u hu => by
      obtain ⟨m, hm, rfl⟩ := List.mem_map.1 (g1.queue.mem_iff.1 hu)
      have h1 := hokr.sends m (List.mem_filter.1 hm).1
      have hcf := hokr.cfg
      simp only [cfgB, Bool.and_eq_true, decide_eq_true_eq] at hcf
      show -1000000 ≤ X.c.sends - m.sends ∧ X.c.sends - m.sends ≤ 1000000
      omega
    have hol : R.out.length ≤ 1000 := by rw [g3]; have := (unhide HBS).out; omega
    obtain ⟨v1, hd1, ha1, hf1, hs1⟩ := hcut
    obtain ⟨po1, pc1, hpv1, hpb1, hpc1, hpm1⟩ := row_form ha1.rows.p
    have HOP := hide (hpv1 ▸ ha1.rows.p : w2.ownsRow 0 3 1 (.slice po1 R.pass.length pc1) R.pass.length (R.pass.flatMap intC))
    have c14 := ha1.cell 14
    have c8 := ha1.cell 8
    have c15 := ha1.cell 15
    have c16 := ha1.cell 16
    have c17 := ha1.cell 17
    have c18 := ha1.cell 18
    have f14 := ha1.free 14
    have f15 := ha1.free 15
    have hlt1 := ha1.ltb
    simp only [refC, List.getElem?_toArray, List.getElem?_cons_zero, List.getElem?_cons_succ, hpv1] at c14 c8 c15 c16 c17 c18
    have hplen : R.pass.length ≤ 8 := by rw [g1.pass]; exact hokr.pass.len
    cases hp : R.pass with
    | nil =>
      have HE : Hid (R.probeOne = R) := hide (by unfold Rn.probeOne; rw [hp])
      have HT : Hid (RTo W w2 b v R) := hide ⟨v1, hd1, ha1, hf1, hs1⟩
      rw [hp] at c14
      clear ha1 hf1 hs1 hd1 g1 g2 g3 hokr hqs hp hpv1 hpb1 HGR
      go_wp2
      refine bodyPost_ret (results_none rfl _ _ _) rfl ?_
      rw [unhide HBG, unhide HE]
      exact ⟨rfl, unhide HT⟩
    | cons t l =>
      have hpl : R.pass.length = l.length + 1 := by rw [hp]; rfl
      have HE : Hid (R.probeOne = ({ R with probe := t, pass := l, start := R.clock, acked := false, seq := R.seq + 1, no := R.seq + 1 } : Rn).direct t 1 (R.seq + 1) t) := hide (by unfold Rn.probeOne; rw [hp])
      have hti : 1 ≤ t ∧ t ≤ 250 := by
        have := hokr.pass.ids t (by rw [← g1.pass, hp]; simp)
        exact this.1
      have hwh : wholeB ⟨1, R.self.id, R.self.inc, R.seq + 1, t, R.updates.1⟩ = true := by
        rw [g1.self, (g1.updates hokr).1]
        exact direct_whole hokr (by omega) hti (by omega)
      obtain ⟨g, hg, hgl⟩ := hpb1 (by omega)
      subst hg
      have q0 := row_cell intC 1 (fun _ => rfl) (unhide HOP) 0 (by omega) 0 (by omega)
      simp only [intC, List.getElem?_cons_zero, Nat.mul_one, Nat.add_zero, hp, List.getElem_cons_zero] at q0
      have hpne : ((R.pass.length : Int) == 0) = false := by rw [beq_eq_false_iff_ne]; omega
      have hpos : (1 : Int) ≤ (R.pass.length : Int) := by omega
      have HS1 := hide (ha1.set 15 (.int .i64 t) (r' := { R with probe := t }) rfl)
      have HO1 := hide (hpv1 ▸ (unhide HS1).1.rows.p : (w2.setCell ⟨b, 15, none⟩ (.int .i64 t)).ownsRow 0 3 1 (.slice (some ⟨g, 0, none⟩) R.pass.length pc1) R.pass.length (R.pass.flatMap intC))
      have HF15 := hide (frm_own w2 b v1 (j := 15) (.int .i64 t))
      have HTW := hide (fun w' (Q : Rn) (h : RTo w2 w' b v1 Q) => RTo.trans hd1 hf1 hs1 h)
      have HQS := hide hqs
      have HWH := hide hwh
      have HP := hide hp
      have hRs : 0 ≤ R.seq ∧ R.seq ≤ 1000000000000 := by omega
      clear ha1 hf1 hs1 hd1 g1 g2 g3 hokr hqs hp hpb1 HGR hwh hpl HOP hsq
      go_wp2_with (refine wpList_tail rfl _ _ rfl etyI 1 rfl rfl (unhide HO1) (by omega) ?_)
      intro vt hvt
      have hvt2 : Src (w2.setCell ⟨b, 15, none⟩ (.int .i64 t)) 1 vt l.length (l.flatMap intC) := by
        have e1 : (R.pass.flatMap intC).tail = l.flatMap intC := by rw [unhide HP]; rfl
        have e2 : R.pass.length - 1 = l.length := by rw [unhide HP]; rfl
        have e3 : (R.pass.flatMap intC).drop (1 * 1) = l.flatMap intC := by rw [unhide HP]; rfl
        rw [e2] at hvt
        first | rw [e1] at hvt | rw [e3] at hvt
        exact hvt
      have HVT := hide hvt2
      have hll8 : l.length ≤ 8 := by have e2 : R.pass.length - 1 = l.length := by rw [unhide HP]; rfl
                                     omega
      clear hvt2
      have hsz : (w2.setCell ⟨b, 15, none⟩ (.int .i64 t)).heap.size = w2.heap.size := by simp
      have d14 := (unhide HS1).1.cell 14
      have d8 := (unhide HS1).1.cell 8
      have d16 := (unhide HS1).1.cell 16
      have d17 := (unhide HS1).1.cell 17
      have d18 := (unhide HS1).1.cell 18
      have z14 := (unhide HS1).1.free 14
      simp only [refC, List.getElem?_toArray, List.getElem?_cons_zero, List.getElem?_cons_succ, hpv1] at d14 d8 d16 d17 d18
      clear hvt c14 c8 c15 c16 c17 c18 f14 f15 q0 HO1
      generalize w2.setCell ⟨b, 15, none⟩ (.int .i64 t) = w3 at HS1 HVT HF15 hsz d14 d8 d16 d17 d18 z14 ⊢
      have hlt3 : b < w3.heap.size := by omega
      clear hsz
      go_wp2_with (at_builtin; refine wpList_app rfl _ _ rfl etyI w3.heap.size (n1 := 0) (xs1 := []) rfl rfl (World.ownsRow_nil _ _ _ _) (unhide HVT) (one_of int_one _) (by omega) (by omega) ?_)
      intro v4 w4 ho4 hg4 _
      have hf4 : Fi intC 3 1 w3 w4 v4 l := by
        have := (Fi.nil intC 3 1 (Below.refl w3.heap.size w3)).push (Below.refl _ _) hg4 l (by simpa using ho4)
        simpa using this
      have e8 := (hf4.below.cell (p := ⟨b, 8, none⟩) hlt3).trans d8
      have e14 := (hf4.below.cell (p := ⟨b, 14, none⟩) hlt3).trans d14
      have e16 := (hf4.below.cell (p := ⟨b, 16, none⟩) hlt3).trans d16
      have e17 := (hf4.below.cell (p := ⟨b, 17, none⟩) hlt3).trans d17
      have e18 := (hf4.below.cell (p := ⟨b, 18, none⟩) hlt3).trans d18
      have z4 : ∀ j, w4.frozen? ⟨b, j, none⟩ = false := fun j => (hf4.below.frozen (p := ⟨b, j, none⟩) hlt3).trans ((unhide HS1).1.free j)
      have hlt4 : b < w4.heap.size := by have := hf4.below.size; omega
      obtain ⟨ao', cap', hv'⟩ := own_form hf4.own
      subst hv'
      obtain ⟨v5, hd5, ha5, hf5, hs5⟩ := (unhide HS1).1.setP (l := l) (Frm.of_below hf4.below (Nat.le_refl _)) (fun g hg => .inr (own_lt hf4.own hg).1) (own_base0 hf4.own)
      obtain ⟨k6, t6⟩ := ha5.set 16 (.int .i64 R.clock) (r' := { R with probe := t, pass := l, start := R.clock }) rfl
      obtain ⟨k7, t7⟩ := k6.set 18 (.bool false) (r' := { R with probe := t, pass := l, start := R.clock, acked := false }) rfl
      have HN := hide (rnext_any k7 hRs)
      have HT7 := hide (fun w' (Q : Rn) (h : RTo (((w4.setCell ⟨b, 14, none⟩ (.slice ao' l.length cap')).setCell ⟨b, 16, none⟩ (.int .i64 R.clock)).setCell ⟨b, 18, none⟩ (.bool false)) w' b v5 Q) => unhide HTW w' Q (RTo.then' (unhide HF15) (RTo.trans hd5 hf5 hs5 (RTo.trans rfl ((frm_own _ b v5 _).trans (frm_own _ b v5 _) (fun _ hk => .inl hk)) (fun _ hk => .inl hk) h))))
      clear ha5 hf5 hs5 hd5 k6 t6 k7 t7 hf4 ho4 hg4 HVT d8 d14 d16 d17 d18 z14
      go_wp2_with fail
      generalize ((w4.setCell ⟨b, 14, none⟩ (.slice ao' l.length cap')).setCell ⟨b, 16, none⟩ (.int .i64 R.clock)).setCell ⟨b, 18, none⟩ (.bool false) = w7 at HN HT7 ⊢
      clear e8 e14 e16 e17 e18 z4
      refine (unhide HN).mono ?_
      rintro e w8 ⟨rfl, h8⟩
      obtain ⟨v8, hd8, ha8, hf8, hs8⟩ := h8
      obtain ⟨k9, t9⟩ := ha8.set 17 (.int .i64 (R.seq + 1)) (r' := { R with probe := t, pass := l, start := R.clock, acked := false, seq := R.seq + 1, no := R.seq + 1 }) rfl
      have e17 := ha8.cell 17
      have z17 := ha8.free 17
      simp only [refC, List.getElem?_toArray, List.getElem?_cons_zero, List.getElem?_cons_succ] at e17
      have hlt8 := ha8.ltb
      have i15 := k9.cell 15
      have i17 := k9.cell 17
      simp only [refC, List.getElem?_toArray, List.getElem?_cons_zero, List.getElem?_cons_succ] at i15 i17
      have HSD := hide (rsend_direct k9.drew hol hql (unhide HQS) t 1 (R.seq + 1) t (by omega) (unhide HWH))
      have HT9 := hide (fun w' (Q : Rn) (h : RTo (w8.setCell ⟨b, 17, none⟩ (.int .i64 (R.seq + 1))) w' b v8 Q) => unhide HT7 w' Q (RTo.trans hd8 hf8 hs8 (RTo.then' (frm_own _ b v8 _) h)))
      have hsz9 : (w8.setCell ⟨b, 17, none⟩ (.int .i64 (R.seq + 1))).heap.size = w8.heap.size := by simp
      clear ha8 hf8 hs8 hd8 k9 t9 HN
      go_wp2_with fail
      generalize w8.setCell ⟨b, 17, none⟩ (.int .i64 (R.seq + 1)) = w9 at HSD HT9 i15 i17 hsz9 ⊢
      have hlt9 : b < w9.heap.size := by omega
      clear hsz9
      go_region_with (go_at_call 62; refine (unhide HSD).mono ?_; rintro e w10 ⟨rfl, h10⟩)
      all_goals
        have HT10 := hide (unhide HT9 _ _ (RTo.from (bdrew (Below.refl _ _)) h10))
        clear h10
        go_wp2
        go_end0
        rw [unhide HBG, unhide HE]
        exact ⟨rfl, unhide HT10⟩
end Go.Proofs.YtnneljcbelgoeaaGreatDoor.wire
/- The document's node: others are asked (P9). -/
namespace Go.Proofs.YtnneljcbelgoeaaGreatDoor.wire
open Go.RowKit Go.Maps

/-- While others are asked: the node, and the list of those that can be asked still. -/
structure Mz (W wr : World) (b : Nat) (v0 v : Rv) (q : Rn) (lv : Value) (L : List Int) : Prop where
  d : v.d = v0.d
  node : RAt wr b v q
  frm : Frm (rfeet b v0) W wr
  feet : ∀ k ∈ rfeet b v, k ∈ rfeet b v0 ∨ W.heap.size ≤ k
  row : wr.ownsRow W.heap.size 3 1 lv L.length (L.flatMap intC)
  out : ∀ g, lv.ownBlock = some g → g ∉ rfeet b v ∧ v.d.ownBlock ≠ some g
/-- Its ghost. -/
structure Az (B : Int) (e : Int) (y : Nd) (q : Rn) : Prop where
  rf : Rf y q
  ok : NdOk y
  rl : RlE e y
  prb : y.ptgt ≠ 0
  dl : DlOk y.dl
  dat : (y.dat : Int) ≤ B
  out : q.out.length ≤ 910
theorem Az.bounds {B e : Int} {y : Nd} {q : Rn} (h : Az B e y q) : q.queue.length ≤ 1000 ∧ (∀ u ∈ q.queue, -1000000 ≤ u.sent ∧ u.sent ≤ 1000000) ∧ (1 ≤ q.probe ∧ q.probe ≤ 250) ∧ wholeB ⟨3, q.self.id, q.self.inc, q.no, q.probe, q.updates.1⟩ = true := by
  obtain ⟨p1, p2, p3⟩ := h.rf.prb h.prb
  have htgt : 1 ≤ y.ptgt ∧ y.ptgt ≤ 250 := by
    rcases h.ok.pass.tgt with hh | hh
    · exact absurd hh h.prb
    · exact hh.1
  refine ⟨?_, fun u hu => ?_, by rw [h.rf.probe]; exact htgt, ?_⟩
  · rw [h.rf.queue.length_eq, List.length_map]
    have := h.ok.len
    have := List.length_filter_le pendB y.tab
    omega
  · obtain ⟨m, hm, rfl⟩ := List.mem_map.1 (h.rf.queue.mem_iff.1 hu)
    have h1 := h.ok.sends m (List.mem_filter.1 hm).1
    have hcf := h.ok.cfg
    simp only [cfgB, Bool.and_eq_true, decide_eq_true_eq] at hcf
    show -1000000 ≤ y.c.sends - m.sends ∧ y.c.sends - m.sends ≤ 1000000
    omega
  · rw [h.rf.self, (h.rf.updates h.ok).1, p2, h.rf.probe]
    exact direct_whole h.ok (by omega) htgt (h.rl.prb h.prb).1
theorem Az.draw {B e : Int} {y : Nd} {q : Rn} (h : Az B e y q) {n : Int} (hn : 1 ≤ n) : Az (B + 1) e (y.drew n) (q.draw n).2 := by
  obtain ⟨d1, d2, d3⟩ := h.rf.draw hn
  obtain ⟨m, em, hm⟩ := drew_ex y n
  refine ⟨d2, drew_ok h.ok n, h.rl.drew n, by rw [em]; exact h.prb, by rw [em]; exact h.dl, ?_, by rw [d3]; exact h.out⟩
  have : (q.draw n).2.drawn ≤ q.drawn + 1 := (draw_keep q n).2.1
  rw [d2.drawn, h.rf.drawn] at this
  have := h.dat
  omega
theorem Az.direct {B e : Int} {y : Nd} {q : Rn} (h : Az B e y q) (dest : Int) (ho : q.out.length ≤ 909) : Az B e y.along (q.direct dest 3 q.no q.probe) := by
  obtain ⟨p1, p2, p3⟩ := h.rf.prb h.prb
  have htgt : 1 ≤ y.ptgt ∧ y.ptgt ≤ 250 := by
    rcases h.ok.pass.tgt with hh | hh
    · exact absurd hh h.prb
    · exact hh.1
  obtain ⟨g1, g2⟩ := h.rf.direct h.ok (kind := 3) (seq := y.pnum) (tgt := y.ptgt) dest (by omega) htgt (h.rl.prb h.prb).1
  rw [p2, h.rf.probe]
  exact ⟨g2, along_ok h.ok, h.rl.along h.ok, h.prb, h.dl, h.dat, by rw [g1]; simp; omega⟩
theorem Mz.draw {W wr w' : World} {b : Nat} {v0 v : Rv} {q q' : Rn} {lv : Value} {L : List Int} (h : Mz W wr b v0 v q lv L) (ha : RAt w' b v q') (hf : Frm [b] wr w') : Mz W w' b v0 v q' lv L :=
  ⟨h.d, ha, h.frm.trans hf (by simp [rfeet]), h.feet, own_frm h.row hf (fun k hk e => by simp only [List.mem_singleton] at e; subst e; exact (h.out k hk).1 (by simp [rfeet])), h.out⟩
theorem Mz.call {W wr w' : World} {b : Nat} {v0 v : Rv} {q q' : Rn} {lv : Value} {L : List Int} (h : Mz W wr b v0 v q lv L) (ht : RTo wr w' b v q') : ∃ v', Mz W w' b v0 v' q' lv L := by
  obtain ⟨v', hd, ha, hf, hs⟩ := ht
  refine ⟨v', hd.trans h.d, ha, h.frm.trans hf h.feet, fun k hk => ?_, own_frm h.row hf (fun k hk => (h.out k hk).1), fun g hg => ⟨fun hm => ?_, by rw [hd]; exact (h.out g hg).2⟩⟩
  · rcases hs k hk with h1 | h1
    · exact h.feet k h1
    · exact .inr (Nat.le_trans h.frm.size h1)
  · rcases hs g hm with h1 | h1
    · exact (h.out g hg).1 h1
    · have := (own_lt h.row hg).2; omega
theorem Mz.newL {W wr w' : World} {b : Nat} {v0 v : Rv} {q : Rn} {lv lv' : Value} {L L' : List Int} (h : Mz W wr b v0 v q lv L) (hf : Fi intC 3 1 wr w' lv' L') : Mz W w' b v0 v q lv' L' :=
  ⟨h.d, h.node.below hf.below, h.frm.step hf.below, h.feet, own_mono hf.own h.frm.size, fun g hg => ⟨fun hm => by
    have h1 := (own_lt hf.own hg).1
    have h2 := h.node.lt hm
    omega, fun hm => by
    have h1 := (own_lt hf.own hg).1
    have h2 := h.node.rows.d.lt hm
    omega⟩⟩
theorem Mz.to {W wr : World} {b : Nat} {v0 v : Rv} {q : Rn} {lv : Value} {L : List Int} (h : Mz W wr b v0 v q lv L) : RTo W wr b v0 q := ⟨v, h.d, h.node, h.frm, h.feet⟩
theorem asks_none (q : Rn) (n : Nat) (L : List Int) (h : n = 0 ∨ L.length = 0) : q.asks n L = q := by
  cases n with
  | zero => rfl
  | succ n =>
    have hl : L.length = 0 := h.resolve_left (by omega)
    unfold Rn.asks
    rw [if_pos hl]
theorem asks_some (q : Rn) (n : Nat) (L : List Int) (h : 0 < L.length) : q.asks (n + 1) L = ((q.draw L.length).2.direct (L.getD (q.draw L.length).1.toNat 0) 3 (q.draw L.length).2.no (q.draw L.length).2.probe).asks n (L.eraseIdx (q.draw L.length).1.toNat) := by
  conv => lhs; unfold Rn.asks
  rw [if_neg (by omega)]
theorem direct_c (q : Rn) (a k s t : Int) : (q.direct a k s t).c = q.c ∧ (q.direct a k s t).out.length = q.out.length + 1 := by
  unfold Rn.direct Rn.sendTo Rn.updates
  simp
theorem draw_c (q : Rn) (n : Int) : (q.draw n).2.c = q.c ∧ (q.draw n).2.out = q.out := by
  unfold Rn.draw
  split <;> exact ⟨rfl, rfl⟩
set_option maxHeartbeats 2000000 in
set_option maxRecDepth 100000 in
theorem rask_any {B e : Int} {x : Nd} {r : Rn} (hz : Az B e x r) (hB : B ≤ 999999998000) (hout : r.out.length ≤ 900) {W : World} {b : Nat} {v : Rv} (h : RAt W b v r) :
    Calls Tryz.prog 106 #[.pointer (some ⟨b, 0, none⟩)] W fun e w' => e = .returned (.tuple #[]) ∧ RTo W w' b v r.ask := by
  obtain ⟨oo, oc, hov, hob, hocc, _⟩ := row_form h.rows.o
  have HOW := hide (hov ▸ h.rows.o : W.ownsRow 0 134 4 (.slice oo r.others.length oc) r.others.length (r.others.flatMap rmC))
  have c13 := h.cell 13
  have c15 := h.cell 15
  have hlt := h.ltb
  simp only [refC, List.getElem?_toArray, List.getElem?_cons_zero, List.getElem?_cons_succ, hov] at c13 c15
  have hcf := hz.ok.cfg
  simp only [cfgB, Bool.and_eq_true, decide_eq_true_eq] at hcf
  have hpx : 0 ≤ r.c.proxies ∧ r.c.proxies ≤ 3 := by rw [hz.rf.c]; omega
  have hol : r.others.length ≤ 7 := by
    have := rest_len hz.ok
    have := hz.ok.len
    rw [hz.rf.others, List.length_map]; omega
  have H0 := hide h
  have HZ := hide hz
  have HOB := hide hob
  have HAS : Hid (r.ask = r.asks r.c.proxies.toNat (idsOf (fun m => decide (m.k.st ≤ 2) && !(m.k.id == r.probe)) r.others)) := hide rfl
  clear h hz hob hov hcf
  obtain ⟨A, hA⟩ : ∃ A, A = r.others := ⟨_, rfl⟩
  rw [← hA] at c13 HOW HOB hol hocc HAS
  clear hA
  go_enter Tryz.func106, Tryz.ntmps106
  go_wp2_with fail
  go_loopw [2, 3, 4] (fun l i _ wr => ∃ k : Nat, i = .int .i64 k ∧ k ≤ A.length ∧ Fi intC 3 1 W wr l (idsOf (fun m => decide (m.k.st ≤ 2) && !(m.k.id == r.probe)) (A.take k))) (fun _ i _ _ => A.length - (Go.RowKit.intOf i).toNat)
  case atStart => exact ⟨0, by go_num, by omega, by simpa [idsOf] using Fi.nil _ _ _ (Below.refl _ _)⟩
  case round =>
    obtain ⟨k, rfl, hk, hfi⟩ := hrel
    have hbw := hfi.below
    have e13 := (hbw.cell (p := ⟨b, 13, none⟩) hlt).trans c13
    have e15 := (hbw.cell (p := ⟨b, 15, none⟩) hlt).trans c15
    have hwz := hbw.size
    have hltr : b < wr.heap.size := by omega
    obtain ⟨ro, rc, hrv, hrb, _⟩ := row_form hfi.own
    have hfl : (idsOf (fun m => decide (m.k.st ≤ 2) && !(m.k.id == r.probe)) (A.take k)).length ≤ A.length := Nat.le_trans (idsOf_len _ _) (by simp; omega)
    subst hrv
    have HFI := hide hfi
    by_cases hlt2 : k < A.length
    · obtain ⟨g, hg, hgl⟩ := unhide HOB (by omega)
      subst hg
      have hcell : ∀ j, j < 4 → wr.cell? ⟨g, k * 4 + j, none⟩ = (rmC A[k])[j]? := fun j hj => (hbw.cell (p := ⟨g, k * 4 + j, none⟩) hgl).trans (row_cell rmC 4 (fun _ => rfl) (unhide HOW) k hlt2 j hj)
      have p0 := hcell 0 (by omega)
      have p1 := hcell 1 (by omega)
      have p2 := hcell 2 (by omega)
      simp only [rmC, List.getElem?_cons_zero, List.getElem?_cons_succ, Nat.add_zero] at p0 p1 p2
      have htf := take_idsOf A (fun m => decide (m.k.st ≤ 2) && !(m.k.id == r.probe)) k hlt2
      generalize A[k] = U at p0 p1 p2 htf
      obtain ⟨⟨ui, ua, ub⟩, ud⟩ := U
      simp only at p0 p1 p2 htf
      have hki : (k : Int) < (A.length : Int) := by omega
      have HTF := hide htf
      clear hfi hbw htf hrb hcell
      by_cases hst : ub ≤ 2
      · have hst' : decide (ub ≤ 2) = true := by simpa using hst
        by_cases hid : ui = r.probe
        · have hid' : (ui == r.probe) = true := by simpa using hid
          have HC : Hid ((decide (ub ≤ 2) && !(ui == r.probe)) = false) := hide (by simp [hid])
          clear hid
          go_wp2
          go_quiet (fail)
          go_wp2
          go_roundw
          case rel => exact ⟨k + 1, by go_num, by omega, by rw [unhide HTF, unhide HC, if_neg (by simp), List.append_nil]; exact (unhide HFI).mono (bdrewN ((Below.refl _ _).alloc (Nat.le_refl _) _) _)⟩
          case measure => simp [Go.RowKit.intOf]; omega
        · have hid' : (ui == r.probe) = false := by simpa using hid
          have HC : Hid ((decide (ub ≤ 2) && !(ui == r.probe)) = true) := hide (by simp [hid, hst])
          clear hid
          go_wp2
          go_quiet (fail)
          go_wp2_with (at_builtin; refine wpList_app rfl _ _ rfl etyI W.heap.size rfl rfl (own_below (unhide HFI).own (bdrewN (((Below.refl _ _).alloc (Nat.le_refl _) _).alloc (by simp) _) _)) (Src.box (cs := intC ui) 1 1 1 (heap_new2 wr _ _) (by rfl)) (int_one _) (by omega) (by simp; omega) ?_)
          intro v' w3 ho3 hg3 _
          have HFI3 := hide ((unhide HFI).push (bdrewN (((Below.refl _ _).alloc (Nat.le_refl _) _).alloc (by simp) _) _) hg3 [ui] (by simpa using ho3))
          clear ho3 hg3
          go_wp2
          go_roundw
          case rel => exact ⟨k + 1, by go_num, by omega, by rw [unhide HTF, unhide HC, if_pos rfl]; exact unhide HFI3⟩
          case measure => simp [Go.RowKit.intOf]; omega
      · have hst' : decide (ub ≤ 2) = false := by simpa using hst
        have HC : Hid ((decide (ub ≤ 2) && !(ui == r.probe)) = false) := hide (by simp [hst])
        go_wp2
        go_quiet (fail)
        go_wp2
        go_roundw
        case rel => exact ⟨k + 1, by go_num, by omega, by rw [unhide HTF, unhide HC, if_neg (by simp), List.append_nil]; exact (unhide HFI).mono (bdrewN ((Below.refl _ _).alloc (Nat.le_refl _) _) _)⟩
        case measure => simp [Go.RowKit.intOf]; omega
    · have hke : k = A.length := by omega
      subst hke
      have hpA : idsOf (fun m => decide (m.k.st ≤ 2) && !(m.k.id == r.probe)) (A.take A.length) = idsOf (fun m => decide (m.k.st ≤ 2) && !(m.k.id == r.probe)) A := by rw [List.take_length]
      rw [hpA] at hfi hfl ⊢
      clear HFI hpA
      obtain ⟨P, hP⟩ : ∃ P, P = idsOf (fun m => decide (m.k.st ≤ 2) && !(m.k.id == r.probe)) A := ⟨_, rfl⟩
      rw [← hP] at hfi hfl HAS ⊢
      have hM0 : Mz W wr b v v r (.slice ro P.length rc) P := ⟨rfl, (unhide H0).below hfi.below, Frm.of_below hfi.below (Nat.le_refl _), fun k hk => .inl hk, hfi.own, fun g hg => ⟨fun hm => by
        have h1 := (own_lt hfi.own hg).1
        have h2 := (unhide H0).lt hm
        omega, fun hm => by
        have h1 := (own_lt hfi.own hg).1
        have h2 := (unhide H0).rows.d.lt hm
        omega⟩⟩
      have HM0 := hide hM0
      clear hfi hbw hrb hM0 hP
      obtain ⟨N, hN⟩ : ∃ N : Nat, r.c.proxies = (N : Int) := Int.eq_ofNat_of_zero_le hpx.1
      have HN := hide hN
      rw [hN, Int.toNat_natCast] at HAS
      have hN3 : N ≤ 3 := by omega
      clear hN hpx
      go_wp2_with fail
      go_loopw [2, 5, 6, 7] (fun l n _ _ w' => ∃ (i : Nat) (L : List Int) (q : Rn) (v' : Rv) (y : Nd), n = .int .i64 i ∧ i ≤ N ∧ Mz W w' b v v' q l L ∧ Az (B + i) e y q ∧ L.length ≤ 7 ∧ q.out.length ≤ 900 + i ∧ Hid (q.c = r.c) ∧ Hid (r.asks N P = q.asks (N - i) L)) (fun _ n _ _ _ => N - (Go.RowKit.intOf n).toNat)
      case atStart => exact ⟨0, P, r, v, x, by go_num, by omega, unhide HM0, by simpa using unhide HZ, by omega, by omega, hide rfl, hide rfl⟩
      case round =>
        obtain ⟨i, L, q, v', y, rfl, hi, hmz, haz, hL7, hqo, HQC, HQA⟩ := hrel
        obtain ⟨lo, lc, hlv, hlb, hlc, hlm⟩ := row_form hmz.row
        subst hlv
        have c4 := hmz.node.cell 4
        have hltq := hmz.node.ltb
        simp only [refC, List.getElem?_toArray, List.getElem?_cons_zero, List.getElem?_cons_succ] at c4
        rw [unhide HQC, unhide HN] at c4
        have HMZ := hide hmz
        have HAZ := hide haz
        by_cases hgo : i < N ∧ 0 < L.length
        · obtain ⟨hiN, hL0⟩ := hgo
          have hiN' : (i : Int) < (N : Int) := by omega
          have hL0' : (0 : Int) < (L.length : Int) := by omega
          have hdb : q.drawn ≤ 1000000000000 := by rw [haz.rf.drawn]; have := haz.dat; omega
          have hdl : DlOk q.draws := by rw [haz.rf.draws]; exact haz.dl
          have HDR := hide (rdraw_at hmz.node hdl hdb (L.length : Int) (by omega) (by omega))
          obtain ⟨d0, d1⟩ := draw_bd q hdl (n := (L.length : Int)) (by omega)
          have haz2 := haz.draw (n := (L.length : Int)) (by omega)
          have hqa := unhide HQA
          rw [show N - i = (N - (i + 1)) + 1 by omega, asks_some q _ L hL0] at hqa
          obtain ⟨z, hz⟩ := Int.eq_ofNat_of_zero_le d0
          rw [hz] at HDR d1 hqa
          simp only [Int.toNat_natCast] at hqa
          have hzl : z < L.length := by omega
          obtain ⟨cc1, cc2⟩ := draw_c q (L.length : Int)
          have hqc2 : (q.draw (L.length : Int)).2.c = r.c := cc1.trans (unhide HQC)
          have hqo2 : (q.draw (L.length : Int)).2.out.length ≤ 900 + i := by rw [cc2]; exact hqo
          rw [List.getD_eq_getElem?_getD, List.getElem?_eq_getElem hzl, Option.getD_some] at hqa
          generalize (q.draw (L.length : Int)).2 = q2 at HDR haz2 hqa hqc2 hqo2
          obtain ⟨b1, b2, b3, b4⟩ := haz2.bounds
          have haz3 := haz2.direct L[z] (by omega)
          obtain ⟨dc1, dc2⟩ := direct_c q2 L[z] 3 q2.no q2.probe
          have HAZ3 := hide haz3
          have HQA3 := hide hqa
          have HQC3 := hide (dc1.trans hqc2)
          have hqo3 : (q2.direct L[z] 3 q2.no q2.probe).out.length ≤ 900 + (i + 1) := by rw [dc2]; omega
          have HB2 := hide b2
          have HB4 := hide b4
          have hzi : (z : Int) < (L.length : Int) := by omega
          clear hmz haz haz2 haz3 hqa dc1 dc2 b2 b4 hdl d0 d1 hz cc1 cc2 hqc2 HQA HQC hlb
          go_wp2_with fail
          refine (unhide HDR).mono ?_
          rintro e w3 ⟨rfl, ha3, hf3⟩
          have hm3 := (unhide HMZ).draw ha3 hf3
          obtain ⟨g, hg, hgl⟩ : ∃ g, lo = some ⟨g, 0, none⟩ ∧ g < w3.heap.size := by
            obtain ⟨ao, cap, e, hb, _⟩ := row_form hm3.row
            cases e
            exact hb hL0
          subst hg
          have q0 := row_cell intC 1 (fun _ => rfl) hm3.row z hzl 0 (by omega)
          simp only [intC, List.getElem?_cons_zero, Nat.mul_one, Nat.add_zero] at q0
          have c15 := ha3.cell 15
          have c17 := ha3.cell 17
          have hlt3 := ha3.ltb
          simp only [refC, List.getElem?_toArray, List.getElem?_cons_zero, List.getElem?_cons_succ] at c15 c17
          have HSD := hide (rsend_direct ha3.drew (by omega) b1 (unhide HB2) L[z] 3 q2.no q2.probe (by omega) (unhide HB4))
          have HM3 := hide hm3
          generalize L[z] = dest at q0 HSD HAZ3 HQA3 HQC3 hqo3
          clear ha3 hf3 hm3 HDR HMZ
          go_wp2_with fail
          go_region_with (go_at_call 62; refine (unhide HSD).mono ?_; rintro e w5 ⟨rfl, h5⟩)
          all_goals
            obtain ⟨v5, hm5⟩ := (unhide HM3).call (RTo.from (bdrew (Below.refl _ _)) h5)
            have HM5 := hide hm5
            have hlp : (L.take z).length = z := by simp; omega
            have HLP := hide hlp
            have hz5 : g < w5.heap.size := (own_lt hm5.row (k := g) rfl).2
            clear h5 hm5 hlp
            go_wp2_with (at_builtin; refine wpList_app rfl _ _ rfl etyI w5.heap.size (n := z) (xs := (L.flatMap intC).take (z * 1)) (n1 := 0) (xs1 := []) rfl rfl (World.ownsRow_nil _ _ _ _) ?_ (fun u hu => one_of int_one _ u (List.mem_of_mem_take hu)) (by omega) (by omega) ?_)
            · (simp [Act.eval]; first | exact Src.head (unhide HM5).row z (Nat.le_of_lt hzl) | (rw [← Nat.mul_one z]; exact Src.head (unhide HM5).row z (Nat.le_of_lt hzl)) | (have hh := Src.head (unhide HM5).row z (Nat.le_of_lt hzl); rw [Nat.mul_one] at hh; exact hh))
            intro v6 w6 ho6 hg6 _
            have hf6 : Fi intC 3 1 w5 w6 v6 (L.take z) := by
              have := (Fi.nil intC 3 1 (Below.refl w5.heap.size w5)).push (Below.refl _ _) hg6 (L.take z) (by
                have e := row_take intC 1 (fun _ => rfl) L z
                rw [Nat.mul_one] at e
                try rw [Nat.mul_one] at ho6
                rw [e] at ho6
                rw [unhide HLP]; simpa using ho6)
              simpa using this
            have HF6 := hide hf6
            have hz6 := hf6.below.size
            have HL6 := hide (own_below (unhide HM5).row hf6.below)
            clear ho6 hg6 hf6
            go_wp2_with (refine wpList_tail rfl _ _ rfl etyI (z + 1) rfl rfl (unhide HL6) (by omega) ?_)
            intro vt hvt
            have hvt2 : Src w6 1 vt (L.length - (z + 1)) ((L.drop (z + 1)).flatMap intC) := by
              have e := row_drop intC 1 (fun _ => rfl) L (z + 1)
              rw [← e]
              first | exact hvt | simpa using hvt
            have HVT := hide hvt2
            clear hvt hvt2
            go_wp2_with (at_builtin; refine wpList_app rfl _ _ rfl etyI w5.heap.size rfl rfl (unhide HF6).own (unhide HVT) (one_of int_one _) (by have := unhide HLP; omega) (by omega) ?_)
            intro v7 w7 ho7 hg7 _
            have hf7 := (unhide HF6).push (Below.refl _ _) hg7 (L.drop (z + 1)) (by first | (rw [List.length_take, List.length_drop]; exact ho7) | (rw [unhide HLP, List.length_drop]; exact ho7) | simpa using ho7)
            rw [← List.eraseIdx_eq_take_drop_succ] at hf7
            have hm7 := (unhide HM5).newL hf7
            have HM7 := hide hm7
            obtain ⟨lo7, lc7, hv7, _⟩ := row_form hm7.row
            subst hv7
            have hle : (L.eraseIdx z).length ≤ 7 := by rw [List.length_eraseIdx]; split <;> omega
            clear hf7 hm7 ho7 hg7 HVT HL6 HF6
            go_wp2
            go_roundw
            case rel => exact ⟨i + 1, L.eraseIdx z, _, v5, _, by go_num, by omega, unhide HM7, by simpa [Int.add_assoc] using unhide HAZ3, hle, hqo3, HQC3, HQA3⟩
            case measure => simp [Go.RowKit.intOf]; omega
        · have hno : N - i = 0 ∨ L.length = 0 := by omega
          have HE : Hid (r.ask = q) := hide (by rw [unhide HAS, unhide HQA, asks_none q _ L hno])
          have HT := hide hmz.to
          clear hmz haz HQA hno
          have hcs : N ≤ i ∨ (i < N ∧ L.length = 0) := by omega
          rcases hcs with h1 | ⟨h1, h2⟩
          case' inl => have h1' : ¬ (i : Int) < (N : Int) := by omega
          case' inr =>
            have h1' : (i : Int) < (N : Int) := by omega
            have h2' : ¬ (0 : Int) < (L.length : Int) := by omega
            clear h2
          all_goals
            clear hgo
            go_wp2
            go_end0
            rw [unhide HE]
            exact ⟨rfl, unhide HT⟩
end Go.Proofs.YtnneljcbelgoeaaGreatDoor.wire
