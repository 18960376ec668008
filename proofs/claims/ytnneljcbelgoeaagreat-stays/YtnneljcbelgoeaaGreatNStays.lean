import Derived.Test.YtnneljcbelgoeaaGreatNStayB
/- Stays: who answers is never called dead. -/
namespace Go.Proofs.YtnneljcbelgoeaaGreat.wire
open Go.RowKit Go.Maps

set_option maxHeartbeats 4000000 in
set_option maxRecDepth 100000 in
theorem stays_any (n c tk : Int) (l : List Int) (hl : l.length ≤ maxLen) {ao : Option Addr} {cap : Nat} {W : World} (hv : RawI W ao l) (hrng : ∀ z ∈ l, -9223372036854775808 ≤ z ∧ z ≤ 9223372036854775807)
    (n0 : -9223372036854775808 ≤ n) (n1 : n ≤ 9223372036854775807) (c0 : -9223372036854775808 ≤ c) (c1 : c ≤ 9223372036854775807) (t0 : -9223372036854775808 ≤ tk) (t1 : tk ≤ 9223372036854775807) :
    Calls Tryz.prog 6 #[.int .i64 n, .int .i64 c, .slice ao l.length cap, .int .i64 tk] W fun e w' => e = .returned (.bool true) ∧ Below W.heap.size W w' := by
  have hb1 := pickI_bd n 5 (by omega)
  have hb2 := pickI_bd tk 60 (by omega)
  have HP1 := fun w => hide (pick_any n 5 w n0 n1 (by omega) (by omega))
  have HP2 := fun w => hide (pick_any tk 60 w t0 t1 (by omega) (by omega))
  obtain ⟨k, hk⟩ : ∃ k : Nat, (k : Int) = 2 + pickI n 5 := ⟨(2 + pickI n 5).toNat, by omega⟩
  obtain ⟨L, hL⟩ : ∃ L : Nat, (L : Int) = 40 + pickI tk 60 := ⟨(40 + pickI tk 60).toNat, by omega⟩
  have hM := made_any k (by omega) (by omega) c c0 c1 l hl (cap := cap) hv hrng
  have hP := pickI_bd c 1073741824 (by omega)
  have hP4 : 4 ≤ 4 + (pickI c 1073741824).tmod 8 ∧ 4 + (pickI c 1073741824).tmod 8 ≤ 11 := by
    have h1 := Int.tmod_nonneg 8 hP.1
    have h2 := Int.tmod_lt_of_pos (pickI c 1073741824) (show (0 : Int) < 8 by omega)
    omega
  have HM := hide hM
  clear hM hv hrng hP
  generalize pickI n 5 = P1 at HP1 hb1 hk
  generalize pickI tk 60 = P2 at HP2 hb2 hL
  go_enter Tryz.func6, Tryz.ntmps6
  go_wp2_with (first
    | (go_at_call_of 9 (Value.int IntKind.i64 n); refine (unhide (HP1 _)).mono ?_; rintro e w' ⟨rfl, hw⟩; have hw' := hw.symm; subst hw')
    | fail)
  rw [← hk]
  have hk2 : 2 ≤ k ∧ k ≤ 6 := by omega
  have hL2 : 40 ≤ L ∧ L ≤ 99 := by omega
  have HKP := hide hk
  have HLP := hide hL
  clear hk hL hb1
  refine (unhide HM).mono ?_
  rintro e w1 ⟨lv, xs, rfl, hxl, hak, hmi⟩
  obtain ⟨g, lcap, rfl⟩ := (NI.of_mi hmi).form (by omega)
  have hni := NI.of_mi hmi
  have hst := Rest.start hxl hak hmi
  rw [hxl] at hni
  rw [hxl]
  generalize 4 + (pickI c 1073741824).tmod 8 = P at hP4 hst
  have HNI := hide hni
  have HST := hide hst
  clear hmi hak hst hni HM HP1
  go_wp2_with fail
  go_loopw [11, 12] (fun pr t wr => ∃ (pn tn : Nat) (xs : List Nd), pr = .int .i64 pn ∧ t = .int .i64 tn ∧ tn ≤ L ∧ pn ≤ 6 * tn ∧ need k P tn 0 ≤ pn ∧ Hid (Rest k P tn 0 (5000 + 300 * tn) xs) ∧ Hid (NI W wr (.slice (some ⟨g, 0, none⟩) k lcap) xs)) (fun _ t _ => L - (Go.RowKit.intOf t).toNat)
  case atStart => exact ⟨0, 0, xs, by go_num, by go_num, by omega, by omega, by simp [need], HST, HNI⟩
  case round =>
    obtain ⟨pn, tn, ys, rfl, rfl, htL, hpn, hnd, HR, HN⟩ := hrel
    by_cases hlt : tn < L
    · have hlt' : (tn : Int) < 40 + P2 := by have := unhide HLP; omega
      go_wp2_with (first
        | (go_at_call_of 9 (Value.int IntKind.i64 tk); refine (unhide (HP2 _)).mono ?_; rintro e w' ⟨rfl, hw⟩; have hw' := hw.symm; subst hw')
        | fail)
      go_loopw [11, 13] (fun pr i wr => ∃ (pn i' : Nat) (xs : List Nd), pr = .int .i64 pn ∧ i = .int .i64 i' ∧ i' ≤ k ∧ pn ≤ 6 * tn + i' ∧ need k P tn i' ≤ pn ∧ Hid (Rest k P tn i' (5000 + 300 * tn + 50 * i') xs) ∧ Hid (NI W wr (.slice (some ⟨g, 0, none⟩) k lcap) xs)) (fun _ i _ => k - (Go.RowKit.intOf i).toNat)
      case atStart => exact ⟨pn, 0, ys, by go_num, by go_num, by omega, by omega, hnd, (unhide HR).wide (by omega), HN⟩
      case round =>
        clear HR HN HST HNI
        obtain ⟨pn, i', ys, rfl, rfl, hik, hpn, hnd, HR, HN⟩ := hrel
        by_cases hli : i' < k
        · have hli' : (i' : Int) < (k : Int) := by omega
          have hyl := (unhide HR).len
          obtain ⟨nb, hcell⟩ := (unhide HN).cell i' (by omega) (by rw [hyl])
          have hca := (unhide HR).calm i' (by omega)
          have HC := hide ((unhide HN).tick i' (by omega) (by rw [hyl]) hcell hca.c0.ok hca.c0.dl (((unhide HR).b i' (by omega)).mono (by unfold Bt; omega)))
          have HWZ := hide (unhide HN).below.size
          have hi0 : i' < ys.length := by omega
          have HD := fun w' o (ho : Outs wr w' o ys[i'].tick.1) => hide (Dr.start (W := W) (w := wr) (w' := w') (o := o) (unhide HR) hi0 hk2.1 (by omega) hnd (unhide HWZ) ho)
          clear hca
          go_wp2_with fail
          refine (unhide HC).mono ?_
          rintro e w2 ⟨o, rfl, ho, hni2, hkk⟩
          clear hkk
          have HD2 := HD _ _ ho
          have HN2 := hide hni2
          have hzl : (ys.set i' (ys[i'].tick.2)).length = k := by simpa using hyl
          generalize ys.set i' (ys[i'].tick.2) = zs at HD2 HN2 hzl
          clear ho hni2 HD HC HR HN hcell HWZ
          go_wp2
          go_loopw [11, 14] (fun pr out wr => ∃ (pm : Nat) (zs : List Nd), pr = .int .i64 pm ∧ zs.length = k ∧ Hid (Dr k P tn i' (5000 + 300 * tn + 50 * i') pn W wr pm out zs) ∧ Hid (NI W wr (.slice (some ⟨g, 0, none⟩) k lcap) zs)) (fun pr out _ => (pn + 1 - (Go.RowKit.intOf pr).toNat) + slen out)
          case atStart => exact ⟨pn, zs, rfl, hzl, HD2, HN2⟩
          case round =>
            clear HD2 HN2
            obtain ⟨pm, vs, rfl, hvl, HD, HN⟩ := hrel
            cases unhide HD with
            | done e hr hn hp =>
              subst e
              have HR := hide hr
              clear hr HD
              go_wp2
              go_roundw
              case rel => exact ⟨pm, i' + 1, vs, by go_num, by go_num, by omega, by omega, hn, (unhide HR).wide (by omega), HN⟩
              case measure => simp [Go.RowKit.intOf]; omega
            | @ping u q p hp h hr hf hn =>
              subst hn
              obtain ⟨og, off, oc, cs, rfl, h1, h2, hg, h3, h4, h5⟩ := hr.ex
              have hW := hf og rfl
              obtain ⟨j, hj⟩ : ∃ j : Nat, u = (j : Int) + 1 := ⟨(u - 1).toNat, by have := h.un; omega⟩
              subst hj
              have hjk : j < k := by have := h.un; omega
              have hj0 : j < vs.length := by omega
              obtain ⟨p', r1, r2, r3⟩ := h.ping (by omega) hp j hj0 rfl
              have hok := (h.calm j hj0 (by have := h.ne; omega)).c0.ok
              have hbj := h.b j hj0
              obtain ⟨ups, rfl, hw, hu⟩ := hp
              obtain ⟨hd, hrd⟩ := dec_of_whole hw
              have hlen := bytes_len hw
              have HDC := fun w => hide (gdecode_yes _ w hlen hd)
              have hk8 := whole_len hw
              simp only [hrd, mval] at HDC
              dsimp only at h4 h5 r1 r3 hk8
              generalize bytesM ⟨1, (i' : Int) + 1, 1, q, (j : Int) + 1, ups⟩ = BS at h5 r1 r3 hd hrd hlen HDC
              have a0 := (cell_at hg off).trans h4
              have a1 := (cell_at hg (off + 1)).trans h5
              have R2 := hide r2
              have R3 := hide r3
              have HG := hide hg
              have hgl := lt_blk hg
              have hgw : g < wr.heap.size := by
                obtain ⟨cs, hcs⟩ := (unhide HN).row (by omega) (by rw [hvl])
                exact lt_blk hcs
              clear hd hrd hw hu h hr hf HD r2 r3 hg h4 h5
              go_wp2_with fail
              all_goals (
                obtain ⟨v2, hv2, hno⟩ : ∃ v2, (v2 = Value.slice (some ⟨og, off, none⟩) 0 0 ∧ oc = 1 ∨ v2 = Value.slice (some ⟨og, off + 2, none⟩) 0 (oc - 1) ∧ ¬ oc = 1) ∧ NoRow wr v2 ∧ v2.ownBlock = some og := by
                  by_cases e : oc = 1
                  · exact ⟨_, .inl ⟨rfl, e⟩, ⟨og, off, 0, cs, rfl, by omega, unhide HG, by omega⟩, rfl⟩
                  · exact ⟨_, .inr ⟨rfl, e⟩, ⟨og, off + 2, oc - 1, cs, rfl, by omega, unhide HG, by omega⟩, rfl⟩
                obtain ⟨hno, hnb⟩ := hno
                simp only [h, not_true_eq_false, not_false_eq_true, and_true, and_false, or_false, false_or] at hv2
                first
                  | rw [← hv2]
                  | fail "no"
                clear hv2 h
                refine (unhide (HDC _)).mono ?_
                rintro e w3 ⟨uv, rfl, hou, hb3⟩
                obtain ⟨uao, ucap, rfl⟩ := own_form hou
                have hb03 : Below wr.heap.size wr w3 := ((Below.refl _ _).alloc (Nat.le_refl _) _).trans (hb3.mono (by simp))
                have hpb := (hb3.block wr.heap.size (by simp)).trans (heap_alloc_new wr (.cells #[.int .i64 ((j : Int) + 1), .string (bs BS)] 39))
                have p0 := cell_at hpb 0
                have p1 := cell_at hpb 1
                simp only [List.getElem?_toArray, List.getElem?_cons_zero, List.getElem?_cons_succ] at p0 p1
                have plt := lt_blk hpb
                have hN4 := (((unhide HN).mono hb03).mono ((Below.refl _ _).alloc (Nat.le_refl _) (.cells #[.int .i64 1, .int .i64 ((i' : Int) + 1), .int .i64 1, .int .i64 q, .int .i64 ((j : Int) + 1), .slice uao ups.length ucap] 29))).drew
                obtain ⟨nb, hcell⟩ := ((unhide HN).mono hb03).cell j hj0 (by rw [hvl])
                obtain ⟨gcs, hgcs⟩ := ((unhide HN).mono hb03).row (by omega) (by rw [hvl])
                have HROW := hide hgcs
                have HPB := hide hpb
                have hgl3 := lt_blk hgcs
                have HNO := hide (hno.below hb03)
                have HW3 := hide ((unhide HN).mono hb03).below.size
                have HG3 := hide ((hb03.block _ hgl).trans (unhide HG))
                clear hou hb3 hb03 hpb hno HN HDC HG hgcs
                go_wp2_with fail
                obtain ⟨w4, hw4⟩ : ∃ w4, w4 = w3.alloc (.cells #[.int .i64 1, .int .i64 ((i' : Int) + 1), .int .i64 1, .int .i64 q, .int .i64 ((j : Int) + 1), .slice uao ups.length ucap] 29) := ⟨_, rfl⟩
                rw [← hw4] at hN4 ⊢
                have hb4 : Below w3.heap.size w3 w4 := by rw [hw4]; exact (Below.refl _ _).alloc (Nat.le_refl _) _
                have q0 := (hb4.cell (p := ⟨wr.heap.size, 0, none⟩) plt).trans p0
                have q1 := (hb4.cell (p := ⟨wr.heap.size, 1, none⟩) plt).trans p1
                have q2 := (hb4.cell (p := ⟨g, j, none⟩) hgl3).trans hcell
                have HPB4 := hide ((hb4.block _ plt).trans (unhide HPB))
                have HROW4 := hide ((hb4.block _ hgl3).trans (unhide HROW))
                have HG4 := hide ((hb4.block _ (lt_blk (unhide HG3))).trans (unhide HG3))
                have HNO4 := hide ((unhide HNO).below hb4)
                have hrc := hN4.receive j hj0 (by rw [hvl]) q2 hok (hbj.mono (by unfold Bg; omega)) BS hlen
                rw [r1] at hrc
                have HC := hide hrc
                have hgl4 := lt_blk (unhide HROW4)
                have plt4 := lt_blk (unhide HPB4)
                have hk0 : (j : Int) < (k : Int) := by omega
                have hk00 : (0 : Int) ≤ (j : Int) := by omega
                obtain ⟨D, hD⟩ : ∃ D : Int, D = (j : Int) + 1 := ⟨_, rfl⟩
                rw [← hD] at q0 HPB4
                have hw1 : IntKind.i64.wrap (D - 1) = (j : Int) := by rw [IntKind.wrap_i64]; omega
                clear hD hw4 hb4 p0 p1 hcell HPB HROW HG3 HNO hN4 hrc r1 hgl hgl3 plt hok hbj hgw
                go_region_held3 (fun w' => w'.cell? ⟨g, j, none⟩ = some (.pointer (some ⟨nb, 0, none⟩)) ∧ w'.cell? ⟨wr.heap.size, 0, none⟩ = some (.int .i64 D) ∧ w'.cell? ⟨wr.heap.size, 1, none⟩ = some (.string (bs BS))) (go_keep)
                  (first
                    | (go_at_call 11; refine (unhide HC).mono ?_; rintro e w5 ⟨o2, rfl, ho2, hN5, hkp'⟩; have hkp := kept_drew hkp'; have s0 : w5.cell? ⟨g, j, none⟩ = some (.pointer (some ⟨nb, 0, none⟩)) := (cell_at (hkp _ _ _ (unhide HROW4) (by decide) (by decide) (by decide) (by decide)) j).trans ((cell_at (unhide HROW4) j).symm.trans q2); have s1 : w5.cell? ⟨wr.heap.size, 0, none⟩ = some (.int .i64 D) := cell_at (hkp _ _ _ (unhide HPB4) (by decide) (by decide) (by decide) (by decide)) 0; have s2 : w5.cell? ⟨wr.heap.size, 1, none⟩ = some (.string (bs BS)) := cell_at (hkp _ _ _ (unhide HPB4) (by decide) (by decide) (by decide) (by decide)) 1))
                obtain ⟨bg, bcap, rfl, hbg, b0, b1, bcs, hbcs⟩ := outs_cells ho2
                have hno5 := (unhide HNO4).kept hkp
                have hg5 := hkp _ _ _ (unhide HG4) (by decide) (by decide) (by decide) (by decide)
                obtain ⟨v', w6, hrun, hpk, gg, hgg, hfr⟩ := append_tail hno5 36 b0 b1
                rw [hnb] at hgg
                cases hgg
                have HN6 := hide (hN5.frm hg5 hW hfr)
                have HPK := hide hpk
                have hsl : slen v' = 1 := by obtain ⟨_, _, _, _, e, _⟩ := hpk.ex; rw [e]; rfl
                go_wp2_with (at_builtin; refine wpList_append_run rfl _ _ 36 rfl rfl rfl hrun ?_)
                have hw3 := unhide R3
                rw [show (5000 + 300 * (tn : Int) + 50 * (i' : Int) + 21 + 10) = 5000 + 300 * (tn : Int) + 50 * (i' : Int) + 31 by omega] at hw3
                have R4 := hide hw3
                clear hw3
                go_roundw
                case rel => exact ⟨pm + 1, _, by go_num, by simpa using hvl, hide (.ack (unhide R2) (unhide R4) (unhide HPK) rfl), HN6⟩
                case measure => rw [hsl]; simp [Go.RowKit.intOf, slen])
            | @ack u q p hp h hr hn =>
              have hnm : need k P tn (i' + 1) ≤ pm ∧ pm ≤ pn + 1 := by have := need_step k P tn i'; omega
              have HNM := hide hnm
              clear hn hnm
              obtain ⟨og, off, oc, cs, rfl, h1, h2, hg, h3, h4, h5⟩ := hr.ex
              have hj0 : i' < vs.length := by omega
              obtain ⟨r1, r3⟩ := h.ack hj0 hP4.1 hp
              have hok := (h.own hj0).c0.ok
              have hbj := h.b i' hj0
              obtain ⟨ups, rfl, hw, hu⟩ := hp
              obtain ⟨hd, hrd⟩ := dec_of_whole hw
              have hlen := bytes_len hw
              have HDC := fun w => hide (gdecode_yes _ w hlen hd)
              have hk8 := whole_len hw
              simp only [hrd, mval] at HDC
              dsimp only at h4 h5 r1 r3 hk8
              generalize bytesM ⟨2, u, 1, q, u, ups⟩ = BS at h5 r1 r3 hd hrd hlen HDC
              have a0 := (cell_at hg off).trans h4
              have a1 := (cell_at hg (off + 1)).trans h5
              have R3 := hide r3
              have HG := hide hg
              have hgl := lt_blk hg
              have hgw : g < wr.heap.size := by
                obtain ⟨cs, hcs⟩ := (unhide HN).row (by omega) (by rw [hvl])
                exact lt_blk hcs
              clear hd hrd hw hu h hr HD r3 hg h4 h5
              go_wp2_with fail
              all_goals (
                obtain ⟨v2, hv2, hno⟩ : ∃ v2, (v2 = Value.slice (some ⟨og, off, none⟩) 0 0 ∧ oc = 1 ∨ v2 = Value.slice (some ⟨og, off + 2, none⟩) 0 (oc - 1) ∧ ¬ oc = 1) ∧ NoRow wr v2 ∧ v2.ownBlock = some og := by
                  by_cases e : oc = 1
                  · exact ⟨_, .inl ⟨rfl, e⟩, ⟨og, off, 0, cs, rfl, by omega, unhide HG, by omega⟩, rfl⟩
                  · exact ⟨_, .inr ⟨rfl, e⟩, ⟨og, off + 2, oc - 1, cs, rfl, by omega, unhide HG, by omega⟩, rfl⟩
                obtain ⟨hno, hnb⟩ := hno
                simp only [h, not_true_eq_false, not_false_eq_true, and_true, and_false, or_false, false_or] at hv2
                first
                  | rw [← hv2]
                  | fail "no"
                clear hv2 h
                refine (unhide (HDC _)).mono ?_
                rintro e w3 ⟨uv, rfl, hou, hb3⟩
                obtain ⟨uao, ucap, rfl⟩ := own_form hou
                have hb03 : Below wr.heap.size wr w3 := ((Below.refl _ _).alloc (Nat.le_refl _) _).trans (hb3.mono (by simp))
                have hpb := (hb3.block wr.heap.size (by simp)).trans (heap_alloc_new wr (.cells #[.int .i64 ((i' : Int) + 1), .string (bs BS)] 39))
                have p0 := cell_at hpb 0
                have p1 := cell_at hpb 1
                simp only [List.getElem?_toArray, List.getElem?_cons_zero, List.getElem?_cons_succ] at p0 p1
                have plt := lt_blk hpb
                have hN4 := (((unhide HN).mono hb03).mono ((Below.refl _ _).alloc (Nat.le_refl _) (.cells #[.int .i64 2, .int .i64 u, .int .i64 1, .int .i64 q, .int .i64 u, .slice uao ups.length ucap] 29))).drew
                obtain ⟨nb, hcell⟩ := ((unhide HN).mono hb03).cell i' hj0 (by rw [hvl])
                obtain ⟨gcs, hgcs⟩ := ((unhide HN).mono hb03).row (by omega) (by rw [hvl])
                have HROW := hide hgcs
                have HPB := hide hpb
                have hgl3 := lt_blk hgcs
                have HNO := hide (hno.below hb03)
                have HW3 := hide ((unhide HN).mono hb03).below.size
                have HG3 := hide ((hb03.block _ hgl).trans (unhide HG))
                clear hou hb3 hb03 hpb hno HN HDC HG hgcs
                go_wp2_with fail
                obtain ⟨w4, hw4⟩ : ∃ w4, w4 = w3.alloc (.cells #[.int .i64 2, .int .i64 u, .int .i64 1, .int .i64 q, .int .i64 u, .slice uao ups.length ucap] 29) := ⟨_, rfl⟩
                rw [← hw4] at hN4 ⊢
                have hb4 : Below w3.heap.size w3 w4 := by rw [hw4]; exact (Below.refl _ _).alloc (Nat.le_refl _) _
                have q0 := (hb4.cell (p := ⟨wr.heap.size, 0, none⟩) plt).trans p0
                have q1 := (hb4.cell (p := ⟨wr.heap.size, 1, none⟩) plt).trans p1
                have q2 := (hb4.cell (p := ⟨g, i', none⟩) hgl3).trans hcell
                have HPB4 := hide ((hb4.block _ plt).trans (unhide HPB))
                have HROW4 := hide ((hb4.block _ hgl3).trans (unhide HROW))
                have HG4 := hide ((hb4.block _ (lt_blk (unhide HG3))).trans (unhide HG3))
                have HNO4 := hide ((unhide HNO).below hb4)
                have hrc := hN4.receive i' hj0 (by rw [hvl]) q2 hok (hbj.mono (by unfold Bg; omega)) BS hlen
                rw [r1] at hrc
                have HC := hide hrc
                have hgl4 := lt_blk (unhide HROW4)
                have plt4 := lt_blk (unhide HPB4)
                have hk0 : (i' : Int) < (k : Int) := by omega
                have hk00 : (0 : Int) ≤ (i' : Int) := by omega
                obtain ⟨D, hD⟩ : ∃ D : Int, D = (i' : Int) + 1 := ⟨_, rfl⟩
                rw [← hD] at q0 HPB4
                have hw1 : IntKind.i64.wrap (D - 1) = (i' : Int) := by rw [IntKind.wrap_i64]; omega
                clear hD hw4 hb4 p0 p1 hcell HPB HROW HG3 HNO hN4 hrc r1 hgl hgl3 plt hok hbj hgw
                go_region_held3 (fun w' => w'.cell? ⟨g, i', none⟩ = some (.pointer (some ⟨nb, 0, none⟩)) ∧ w'.cell? ⟨wr.heap.size, 0, none⟩ = some (.int .i64 D) ∧ w'.cell? ⟨wr.heap.size, 1, none⟩ = some (.string (bs BS))) (go_keep)
                  (first
                    | (go_at_call 11; refine (unhide HC).mono ?_; rintro e w5 ⟨o2, rfl, ho2, hN5, hkp'⟩; have hkp := kept_drew hkp'; have s0 : w5.cell? ⟨g, i', none⟩ = some (.pointer (some ⟨nb, 0, none⟩)) := (cell_at (hkp _ _ _ (unhide HROW4) (by decide) (by decide) (by decide) (by decide)) i').trans ((cell_at (unhide HROW4) i').symm.trans q2); have s1 : w5.cell? ⟨wr.heap.size, 0, none⟩ = some (.int .i64 D) := cell_at (hkp _ _ _ (unhide HPB4) (by decide) (by decide) (by decide) (by decide)) 0; have s2 : w5.cell? ⟨wr.heap.size, 1, none⟩ = some (.string (bs BS)) := cell_at (hkp _ _ _ (unhide HPB4) (by decide) (by decide) (by decide) (by decide)) 1))
                obtain ⟨oa, oc2, rfl⟩ := own_form ho2
                have hno5 := (unhide HNO4).kept hkp
                have hrun := append_none hno5 36 oa oc2
                have HN6 := hide hN5
                have hsl : ∃ a c, v2 = Value.slice a 0 c := by obtain ⟨_, _, _, _, e, _⟩ := hno5.ex; exact ⟨_, _, e⟩
                obtain ⟨va, vc, hve⟩ := hsl
                have HVE := hide hve
                clear hve
                simp only [List.length_nil]
                go_wp2_with (at_builtin; refine wpList_append_run rfl _ _ 36 rfl rfl rfl hrun ?_)
                have R4 := hide ((unhide R3).wide (B' := 5000 + 300 * (tn : Int) + 50 * (i' : Int) + 50) (by omega))
                go_roundw
                case rel => exact ⟨pm, _, rfl, by simpa using hvl, hide (.done (unhide HVE) (unhide R4) (unhide HNM).1 (unhide HNM).2), HN6⟩
                case measure => simp [Go.RowKit.intOf, slen, unhide HVE])
        · have e : i' = k := by omega
          subst e
          have hli' : ¬ (i' : Int) < (i' : Int) := by omega
          go_wp2
          go_roundw
          case rel => exact ⟨pn, tn + 1, ys, by go_num, by go_num, by omega, by omega, by rw [need_turn i' P tn hP4.1]; exact hnd, (unhide HR).turn.wide (by omega), HN⟩
          case measure => simp [Go.RowKit.intOf]; omega
    · have e : tn = L := by omega
      have hlt' : ¬ (tn : Int) < 40 + P2 := by have := unhide HLP; omega
      have hpk : k < pn := by rw [need_end k P tn hP4.2 (by omega)] at hnd; omega
      have hpk' : (k : Int) < (pn : Int) := by omega
      have hyl := (unhide HR).len
      have HCA := hide (fun (j : Nat) (hj : j < ys.length) => ((unhide HR).calm j hj).c0)
      clear hnd HST HNI HR
      go_wp2_with (first
        | (go_at_call_of 9 (Value.int IntKind.i64 tk); refine (unhide (HP2 _)).mono ?_; rintro e w' ⟨rfl, hw⟩; have hw' := hw.symm; subst hw')
        | fail)
      go_loopw [19] (fun i wr => ∃ (i' : Nat), i = .int .i64 i' ∧ i' ≤ k ∧ Hid (NI W wr (.slice (some ⟨g, 0, none⟩) k lcap) ys)) (fun i _ => k - (Go.RowKit.intOf i).toNat)
      case atStart => exact ⟨0, by go_num, by omega, HN⟩
      case round =>
        clear HN
        obtain ⟨i', rfl, hik, HN⟩ := hrel
        by_cases hli : i' < k
        · have hli' : (i' : Int) < (k : Int) := by omega
          have hi0 : i' < ys.length := by omega
          obtain ⟨nb, hcell⟩ := (unhide HN).cell i' hi0 (by rw [hyl])
          have hca := (unhide HCA) i' hi0
          have hs := (unhide HN).see i' hi0 (by rw [hyl]) hcell hca.ok
          obtain ⟨ho1, ho2⟩ := hca.others_eq (by omega)
          rw [hca.own, hca.dropped, ho1] at hs
          have HS := hide hs
          have HO2 := hide ho2
          obtain ⟨O, hO⟩ : ∃ O, O = ys[i'].others := ⟨_, rfl⟩
          rw [← hO] at HS HO2 ho1
          generalize ys[i'].clock = c1 at HS
          generalize ys[i'].ptgt = c2 at HS
          generalize ys[i'].pending = c3 at HS
          generalize ys[i'].rels.length = c4 at HS
          generalize ys[i'].lost = c5 at HS
          clear hO hs hca ho2
          go_wp2_with fail
          refine (unhide HS).mono ?_
          rintro e w2 ⟨sv, rfl, hso, hb2⟩
          have HN2 := hide ((unhide HN).mono hb2)
          obtain ⟨sao, scap, rfl⟩ := own_form hso
          obtain ⟨r, hr⟩ : ∃ r : Nat, r + 1 = k := ⟨k - 1, by omega⟩
          have hr1 : k - 1 = r := by omega
          rw [hr1] at hso ho1 ⊢
          have hkk : KeysAt w2 (.slice sao r scap) O := keys_of_row (by rw [ho1]; exact hso)
          have HK3 := fun o => hide (hkk.below ((Below.refl w2.heap.size w2).alloc (Nat.le_refl _) o))
          have HN3 := fun o => hide ((unhide HN2).mono ((Below.refl w2.heap.size w2).alloc (Nat.le_refl _) o))
          have hw1 : IntKind.i64.wrap ((k : Int) - 1) = (r : Int) := by rw [IntKind.wrap_i64]; omega
          clear hso hkk hr1 hb2 HS hcell HN HN2
          dsimp only
          go_wp2
          go_loopw [21] (fun j wr => ∃ q : Nat, j = .int .i64 q ∧ q ≤ r ∧ Hid (KeysAt wr (.slice sao r scap) O) ∧ Hid (NI W wr (.slice (some ⟨g, 0, none⟩) k lcap) ys) ∧ wr.cell? ⟨w2.heap.size, 4, none⟩ = some (.slice sao r scap)) (fun j _ => r - (Go.RowKit.intOf j).toNat)
          case atStart => exact ⟨0, by go_num, by omega, HK3 _, HN3 _, by simp [go_sem]⟩
          case round =>
            clear HK3 HN3
            obtain ⟨q, rfl, hqr, HKW, HNW, hc4⟩ := hrel
            by_cases hlt : q < r
            · obtain ⟨b, off, hao, hbl, hcl⟩ := (unhide HKW).elem (by omega)
              subst hao
              obtain ⟨u0, u1, u2⟩ := hcl q (by omega)
              obtain ⟨e1, e2⟩ := (unhide HO2) O[q] (List.getElem_mem _)
              rw [e1] at u1
              rw [e2] at u2
              have hlt' : (q : Int) < (r : Int) := by omega
              clear hcl e1 e2 u0
              go_wp2
              go_roundw
              case rel => exact ⟨q + 1, by go_num, by omega, HKW, HNW, hc4⟩
              case measure => simp [Go.RowKit.intOf]; omega
            · have e : q = r := by omega
              subst e
              have hlt' : ¬ (q : Int) < (q : Int) := by omega
              go_wp2
              go_roundw
              case rel => exact ⟨i' + 1, by go_num, by omega, HNW⟩
              case measure => simp [Go.RowKit.intOf]; omega
        · have e : i' = k := by omega
          subst e
          have hli' : ¬ (i' : Int) < (i' : Int) := by omega
          go_wp2
          go_ret
          exact ⟨rfl, (unhide HN).below⟩
end Go.Proofs.YtnneljcbelgoeaaGreat.wire
