import Derived.Test.YtnneljcbelgoeaaGreatNFind4
/- Finds: who is silent is found dead. -/
namespace Go.Proofs.YtnneljcbelgoeaaGreat.wire
open Go.RowKit Go.Maps

set_option maxHeartbeats 4000000 in
set_option maxRecDepth 100000 in
theorem finds_any (n c sl : Int) (l : List Int) (hl : l.length ≤ maxLen) {ao : Option Addr} {cap : Nat} {W : World} (hv : RawI W ao l) (hrng : ∀ z ∈ l, -9223372036854775808 ≤ z ∧ z ≤ 9223372036854775807)
    (n0 : -9223372036854775808 ≤ n) (n1 : n ≤ 9223372036854775807) (c0 : -9223372036854775808 ≤ c) (c1 : c ≤ 9223372036854775807) (s0 : -9223372036854775808 ≤ sl) (s1 : sl ≤ 9223372036854775807) :
    Calls Tryz.prog 5 #[.int .i64 n, .int .i64 c, .slice ao l.length cap, .int .i64 sl] W fun e w' => e = .returned (.bool true) ∧ Below W.heap.size W w' := by
  have hb1 := pickI_bd n 5 (by omega)
  have HP1 := fun w => hide (pick_any n 5 w n0 n1 (by omega) (by omega))
  obtain ⟨k, hk⟩ : ∃ k : Nat, (k : Int) = 2 + pickI n 5 := ⟨(2 + pickI n 5).toNat, by omega⟩
  have hk2 : 2 ≤ k ∧ k ≤ 6 := by omega
  have hbg := pickI_bd sl ((k : Int) - 1) (by omega)
  have HP2 := fun w => hide (pick_any sl ((k : Int) - 1) w s0 s1 (by omega) (by omega))
  have hM := made_any k (by omega) (by omega) c c0 c1 l hl (cap := cap) hv hrng
  have hP := pickI_bd c 1073741824 (by omega)
  have hP4 : 4 ≤ 4 + (pickI c 1073741824).tmod 8 ∧ 4 + (pickI c 1073741824).tmod 8 ≤ 11 := by
    have h1 := Int.tmod_nonneg 8 hP.1
    have h2 := Int.tmod_lt_of_pos (pickI c 1073741824) (show (0 : Int) < 8 by omega)
    omega
  have hS : 1 ≤ 1 + pickI c 1073741824 / 64 % 40 ∧ 1 + pickI c 1073741824 / 64 % 40 ≤ 40 := by omega
  have HCF := fun w => hide (config_any 1 c (by omega) c0 c1 w)
  have hcz : ∀ G, G = cfgZ 1 c → G.period = 4 + (pickI c 1073741824).tmod 8 ∧ G.suspect = 1 + pickI c 1073741824 / 64 % 40 := fun G e => by rw [e]; exact ⟨rfl, rfl⟩
  have HCZ := hide hcz
  have HM := hide hM
  clear hM hv hrng hP hcz
  obtain ⟨gn, hgn⟩ : ∃ gn : Int, gn = 2 + pickI sl ((k : Int) - 1) := ⟨_, rfl⟩
  have hg2 : 2 ≤ gn ∧ gn ≤ k := by omega
  generalize pickI n 5 = P1 at HP1 hb1 hk
  generalize pickI sl ((k : Int) - 1) = P2 at HP2 hbg hgn
  go_enter Tryz.func5, Tryz.ntmps5
  go_wp2_with (first
    | (go_at_call_of 9 (Value.int IntKind.i64 n); refine (unhide (HP1 _)).mono ?_; rintro e w' ⟨rfl, hw⟩; have hw' := hw.symm; subst hw')
    | fail)
  rw [← hk]
  have HKP := hide hk
  clear hk hb1
  refine (unhide HM).mono ?_
  rintro e w1 ⟨lv, xs, rfl, hxl, hak, hmi⟩
  obtain ⟨gb, lcap, rfl⟩ := (NI.of_mi hmi).form (by omega)
  have hni := NI.of_mi hmi
  have hst := fun D => Ring.start (D := D) hxl hg2 hak hmi
  obtain ⟨nb, hcell⟩ := hni.cell 0 (by omega) rfl
  obtain ⟨gcs, hgcs⟩ := hni.row (by omega) rfl
  have gc0 := (cell_at hgcs 0).symm.trans hcell
  have hgl := lt_blk hgcs
  rw [hxl] at hni
  rw [hxl]
  have hZ := unhide HCZ
  generalize 4 + (pickI c 1073741824).tmod 8 = P at hP4 hst hZ
  generalize 1 + pickI c 1073741824 / 64 % 40 = S at hS hst hZ
  have HNI := hide hni
  have HROW := hide hgcs
  have HST := hide hst
  have HZ := hide hZ
  have HGC := hide gc0
  have HGN := hide hgn
  clear hmi hak hst hni HM HP1 hZ HCZ gc0 hgcs hgn
  have hkw : IntKind.i64.wrap ((k : Int) - 1) = (k : Int) - 1 := by rw [IntKind.wrap_i64]; omega
  go_wp2_with (first
    | (go_at_call_of 9 (Value.int IntKind.i64 sl); refine (unhide (HP2 _)).mono ?_; rintro e w' ⟨rfl, hw⟩; have hw' := hw.symm; subst hw')
    | fail)
  refine (unhide (HCF _)).mono ?_
  rintro e w2 ⟨G, hG, rfl, _, _, hb2⟩
  obtain ⟨hGp, hGs⟩ := unhide HZ G hG
  rw [hGp, hGs]
  generalize G.self = G1
  generalize G.wait = G2
  generalize G.proxies = G3
  generalize G.sends = G4
  have HN2 := fun o => hide ((unhide HNI).mono (hb2.alloc (by exact hb2.size) o))
  have HR2 := fun o => hide (((hb2.alloc hb2.size o).block gb hgl).trans (unhide HROW))
  clear hG hGp hGs HCF HZ
  rw [← unhide HGN]
  have hm1 : 0 ≤ 2 * (k : Int) ∧ 2 * (k : Int) ≤ 12 := by omega
  have hm2 : 0 ≤ 2 * (k : Int) * (P + 1) ∧ 2 * (k : Int) * (P + 1) ≤ 144 ∧ 1 + P * ((k : Int) - 1) + S ≤ 2 * (k : Int) * (P + 1) + S + 2 := by
    rcases (by omega : k = 2 ∨ k = 3 ∨ k = 4 ∨ k = 5 ∨ k = 6) with rfl | rfl | rfl | rfl | rfl <;> omega
  obtain ⟨hm2, hm3, hm4⟩ := hm2
  obtain ⟨D, hD⟩ : ∃ D : Int, D = 1 + P * ((k : Int) - 1) := ⟨_, rfl⟩
  rw [← hD] at hm4
  have HDD := hide (Int.le_of_eq hD.symm)
  have HST2 := hide (unhide HST D)
  clear hD HST hb2
  go_wp2_with fail
  obtain ⟨L, hL⟩ : ∃ L : Nat, (L : Int) = 2 * (k : Int) * (P + 1) + S + 2 := ⟨(2 * (k : Int) * (P + 1) + S + 2).toNat, by omega⟩
  rw [← hL]
  have hL2 : 1 ≤ L ∧ L ≤ 200 := by omega
  have HLE : D + S ≤ L := by omega
  clear hL hm1 hm2 hm3 hm4
  go_loopw [15] (fun t wr => ∃ (tn : Nat) (u : Int) (xs : List Nd), t = .int .i64 tn ∧ tn ≤ L ∧ Hid (Ring k gn u (5000 + 100 * tn) (Still k gn u P S tn D) xs) ∧ Hid (NI W wr (.slice (some ⟨gb, 0, none⟩) k lcap) xs) ∧ Hid (wr.heap[gb]? = some (.cells gcs 25 (0, 0)))) (fun t _ => L - (Go.RowKit.intOf t).toNat)
  case atStart => exact ⟨0, 1, xs, by go_num, by omega, HST2, HN2 _, HR2 _⟩
  case round =>
    obtain ⟨tn, u, ys, rfl, htL, HR, HN, HRB⟩ := hrel
    have hyl := (unhide HR).len
    have hy0 : 0 < ys.length := by omega
    have hcell : wr.cell? ⟨gb, 0, none⟩ = some (.pointer (some ⟨nb, 0, none⟩)) := (cell_at (unhide HRB) 0).trans (unhide HGC)
    by_cases hlt : tn < L
    · have hlt' : (tn : Int) < (L : Int) := by omega
      have hld := (unhide HR).lead hy0
      have HC := hide ((unhide HN).tick 0 hy0 (by rw [hyl]) hcell hld.l.ok hld.l.dl (((unhide HR).b 0 hy0).mono (by unfold Bt; omega)))
      clear hld HN2 HR2
      go_wp2_with fail
      refine (unhide HC).mono ?_
      rintro e w3 ⟨o, rfl, ho, hni3, hkk⟩
      obtain ⟨v, huv, hcase⟩ := (unhide HR).tick hy0 (by omega) (unhide HDD) (by omega)
      obtain ⟨oao, ocap, rfl, hrow⟩ := outs_row ho
      have HN3 := hide hni3
      have HR3 := hide (hkk _ _ _ (unhide HRB) (by decide) (by decide) (by decide) (by decide))
      have HPK := hide hrow
      generalize ys[0].tick.1 = ps at hcase HPK ⊢
      generalize ys.set 0 ys[0].tick.2 = zs at hcase HN3
      clear ho hni3 hkk hrow HC HR HN HRB hcell
      rcases hcase with ⟨hl3, hps, hr⟩ | ⟨t, q, p, rfl, hp, htn, htg, hqb, hr⟩
      · have HPS := hide hps
        have HR := hide hr
        clear hps hr
        go_wp2
        go_loopw [17] (fun i wr => ∃ (i' : Nat) (xs : List Nd), i = .int .i64 i' ∧ i' ≤ ps.length ∧ Hid (Ring k gn v (5000 + 100 * tn + 21 + 10 * i') (Still k gn v P S ((tn : Int) + 1) D) xs) ∧ Hid (NI W wr (.slice (some ⟨gb, 0, none⟩) k lcap) xs) ∧ Hid (wr.heap[gb]? = some (.cells gcs 25 (0, 0))) ∧ Hid (0 < ps.length → ∃ og, oao = some ⟨og, 0, none⟩ ∧ PkS wr og ps)) (fun i _ => ps.length - (Go.RowKit.intOf i).toNat)
        case atStart => exact ⟨0, zs, by go_num, by omega, (unhide HR).wide (by omega), HN3, HR3, HPK⟩
        case round =>
          clear HR HN3 HR3 HPK
          obtain ⟨i', vs, rfl, hip, HR, HN, HRB, HPK⟩ := hrel
          have hvl := (unhide HR).len
          by_cases hli : i' < ps.length
          · have hli' : (i' : Int) < (ps.length : Int) := by omega
            obtain ⟨og, hao, hpk⟩ := unhide HPK (by omega)
            subst hao
            obtain ⟨a0, a1, hog⟩ := hpk.at i' hli
            have hcs := unhide HPS ps[i'] (List.getElem_mem hli)
            generalize hpi : ps[i'] = p at a0 a1 hcs
            rcases hcs with hpg | hask
            · rw [hpg] at a0
              clear hpk hpi
              go_wp2
              go_roundw
              case rel => exact ⟨i' + 1, vs, by go_num, by omega, (unhide HR).wide (by omega), HN, HRB, HPK⟩
              case measure => simp [Go.RowKit.intOf]; omega
            · obtain ⟨j, hj⟩ : ∃ j : Nat, p.dest = (j : Int) + 1 := ⟨(p.dest - 1).toNat, by have := hask.1; omega⟩
              have hjk : 1 ≤ j ∧ j < k := by have := hask.1; omega
              have hj0 : j < vs.length := by omega
              obtain ⟨r1, r2⟩ := (unhide HR).ask hg2.1 (by omega) hask j hj0 hj
              have hsd := (unhide HR).side j hj0 hjk.1 (by rw [← hj]; exact hask.2.1)
              have hbj := (unhide HR).b j hj0
              have hdg := hask.2.1
              obtain ⟨q, ups, hby, hwh, _⟩ := hask.2.2
              have hlen : p.bytes.length ≤ maxLen := by rw [hby]; exact bytes_len hwh
              obtain ⟨nj, hcj⟩ := (unhide HN).cell j hj0 (by rw [hvl])
              have hrc := (unhide HN).drew.receive j hj0 (by rw [hvl]) hcj hsd.ok (hbj.mono (by unfold Bg; omega)) p.bytes hlen
              have HC := hide hrc
              have R1 := hide r1
              have R2 := hide r2
              have hrbl := lt_blk (unhide HRB)
              have d1 : ¬ p.dest = gn := hdg
              have d2 : (p.dest == gn) = false := by simpa using hdg
              have d3 : ¬ p.dest < 1 := by omega
              have d4 : ¬ (k : Int) < p.dest := by omega
              have d5 : IntKind.i64.wrap (p.dest - 1) = (j : Int) := by rw [IntKind.wrap_i64]; omega
              have hjk' : (j : Int) < (k : Int) := by omega
              have hj00 : (0 : Int) ≤ (j : Int) := by omega
              obtain ⟨pd, pb⟩ := p
              dsimp only at a0 a1 HC R1 R2 d1 d2 d3 d4 d5
              have HPX := hide hpk
              obtain ⟨ocs, hocs, _⟩ := hpk.ex
              have HOG := hide hocs
              clear r1 r2 hsd hbj hdg hby hwh hlen hrc hpi hask hj hpk hocs
              go_wp2_with fail
              go_region_held3 (fun w' => w'.cell? ⟨gb, j, none⟩ = some (.pointer (some ⟨nj, 0, none⟩)) ∧ w'.cell? ⟨og, i' * 2, none⟩ = some (.int .i64 pd) ∧ w'.cell? ⟨og, i' * 2 + 1, none⟩ = some (.string (bs pb))) (go_keep)
                (first
                  | (go_at_call 11; refine (unhide HC).mono ?_; rintro e w5 ⟨o2, rfl, ho2, hN5, hkp'⟩; have hkp := kept_drew hkp'; have s0 : w5.cell? ⟨gb, j, none⟩ = some (.pointer (some ⟨nj, 0, none⟩)) := (cell_at (hkp _ _ _ (unhide HRB) (by decide) (by decide) (by decide) (by decide)) j).trans ((cell_at (unhide HRB) j).symm.trans hcj); have s1 : w5.cell? ⟨og, i' * 2, none⟩ = some (.int .i64 pd) := (cell_at (hkp _ _ _ (unhide HOG) (by decide) (by decide) (by decide) (by decide)) (i' * 2)).trans ((cell_at (unhide HOG) (i' * 2)).symm.trans a0); have s2 : w5.cell? ⟨og, i' * 2 + 1, none⟩ = some (.string (bs pb)) := (cell_at (hkp _ _ _ (unhide HOG) (by decide) (by decide) (by decide) (by decide)) (i' * 2 + 1)).trans ((cell_at (unhide HOG) (i' * 2 + 1)).symm.trans a1)))
              obtain ⟨bao, bcap, rfl, hbrow⟩ := outs_row ho2
              have HBR := hide hbrow
              have HN5 := hide hN5
              have HR5 := hide (hkp _ _ _ (unhide HRB) (by decide) (by decide) (by decide) (by decide))
              have HP5 := hide ((unhide HPX).kept hkp)
              generalize (vs[j].receive pb).1 = bl at R1 HBR ⊢
              generalize vs.set j (vs[j].receive pb).2 = us at R2 HN5
              have hb1 := (unhide R1).1
              clear ho2 hbrow hN5 hkp hkp' HC HPX HOG HN HRB HPK HR s0 s1 s2 a0 a1 hcj
              go_wp2_with fail
              go_loopw [19] (fun j wr => ∃ j' : Nat, j = .int .i64 j' ∧ j' ≤ bl.length ∧ wr = w5) (fun j _ => bl.length - (Go.RowKit.intOf j).toNat)
              case atStart => exact ⟨0, by go_num, by omega, rfl⟩
              case round =>
                obtain ⟨j', rfl, hjb, hww⟩ := hrel
                subst hww
                by_cases hlj : j' < bl.length
                · have hlj' : (j' : Int) < (bl.length : Int) := by omega
                  obtain ⟨bg, hbao, hbpk⟩ := unhide HBR (by omega)
                  subst hbao
                  obtain ⟨e0, _, hbl⟩ := hbpk.at j' hlj
                  rw [(unhide R1).2 bl[j'] (List.getElem_mem hlj)] at e0
                  have hgn1 : (gn == 1) = false := by simp; omega
                  clear hbpk
                  go_wp2
                  go_roundw
                  case rel => exact ⟨j' + 1, by go_num, by omega, by first | rfl | trivial⟩
                  case measure => simp [Go.RowKit.intOf]; omega
                · have e : j' = bl.length := by omega
                  subst e
                  have hlj' : ¬ (bl.length : Int) < (bl.length : Int) := by omega
                  go_wp2
                  go_roundw
                  case rel => exact ⟨i' + 1, us, by go_num, by omega, (unhide R2).wide (by omega), HN5, HR5, fun _ => ⟨og, rfl, unhide HP5⟩⟩
                  case measure => simp [Go.RowKit.intOf]; omega
          · have e : i' = ps.length := by omega
            subst e
            have hli' : ¬ (ps.length : Int) < (ps.length : Int) := by omega
            go_wp2
            go_roundw
            case rel => exact ⟨tn + 1, v, vs, by go_num, by omega, (unhide HR).wide (by omega), HN, HRB⟩
            case measure => simp [Go.RowKit.intOf]; omega
      · obtain ⟨og, hao, hpk⟩ := unhide HPK (by simp)
        subst hao
        simp only [List.length_singleton]
        have HP := hide hp
        have HR := hide hr
        have HPX := hide hpk
        clear hp hr HPK hpk
        go_wp2
        go_loopw [17] (fun i wr => ∃ (i' : Nat) (xs : List Nd), i = .int .i64 i' ∧ Hid (i' = 0 ∧ Ring k gn v (5000 + 100 * tn + 21) (AwaitG k gn v P S ((tn : Int) + 1) D t q) xs ∨ i' = 1 ∧ Ring k gn v (5000 + 100 * tn + 100) (Still k gn v P S ((tn : Int) + 1) D) xs) ∧ Hid (NI W wr (.slice (some ⟨gb, 0, none⟩) k lcap) xs) ∧ Hid (wr.heap[gb]? = some (.cells gcs 25 (0, 0))) ∧ Hid (PkS wr og [p])) (fun i _ => 1 - (Go.RowKit.intOf i).toNat)
        case atStart => exact ⟨0, zs, by go_num, .inl ⟨rfl, unhide HR⟩, HN3, HR3, HPX⟩
        case round =>
          clear HR HN3 HR3 HPX
          obtain ⟨i', vs, rfl, HRR, HN, HRB, HPX⟩ := hrel
          rcases unhide HRR with ⟨rfl, hr⟩ | ⟨rfl, hr⟩
          · have hvl := hr.len
            have hp := unhide HP
            obtain ⟨a0, a1, hog⟩ := (unhide HPX).at 0 (by simp)
            obtain ⟨j, hj⟩ : ∃ j : Nat, t = (j : Int) + 1 := ⟨(t - 1).toNat, by omega⟩
            have hjk : 1 ≤ j ∧ j < k := by omega
            have hj0 : j < vs.length := by omega
            obtain ⟨p', r0, r1, r2⟩ := hr.ping hg2.1 (by omega) hp hqb htn.1 htg j hj0 hj
            have hsd := hr.side j hj0 hjk.1 (by rw [← hj]; exact htg)
            have hbj := hr.b j hj0
            obtain ⟨ups, hpe, hwh, _⟩ := hp
            have hlen : p.bytes.length ≤ maxLen := by rw [hpe]; exact bytes_len hwh
            have hpd : p.dest = t := by rw [hpe]
            obtain ⟨nj, hcj⟩ := (unhide HN).cell j hj0 (by rw [hvl])
            have hrc := (unhide HN).drew.receive j hj0 (by rw [hvl]) hcj hsd.ok (hbj.mono (by unfold Bg; omega)) p.bytes hlen
            rw [r0] at hrc
            have HC := hide hrc
            have R1 := hide r1
            have R2 := hide r2
            have hrbl := lt_blk (unhide HRB)
            have d1 : ¬ t = gn := htg
            have d2 : (t == gn) = false := by simpa using htg
            have d3 : ¬ t < 1 := by omega
            have d4 : ¬ (k : Int) < t := by omega
            have d5 : IntKind.i64.wrap (t - 1) = (j : Int) := by rw [IntKind.wrap_i64]; omega
            have hjk' : (j : Int) < (k : Int) := by omega
            have hj00 : (0 : Int) ≤ (j : Int) := by omega
            simp only [List.getElem_cons_zero, hpd, Nat.zero_mul, Nat.zero_add] at a0 a1
            obtain ⟨ocs, hocs, _⟩ := (unhide HPX).ex
            have HOG := hide hocs
            generalize p.bytes = pb at a1 HC R2
            clear hr r0 r1 r2 hsd hbj hpe hwh hlen hrc hocs hpd hj HRR
            go_wp2_with fail
            go_region_held3 (fun w' => w'.cell? ⟨gb, j, none⟩ = some (.pointer (some ⟨nj, 0, none⟩)) ∧ w'.cell? ⟨og, 0, none⟩ = some (.int .i64 t) ∧ w'.cell? ⟨og, 1, none⟩ = some (.string (bs pb))) (go_keep)
              (first
                | (go_at_call 11; refine (unhide HC).mono ?_; rintro e w5 ⟨o2, rfl, ho2, hN5, hkp'⟩; have hkp := kept_drew hkp'; have s0 : w5.cell? ⟨gb, j, none⟩ = some (.pointer (some ⟨nj, 0, none⟩)) := (cell_at (hkp _ _ _ (unhide HRB) (by decide) (by decide) (by decide) (by decide)) j).trans ((cell_at (unhide HRB) j).symm.trans hcj); have s1 : w5.cell? ⟨og, 0, none⟩ = some (.int .i64 t) := (cell_at (hkp _ _ _ (unhide HOG) (by decide) (by decide) (by decide) (by decide)) 0).trans ((cell_at (unhide HOG) 0).symm.trans a0); have s2 : w5.cell? ⟨og, 1, none⟩ = some (.string (bs pb)) := (cell_at (hkp _ _ _ (unhide HOG) (by decide) (by decide) (by decide) (by decide)) 1).trans ((cell_at (unhide HOG) 1).symm.trans a1)))
            obtain ⟨bao, bcap, rfl, hbrow⟩ := outs_row ho2
            obtain ⟨bg, hbao, hbpk⟩ := hbrow (by simp)
            subst hbao
            have HBX := hide hbpk
            have HN5 := hide hN5
            have HR5 := hide (hkp _ _ _ (unhide HRB) (by decide) (by decide) (by decide) (by decide))
            have HP5 := hide ((unhide HPX).kept hkp)
            generalize vs.set j (vs[j].receive pb).2 = us at R2 HN5
            clear ho2 hbrow hbpk hN5 hkp hkp' HC HPX HOG HN HRB s0 s1 s2 a0 a1 hcj
            simp only [List.length_singleton]
            go_wp2_with fail
            go_loopw [19] (fun j wr => ∃ (j' : Nat) (xs : List Nd), j = .int .i64 j' ∧ Hid (j' = 0 ∧ Ring k gn v (5000 + 100 * tn + 31) (AwaitG k gn v P S ((tn : Int) + 1) D t q) xs ∨ j' = 1 ∧ Ring k gn v (5000 + 100 * tn + 100) (Still k gn v P S ((tn : Int) + 1) D) xs) ∧ Hid (NI W wr (.slice (some ⟨gb, 0, none⟩) k lcap) xs) ∧ Hid (wr.heap[gb]? = some (.cells gcs 25 (0, 0))) ∧ Hid (PkS wr og [p]) ∧ Hid (PkS wr bg [p'])) (fun j _ => 1 - (Go.RowKit.intOf j).toNat)
            case atStart => exact ⟨0, us, by go_num, .inl ⟨rfl, (unhide R2).wide (by omega)⟩, HN5, HR5, HP5, HBX⟩
            case round =>
              clear HN5 HR5 HP5 HBX R2
              obtain ⟨j', ws, rfl, HRR, HN, HRB, HPX, HBX⟩ := hrel
              rcases unhide HRR with ⟨rfl, hr⟩ | ⟨rfl, hr⟩
              · have hwl := hr.len
                have hw0 : 0 < ws.length := by omega
                obtain ⟨e0, e1, hbg⟩ := (unhide HBX).at 0 (by simp)
                have hak := unhide R1
                obtain ⟨r0, r2⟩ := hr.ack hak hw0
                obtain ⟨ups, hpe, hwh, _⟩ := hak
                have hlen : p'.bytes.length ≤ maxLen := by rw [hpe]; exact bytes_len hwh
                have hpd : p'.dest = 1 := by rw [hpe]
                have hcell : wr.cell? ⟨gb, 0, none⟩ = some (.pointer (some ⟨nb, 0, none⟩)) := (cell_at (unhide HRB) 0).trans (unhide HGC)
                have hld := hr.lead hw0
                have hrc := (unhide HN).receive 0 hw0 (by rw [hwl]) hcell hld.l.ok ((hr.b 0 hw0).mono (by unfold Bg; omega)) p'.bytes hlen
                rw [r0] at hrc
                have HC := hide hrc
                have R2 := hide r2
                simp only [List.getElem_cons_zero, hpd, Nat.zero_mul, Nat.zero_add] at e0 e1
                generalize p'.bytes = pb' at e1 HC R2
                clear hr r0 r2 hld hrc hpe hwh hlen hpd HRR
                go_wp2_with fail
                refine (unhide HC).mono ?_
                rintro e w6 ⟨o3, rfl, ho3, hN6, hkp⟩
                have HN6 := hide hN6
                have HR6 := hide (hkp _ _ _ (unhide HRB) (by decide) (by decide) (by decide) (by decide))
                have HP6 := hide ((unhide HPX).kept hkp)
                have HB6 := hide ((unhide HBX).kept hkp)
                generalize ws.set 0 (ws[0].receive pb').2 = us at R2 HN6
                clear ho3 hN6 hkp HC HPX HBX HN HRB
                go_wp2
                go_roundw
                case rel => exact ⟨1, us, by go_num, .inr ⟨rfl, (unhide R2).wide (by omega)⟩, HN6, HR6, HP6, HB6⟩
                case measure => simp [Go.RowKit.intOf]
              · have HR6 := hide hr
                clear hr HRR
                go_wp2
                go_roundw
                case rel => exact ⟨1, ws, by go_num, .inr ⟨rfl, unhide HR6⟩, HN, HRB, HPX⟩
                case measure => simp [Go.RowKit.intOf]
          · have HR6 := hide hr
            clear hr HRR
            go_wp2
            go_roundw
            case rel => exact ⟨tn + 1, v, vs, by go_num, by omega, (unhide HR6).wide (by omega), HN, HRB⟩
            case measure => simp [Go.RowKit.intOf]; omega
    · have e : tn = L := by omega
      subst e
      have hlt' : ¬ (tn : Int) < (tn : Int) := by omega
      have hld := (unhide HR).lead hy0
      have hu := hld.end HLE (by omega) (by omega) (by omega)
      subst hu
      have hs := (unhide HN).see 0 hy0 (by rw [hyl]) hcell hld.l.ok
      have ho1 := hld.l.count
      rw [ho1] at hs
      have HS := hide hs
      have HO2 := hide hld.l.seen
      obtain ⟨O, hO⟩ : ∃ O, O = ys[0].others := ⟨_, rfl⟩
      rw [← hO] at HS HO2 ho1
      generalize ys[0].clock = x1 at HS
      generalize ys[0].own = x0 at HS
      generalize ys[0].ptgt = x2 at HS
      generalize ys[0].pending = x3 at HS
      generalize ys[0].rels.length = x4 at HS
      generalize ys[0].lost = x5 at HS
      generalize ys[0].dropped = x6 at HS
      clear hO hs hld
      go_wp2_with fail
      refine (unhide HS).mono ?_
      rintro e w2 ⟨sv, rfl, hso, hb2⟩
      obtain ⟨sao, scap, rfl⟩ := own_form hso
      have HB2 := hide ((unhide HN).mono hb2).below
      obtain ⟨r, hr⟩ : ∃ r : Nat, r + 1 = k := ⟨k - 1, by omega⟩
      have hr1 : k - 1 = r := by omega
      rw [hr1] at hso ho1 ⊢
      have hkk : KeysAt w2 (.slice sao r scap) O := keys_of_row (by rw [ho1]; exact hso)
      have HK3 := fun o => hide (hkk.below ((Below.refl w2.heap.size w2).alloc (Nat.le_refl _) o))
      have HB3 := fun o => hide ((unhide HB2).alloc (unhide HB2).size o)
      have hw1 : IntKind.i64.wrap ((k : Int) - 1) = (r : Int) := by rw [IntKind.wrap_i64]; omega
      clear hso hkk hr1 hb2 HS hcell HN hkw
      dsimp only
      go_wp2
      go_loopw [21] (fun j wr => ∃ q : Nat, j = .int .i64 q ∧ q ≤ r ∧ Hid (KeysAt wr (.slice sao r scap) O) ∧ Hid (Below W.heap.size W wr) ∧ wr.cell? ⟨w2.heap.size, 4, none⟩ = some (.slice sao r scap)) (fun j _ => r - (Go.RowKit.intOf j).toNat)
      case atStart => exact ⟨0, by go_num, by omega, HK3 _, HB3 _, by simp [go_sem]⟩
      case round =>
        clear HK3 HB3
        obtain ⟨q, rfl, hqr, HKW, HBW, hc4⟩ := hrel
        by_cases hlt : q < r
        · obtain ⟨b, off, hao, hbl, hcl⟩ := (unhide HKW).elem (by omega)
          subst hao
          obtain ⟨u0, u1, u2⟩ := hcl q (by omega)
          obtain ⟨e1, e2⟩ := (unhide HO2) O[q] (List.getElem_mem _)
          have hlt' : (q : Int) < (r : Int) := by omega
          clear hcl u1
          generalize O[q] = K at u0 u2 e1 e2
          by_cases hg : K.id = gn
          · rw [e1 hg] at u2
            rw [hg] at u0
            clear e1 e2
            go_wp2
            go_roundw
            case rel => exact ⟨q + 1, by go_num, by omega, HKW, HBW, hc4⟩
            case measure => simp [Go.RowKit.intOf]; omega
          · rw [e2 hg] at u2
            have hg' : (K.id == gn) = false := by simpa using hg
            generalize K.id = kid at u0 hg hg'
            clear e1 e2
            go_wp2
            go_roundw
            case rel => exact ⟨q + 1, by go_num, by omega, HKW, HBW, hc4⟩
            case measure => simp [Go.RowKit.intOf]; omega
        · have e : q = r := by omega
          subst e
          have hlt' : ¬ (q : Int) < (q : Int) := by omega
          go_wp2
          go_ret
          exact ⟨rfl, unhide HBW⟩
end Go.Proofs.YtnneljcbelgoeaaGreat.wire
