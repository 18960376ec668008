import Derived.Test.YtnneljcbelgoeaaGreatNRiseW
import Derived.Test.YtnneljcbelgoeaaGreatBackMath
/- Rising: the law. -/
namespace Go.Proofs.YtnneljcbelgoeaaGreat.wire
open Go.RowKit Go.Maps

set_option maxHeartbeats 8000000 in
set_option maxRecDepth 100000 in
theorem rising_any (c : Int) (l : List Int) (hl : l.length ≤ maxLen) {ao : Option Addr} {cap : Nat} {W : World} (hv : RawI W ao l) (hrng : ∀ z ∈ l, -9223372036854775808 ≤ z ∧ z ≤ 9223372036854775807)
    (c0 : -9223372036854775808 ≤ c) (c1 : c ≤ 9223372036854775807) (T : List RM) (hT : T.length ≤ maxLen) {tao : Option Addr} {tcap : Nat} (hr : RawM W tao T) :
    Calls Tryz.prog 4 #[.int .i64 c, .slice ao l.length cap, .slice tao T.length tcap] W fun e w' => e = .returned (.bool true) ∧ Below W.heap.size W w' := by
  have hM : Calls Tryz.prog 8 #[.int .i64 2, .int .i64 c, .slice ao l.length cap] W fun e w' => ∃ lv xs, e = .returned lv ∧ xs.length = 2 ∧ AK c 2 2 xs ∧ MI W w' lv 2 5000 xs := made_any 2 (by omega) (by omega) c c0 c1 l hl hv hrng
  have HM := hide hM
  have HR := hide hr
  have hTi : (T.length : Int) ≤ 9223372036854775807 := by unfold maxLen at hT; omega
  clear hM hv hrng hr
  go_enter Tryz.func4, Tryz.ntmps4
  go_wp2_with fail
  refine (unhide HM).mono ?_
  rintro e w1 ⟨lv, xs, rfl, hxl, hak, hmi⟩
  obtain ⟨nb, mb, cb, pv, rv, g, lcap, rfl, hcell, hn, hfresh⟩ := hmi.first 0 (by omega)
  obtain ⟨hni, hnb⟩ := hmi.nice 0 (by omega)
  have hni1 : Nice 2 1 xs[0] := by simpa using hni
  have hk2 : Knows 2 xs[0] := by simpa using hak.all 0 1 (by omega) (by omega) (by omega) (by omega)
  have hbd : RsOk 0 xs[0] := ⟨hni1.ok, hnb.mono (by omega), hni1.fr.dl, hni1.self, hk2⟩
  have hbw := hmi.below
  have hgl := World.block_lt_of_cell? w1 _ hcell
  rw [hxl]
  generalize xs[0]'(by omega) = X at hn hbd
  have HMI := hide (⟨⟨pv, rv, hn, hfresh⟩, hbw⟩ : Mine W w1 nb mb cb X)
  have HS := hide (see_any hbd.ok hn)
  have HBD := hide hbd
  clear hmi hni hxl HM hn hnb hni1 hbw hfresh hak hk2 hbd
  go_wp2_with fail
  refine (unhide HS).mono ?_
  rintro e w2 ⟨sv, rfl, hso, hb2⟩
  obtain ⟨sao, scap, rfl⟩ := own_form hso
  have hal : ∀ o, Below w2.heap.size w2 (w2.alloc o) := fun o => (Below.refl _ _).alloc (Nat.le_refl _) o
  have HM2 := hide (((unhide HMI).mono hb2).mono (hal (.cells (seenC X (.slice sao X.others.length scap)) 43)))
  have hWw2 := ((unhide HMI).mono hb2).below.size
  have HBX := hide (heap_alloc_new w2 (.cells (seenC X (.slice sao X.others.length scap)) 43))
  have HSO := hide (own_below2 hso (hal (.cells (seenC X (.slice sao X.others.length scap)) 43)))
  clear hso hb2 HS HMI hal
  go_wp2
  go_loopw [10] (fun i wr => ∃ (k : Nat) (y : Nd) (so : Option Addr) (sc : Nat), i = .int .i64 k ∧ k ≤ 40 ∧ k ≤ T.length ∧ Hid (RsOk k y) ∧ Hid (Mine W wr nb mb cb y) ∧ Hid (wr.heap[w2.heap.size]? = some (.cells (seenC y (.slice so y.others.length sc)) 43 (0, 0))) ∧ Hid (wr.ownsRow 0 31 3 (.slice so y.others.length sc) y.others.length (y.others.flatMap keyC))) (fun i _ => 40 - (Go.RowKit.intOf i).toNat)
  case atStart => exact ⟨0, X, sao, scap, by go_num, Nat.zero_le _, Nat.zero_le _, HBD, HM2, HBX, own_mono (unhide HSO) (Nat.zero_le _)⟩
  case round =>
    obtain ⟨k, y, so, sc, rfl, hk60, hkT, HB, HMY, HA, HAR⟩ := hrel
    obtain ⟨w0, hw0⟩ : ∃ w0, w0 = wr := ⟨_, rfl⟩
    subst hw0
    by_cases hlt : k < T.length ∧ k < 40
    · obtain ⟨h1, h2⟩ := hlt
      obtain ⟨tb, toff, rfl, htl, htc⟩ := (unhide HR).ex (by omega)
      obtain ⟨x0, x1, x2, x3, x4, x5⟩ := htc k h1
      have hro := (unhide HR).ok T[k] (List.getElem_mem h1)
      generalize T[k] = R at x0 x1 x2 x3 x4 x5 hro
      have hbw := (unhide HMY).below
      have y0 := (hbw.cell (p := ⟨tb, toff + k * 6, none⟩) htl).trans x0
      have y1 := (hbw.cell (p := ⟨tb, toff + k * 6 + 1, none⟩) htl).trans x1
      have y2 := (hbw.cell (p := ⟨tb, toff + k * 6 + 2, none⟩) htl).trans x2
      have y3 := (hbw.cell (p := ⟨tb, toff + k * 6 + 3, none⟩) htl).trans x3
      have y4 := (hbw.cell (p := ⟨tb, toff + k * 6 + 4, none⟩) htl).trans x4
      have y5 := (hbw.cell (p := ⟨tb, toff + k * 6 + 5, none⟩) htl).trans x5
      have h1' : (k : Int) < (T.length : Int) := by omega
      have h2' : (k : Int) < 40 := by omega
      have htw : tb < w0.heap.size := Nat.lt_of_lt_of_le htl hbw.size
      have hraw : RawAt w0 R.ao R.l := fun h0 => by
        obtain ⟨b, off, e, hb, hk⟩ := hro.raw h0
        exact ⟨b, off, e, Nat.lt_of_lt_of_le hb hbw.size, fun i hi => by
          obtain ⟨q1, q2, q3⟩ := hk i hi
          exact ⟨(hbw.cell (p := ⟨b, _, none⟩) hb).trans q1, (hbw.cell (p := ⟨b, _, none⟩) hb).trans q2, (hbw.cell (p := ⟨b, _, none⟩) hb).trans q3⟩⟩
      have HMG := hide (message_any R.k R.f R.i R.s R.t R.ao R.l R.cap w0 hro.k hro.f hro.i hro.s hro.t hro.len hraw hro.keys)
      clear x0 x1 x2 x3 x4 x5 htc hro hbw hraw
      go_wp2_with fail
      refine (unhide HMG).mono ?_
      rintro e w3 ⟨v, rfl, hvo, hb3⟩
      have hwh := msg_whole R.k R.f R.i R.s R.t R.l
      have hRm : R.m = msgOf R.k R.f R.i R.s R.t R.l := rfl
      rw [← hRm] at hvo hwh ⊢
      obtain ⟨va, vc, hvf⟩ := own_form hvo
      subst hvf
      obtain ⟨M, hM⟩ : ∃ M, M = R.m := ⟨_, rfl⟩
      rw [← hM] at hvo hwh ⊢
      rw [kcells_flat] at hvo
      have hbi : BendI w0 (w3.alloc (.cells #[.int .i64 M.kind, .int .i64 (if M.frm = 1 then 2 else M.frm), .int .i64 M.inc, .int .i64 M.seq, .int .i64 M.tgt, .slice va M.ups.length vc] 29)) w3.heap.size M (if M.frm = 1 then 2 else M.frm) va vc 0 := by
        refine ⟨hb3.alloc hb3.size _, heap_alloc_new w3 _, ?_⟩
        rcases hvo.2 with ⟨e0, e1⟩ | ⟨g', c', cur, e0, _⟩
        · simp only [Value.slice.injEq] at e0
          exact .inl ⟨e0.1, e0.2.2, List.length_eq_zero_iff.1 e1⟩
        · simp only [Value.slice.injEq] at e0
          obtain ⟨rfl, _, rfl⟩ := e0
          obtain ⟨k1, k2, _⟩ := KRow.of_own hvo
          exact .inr ⟨g', _, rfl, k2, Nat.ne_of_lt k1.lt, k1.below ((Below.refl _ _).alloc (Nat.le_refl _) _)⟩
      have hsz3 := hb3.size
      have HBI := hide hbi
      have HWH := hide hwh
      have hul : M.ups.length ≤ 8 := whole_len hwh
      have hids : ∀ (i : Nat) (h : i < M.ups.length), 1 ≤ M.ups[i].id ∧ M.ups[i].id ≤ 250 := fun i h => by
        have := (whole_parts hwh).2.2
        exact (key_bounds (allB_get this i h)).1
      have hfr : 1 ≤ M.frm ∧ M.frm ≤ 250 := by simp only [wholeB, Bool.and_eq_true] at hwh; exact isId_of hwh.1
      have HID := hide hids
      clear hvo hb3 hbi hwh HMG hRm hM y0 y1 y2 y3 y4 y5 hids
      simp only [mval]
      go_upto_if 51 with fail
      go_cut [] from 34 to 204 (fun wq => wq = w3.alloc (.cells #[.int .i64 M.kind, .int .i64 (if M.frm = 1 then 2 else M.frm), .int .i64 M.inc, .int .i64 M.seq, .int .i64 M.tgt, .slice va M.ups.length vc] 29))
      case first =>
        by_cases hf1 : M.frm = 1
        · have hf1' : (M.frm == 1) = true := by simp [hf1]
          go_wp2_with fail
          go_meet
          simp [hf1]
        · have hf1' : (M.frm == 1) = false := by simp [hf1]
          go_wp2_with fail
          go_meet
          simp [hf1]
      case rest =>
        subst hcut
        obtain ⟨F, hF⟩ : ∃ F, F = (if M.frm = 1 then 2 else M.frm) := ⟨_, rfl⟩
        have hFb : 2 ≤ F ∧ F ≤ 250 := by rw [hF]; split <;> omega
        rw [← hF] at HBI ⊢
        have HFE := hide hF
        clear hF hfr
        generalize w3.alloc (.cells #[.int .i64 M.kind, .int .i64 F, .int .i64 M.inc, .int .i64 M.seq, .int .i64 M.tgt, .slice va M.ups.length vc] 29) = w4 at HBI ⊢
        go_wp2_with fail
        go_loopw [12] (fun j wq => ∃ k2 : Nat, j = .int .i64 k2 ∧ k2 ≤ M.ups.length ∧ Hid (BendI w0 wq w3.heap.size M F va vc k2)) (fun j _ => M.ups.length - (Go.RowKit.intOf j).toNat)
        case atStart => exact ⟨0, by go_num, Nat.zero_le _, HBI⟩
        case round =>
          obtain ⟨k2, rfl, hk2, HBJ⟩ := hrel
          have b5 := cell_at (unhide HBJ).box 5
          have b1 := cell_at (unhide HBJ).box 1
          have f1 := free_at (unhide HBJ).box 1
          have lb := lt_blk (unhide HBJ).box
          simp only [List.getElem?_toArray, List.getElem?_cons_zero, List.getElem?_cons_succ] at b5 b1
          by_cases hlt2 : k2 < M.ups.length
          · rcases (unhide HBJ).row with ⟨_, _, e0⟩ | ⟨gq, nq2, hva, hgq, hgb, hkr⟩
            · rw [e0] at hlt2; simp at hlt2
            obtain ⟨q0, _, _⟩ := hkr.cell k2 (by rw [bent_len]; exact hlt2)
            rw [bent_get k2 M.ups hlt2] at q0
            have hfq := hkr.free (k2 * 3)
            have lq := hkr.lt
            have hib := (unhide HID) k2 hlt2
            have HST := fun z hz => hide (((unhide HBJ).step hlt2 hva hgq hgb hkr (z := z) hz).drew)
            subst hva
            generalize M.ups[k2] = K at q0 hib HST
            have hlt3 : (k2 : Int) < (M.ups.length : Int) := by omega
            have hk8 : (k2 : Int) ≤ 8 := by omega
            have hne1 : ¬ gq = w3.heap.size := hgb
            have hne2 : ¬ w3.heap.size = gq := fun e => hgb e.symm
            clear hkr
            have hmz : 1 + K.id % 9 = 1 + K.id.tmod 9 := by rw [Int.tmod_eq_emod_of_nonneg (by omega)]
            go_wp2_with fail
            go_region
            have HS2 := HST _ hmz
            clear HST hmz q0 hfq
            generalize (wr.setCell ⟨gq, k2 * 3, none⟩ (.int .i64 (1 + K.id % 9))).drew = wq2 at HS2 ⊢
            go_wp2
            go_roundw
            case rel => exact ⟨k2 + 1, by go_num, by omega, HS2⟩
            case measure => simp [Go.RowKit.intOf]; omega
          · obtain rfl : k2 = M.ups.length := by omega
            have hnl : ¬ ((M.ups.length : Int) < (M.ups.length : Int)) := by omega
            have hmz : 2 + F % 7 = bendF M.frm := by
              unfold bendF
              rw [← unhide HFE, Int.tmod_eq_emod_of_nonneg (by omega)]
            have hbj := (unhide HBJ).from hsz3 (2 + F % 7)
            rw [hmz] at hbj
            have hky := hbj.keys
            rw [bent_all] at hky
            obtain ⟨hbw1, hbw2⟩ := bend_whole (unhide HWH)
            have hky2 : KeysAt (wr.setCell ⟨w3.heap.size, 1, none⟩ (.int .i64 (bendF M.frm))) (.slice va M.ups.length vc) (bendM M).ups := hky
            have HEN := hide (gencode_yes (bendM M) _ _ hky2 hbw1)
            simp only [mval] at HEN
            have e0 : (bendM M).kind = M.kind := rfl
            have e1 : (bendM M).frm = bendF M.frm := rfl
            have e2 : (bendM M).inc = M.inc := rfl
            have e3 : (bendM M).seq = M.seq := rfl
            have e4 : (bendM M).tgt = M.tgt := rfl
            rw [e0, e1, e2, e3, e4] at HEN
            obtain ⟨hd, hrd⟩ := dec_of_whole hbw1
            have htk : takesB 1 (bytesM (bendM M)) = true := by simp [takesB, hd, hrd, hbw2]
            have HBJ2 := hide hbj
            have HTK := hide htk
            have HRD := hide hrd
            have n0 := cell_at (unhide HBJ).box 0
            have n2 := cell_at (unhide HBJ).box 2
            have n3 := cell_at (unhide HBJ).box 3
            have n4 := cell_at (unhide HBJ).box 4
            simp only [List.getElem?_toArray, List.getElem?_cons_zero, List.getElem?_cons_succ] at n0 n2 n3 n4
            clear hbj hky hky2 hbw1 hbw2 e0 e1 e2 e3 e4 hd hrd htk HBI
            go_wp2_with fail
            refine (unhide HEN).mono ?_
            rintro e w5 ⟨rfl, hb5⟩
            have hb05 : Below w0.heap.size w0 w5 := (unhide HBJ2).below.trans (hb5.mono (unhide HBJ2).below.size)
            have hbx5 := (hb5.block _ (lt_blk (unhide HBJ2).box)).trans (unhide HBJ2).box
            have hky5 := (unhide HBJ2).urow.below hb5
            rw [bent_all] at hky5
            obtain ⟨pv0, rv0, hn0, hf0⟩ := (unhide HMY).ex
            obtain ⟨hg1, hg2, hg3, hg4, hg5⟩ := (unhide HB).got (bytesM (bendM M))
            have hse := (unhide HB).self
            have hblen : (bytesM (bendM M)).length ≤ maxLen := by rw [bytesM_len]; show 12 + (M.ups.map bendK).length * 6 ≤ maxLen; rw [List.length_map]; unfold maxLen; omega
            have hn5 := hn0.below hb05
            have HRC := hide (receive_any (unhide HB).ok ((unhide HB).b.mono (by unfold Bg; omega)) hn5 (bytesM (bendM M)) hblen)
            have HTO := hide (told_receive (unhide HB).ok (b := bytesM (bendM M)) (by rw [hse]; exact unhide HTK))
            have HDP := hide ((receive_keeps (unhide HB).ok (bytesM (bendM M))).2 (by rw [hse]; exact unhide HTK))
            rw [unhide HRD] at HTO
            generalize bytesM (bendM M) = BY at HRC hg1 hg2 hg3 hg4 hg5 HTO HDP HEN ⊢
            have ha5 := (hb05.block _ (lt_blk (unhide HA))).trans (unhide HA)
            have har5 := (URow.of_own (unhide HAR)).below hb05
            have HN5 := hide hn5
            have HF5 := hide hf0
            have HBW5 := hide ((unhide HMY).below.trans (hb05.mono (unhide HMY).below.size))
            have HA5 := hide ha5
            have HAR5 := hide har5
            have HX5 := hide hbx5
            have HK5 := hide hky5
            have HG1 := hide hg1
            have HG2 := hide hg2
            have HG3 := hide hg3
            have HG4 := hide hg4
            have HG5 := hide hg5
            clear hb5 hb05 hbx5 hky5 hn0 hf0 hn5 ha5 har5 hg1 hg2 hg3 hg4 hg5 HEN HBJ HBJ2 HTK HRD n0 n2 n3 n4 b1 b5 f1 hmz HMY HA HAR hblen
            go_wp2_with fail
            refine (unhide HRC).mono ?_
            rintro e w6 ⟨o6, rfl, _, hto⟩
            have hM6 : Mine W w6 nb mb cb (y.receive BY).2 := Mine.goes (unhide HN5) (unhide HF5) (unhide HBW5) hto
            have ha6 := Mine.aside (unhide HN5) hto (unhide HA5) (by decide) (by decide) (by decide) (by decide)
            have hx6 := Mine.aside (unhide HN5) hto (unhide HX5) (by decide) (by decide) (by decide) (by decide)
            have har6 := (unhide HAR5).aside (unhide HN5) hto
            have hk6 := (unhide HK5).aside (unhide HN5) hto
            obtain ⟨pv6, rv6, hn6, hf6⟩ := hM6.ex
            have HTK := hide (tick_any (unhide HG3) (unhide HG5) ((unhide HG4).mono (by unfold Bt; omega)) hn6)
            have HTD := hide ((tick_dropped (y.receive BY).2).trans (unhide HDP))
            have HTL : Hid (∀ u ∈ (bendM M).ups, Told1 (y.receive BY).2.tick.2 u) := hide (fun u hu => ((unhide HTO) u hu).up (unhide HG3) (unhide HG1).ok (Up.tick (unhide HG3)))
            have HN6 := hide hn6
            have HF6 := hide hf6
            have HBW6 := hide hM6.below
            have HA6 := hide ha6
            have HX6 := hide hx6
            have HAR6 := hide har6
            have HK6 := hide hk6
            clear hto hM6 ha6 hx6 har6 hk6 hn6 hf6 HRC HTO HDP HN5 HF5 HBW5 HA5 HX5 HAR5 HK5
            go_wp2_with fail
            refine (unhide HTK).mono ?_
            rintro e w7 ⟨o7, rfl, _, hto⟩
            have hM7 : Mine W w7 nb mb cb (y.receive BY).2.tick.2 := Mine.goes (unhide HN6) (unhide HF6) (unhide HBW6) hto
            have ha7 := Mine.aside (unhide HN6) hto (unhide HA6) (by decide) (by decide) (by decide) (by decide)
            have hx7 := Mine.aside (unhide HN6) hto (unhide HX6) (by decide) (by decide) (by decide) (by decide)
            have har7 := (unhide HAR6).aside (unhide HN6) hto
            have hk7 := (unhide HK6).aside (unhide HN6) hto
            generalize (y.receive BY).2.tick.2 = Y at hM7 HG1 HG2 HTD HTL
            obtain ⟨pv7, rv7, hn7, _⟩ := hM7.ex
            have HS7 := hide (see_any (unhide HG1).ok hn7)
            clear hto hn7 HTK HN6 HF6 HBW6 HA6 HX6 HAR6 HK6 HG3 HG4 HG5
            have HM7 := hide hM7
            have HA7 := hide ha7
            have HX7 := hide hx7
            have HAR7 := hide har7
            have HK7 := hide hk7
            clear hM7 ha7 hx7 har7 hk7
            go_wp2_with fail
            refine (unhide HS7).mono ?_
            rintro e w8 ⟨bv, rfl, hbo, hb8⟩
            obtain ⟨bo, bc, rfl⟩ := own_form hbo
            have hal : Below w8.heap.size w8 (w8.alloc (.cells (seenC Y (.slice bo Y.others.length bc)) 43)) := (Below.refl _ _).alloc (Nat.le_refl _) _
            have hb79 : Below w7.heap.size w7 (w8.alloc (.cells (seenC Y (.slice bo Y.others.length bc)) 43)) := hb8.trans (hal.mono hb8.size)
            have HM9 := hide ((unhide HM7).mono hb79)
            have HA9 := hide ((hb79.block _ (lt_blk (unhide HA7))).trans (unhide HA7))
            have HX9 := hide ((hb79.block _ (lt_blk (unhide HX7))).trans (unhide HX7))
            have HAR9 := hide ((unhide HAR7).below hb79)
            have HK9 := hide ((unhide HK7).below hb79)
            have HBR9 := hide ((URow.of_own hbo).below hal)
            have HBO9 := hide (own_mono (own_below2 hbo hal) (Nat.zero_le _))
            have HBB9 := hide (heap_alloc_new w8 (.cells (seenC Y (.slice bo Y.others.length bc)) 43))
            clear hbo hb8 hal hb79 HS7 HM7 HA7 HX7 HAR7 HK7
            go_upto_region 23 with fail
            change Code.wp _ _ _ _ (w8.alloc (.cells (seenC Y (.slice bo Y.others.length bc)) 43))
            generalize w8.alloc (.cells (seenC Y (.slice bo Y.others.length bc)) 43) = w9 at HM9 HA9 HX9 HAR9 HK9 HBR9 HBO9 HBB9 ⊢
            have p2 := cell_at (unhide HBB9) 2
            have p4 := cell_at (unhide HBB9) 4
            have p8 := cell_at (unhide HBB9) 8
            have z2 := cell_at (unhide HA9) 2
            have z4 := cell_at (unhide HA9) 4
            have z8 := cell_at (unhide HA9) 8
            have u5 := cell_at (unhide HX9) 5
            simp only [seenC, List.getElem?_toArray, List.getElem?_cons_zero, List.getElem?_cons_succ] at p2 p4 p8 z2 z4 z8 u5
            have lp := lt_blk (unhide HBB9)
            have lz := lt_blk (unhide HA9)
            have lu := lt_blk (unhide HX9)
            have hup := unhide HG2
            have hyo := (unhide HB).ok
            have hYo := (unhide HG1).ok
            have g1 := Up.inc hyo hup
            have g2 := Up.length hyo hYo hup
            have g3 := others_le hYo
            have q1 : ¬ Y.own.inc < y.own.inc := by omega
            have q2 : Y.dropped = y.dropped := unhide HTD
            have q3 : ¬ (Y.others.length : Int) < (y.others.length : Int) := by omega
            have q4 : ¬ (7 : Int) < (Y.others.length : Int) := by omega
            have HUO := hide (hup.others hyo)
            have HON := hide (others_one hYo)
            have HTU := hide (fun u hu => ((unhide HTL) u hu).other hYo)
            have g4 := (unhide HB).one
            have g5 := others_le hyo
            clear hup hyo hYo HTL
            go_wp2_with fail
            clear g1 g2 q1 q3 p2 p8 z2 z8 q2 q4
            go_loopw [16] (fun j wq => ∃ k3 : Nat, j = .int .i64 k3 ∧ k3 ≤ y.others.length ∧ Hid (Below w9.heap.size w9 wq)) (fun j _ => y.others.length - (Go.RowKit.intOf j).toNat)
            case atStart => exact ⟨0, by go_num, Nat.zero_le _, Below.refl _ _⟩
            case round =>
              obtain ⟨wa, hwa⟩ : ∃ wa, wa = wr := ⟨_, rfl⟩
              subst hwa
              obtain ⟨k3, rfl, hk3, HBa⟩ := hrel
              have z4a := ((unhide HBa).cell (p := ⟨w2.heap.size, 4, none⟩) lz).trans z4
              by_cases hlt3 : k3 < y.others.length
              · obtain ⟨ga, hga, lga, a0, a1, a2⟩ := (unhide HAR9).cell k3 hlt3
                subst hga
                have hmem : y.others[k3] ∈ y.others := List.getElem_mem hlt3
                obtain ⟨oo, hoo1, hoo2, hoo3⟩ := (unhide HUO) _ hmem
                have hall : ∀ o ∈ Y.others, o.id = (y.others[k3]).id → greaterB (y.others[k3]) o = false := fun o ho he => by
                  have := (unhide HON) o ho oo hoo1 (he.trans hoo2.symm)
                  rw [this]; exact hoo3
                have hany : (Y.others.any fun o => o.id == (y.others[k3]).id) = true := by
                  rw [List.any_eq_true]
                  exact ⟨oo, hoo1, by simp [hoo2]⟩
                have HALL := hide hall
                have HANY := hide hany
                generalize y.others[k3] = A at a0 a1 a2 HALL HANY
                have hlt3' : (k3 : Int) < (y.others.length : Int) := by omega
                have hk38 : (k3 : Int) ≤ 8 := by omega
                clear hmem hoo1 hoo2 hoo3 hall hany
                go_wp2_with fail
                go_loopw [17, 18] (fun b i wq => ∃ j4 : Nat, i = .int .i64 j4 ∧ j4 ≤ Y.others.length ∧ b = .bool ((Y.others.take j4).any fun o => o.id == A.id) ∧ Hid (Below w9.heap.size w9 wq)) (fun _ i _ => Y.others.length - (Go.RowKit.intOf i).toNat)
                case atStart => exact ⟨0, by go_num, Nat.zero_le _, by simp, HBa⟩
                case round =>
                  obtain ⟨wb, hwb⟩ : ∃ wb, wb = wr := ⟨_, rfl⟩
                  subst hwb
                  obtain ⟨j4, rfl, hj4, rfl, HBb⟩ := hrel
                  have p4b := ((unhide HBb).cell (p := ⟨w8.heap.size, 4, none⟩) lp).trans p4
                  have z4b := ((unhide HBb).cell (p := ⟨w2.heap.size, 4, none⟩) lz).trans z4
                  have lpb := Nat.lt_of_lt_of_le lp (unhide HBb).size
                  have lzb := Nat.lt_of_lt_of_le lz (unhide HBb).size
                  by_cases hlt4 : j4 < Y.others.length
                  · obtain ⟨gb, hgb, lgb, o0, o1, o2⟩ := (unhide HBR9).cell j4 hlt4
                    subst hgb
                    have hsn : (Y.others.take (j4 + 1)).any (fun o => o.id == A.id) = ((Y.others.take j4).any (fun o => o.id == A.id) || (Y.others[j4].id == A.id)) := by
                      rw [List.take_succ_eq_append_getElem hlt4, List.any_append]; simp
                    have HSN := hide hsn
                    have hin : Y.others[j4] ∈ Y.others := List.getElem_mem hlt4
                    have hgf := (unhide HALL) _ hin
                    clear hsn hin
                    generalize Y.others[j4] = O at o0 o1 o2 HSN hgf
                    have a0b := ((unhide HBb).cell (p := ⟨ga, k3 * 3, none⟩) lga).trans a0
                    have a1b := ((unhide HBb).cell (p := ⟨ga, k3 * 3 + 1, none⟩) lga).trans a1
                    have a2b := ((unhide HBb).cell (p := ⟨ga, k3 * 3 + 2, none⟩) lga).trans a2
                    have o0b := ((unhide HBb).cell (p := ⟨gb, j4 * 3, none⟩) lgb).trans o0
                    have o1b := ((unhide HBb).cell (p := ⟨gb, j4 * 3 + 1, none⟩) lgb).trans o1
                    have o2b := ((unhide HBb).cell (p := ⟨gb, j4 * 3 + 2, none⟩) lgb).trans o2
                    have hlt4' : (j4 : Int) < (Y.others.length : Int) := by omega
                    have hj48 : (j4 : Int) ≤ 8 := by omega
                    have lgab := Nat.lt_of_lt_of_le lga (unhide HBb).size
                    have lgbb := Nat.lt_of_lt_of_le lgb (unhide HBb).size
                    generalize (Y.others.take j4).any (fun o => o.id == A.id) = B0 at HSN ⊢
                    by_cases hid : O.id = A.id
                    · have he' : (O.id == A.id) = true := by simp [hid]
                      have hg := hgf hid
                      have HHG := hide hg
                      have HID2 := hide hid
                      clear hgf hid
                      go_wp2_with fail
                      go_quiet (fail)
                      go_wp2_with fail
                      go_region_held3 (fun w' => w'.cell? ⟨w2.heap.size, 4, none⟩ = some (.slice (some ⟨ga, 0, none⟩) y.others.length sc) ∧ w'.cell? ⟨w8.heap.size, 4, none⟩ = some (.slice (some ⟨gb, 0, none⟩) Y.others.length bc) ∧ w'.cell? ⟨ga, k3 * 3, none⟩ = some (.int .i64 A.id) ∧ w'.cell? ⟨ga, k3 * 3 + 1, none⟩ = some (.int .i64 A.inc) ∧ w'.cell? ⟨ga, k3 * 3 + 2, none⟩ = some (.int .i64 A.st) ∧ w'.cell? ⟨gb, j4 * 3, none⟩ = some (.int .i64 O.id) ∧ w'.cell? ⟨gb, j4 * 3 + 1, none⟩ = some (.int .i64 O.inc) ∧ w'.cell? ⟨gb, j4 * 3 + 2, none⟩ = some (.int .i64 O.st)) (go_keep)
                        (first
                          | (go_at_call 16; refine (greaterK_any A O _).mono ?_; rw [hg]; rintro e wc ⟨rfl, hbc0⟩; have hbc : Below wb.heap.size wb wc := ⟨hbc0.os, hbc0.tape, hbc0.output, hbc0.size, hbc0.block⟩; have v1 := (hbc.cell (p := ⟨w2.heap.size, 4, none⟩) lzb).trans z4b; have v2 := (hbc.cell (p := ⟨w8.heap.size, 4, none⟩) lpb).trans p4b; have v3 := (hbc.cell (p := ⟨ga, k3 * 3, none⟩) lgab).trans a0b; have v4 := (hbc.cell (p := ⟨ga, k3 * 3 + 1, none⟩) lgab).trans a1b; have v5 := (hbc.cell (p := ⟨ga, k3 * 3 + 2, none⟩) lgab).trans a2b; have v6 := (hbc.cell (p := ⟨gb, j4 * 3, none⟩) lgbb).trans o0b; have v7 := (hbc.cell (p := ⟨gb, j4 * 3 + 1, none⟩) lgbb).trans o1b; have v8 := (hbc.cell (p := ⟨gb, j4 * 3 + 2, none⟩) lgbb).trans o2b; have HBc := hide ((unhide HBb).trans (hbc.mono (unhide HBb).size)); clear hbc0 hbc))
                      all_goals
                        clear v1 v2 v3 v4 v5 v6 v7 v8
                        go_wp2
                        go_roundw
                        case rel => exact ⟨j4 + 1, by go_num, by omega, by rw [unhide HSN]; simp [unhide HID2], HBc⟩
                        case measure => simp [Go.RowKit.intOf]; omega
                    · have he' : (O.id == A.id) = false := by simp [hid]
                      have HID2 := hide hid
                      clear hgf hid
                      go_wp2_with fail
                      go_quiet (fail)
                      go_wp2
                      go_roundw
                      case rel => exact ⟨j4 + 1, by go_num, by omega, by rw [unhide HSN]; simp [unhide HID2], hide (bdrewN (unhide HBb) _)⟩
                      case measure => simp [Go.RowKit.intOf]; omega
                  · obtain rfl : j4 = Y.others.length := by omega
                    have hnl : ¬ ((Y.others.length : Int) < (Y.others.length : Int)) := by omega
                    rw [List.take_length, unhide HANY]
                    go_wp2
                    go_roundw
                    case rel => exact ⟨k3 + 1, by go_num, by omega, HBb⟩
                    case measure => simp [Go.RowKit.intOf]; omega
              · obtain rfl : k3 = y.others.length := by omega
                have hnl : ¬ ((y.others.length : Int) < (y.others.length : Int)) := by omega
                go_wp2_with fail
                clear z4a hnl
                go_loopw [20] (fun j wq => ∃ k5 : Nat, j = .int .i64 k5 ∧ k5 ≤ M.ups.length ∧ Hid (Below w9.heap.size w9 wq)) (fun j _ => M.ups.length - (Go.RowKit.intOf j).toNat)
                case atStart => exact ⟨0, by go_num, Nat.zero_le _, HBa⟩
                case round =>
                  obtain ⟨wd, hwd⟩ : ∃ wd, wd = wr := ⟨_, rfl⟩
                  subst hwd
                  obtain ⟨k5, rfl, hk5, HBd⟩ := hrel
                  have u5d := ((unhide HBd).cell (p := ⟨w3.heap.size, 5, none⟩) lu).trans u5
                  have lud := Nat.lt_of_lt_of_le lu (unhide HBd).size
                  by_cases hlt5 : k5 < M.ups.length
                  · have hml : (M.ups.map bendK).length = M.ups.length := List.length_map ..
                    obtain ⟨gu, hgu, lgu, t0, t1, t2⟩ := (unhide HK9).cell k5 (by rw [hml]; exact hlt5)
                    subst hgu
                    have hU := (unhide HTU) ((M.ups.map bendK)[k5]'(by rw [hml]; exact hlt5)) (List.getElem_mem _)
                    have HU := hide hU
                    generalize (M.ups.map bendK)[k5]'(by rw [hml]; exact hlt5) = U at t0 t1 t2 HU
                    have hlt5' : (k5 : Int) < (M.ups.length : Int) := by omega
                    have hk58 : (k5 : Int) ≤ 8 := by omega
                    clear hU hml
                    go_wp2_with fail
                    go_loopw [21] (fun i wq => ∃ j6 : Nat, i = .int .i64 j6 ∧ j6 ≤ Y.others.length ∧ Hid (Below w9.heap.size w9 wq)) (fun i _ => Y.others.length - (Go.RowKit.intOf i).toNat)
                    case atStart => exact ⟨0, by go_num, Nat.zero_le _, HBd⟩
                    case round =>
                      obtain ⟨we, hwe⟩ : ∃ we, we = wr := ⟨_, rfl⟩
                      subst hwe
                      obtain ⟨j6, rfl, hj6, HBe⟩ := hrel
                      have p4e := ((unhide HBe).cell (p := ⟨w8.heap.size, 4, none⟩) lp).trans p4
                      have u5e := ((unhide HBe).cell (p := ⟨w3.heap.size, 5, none⟩) lu).trans u5
                      have lpe := Nat.lt_of_lt_of_le lp (unhide HBe).size
                      have lue := Nat.lt_of_lt_of_le lu (unhide HBe).size
                      by_cases hlt6 : j6 < Y.others.length
                      · obtain ⟨gb, hgb, lgb, o0, o1, o2⟩ := (unhide HBR9).cell j6 hlt6
                        subst hgb
                        have hgf := (unhide HU) _ (List.getElem_mem hlt6)
                        generalize Y.others[j6] = O at o0 o1 o2 hgf
                        have t0e := ((unhide HBe).cell (p := ⟨gu, k5 * 3, none⟩) lgu).trans t0
                        have t1e := ((unhide HBe).cell (p := ⟨gu, k5 * 3 + 1, none⟩) lgu).trans t1
                        have t2e := ((unhide HBe).cell (p := ⟨gu, k5 * 3 + 2, none⟩) lgu).trans t2
                        have o0e := ((unhide HBe).cell (p := ⟨gb, j6 * 3, none⟩) lgb).trans o0
                        have o1e := ((unhide HBe).cell (p := ⟨gb, j6 * 3 + 1, none⟩) lgb).trans o1
                        have o2e := ((unhide HBe).cell (p := ⟨gb, j6 * 3 + 2, none⟩) lgb).trans o2
                        have lgue := Nat.lt_of_lt_of_le lgu (unhide HBe).size
                        have lgbe := Nat.lt_of_lt_of_le lgb (unhide HBe).size
                        have hlt6' : (j6 : Int) < (Y.others.length : Int) := by omega
                        have hj68 : (j6 : Int) ≤ 8 := by omega
                        by_cases hid : O.id = U.id
                        · have he' : (O.id == U.id) = true := by simp [hid]
                          have hg := hgf hid
                          clear hgf hid
                          go_wp2_with fail
                          go_region_held3 (fun w' => w'.cell? ⟨w3.heap.size, 5, none⟩ = some (.slice (some ⟨gu, 0, none⟩) M.ups.length vc) ∧ w'.cell? ⟨w8.heap.size, 4, none⟩ = some (.slice (some ⟨gb, 0, none⟩) Y.others.length bc) ∧ w'.cell? ⟨gu, k5 * 3, none⟩ = some (.int .i64 U.id) ∧ w'.cell? ⟨gu, k5 * 3 + 1, none⟩ = some (.int .i64 U.inc) ∧ w'.cell? ⟨gu, k5 * 3 + 2, none⟩ = some (.int .i64 U.st) ∧ w'.cell? ⟨gb, j6 * 3, none⟩ = some (.int .i64 O.id) ∧ w'.cell? ⟨gb, j6 * 3 + 1, none⟩ = some (.int .i64 O.inc) ∧ w'.cell? ⟨gb, j6 * 3 + 2, none⟩ = some (.int .i64 O.st)) (go_keep)
                            (first
                              | (go_at_call 16; refine (greaterK_any U O _).mono ?_; rw [hg]; rintro e wf ⟨rfl, hbf0⟩; have hbf : Below we.heap.size we wf := ⟨hbf0.os, hbf0.tape, hbf0.output, hbf0.size, hbf0.block⟩; have v1 := (hbf.cell (p := ⟨w3.heap.size, 5, none⟩) lue).trans u5e; have v2 := (hbf.cell (p := ⟨w8.heap.size, 4, none⟩) lpe).trans p4e; have v3 := (hbf.cell (p := ⟨gu, k5 * 3, none⟩) lgue).trans t0e; have v4 := (hbf.cell (p := ⟨gu, k5 * 3 + 1, none⟩) lgue).trans t1e; have v5 := (hbf.cell (p := ⟨gu, k5 * 3 + 2, none⟩) lgue).trans t2e; have v6 := (hbf.cell (p := ⟨gb, j6 * 3, none⟩) lgbe).trans o0e; have v7 := (hbf.cell (p := ⟨gb, j6 * 3 + 1, none⟩) lgbe).trans o1e; have v8 := (hbf.cell (p := ⟨gb, j6 * 3 + 2, none⟩) lgbe).trans o2e; have HBf := hide ((unhide HBe).trans (hbf.mono (unhide HBe).size)); clear hbf0 hbf))
                          all_goals
                            go_wp2_with fail
                            go_quiet (fail)
                            go_wp2
                            go_roundw
                            case rel => exact ⟨j6 + 1, by go_num, by omega, hide (bdrewN (unhide HBf) _)⟩
                            case measure => simp [Go.RowKit.intOf]; omega
                        · have he' : (O.id == U.id) = false := by simp [hid]
                          clear hgf hid
                          go_wp2_with fail
                          go_region_held3 (fun w' => w'.cell? ⟨w3.heap.size, 5, none⟩ = some (.slice (some ⟨gu, 0, none⟩) M.ups.length vc) ∧ w'.cell? ⟨w8.heap.size, 4, none⟩ = some (.slice (some ⟨gb, 0, none⟩) Y.others.length bc) ∧ w'.cell? ⟨gu, k5 * 3, none⟩ = some (.int .i64 U.id) ∧ w'.cell? ⟨gu, k5 * 3 + 1, none⟩ = some (.int .i64 U.inc) ∧ w'.cell? ⟨gu, k5 * 3 + 2, none⟩ = some (.int .i64 U.st) ∧ w'.cell? ⟨gb, j6 * 3, none⟩ = some (.int .i64 O.id) ∧ w'.cell? ⟨gb, j6 * 3 + 1, none⟩ = some (.int .i64 O.inc) ∧ w'.cell? ⟨gb, j6 * 3 + 2, none⟩ = some (.int .i64 O.st)) (go_keep)
                            (first
                              | (go_at_call 16; refine (greaterK_any U O _).mono ?_; rintro e wf ⟨rfl, hbf0⟩; have hbf : Below we.heap.size we wf := ⟨hbf0.os, hbf0.tape, hbf0.output, hbf0.size, hbf0.block⟩; have v1 := (hbf.cell (p := ⟨w3.heap.size, 5, none⟩) lue).trans u5e; have v2 := (hbf.cell (p := ⟨w8.heap.size, 4, none⟩) lpe).trans p4e; have v3 := (hbf.cell (p := ⟨gu, k5 * 3, none⟩) lgue).trans t0e; have v4 := (hbf.cell (p := ⟨gu, k5 * 3 + 1, none⟩) lgue).trans t1e; have v5 := (hbf.cell (p := ⟨gu, k5 * 3 + 2, none⟩) lgue).trans t2e; have v6 := (hbf.cell (p := ⟨gb, j6 * 3, none⟩) lgbe).trans o0e; have v7 := (hbf.cell (p := ⟨gb, j6 * 3 + 1, none⟩) lgbe).trans o1e; have v8 := (hbf.cell (p := ⟨gb, j6 * 3 + 2, none⟩) lgbe).trans o2e; have HBf := hide ((unhide HBe).trans (hbf.mono (unhide HBe).size)); clear hbf0 hbf))
                          all_goals
                            go_wp2_with fail
                            go_quiet (fail)
                            go_wp2
                            go_roundw
                            case rel => exact ⟨j6 + 1, by go_num, by omega, hide (bdrewN (unhide HBf) _)⟩
                            case measure => simp [Go.RowKit.intOf]; omega
                      · obtain rfl : j6 = Y.others.length := by omega
                        have hnl : ¬ ((Y.others.length : Int) < (Y.others.length : Int)) := by omega
                        go_wp2
                        go_roundw
                        case rel => exact ⟨k5 + 1, by go_num, by omega, HBe⟩
                        case measure => simp [Go.RowKit.intOf]; omega
                  · obtain rfl : k5 = M.ups.length := by omega
                    have hnl : ¬ ((M.ups.length : Int) < (M.ups.length : Int)) := by omega
                    have had := ((unhide HBd).block _ lz).trans (unhide HA9)
                    have hbd := ((unhide HBd).block _ lp).trans (unhide HBB9)
                    have hov := over_box had Y (.slice bo Y.others.length bc)
                    have HMd := hide (((unhide HM9).mono (unhide HBd)).over had hov.2 hWw2)
                    have HAd := hide hov.1
                    have HRd := hide (own_frm (own_below2 (unhide HBO9) (unhide HBd)) hov.2 (fun j hj e => by
                      simp only [List.mem_singleton] at e
                      subst e
                      obtain ⟨cs, hcs⟩ := own_blk (own_below2 (unhide HBO9) (unhide HBd)) hj
                      rw [had] at hcs
                      cases hcs))
                    unfold World.overB at HMd HAd HRd
                    have ff := fun j => free_at had j
                    have x0 := cell_at had 0
                    have v0 := cell_at hbd 0
                    have x1 := cell_at had 1
                    have v1 := cell_at hbd 1
                    have x2 := cell_at had 2
                    have v2 := cell_at hbd 2
                    have x3 := cell_at had 3
                    have v3 := cell_at hbd 3
                    have x4 := cell_at had 4
                    have v4 := cell_at hbd 4
                    have x5 := cell_at had 5
                    have v5 := cell_at hbd 5
                    have x6 := cell_at had 6
                    have v6 := cell_at hbd 6
                    have x7 := cell_at had 7
                    have v7 := cell_at hbd 7
                    have x8 := cell_at had 8
                    have v8 := cell_at hbd 8
                    have x9 := cell_at had 9
                    have v9 := cell_at hbd 9
                    simp only [seenC, List.getElem?_toArray, List.getElem?_cons_zero, List.getElem?_cons_succ] at x0 x1 x2 x3 x4 x5 x6 x7 x8 x9 v0 v1 v2 v3 v4 v5 v6 v7 v8 v9
                    have lzd := Nat.lt_of_lt_of_le lz (unhide HBd).size
                    have lpd := Nat.lt_of_lt_of_le lp (unhide HBd).size
                    clear had hbd hov
                    go_wp2
                    go_roundw
                    case rel => exact ⟨k + 1, Y, bo, bc, by go_num, by omega, by omega, HG1, HMd, HAd, HRd⟩
                    case measure => simp [Go.RowKit.intOf]; omega
    · have z4 := cell_at (unhide HA) 4
      simp only [seenC, List.getElem?_toArray, List.getElem?_cons_zero, List.getElem?_cons_succ] at z4
      have h2o := (unhide HB).one
      have h2i : (1 : Int) ≤ (y.others.length : Int) := by omega
      have HBW := hide (unhide HMY).below
      clear HM2 HBX HBD HMY HA HB HAR
      by_cases h1 : (k : Int) < (T.length : Int)
      · have h60 : ¬ ((k : Int) < 40) := by omega
        go_wp2
        go_ret
        exact ⟨rfl, unhide HBW⟩
      · go_wp2
        go_ret
        exact ⟨rfl, unhide HBW⟩
end Go.Proofs.YtnneljcbelgoeaaGreat.wire
