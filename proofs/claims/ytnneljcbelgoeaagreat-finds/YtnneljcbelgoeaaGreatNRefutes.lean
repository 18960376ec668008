import Derived.Test.YtnneljcbelgoeaaGreatNMade
import Derived.Test.YtnneljcbelgoeaaGreatNRef
import Derived.Test.YtnneljcbelgoeaaGreatWire
import Derived.Laws.StructEq
/- Refutes: who is suspected speaks up. -/
namespace Go.Proofs.YtnneljcbelgoeaaGreat.wire
open Go.RowKit Go.Maps

theorem MI.first {W wr : World} {lv : Value} {n : Nat} {B : Int} {xs : List Nd} (h : MI W wr lv n B xs) (j : Nat) (hj : j < xs.length) :
    ∃ nb mb cb pv rv g cap, lv = .slice (some ⟨g, 0, none⟩) xs.length cap ∧ wr.cell? ⟨g, j, none⟩ = some (.pointer (some ⟨nb, 0, none⟩)) ∧ NAt wr nb mb cb pv rv xs[j] ∧ ∀ k ∈ feet nb mb cb pv rv, W.heap.size ≤ k := by
  obtain ⟨L, hL, hx, hrow, hfr⟩ := h.ex
  have hll : L.length = xs.length := by rw [← hx]; simp
  have hjL : j < L.length := by omega
  have hxj : (L[j]).x = xs[j] := by simp [← hx]
  rcases hrow.2 with ⟨e, e0⟩ | ⟨g, cap, cur, rfl, hgb, hg, h1, h2, h3, h4⟩
  · omega
  refine ⟨(L[j]).nb, (L[j]).mb, (L[j]).cb, (L[j]).pv, (L[j]).rv, g, cap, rfl, ?_, ?_, hfr _ (List.getElem_mem hjL)⟩
  · rw [cell_at hg, ← Array.getElem?_toList]
    have e2 : cur.toList[j]? = (cur.toList.take (xs.length * 1))[j]? := by rw [List.getElem?_take_of_lt (by omega)]
    rw [e2, h4, List.getElem?_map, List.getElem?_eq_getElem hjL]; rfl
  · have := hL.here j hjL
    unfold Nn.At at this
    rwa [hxj] at this
theorem below_frm {S : List Nat} {B : Nat} {W w w' : World} (h : Below B W w) (hf : Frm S w w') (hs : ∀ k ∈ S, B ≤ k) (hB : B ≤ w.heap.size) : Below B W w' :=
  ⟨hf.os.trans h.os, hf.tape.trans h.tape, hf.output.trans h.output, Nat.le_trans h.size hf.size, fun k hk => (hf.block k (Nat.lt_of_lt_of_le hk hB) (fun hm => absurd (hs k hm) (by omega))).trans (h.block k hk)⟩
set_option maxHeartbeats 4000000 in
set_option maxRecDepth 100000 in
theorem refutes_any (c inc st : Int) (l : List Int) (hl : l.length ≤ maxLen) {ao : Option Addr} {cap : Nat} {W : World} (hv : RawI W ao l) (hrng : ∀ z ∈ l, -9223372036854775808 ≤ z ∧ z ≤ 9223372036854775807)
    (c0 : -9223372036854775808 ≤ c) (c1 : c ≤ 9223372036854775807) (i0 : -9223372036854775808 ≤ inc) (i1 : inc ≤ 9223372036854775807) (s0 : -9223372036854775808 ≤ st) (s1 : st ≤ 9223372036854775807) :
    Calls Tryz.prog 3 #[.int .i64 c, .slice ao l.length cap, .int .i64 inc, .int .i64 st] W fun e w' => e = .returned (.bool true) ∧ Below W.heap.size W w' := by
  have hM : Calls Tryz.prog 8 #[.int .i64 2, .int .i64 c, .slice ao l.length cap] W fun e w' => ∃ lv xs, e = .returned lv ∧ xs.length = 2 ∧ AK c 2 2 xs ∧ MI W w' lv 2 5000 xs := made_any 2 (by omega) (by omega) c c0 c1 l hl hv hrng
  have HM := hide hM
  have HP1 := fun w => hide (pick_any inc 1073741823 w i0 i1 (by omega) (by omega))
  have HP2 := fun w => hide (pick_any st 2 w s0 s1 (by omega) (by omega))
  have hb1 := pickI_bd inc 1073741823 (by omega)
  have hb2 := pickI_bd st 2 (by omega)
  generalize pickI inc 1073741823 = P1 at HP1 hb1
  generalize pickI st 2 = P2 at HP2 hb2
  have hN : 1 ≤ 1 + P1 ∧ 1 + P1 ≤ 1073741823 := by omega
  have hS : 2 + P2 = 2 ∨ 2 + P2 = 3 := by omega
  clear hM hv
  go_enter Tryz.func3, Tryz.ntmps3
  go_wp2_with fail
  refine (unhide HM).mono ?_
  rintro e w1 ⟨lv, xs, rfl, hxl, _, hmi⟩
  obtain ⟨nb, mb, cb, pv, rv, g, lcap, rfl, hcell, hn, hfresh⟩ := hmi.first 0 (by omega)
  obtain ⟨hni, hnb⟩ := hmi.nice 0 (by omega)
  have hni1 : Nice 2 1 xs[0] := by simpa using hni
  have hbw := hmi.below
  have hgl := World.block_lt_of_cell? w1 _ hcell
  rw [hxl]
  generalize xs[0]'(by omega) = X at hn hni1 hnb
  have HN := hide hn
  have HNI := hide hni1
  have HNB := hide hnb
  have HBW := hide hbw
  have HFR := hide hfresh
  have hwz := hbw.size
  clear hmi hni hxl HM hn hnb hni1 hbw hfresh
  have hb3 : (1 : Int) + P1 + 1 ≤ 1073741824 := by omega
  go_wp2_with (first
    | (go_at_call_of 9 (Value.int IntKind.i64 inc); refine (unhide (HP1 _)).mono ?_; rintro e w' ⟨rfl, rfl⟩)
    | (go_at_call_of 9 (Value.int IntKind.i64 st); refine (unhide (HP2 _)).mono ?_; rintro e w' ⟨rfl, rfl⟩)
    | fail)
  clear HP1 HP2 hcell
  generalize hNN : (1 : Int) + P1 = N at hN hb3 ⊢
  generalize hSS : (2 : Int) + P2 = S at hS ⊢
  clear hNN hSS hb1 hb2
  generalize hw2 : (w'.alloc (.cells #[.int .i64 1, .int .i64 2, .int .i64 1, .int .i64 77, .int .i64 1, .slice (some ⟨w'.heap.size + 1, 0, none⟩) 1 1] 29)).alloc (.cells #[.int .i64 1, .int .i64 N, .int .i64 S] 31) = w2
  have hb02 : Below w'.heap.size w' w2 := by rw [← hw2]; exact ((Below.refl _ _).alloc (Nat.le_refl _) _).alloc (by simp) _
  have hkb : w2.heap[w'.heap.size + 1]? = some (.cells #[.int .i64 1, .int .i64 N, .int .i64 S] 31 (0, 0)) := by
    rw [← hw2]
    have h := heap_alloc_new (w'.alloc (.cells #[.int .i64 1, .int .i64 2, .int .i64 1, .int .i64 77, .int .i64 1, .slice (some ⟨w'.heap.size + 1, 0, none⟩) 1 1] 29)) (.cells #[.int .i64 1, .int .i64 N, .int .i64 S] 31)
    rw [World.size_alloc] at h
    exact h
  have hks : KeysAt w2 (.slice (some ⟨w'.heap.size + 1, 0, none⟩) 1 1) (accM N S).ups := by
    refine .inr ⟨w'.heap.size + 1, 0, 1, rfl, lt_blk hkb, fun i hi => ?_⟩
    obtain rfl : i = 0 := by simp [accM] at hi; omega
    exact ⟨by rw [cell_at hkb]; rfl, by rw [cell_at hkb]; rfl, by rw [cell_at hkb]; rfl⟩
  have hwh := acc_whole hN hS
  have HE := hide (gencode_yes (accM N S) _ w2 hks hwh)
  simp only [accM, mval] at HE
  have HN2 := hide ((unhide HN).below hb02)
  have HB2 := hide ((unhide HBW).trans (hb02.mono hwz))
  have hz2 := hb02.size
  clear hw2 hkb hks hb02 HN HBW
  refine (unhide HE).mono ?_
  rintro e w3 ⟨rfl, hb3'⟩
  have hn3 := (unhide HN2).below hb3'
  have HB3 := hide ((unhide HB2).trans (hb3'.mono (unhide HB2).size))
  obtain ⟨hd, hr⟩ := dec_of_whole hwh
  obtain ⟨t1, t2, t3⟩ := got_acc (unhide HNI) hN hS hd hr
  have hsp := spoke (unhide HNI) hN hS
  have hlen : (bytesM (accM N S)).length ≤ maxLen := by
    have : (bytesM (accM N S)).length = 18 := by simp [bytesM, accM, putB_len, keyBs_len]
    rw [this]; decide
  have hrc := receive_yes (unhide HNI).ok ((unhide HNB).mono (by decide)) hn3 _ hlen t1 (by
    rw [hr]
    have e : ((X.hear ⟨(accM N S).frm, (accM N S).inc, 1⟩).hears (accM N S).ups) = X.accused N S := rfl
    rw [e]
    exact no_deeds (fun h4 => absurd h4 (by show ¬ (1 : Int) = 4; decide)) (fun h5 => absurd h5 (by show ¬ (1 : Int) = 5; decide)) (fun h1 => ping_any hsp.ok _ h1) (.inl rfl))
  rw [t2, t3] at hrc
  have HR := hide hrc
  have HSP := hide hsp
  have haw := ans_whole hsp hN
  have HAW := hide haw
  have hal := along_own hsp.ok
  have HAL := hide hal
  have HAO := hide (along_ok hsp.ok)
  have hz3 := hb3'.size
  clear hb3' hn3 t1 t2 t3 hsp hrc hd hr HE hwh hlen haw hal HN2 HB2 HNI HNB
  generalize X.accused N S = Y at HR HSP HAW HAL HAO
  simp only [accM] at HR
  go_wp2_with fail
  refine (unhide HR).mono ?_
  rintro e w4 ⟨o, rfl, ho4, hto4⟩
  obtain ⟨og, ocap, rfl, hog, o0, o1, ocs, hocs⟩ := outs_cells ho4
  obtain ⟨pv4, rv4, hn4, hf4, hs4⟩ := hto4
  have hb4 := below_frm (unhide HB3) hf4 (unhide HFR) (unhide HB3).size
  obtain ⟨hd4, hr4⟩ := dec_of_whole (unhide HAW)
  have hul : (ansM Y N).ups.length ≤ 8 := whole_len (unhide HAW)
  have hlen4 : (bytesM (ansM Y N)).length ≤ maxLen := by
    have := flatK_len (ansM Y N).ups
    have e : (bytesM (ansM Y N)).length = 12 + (ansM Y N).ups.length * 6 := by
      simp only [bytesM, List.length_append, this]
      simp [putB_len]
    rw [e]; unfold maxLen; omega
  have hdec := gdecode_yes (bytesM (ansM Y N)) w4 hlen4 hd4
  rw [hr4] at hdec
  have HD := hide hdec
  have HN4 := hide hn4
  have HB4 := hide hb4
  clear ho4 hf4 hs4 hn4 hb4 hd4 hr4 hlen4 hdec hocs HR HB3
  generalize bytesM (ansM Y N) = BS at o1 HD
  go_wp2_with fail
  refine (unhide HD).mono ?_
  simp only [ansM, mval]
  obtain ⟨U, hU⟩ : ∃ U, U = Y.picks.map Mem.k := ⟨_, rfl⟩
  rw [← hU]
  have hUl : U.length ≤ 8 := by rw [hU]; exact hul
  have hUm : ⟨1, N + 1, 1⟩ ∈ U := by rw [hU]; exact (unhide HSP).told
  have HUM := hide hUm
  clear hU hUm HD hul
  rintro e w5 ⟨uv, rfl, hou, hb5⟩
  obtain ⟨uao, ucap, rfl⟩ := own_form hou
  rw [kcells_flat] at hou
  have hn5 := fun o => ((unhide HN4).below hb5).alloc o
  have HS := hide (see_any (unhide HAO) (hn5 (.cells #[.int .i64 2, .int .i64 1, .int .i64 (N + 1), .int .i64 77, .int .i64 1, .slice uao U.length ucap] 29)))
  have hkeys := (keys_of_row hou)
  have HK5 := hide (hkeys.below ((Below.refl _ _).alloc (Nat.le_refl _) (.cells #[.int .i64 2, .int .i64 1, .int .i64 (N + 1), .int .i64 77, .int .i64 1, .slice uao U.length ucap] 29)))
  have HB5 := hide (((unhide HB4).trans (hb5.mono (unhide HB4).size)).alloc (by have := (unhide HB4).size; have := hb5.size; omega) (.cells #[.int .i64 2, .int .i64 1, .int .i64 (N + 1), .int .i64 77, .int .i64 1, .slice uao U.length ucap] 29))
  have HX5 := hide (heap_alloc_new w5 (.cells #[.int .i64 2, .int .i64 1, .int .i64 (N + 1), .int .i64 77, .int .i64 1, .slice uao U.length ucap] 29))
  clear hou hb5 hn5 hkeys HN4 HB4 o0 o1
  go_wp2_with fail
  refine (unhide HS).mono ?_
  rw [unhide HAL, (unhide HSP).own]
  generalize Y.along = Z
  rintro e w6 ⟨sv, rfl, hso, hb6⟩
  obtain ⟨sao, scap, rfl⟩ := own_form hso
  have hx6 := (hb6.block w5.heap.size (by simp)).trans (unhide HX5)
  have hk6 := (unhide HK5).below hb6
  have hb06 := (unhide HB5).trans (hb6.mono (unhide HB5).size)
  have HK7 : Hid (KeysAt (w6.alloc (.cells #[.int .i64 Z.clock, .int .i64 1, .int .i64 (N + 1), .int .i64 1, .slice sao Z.others.length scap, .int .i64 Z.ptgt, .int .i64 Z.pending, .int .i64 Z.rels.length, .int .i64 Z.dropped, .int .i64 Z.lost] 43)) (.slice uao U.length ucap) U) := hk6.below ((Below.refl _ _).alloc (Nat.le_refl _) _)
  have HB7 : Hid (Below W.heap.size W (w6.alloc (.cells #[.int .i64 Z.clock, .int .i64 1, .int .i64 (N + 1), .int .i64 1, .slice sao Z.others.length scap, .int .i64 Z.ptgt, .int .i64 Z.pending, .int .i64 Z.rels.length, .int .i64 Z.dropped, .int .i64 Z.lost] 43))) := hb06.alloc hb06.size _
  have HX7 : Hid ((w6.alloc (.cells #[.int .i64 Z.clock, .int .i64 1, .int .i64 (N + 1), .int .i64 1, .slice sao Z.others.length scap, .int .i64 Z.ptgt, .int .i64 Z.pending, .int .i64 Z.rels.length, .int .i64 Z.dropped, .int .i64 Z.lost] 43)).heap[w5.heap.size]? = some (.cells #[.int .i64 2, .int .i64 1, .int .i64 (N + 1), .int .i64 77, .int .i64 1, .slice uao U.length ucap] 29 (0, 0))) := (Below.heap_alloc _ _ _ (lt_blk hx6)).trans hx6
  have m0 := cell_at hx6 0
  have m2 := cell_at hx6 2
  have m3 := cell_at hx6 3
  have m5 := cell_at hx6 5
  have hlt56 := lt_blk hx6
  simp only [List.getElem?_toArray, List.getElem?_cons_zero, List.getElem?_cons_succ] at m0 m2 m3 m5
  clear hso hb6 hx6 hk6 hb06 HS HB5 HK5 HX5
  dsimp only
  go_wp2
  clear m0 m2 m3 m5
  go_loopw [20] (fun i wr => ∃ k : Nat, k ≤ U.length ∧ i = .int .i64 k ∧ Hid (∀ j (h : j < U.length), j < k → U[j] ≠ ⟨1, N + 1, 1⟩) ∧ Hid (KeysAt wr (.slice uao U.length ucap) U) ∧ Hid (Below W.heap.size W wr) ∧ wr.cell? ⟨w5.heap.size, 5, none⟩ = some (.slice uao U.length ucap)) (fun i _ => U.length - (Go.RowKit.intOf i).toNat)
  case atStart => exact ⟨0, Nat.zero_le _, rfl, fun j _ h => absurd h (by omega), HK7, HB7, cell_at (unhide HX7) 5⟩
  case round =>
    obtain ⟨k, hk, rfl, HNE, HKW, HBW, hc5⟩ := hrel
    by_cases hlt : k < U.length
    · obtain ⟨b, off, hao, hbl, hcl⟩ := (unhide HKW).elem (by omega)
      subst hao
      obtain ⟨u0, u1, u2⟩ := hcl k hlt
      have hne := unhide HNE
      by_cases hq : U[k] = ⟨1, N + 1, 1⟩
      · rw [hq] at u0 u1 u2
        dsimp only at u0 u1 u2
        clear hne hcl hq
        go_wp2
        go_ret
        exact ⟨rfl, unhide HBW⟩
      · have hnx : ∀ j (h : j < U.length), j < k + 1 → U[j] ≠ ⟨1, N + 1, 1⟩ := fun j hj hjk => by
          by_cases e : j = k
          · subst e; exact hq
          · exact hne j hj (by omega)
        have HNX := hide hnx
        generalize U[k] = K at u0 u1 u2 hq
        obtain ⟨ki, kn, ks⟩ := K
        dsimp only at u0 u1 u2
        have hcase : (ki == 1) = false ∨ (ki = 1 ∧ (kn == N + 1) = false) ∨ (ki = 1 ∧ kn = N + 1 ∧ (ks == 1) = false) := by
          by_cases h1 : ki = 1
          · by_cases h2 : kn = N + 1
            · refine .inr (.inr ⟨h1, h2, ?_⟩)
              simp only [beq_eq_false_iff_ne, ne_eq]
              intro h3
              exact hq (by rw [h1, h2, h3])
            · exact .inr (.inl ⟨h1, by simp [h2]⟩)
          · exact .inl (by simp [h1])
        clear hne hcl hq hnx
        rcases hcase with h1 | ⟨rfl, h1⟩ | ⟨rfl, rfl, h1⟩
        all_goals
          go_wp2
          go_roundw
          case rel => exact ⟨k + 1, by omega, by go_num, HNX, HKW, HBW, hc5⟩
          case measure => simp [Go.RowKit.intOf]; omega
    · exfalso
      obtain ⟨j, hj, e⟩ := List.getElem_of_mem (unhide HUM)
      exact (unhide HNE) j hj (by omega) e
end Go.Proofs.YtnneljcbelgoeaaGreat.wire
