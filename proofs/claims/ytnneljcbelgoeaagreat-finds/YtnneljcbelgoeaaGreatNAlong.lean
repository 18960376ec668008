import Derived.Test.YtnneljcbelgoeaaGreatNSort
/- What a packet has along (P7). -/
namespace Go.Proofs.YtnneljcbelgoeaaGreat.wire
open Go.RowKit Go.Maps Go.Sort Go.Shelf

def lessAll (l : List Mem) (t : List Mem) : List Mem := l.foldl (fun t m => putM m.less t) t
theorem lessAll_snoc (l : List Mem) (k : Nat) (h : k < l.length) (t : List Mem) : lessAll (l.take (k + 1)) t = putM (l[k]).less (lessAll (l.take k) t) := by
  unfold lessAll
  rw [List.take_succ_eq_append_getElem h, List.foldl_append]; rfl
theorem lessAll_rise : ∀ (l : List Mem) {t : List Mem}, Rise t → Rise (lessAll l t)
  | [], _, h => h
  | m :: r, t, h => lessAll_rise r (putM_rise m.less t h)
theorem lessAll_len : ∀ (l : List Mem) {t : List Mem}, Rise t → (lessAll l t).length ≤ t.length + l.length
  | [], _, _ => Nat.le_refl _
  | m :: r, t, h => by
    have h1 := lessAll_len r (putM_rise m.less t h)
    have h2 := putM_len m.less t h
    have h3 : (putM m.less t).length ≤ t.length + 1 := by rw [h2]; split <;> omega
    show (lessAll r (putM m.less t)).length ≤ _
    simp only [List.length_cons]; omega
theorem picks_mem {x : Nd} {m : Mem} (h : m ∈ x.picks) : m ∈ x.tab ∧ pendB m = true := by
  have h1 := List.mem_of_mem_take h
  have h2 := (sortM_perm _).mem_iff.1 h1
  exact List.mem_filter.1 h2
theorem picks_len (x : Nd) : x.picks.length ≤ 4 := by simp [Nd.picks]; omega
/-- What stands while the picked ones are counted. -/
structure AI (W wr : World) (nb mb : Nat) (cb : Dk) (g cap : Nat) (pv rv : Value) (x : Nd) (n k : Nat) : Prop where
  nat : NAt wr nb mb cb pv rv { x with tab := lessAll (x.picks.take k) x.tab }
  row : wr.ownsRow W.heap.size 80 5 (.slice (some ⟨g, 0, none⟩) n cap) n (x.picks.flatMap memC)
  frm : Frm [mb] W wr
set_option maxHeartbeats 2000000 in
set_option maxRecDepth 100000 in
theorem along_loop {x : Nd} (hx : NdOk x) {W wr : World} {nb mb : Nat} {cb : Dk} {g cap : Nat} {pv rv : Value} {k : Nat} (hk : k < x.picks.length) (h : AI W wr nb mb cb g cap pv rv x x.picks.length k) (K : Mem) (hK : K = x.picks[k]) :
    ∃ w1, (Instr.mapUpdate 64 (.map (some mb)) (.int .i64 K.k.id) (.agg #[.int .i64 K.k.id, .int .i64 K.k.inc, .int .i64 K.k.st, .int .i64 K.due, .int .i64 (K.sends - 1)])).run Tryz.prog (wr.alloc (.cells #[.int .i64 K.k.id, .int .i64 K.k.inc, .int .i64 K.k.st, .int .i64 K.due, .int .i64 (K.sends - 1)] 80)).drew = .ok () w1 ∧ AI W w1 nb mb cb g cap pv rv x x.picks.length (k + 1) := by
  subst hK
  have hm := picks_mem (List.getElem_mem hk)
  have hkey := (key_bounds (hx.keys _ hm.1)).1
  have hl := lessAll_len (x.picks.take k) hx.rise
  have hl2 := hx.len
  have hp := picks_len x
  have hn1 := (h.nat.alloc (.cells #[.int .i64 x.picks[k].k.id, .int .i64 x.picks[k].k.inc, .int .i64 x.picks[k].k.st, .int .i64 x.picks[k].due, .int .i64 (x.picks[k].sends - 1)] 80)).drew
  obtain ⟨w1, hrun, hown, hg⟩ := hn1.map.update law Tryz.underlying64 (key := .int .i64 x.picks[k].k.id) (val := memv x.picks[k].less) (by simp at hl ⊢; unfold maxLen; omega) (key_wf (by omega) (by omega)) (d := .held (memv x.picks[k].less)) (ps := []) rfl
  have hn2 := hn1.put (lessAll_rise _ hx.rise) x.picks[k].less hown hg
  have hb1 : Below wr.heap.size wr (wr.alloc (.cells #[.int .i64 x.picks[k].k.id, .int .i64 x.picks[k].k.inc, .int .i64 x.picks[k].k.st, .int .i64 x.picks[k].due, .int .i64 (x.picks[k].sends - 1)] 80)).drew := ((Below.refl _ _).alloc (Nat.le_refl _) _).drew
  have hf2 : Frm [mb] wr w1 := (Frm.of_below hb1 (Nat.le_refl _)).trans (S' := [mb]) (Frm.of_grown hg (fun j hj => by simp at hj; simp [hj])) (by simp)
  refine ⟨w1, hrun, ⟨?_, ?_, h.frm.trans hf2 (by simp)⟩⟩
  · rw [lessAll_snoc _ _ hk]; exact hn2
  · refine own_frm h.row hf2 (fun j hj => ?_)
    obtain ⟨cs, hcs⟩ := own_blk h.row hj
    obtain ⟨es, c, hmb⟩ := map_blk h.nat.map
    simp only [List.mem_cons, List.not_mem_nil, or_false]
    intro e
    rw [e, hmb] at hcs; cases hcs
theorem cutM {w : World} {base g cap n : Nat} {l : List Mem} (h : w.ownsRow base 80 5 (.slice (some ⟨g, 0, none⟩) n cap) n (l.flatMap memC)) (hn : l.length = n) (j : Nat) (hj : j ≤ n) :
    w.ownsRow base 80 5 (.slice (some ⟨g, 0, none⟩) j cap) j ((l.take j).flatMap memC) := by
  rcases h.2 with ⟨e, _⟩ | ⟨g', cap', cur, e, hb, hg, h1, h2, h3, h4⟩
  · cases e
  · cases e
    refine ⟨by rw [lenM]; simp; omega, .inr ⟨g, cap, cur, rfl, hb, hg, by omega, h2, h3, ?_⟩⟩
    have e1 : l.flatMap memC = (l.take j).flatMap memC ++ (l.drop j).flatMap memC := by rw [← List.flatMap_append, List.take_append_drop]
    have e2 : cur.toList.take (j * 5) = (cur.toList.take (n * 5)).take (j * 5) := by rw [List.take_take, Nat.min_eq_left (Nat.mul_le_mul_right 5 hj)]
    rw [e2, h4, e1, List.take_left' (by rw [lenM]; simp; omega)]
set_option maxHeartbeats 4000000 in
set_option maxRecDepth 100000 in
theorem along_any {x : Nd} (hx : NdOk x) {nb mb : Nat} {cb : Dk} {pv rv : Value} {W : World} (hn : NAt W nb mb cb pv rv x) :
    Calls Tryz.prog 93 #[.pointer (some ⟨nb, 0, none⟩)] W fun e w' => ∃ v, e = .returned v ∧ w'.ownsRow W.heap.size 31 3 v (x.picks.map Mem.k).length ((x.picks.map Mem.k).flatMap keyC) ∧ NAt w' nb mb cb pv rv x.along ∧ Frm [mb] W w' := by
  have HX := hide hx
  have HN := hide hn
  have HM := hide (members_any hx hn)
  have hlen := hx.len
  have hlt := hn.lt
  clear hx hn
  go_enter Tryz.func93, Tryz.ntmps93
  go_wp2_with fail
  refine (unhide HM).mono ?_
  rintro e w1 ⟨v1, rfl, ho1, hb1⟩
  have HK := hide (keepM_any x.tab pendB 29 #[] #[] ho1 (by omega) (enters_of Tryz.func29 (by kernel_rfl) rfl) (fun m W' _ => pend_any m W'))
  have HB1 := hide hb1
  clear ho1 hb1 HM
  go_wp2_with fail
  refine (unhide HK).mono ?_
  rintro e w2 ⟨v2, rfl, ho2, hb2⟩
  have hb02 : Below W.heap.size W w2 := (unhide HB1).trans (hb2.mono (unhide HB1).size)
  have ho2' := own_mono ho2 (unhide HB1).size
  have hpl : (x.tab.filter pendB).length ≤ 8 := Nat.le_trans (List.length_filter_le _ _) hlen
  have HS := hide (sort_any (x.tab.filter pendB) hpl ho2')
  have HB2 := hide hb02
  have HO2 := hide ho2'
  clear ho2 ho2' hb2 hb02 HK HB1
  go_wp2_with fail
  refine (unhide HS).mono ?_
  rintro e w3 ⟨rfl, ho3, hg3⟩
  have hb03 : Below W.heap.size W w3 := (unhide HB2).grown hg3 (unhide HB2).size (fun j hj => (own_lt (unhide HO2) hj).1)
  have HB3 := hide hb03
  clear hg3 hb03 HS HB2 HO2
  generalize hP : (x.tab.filter pendB).length = P at ho3 hpl
  have hPL : (sortM (x.tab.filter pendB)).length = P := by rw [sortM_len]; exact hP
  have HPL := hide hPL
  clear hP hPL
  rcases ho3.2 with ⟨rfl, e0⟩ | ⟨g, cap, cur, rfl, hgb, hg, h1, h2, h3, h4⟩
  · -- nothing to pass on
    subst e0
    have hpk : x.picks = [] := by
      have : sortM (x.tab.filter pendB) = [] := List.length_eq_zero_iff.1 (unhide HPL)
      simp [Nd.picks, this]
    have HPK := hide hpk
    clear hpk ho3 HPL
    go_wp2
    refine wp_loop_rounds 1 ?_
    rw [rounds_succ]
    go_wp2_with fail
    refine (turnMK_nil Mem.k _ _).mono ?_
    rintro e w4 ⟨v', rfl, ho4, hb4⟩
    have HO4 := hide ho4
    have HB4 := hide hb4
    clear ho4 hb4
    go_wp2
    go_ret
    have e1 : x.along = x := by simp [Nd.along, unhide HPK]
    have hb := (unhide HB3).trans ((unhide HB4).mono (unhide HB3).size)
    rw [e1]
    refine ⟨v', rfl, ?_, (unhide HN).below hb, Frm.of_below hb (Nat.le_refl _)⟩
    rw [unhide HPK]
    exact own_mono (unhide HO4) (unhide HB3).size
  · have hcm : cap ≤ 9223372036854775807 := h2
    clear hg h2 h3 h4 hgb
    have HO3 := hide ho3
    clear ho3
    obtain ⟨N, hN, hN4, hNP⟩ : ∃ N, x.picks.length = N ∧ N ≤ 4 ∧ N ≤ P ∧ (N = P ∨ (N = 4 ∧ 4 < P)) := by
      have e : x.picks.length = min 4 P := by simp [Nd.picks, unhide HPL]
      rcases Nat.le_total P 4 with h | h
      · exact ⟨P, by rw [e, Nat.min_eq_right h], h, Nat.le_refl _, .inl rfl⟩
      · rcases Nat.eq_or_lt_of_le h with h' | h'
        · exact ⟨P, by rw [e, ← h']; rfl, by omega, Nat.le_refl _, .inl rfl⟩
        · exact ⟨4, by rw [e, Nat.min_eq_left h], Nat.le_refl _, h, .inr ⟨rfl, h'⟩⟩
    obtain ⟨hNP, hNc⟩ := hNP
    have hrow : w3.ownsRow W.heap.size 80 5 (.slice (some ⟨g, 0, none⟩) N cap) N (x.picks.flatMap memC) := by
      have := cutM (unhide HO3) (unhide HPL) N hNP
      have e : x.picks = (sortM (x.tab.filter pendB)).take N := by
        rcases hNc with rfl | ⟨rfl, _⟩
        · rw [List.take_of_length_le (by rw [unhide HPL]; exact Nat.le_refl _), Nd.picks, List.take_of_length_le (by rw [unhide HPL]; exact hN4)]
        · rfl
      rw [e]; exact this
    have hai : AI W w3 nb mb cb g cap pv rv x x.picks.length 0 := by
      rw [hN]
      exact ⟨(unhide HN).below (unhide HB3), hrow, Frm.of_below (unhide HB3) (Nat.le_refl _)⟩
    have HA := hide hai
    have hm3 : min (P : Int) 4 = N := by
      rcases hNc with rfl | ⟨rfl, h⟩
      · exact Int.min_eq_left (by omega)
      · exact Int.min_eq_right (by omega)
    have HNN := hide hN
    clear hrow hai HO3 hN HB3
    go_wp2
    clear hm3 HPL hNc
    go_loopw [18] (fun i wr => ∃ k : Nat, k ≤ N ∧ i = .int .i64 k ∧ Hid (AI W wr nb mb cb g cap pv rv x x.picks.length k)) (fun i _ => N - (Go.RowKit.intOf i).toNat)
    case atStart => exact ⟨0, Nat.zero_le _, rfl, HA⟩
    case round =>
      obtain ⟨k, hk, rfl, HI⟩ := hrel
      by_cases hlt : k < N
      · have hkp : k < x.picks.length := by rw [unhide HNN]; exact hlt
        have hrk := rowM (unhide HI).row k hkp
        obtain ⟨w1', hrun, hai⟩ := along_loop (unhide HX) hkp (unhide HI) x.picks[k] rfl
        have hms := (unhide HX).sends _ (picks_mem (List.getElem_mem hkp)).1
        have c7 := (unhide HI).nat.c_map
        have hltn := (unhide HI).nat.lt
        simp only [Nat.zero_add] at hrk
        generalize x.picks[k] = K at hrk hrun hms
        obtain ⟨c0, c1, c2, c3, c4⟩ := hrk
        have HA1 := hide hai
        clear hai HI hkp
        go_wp2
        refine wp_region_still_tail 8 (by kernel_rfl) (by kernel_rfl) ?_
        simp only [List.take_succ_cons, List.take_zero, List.drop_succ_cons, List.drop_zero]
        change wpStill _ _ (wr.alloc (.cells #[.int .i64 K.k.id, .int .i64 K.k.inc, .int .i64 K.k.st, .int .i64 K.due, .int .i64 (K.sends - 1)] 80)).drew (fun a' => wpList _ _ _ _ a' (wr.alloc (.cells #[.int .i64 K.k.id, .int .i64 K.k.inc, .int .i64 K.k.st, .int .i64 K.due, .int .i64 (K.sends - 1)] 80)).drew) _ _
        repeat still_step
        refine wpStill_nil ?_
        go_wp2
        go_roundw
        case rel => exact ⟨k + 1, by omega, by go_num, HA1⟩
        case measure => simp [Go.RowKit.intOf]; omega
      · have e : k = N := by omega
        subst e
        have hT := turnMK_any x.picks Mem.k 54 #[] #[] (unhide HI).row (by rw [unhide HNN]; omega) (enters_of Tryz.func54 (by kernel_rfl) rfl) (fun m _ W' _ => key_any m W')
        rw [unhide HNN] at hT
        have HT := hide hT
        clear hT
        go_wp2_with fail
        refine (unhide HT).mono ?_
        rintro e w4 ⟨v', rfl, ho4, hb4⟩
        have HO4 := hide ho4
        have HB4 := hide hb4
        clear ho4 hb4 HT
        go_wp2
        go_ret
        refine ⟨v', rfl, own_mono (unhide HO4) (unhide HI).frm.size, ?_, (unhide HI).frm.step (unhide HB4)⟩
        have hn' := (unhide HI).nat
        rw [List.take_of_length_le (by rw [unhide HNN]; exact Nat.le_refl _)] at hn'
        exact hn'.below (unhide HB4)
end Go.Proofs.YtnneljcbelgoeaaGreat.wire
