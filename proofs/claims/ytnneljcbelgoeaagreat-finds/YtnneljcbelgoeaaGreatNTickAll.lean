import Derived.Test.YtnneljcbelgoeaaGreatNTick
/- Tick (P9). -/
namespace Go.Proofs.YtnneljcbelgoeaaGreat.wire
open Go.RowKit Go.Maps

theorem deads_dl : ∀ (l : List Mem) (x : Nd), (l.foldl (fun y m => y.hear m.dead) x).dl = x.dl
  | [], _ => rfl
  | m :: r, x => (deads_dl r (x.hear m.dead)).trans (hear_dl x m.dead)
theorem endSuspects_dl (x : Nd) : x.endSuspects.dl = x.dl := deads_dl _ _
theorem asks_dl : ∀ (n : Nat) (l : List Int) (x : Nd), (x.asks n l).2.dl = x.dl
  | 0, _, _ => rfl
  | n + 1, l, x => (asks_dl n (l.eraseIdx (x.drawn l.length).toNat) (x.drew l.length).along).trans (by
      show (x.drew l.length).dl = x.dl
      obtain ⟨m, e, _⟩ := drew_ex x (l.length : Int)
      rw [e])
theorem goOn_dl (x : Nd) : x.goOn.2.dl = x.dl := by
  unfold Nd.goOn
  split
  · rfl
  · split
    · unfold Nd.askOthers
      split
      · rfl
      · exact asks_dl _ _ _
    · split
      · show x.endProbe.dl = x.dl
        unfold Nd.endProbe
        split
        · rfl
        · exact hear_dl _ _
      · rfl
theorem probeNext_dl (x : Nd) : x.probeNext.2.dl = x.dl := by
  unfold Nd.probeNext
  split
  · rfl
  · have h : x.renew.probeOne.2.dl = x.renew.dl := by unfold Nd.probeOne; split <;> rfl
    exact h.trans (renew_dl x)
theorem tick_dl (x : Nd) : x.tick.2.dl = x.dl := (probeNext_dl _).trans ((goOn_dl _).trans (endSuspects_dl _))
theorem asks_len : ∀ (n : Nat) (l : List Int) (x : Nd), (x.asks n l).1.length = n
  | 0, _, _ => rfl
  | n + 1, l, x => by
    rw [asks_succ, List.length_cons, asks_len n]
theorem goOn_len {x : Nd} (h : NdOk x) : x.goOn.1.length ≤ 3 := by
  have hc := h.cfg
  simp only [cfgB, Bool.and_eq_true, decide_eq_true_eq] at hc
  unfold Nd.goOn
  split
  · simp
  · split
    · unfold Nd.askOthers
      split
      · simp
      · rw [asks_len]; omega
    · split <;> simp
theorem probeNext_len (x : Nd) : x.probeNext.1.length ≤ 1 := by
  unfold Nd.probeNext
  split
  · simp
  · unfold Nd.probeOne; split <;> simp
def Bt : Int := 999999998000
theorem outs_frm {S : List Nat} {W w1 w2 : World} {nb mb : Nat} {cb : Dk} {pv rv : Value} {o : Value} {l : List Pk} {y : Nd} (hn : NAt w1 nb mb cb pv rv y) (ho : Outs W w1 o l) (hf : Frm S w1 w2) (hs : S = feet nb mb cb pv rv) : Outs W w2 o l :=
  own_frm ho hf (fun k hk => by
    obtain ⟨cs, hcs⟩ := own_blk ho hk
    rw [hs]
    exact hn.not_feet hcs (by decide) (by decide) (by decide) (by decide))
theorem own_form' {w : World} {base : Nat} {e : TypeId} {size : Nat} {v : Value} {n : Nat} {xs : List Value} (h : w.ownsRow base e size v n xs) : ∃ ao cap, v = .slice ao n cap := by
  rcases h.2 with ⟨rfl, rfl⟩ | ⟨g, cap, cur, rfl, _⟩
  · exact ⟨none, 0, rfl⟩
  · exact ⟨_, _, rfl⟩
set_option maxHeartbeats 2000000 in
set_option maxRecDepth 100000 in
theorem tick_any {x : Nd} (hx : NdOk x) (hdl : DlOk x.dl) (hB : NdB Bt x) {nb mb : Nat} {cb : Dk} {pv rv : Value} {W : World} (hn : NAt W nb mb cb pv rv x) :
    Calls Tryz.prog 15 #[.pointer (some ⟨nb, 0, none⟩)] W fun e w' => ∃ o, e = .returned o ∧ Outs W w' o x.tick.1 ∧ NTo W w' nb mb cb pv rv x.tick.2 := by
  obtain ⟨k1, k2⟩ := hB.clock
  unfold Bt at k2
  have c7 := hn.c_clock
  have f7 := free_at hn.blk 7
  have hlt := hn.lt
  have hs := hn.set 7 (.int .i64 (x.clock + 1)) (x' := x.later) rfl rfl rfl rfl rfl
  have x1 := later_ok hx
  have b1 := later_b hB
  have x2 := endRelays_ok x1
  have b2 := endRelays_b b1
  have x3 := endSuspects_ok x2
  have b3 := endSuspects_b x2 b2
  have x4 := goOn_ok x3
  have b4 := goOn_b x3 b3
  have d3 : DlOk x.later.endRelays.endSuspects.dl := by rw [endSuspects_dl]; exact hdl
  have d4 : DlOk x.later.endRelays.endSuspects.goOn.2.dl := by rw [goOn_dl]; exact d3
  have hO1 := goOn_len x3
  have hO2 := probeNext_len x.later.endRelays.endSuspects.goOn.2
  have HR := hide (endRelays_any x1 hs.1)
  have HF0 := hide ((Frm.refl (feet nb mb cb pv rv) W).trans hs.2 (by simp [feet]))
  have HES := fun {nb mb cb pv rv W} h => hide (endSuspects_any x2 (b2.mono (by unfold Bt Bg; omega)) (nb := nb) (mb := mb) (cb := cb) (pv := pv) (rv := rv) (W := W) h)
  have HGO := fun {nb mb cb pv rv W} h => hide (goOn_any x3 d3 (b3.mono (by unfold Bt Bg; omega)) (nb := nb) (mb := mb) (cb := cb) (pv := pv) (rv := rv) (W := W) h)
  have HPN := fun {nb mb cb pv rv W} h => hide (probeNext_any x4 d4 (b4.mono (by unfold Bt Bg; omega)) (nb := nb) (mb := mb) (cb := cb) (pv := pv) (rv := rv) (W := W) h)
  have ht1 : x.tick.1 = x.later.endRelays.endSuspects.goOn.1 ++ x.later.endRelays.endSuspects.goOn.2.probeNext.1 := rfl
  have ht2 : x.tick.2 = x.later.endRelays.endSuspects.goOn.2.probeNext.2 := rfl
  rw [ht1, ht2]
  clear x1 x2 x3 x4 b1 b2 b3 b4 d3 d4 ht1 ht2 hx hdl hB hn hs
  generalize x.later.endRelays = X1 at HR HES HGO HPN hO1 hO2 ⊢
  generalize X1.endSuspects = X2 at HES HGO HPN hO1 hO2 ⊢
  generalize X2.goOn = G at HGO HPN hO1 hO2 ⊢
  obtain ⟨O1, X3⟩ := G
  dsimp only at HGO HPN hO1 hO2 ⊢
  generalize X3.probeNext = G2 at HPN hO2 ⊢
  obtain ⟨O2, X4⟩ := G2
  dsimp only at HPN hO2 ⊢
  obtain ⟨ti, hti, hz0, hz1, hz2⟩ := info_parts Tryz.infoPkL
  have hone : ∀ u ∈ O2.flatMap pkC, u.oneCell' = true := by
    intro u hu
    obtain ⟨a, _, h2⟩ := List.mem_flatMap.1 hu
    simp [pkC] at h2
    rcases h2 with rfl | rfl <;> rfl
  go_enter Tryz.func15, Tryz.ntmps15
  go_wp2_with fail
  refine (unhide HR).mono ?_
  rintro e w1 ⟨rfl, hto1⟩
  have HT1 := hide (NTo.trans (unhide HF0) (fun k hk => .inl hk) hto1)
  clear hto1 HR HF0 c7 f7
  obtain ⟨pv1, rv1, hn1, hf1, hs1⟩ := unhide HT1
  have HN1 := hide hn1
  have HF1 := hide hf1
  have HS1 := hide hs1
  clear hn1 hf1 hs1 HT1
  go_wp2_with fail
  refine (unhide (HES (unhide HN1))).mono ?_
  rintro e w2 ⟨rfl, hto2⟩
  have HT2 := hide (NTo.trans (unhide HF1) (unhide HS1) hto2)
  clear hto2 HN1 HF1 HS1 HES
  obtain ⟨pv2, rv2, hn2, hf2, hs2⟩ := unhide HT2
  have HN2 := hide hn2
  have HF2 := hide hf2
  have HS2 := hide hs2
  clear hn2 hf2 hs2 HT2
  go_wp2_with fail
  refine (unhide (HGO (unhide HN2))).mono ?_
  rintro e w3 ⟨o3, rfl, ho3, hto3⟩
  have HO3 := hide (own_mono ho3 (unhide HF2).size)
  have HT3 := hide (NTo.trans (unhide HF2) (unhide HS2) hto3)
  clear hto3 ho3 HN2 HF2 HS2 HGO
  obtain ⟨oa3, oc3, rfl⟩ := own_form (unhide HO3)
  obtain ⟨pv3, rv3, hn3, hf3, hs3⟩ := unhide HT3
  have HN3 := hide hn3
  have HF3 := hide hf3
  have HS3 := hide hs3
  clear hn3 hf3 hs3 HT3
  go_wp2_with fail
  refine (unhide (HPN (unhide HN3))).mono ?_
  rintro e w4 ⟨o4, rfl, ho4, hto4⟩
  have hto4' := hto4
  obtain ⟨pv4, rv4, hn4, hf4, hs4⟩ := hto4'
  have HO3b : Hid (w4.ownsRow W.heap.size 39 2 (.slice oa3 O1.length oc3) O1.length (O1.flatMap pkC)) := hide (outs_frm (W := W) (unhide HN3) (unhide HO3) hf4 rfl)
  have HO4 : Hid (w4.ownsRow W.heap.size 39 2 o4 O2.length (O2.flatMap pkC)) := hide (own_mono ho4 (unhide HF3).size)
  have HT4 := hide (NTo.trans (unhide HF3) (unhide HS3) hto4)
  have hz4 := Nat.le_trans (unhide HF3).size hf4.size
  obtain ⟨oa4, oc4, rfl⟩ := own_form ho4
  clear hto4 ho4 hn4 hf4 hs4 HN3 HF3 HS3 HPN HO3
  go_wp2_with (at_builtin; refine wpList_append_rows rfl _ _ 36 rfl W.heap.size W.heap.size 39 ti (.agg #[.int .i64 0, .string ⟨#[]⟩]) 2 24 Tryz.underlying36 hti hz0 hz1 hz2 rfl (by decide) _ O1.length (O1.flatMap pkC) _ O2.length (O2.flatMap pkC) rfl rfl (unhide HO3b) (unhide HO4) hone (by unfold maxLen; omega) (by omega) hz4 ?_)
  intro o5 w5 ho5 hgrow
  have hf5 : Frm (Value.slice oa3 O1.length oc3).ownBlock.toList w4 w5 := Frm.of_grown hgrow (fun j hj => .inl (by simp [hj]))
  have HO5 := hide ho5
  obtain ⟨oa5, oc5, rfl⟩ := own_form' ho5
  obtain ⟨pv4, rv4, hn4, hfw4, hs4⟩ := unhide HT4
  have hn5 := hn4.frm hf5 (fun j hj e => by
    obtain ⟨cs, hcs⟩ := own_blk (unhide HO3b) (Option.mem_toList.1 e)
    exact hn4.not_feet hcs (by decide) (by decide) (by decide) (by decide) hj)
  have HT5 := hide (⟨pv4, rv4, hn5, hfw4.trans hf5 (fun j hj => .inr (own_lt (unhide HO3b) (Option.mem_toList.1 hj)).1), hs4⟩ : NTo W w5 nb mb cb pv rv X4)
  clear ho5 hgrow hf5 hn4 hfw4 hs4 hn5 HT4 HO3b HO4
  go_wp2
  go_ret
  refine ⟨_, rfl, ?_, unhide HT5⟩
  show w5.ownsRow W.heap.size 39 2 _ (O1 ++ O2).length ((O1 ++ O2).flatMap pkC)
  rw [List.length_append, List.flatMap_append]
  exact unhide HO5
end Go.Proofs.YtnneljcbelgoeaaGreat.wire
