import Derived.Test.YtnneljcbelgoeaaGreatDoorG28
import Derived.Outline
/- The document's node: Receive of a message (P5, P7). -/
namespace Go.Proofs.YtnneljcbelgoeaaGreatDoor.wire
open Go.RowKit Go.Maps

theorem Gh.sent {B : Int} {x : Nd} {r : Rn} (h : Gh B x r) : Gh B x { r with out := [] } := ⟨h.rf.sent [], h.ok, h.dl, h.b, h.rl, h.num, by simp⟩
theorem Gh.hears {B : Int} : ∀ (l : List K3) {x : Nd} {r : Rn}, Gh B x r → allB l = true → Gh (B + l.length) (x.hears l) (r.hears l) := fun l x r h hl =>
  ⟨h.rf.hears l h.ok hl, hears_ok' l h.ok hl, by
    have : ∀ (l : List K3) (x : Nd), (x.hears l).dl = x.dl := fun l => by
      induction l with
      | nil => intro x; rfl
      | cons k r ih => intro x; exact (ih (x.hear k)).trans (hear_keep x k).1
    rw [this]; exact h.dl, hears_b' l h.b, h.rl.hears l h.ok hl, by rw [(hears_rels l x).2]; exact h.num, by rw [hears_out]; exact h.out⟩
theorem hears_take (r : Rn) (l : List K3) (k : Nat) (h : k < l.length) : r.hears (l.take (k + 1)) = (r.hears (l.take k)).heard l[k] := by
  unfold Rn.hears
  rw [List.take_succ_eq_append_getElem h, List.foldl_append]
  rfl
theorem allB_take3 {l : List K3} (h : allB l = true) (k : Nat) : allB (l.take k) = true := by
  unfold allB at h ⊢
  rw [List.all_eq_true] at h ⊢
  exact fun a ha => h a (List.mem_of_mem_take ha)
theorem allB_get3 {l : List K3} (h : allB l = true) (k : Nat) (hk : k < l.length) : isKeyB l[k] = true := by
  unfold allB at h
  rw [List.all_eq_true] at h
  exact h _ (List.getElem_mem hk)
set_option maxHeartbeats 4000000 in
set_option maxRecDepth 100000 in
theorem rreceive_yes {B : Int} {x : Nd} {r : Rn} (hg : Gh B x r) (hB : B ≤ 999999999000) {W : World} {b : Nat} {v : Rv} (h : RAt W b v r) (s : List UInt8) (hdb : decB s = true) (hfr : ¬ (readM s).frm = r.self.id) :
    Calls Tryz.prog 56 #[.pointer (some ⟨b, 0, none⟩), .string (bs s)] W fun e w' => ∃ o, e = .returned o ∧ RToX W w' b v (r.receive s) o := by
  obtain ⟨ha1, hf1, hs1⟩ := h.mute
  have hw := (takes_parts (s := r.self.id) (b := s) (by unfold takesB; rw [hdb]; simpa using hfr)).1
  obtain ⟨hk0, _, hall⟩ := whole_parts hw
  obtain ⟨hsq, htg⟩ := whole_seq3 hw
  have hlen := whole_len hw
  have hkd : 1 ≤ (readM s).kind ∧ (readM s).kind ≤ 5 := by
    by_cases e : (readM s).kind < 1 ∨ 5 < (readM s).kind
    · rw [whole_kind e] at hw; cases hw
    · omega
  have HE : Hid (r.receive s = ((({ r with out := [] } : Rn).heard ⟨(readM s).frm, (readM s).inc, 1⟩).hears (readM s).ups).deed (readM s)) := hide (by unfold Rn.receive; rw [if_pos (by rw [hdb]; simpa using hfr)])
  have c24 := h.cell 24
  have f24 := h.free 24
  have hlt := h.ltb
  obtain ⟨xo, xc, hxv, _⟩ := row_form h.rows.x
  simp only [refC, List.getElem?_toArray, List.getElem?_cons_zero, List.getElem?_cons_succ, hxv] at c24
  generalize hw1 : W.setCell ⟨b, 24, none⟩ (.slice none 0 0) = w1 at ha1 hf1
  have HDEC := hide (rdecode_yes s w1 hdb)
  have hg0 := hg.sent
  have hself : ({ r with out := [] } : Rn).self.id = r.self.id := rfl
  generalize hM : readM s = M at *
  generalize hr0 : ({ r with out := [] } : Rn) = r0 at *
  have hfr0 : (M.frm == r0.self.id) = false := by rw [hself]; simpa using hfr
  have HG0 := hide hg0
  have HA1 := hide ha1
  have HF1 := hide hf1
  have HS1 := hide hs1
  have HALL := hide hall
  have HK0 := hide hk0
  have HW := hide hw
  have HSQ := hide hsq
  have HTG := hide htg
  have HHS := hide hself
  clear hg hg0 h ha1 hf1 hs1 hxv hall hk0 hw hsq htg hself hM hr0 hfr hdb
  go_enter Tryz.func56, Tryz.ntmps56
  go_wp2_with fail
  clear hw1 c24 f24 hlt
  refine (unhide HDEC).mono ?_
  rintro e w2 ⟨vu, rfl, ho2, hb2⟩
  obtain ⟨uo, uc, hvu, hub, _⟩ := row_form ho2
  subst hvu
  obtain ⟨v1, hv1⟩ : ∃ v1 : Rv, v1 = { v with x := .slice none 0 0 } := ⟨_, rfl⟩
  have hvd : v1.d = v.d := by rw [hv1]
  rw [← hv1] at HA1 HS1
  have hlow : ∀ k ∈ rfeet b v1, k < w1.heap.size := fun k hk => (unhide HA1).lt hk
  have hb3 := hb2.alloc hb2.size (.cells #[.int .i64 M.kind, .int .i64 M.frm, .int .i64 M.inc, .int .i64 M.seq, .int .i64 M.tgt, .slice uo M.ups.length uc] 33)
  have h3 := (unhide HA1).below hb3
  have hx3 : (w2.alloc (.cells #[.int .i64 M.kind, .int .i64 M.frm, .int .i64 M.inc, .int .i64 M.seq, .int .i64 M.tgt, .slice uo M.ups.length uc] 33)).heap[w2.heap.size]? = some (.cells #[.int .i64 M.kind, .int .i64 M.frm, .int .i64 M.inc, .int .i64 M.seq, .int .i64 M.tgt, .slice uo M.ups.length uc] 33 (0, 0)) := heap_alloc_new w2 _
  have ho3 := own_below ho2 ((Below.refl w2.heap.size w2).alloc (Nat.le_refl _) (.cells #[.int .i64 M.kind, .int .i64 M.frm, .int .i64 M.inc, .int .i64 M.seq, .int .i64 M.tgt, .slice uo M.ups.length uc] 33))
  have hnm : w2.heap.size ∉ rfeet b v1 := fun hm => by have := hlow _ hm; have := hb2.size; omega
  have hnu : ∀ g, uo = some ⟨g, 0, none⟩ → g ∉ rfeet b v1 := fun g e hm => by
    have h1 := hlow _ hm
    have h2 := (own_lt ho2 (show (Value.slice uo M.ups.length uc).ownBlock = some g by rw [e]; rfl)).1
    omega
  have hz12 := hb2.size
  generalize hw3 : w2.alloc (.cells #[.int .i64 M.kind, .int .i64 M.frm, .int .i64 M.inc, .int .i64 M.seq, .int .i64 M.tgt, .slice uo M.ups.length uc] 33) = w3 at hb3 h3 hx3 ho3
  have c10 := h3.cell 10
  have m1 := cell_at hx3 1
  have m2 := cell_at hx3 2
  have hlt3 := h3.ltb
  have hlm3 := lt_blk hx3
  simp only [refC, List.getElem?_toArray, List.getElem?_cons_zero, List.getElem?_cons_succ] at c10 m1 m2
  have HFIN : Hid (∀ (w' : World) (R : Rn), RTo w3 w' b v1 R → ∃ ao n c, w'.cell? ⟨b, 24, none⟩ = some (.slice ao n c) ∧ b < w'.heap.size ∧ RToX W w' b v R (.slice ao n c)) := hide (fun w' R hR => by
    have hf : Frm (rfeet b v) W w3 := (unhide HF1).step hb3
    obtain ⟨v7, hd7, ha7, hf7, hs7⟩ := RTo.trans hvd hf (unhide HS1) hR
    obtain ⟨ao, cap, hx, _⟩ := row_form ha7.rows.x
    have c := ha7.cell 24
    simp only [refC, List.getElem?_toArray, List.getElem?_cons_zero, List.getElem?_cons_succ, hx] at c
    exact ⟨ao, _, cap, c, ha7.ltb, v7, hd7, ha7, hf7, hs7, hx.symm⟩)
  have HH := hide (fun q => rheard_any (h3.drewN q) ((unhide HG0).bs (by unfold Big; omega)).toRBd ⟨M.frm, M.inc, 1⟩ (unhide HK0))
  have HG1 := hide ((unhide HG0).hear ⟨M.frm, M.inc, 1⟩ (unhide HK0))
  have H3 := hide h3
  have HX3 := hide hx3
  have HO3 := hide ho3
  have HNM := hide hnm
  have HNU := hide hnu
  have HUB := hide hub
  clear ho2 hb2 hb3 h3 hx3 ho3 hnm hnu hub hv1 hlow HDEC hvd
  simp only [mval]
  go_wp2
  go_quiet (fail)
  go_wp2_with fail
  clear hw3
  refine (unhide HH _).mono ?_
  rintro e w4 ⟨rfl, h4⟩
  have h4' := RTo.from (bdrewN (Below.refl w3.heap.size w3) _) h4
  have HT4 := hide h4'
  clear h4 h4' HH c10 m1 m2
  generalize r0.heard ⟨M.frm, M.inc, 1⟩ = r1 at HT4 HG1 HE
  generalize x.hear ⟨M.frm, M.inc, 1⟩ = x1 at HG1
  go_wp2_with fail
  go_loopw [7] (fun i wr => ∃ k : Nat, i = .int .i64 k ∧ k ≤ M.ups.length ∧ RTo w3 wr b v1 (r1.hears (M.ups.take k))) (fun i _ => M.ups.length - (Go.RowKit.intOf i).toNat)
  case atStart => exact ⟨0, by go_num, by omega, by simpa [Rn.hears] using unhide HT4⟩
  case round =>
    obtain ⟨k, rfl, hk, ht⟩ := hrel
    have hxm := (ht.block hlm3 (unhide HNM)).trans (unhide HX3)
    have m0 := cell_at hxm 0
    have m1 := cell_at hxm 1
    have m2 := cell_at hxm 2
    have m3 := cell_at hxm 3
    have m4 := cell_at hxm 4
    have m5 := cell_at hxm 5
    have hlm := lt_blk hxm
    simp only [List.getElem?_toArray, List.getElem?_cons_zero, List.getElem?_cons_succ] at m0 m1 m2 m3 m4 m5
    have HT := hide ht
    by_cases hlt2 : k < M.ups.length
    · obtain ⟨g, hg, hgl⟩ := unhide HUB (by omega)
      subst hg
      have hgl3 : g < w3.heap.size := by omega
      have hgb := ht.block hgl3 (unhide HNU g rfl)
      have hcell : ∀ j, j < 3 → wr.cell? ⟨g, k * 3 + j, none⟩ = (keyC M.ups[k])[j]? := fun j hj => by
        have := row_cell keyC 3 (fun _ => rfl) (b := g) (n := M.ups.length) (cap := uc) (by rw [flat_kcells]; exact unhide HO3) k hlt2 j hj
        rw [← this]
        simp only [World.cell?, hgb]
      have q0 := hcell 0 (by omega)
      have q1 := hcell 1 (by omega)
      have q2 := hcell 2 (by omega)
      simp only [keyC, List.getElem?_cons_zero, List.getElem?_cons_succ, Nat.add_zero] at q0 q1 q2
      obtain ⟨v5, hd5, ha5, hf5, hs5⟩ := ht
      have hgk := (unhide HG1).hears (M.ups.take k) (allB_take3 (unhide HALL) k)
      have hHC := rheard_any ha5 (hgk.bs (by have : ((M.ups.take k).length : Int) ≤ 8 := by simp; omega
                                             unfold Big; omega)).toRBd M.ups[k] (allB_get3 (unhide HALL) k hlt2)
      have hst := hears_take r1 M.ups k hlt2
      rw [← hst] at hHC
      have HHC := hide hHC
      have HTT := hide (fun w' (R : Rn) (h : RTo wr w' b v5 R) => RTo.trans hd5 hf5 hs5 h)
      have hki : (k : Int) < (M.ups.length : Int) := by omega
      clear ha5 hf5 hs5 hd5 hgk hHC hst hcell hgb hxm
      generalize M.ups[k] = U at q0 q1 q2 HHC
      obtain ⟨ui, ua, ub⟩ := U
      simp only at q0 q1 q2
      go_wp2_with fail
      refine (unhide HHC).mono ?_
      rintro e w6 ⟨rfl, h6⟩
      have HT6 := hide (unhide HTT w6 _ h6)
      clear h6 HHC HTT
      go_wp2
      go_roundw
      case rel => exact ⟨k + 1, by go_num, by omega, unhide HT6⟩
      case measure => simp [Go.RowKit.intOf]; omega
    · have hke : k = M.ups.length := by omega
      subst hke
      rw [List.take_length] at HT
      have hg2 := (unhide HG1).hears M.ups (unhide HALL)
      have hbs := hg2.bs (by have : (M.ups.length : Int) ≤ 8 := by omega
                             unfold Big; omega)
      have hlenI : (M.ups.length : Int) ≤ 8 := by omega
      clear ht
      generalize r1.hears M.ups = r2 at HT HE hg2 hbs
      generalize x1.hears M.ups = x2 at hg2
      obtain ⟨v5, hd5, ha5, hf5, hs5⟩ := unhide HT
      have HTT := hide (fun w' (R : Rn) (h : RTo wr w' b v5 R) => RTo.trans hd5 hf5 hs5 h)
      have c10 := ha5.cell 10
      simp only [refC, List.getElem?_toArray, List.getElem?_cons_zero, List.getElem?_cons_succ] at c10
      have hlt5 := ha5.ltb
      have huv : ∃ ao n c, (Value.slice uo M.ups.length uc) = .slice ao n c := ⟨_, _, _, rfl⟩
      have hsf := hg2.self
      have hcs : M.kind = 1 ∨ M.kind = 2 ∨ M.kind = 3 ∨ M.kind = 4 ∨ M.kind = 5 := by omega
      rcases hcs with k1 | k1 | k1 | k1 | k1
      · have hde : r2.deed M = if M.tgt = r2.self.id then r2.direct M.frm 2 M.seq r2.self.id else r2 := by unfold Rn.deed; rw [if_pos k1]
        rw [hde] at HE
        rw [k1] at m0
        by_cases ht : M.tgt = r2.self.id
        · rw [if_pos ht] at HE
          have ht' : (M.tgt == r2.self.id) = true := by simpa using ht
          have HSD := hide (fun q => rsend_direct (ha5.drewN q).drew hbs.plain.1 hbs.plain.2 hbs.qs M.frm 2 M.seq r2.self.id (by omega) (hg2.whole (by omega) hsf (unhide HSQ)))
          clear ha5 hf5 hs5 hd5 hg2 hbs ht hde k1 hxm
          go_wp2
          go_quiet (fail)
          go_wp2_with fail
          go_region_with (go_at_call 62; refine (unhide HSD _).mono ?_; rintro e w6 ⟨rfl, h6⟩)
          all_goals
            obtain ⟨ao, n, c, hc24, hbl, hX⟩ := unhide HFIN w6 _ (unhide HTT w6 _ (RTo.from (bdrew (bdrewN (Below.refl _ _) _)) h6))
            have HX := hide hX
            clear h6 hX
            go_wp2
            go_ret
            rw [unhide HE]
            exact ⟨_, rfl, unhide HX⟩
        · rw [if_neg ht] at HE
          have ht' : (M.tgt == r2.self.id) = false := by simpa using ht
          have hFI := fun q => unhide HFIN (wr.drewN q) _ (unhide HTT _ _ (RTo.same ha5 (bdrewN (Below.refl _ _) q)))
          have HFI := hide hFI
          obtain ⟨ao, n, c, hc24, hbl, _⟩ := unhide HFIN wr _ (unhide HTT _ _ (RTo.same ha5 (Below.refl _ _)))
          clear ha5 hf5 hs5 hd5 hg2 hbs ht hde k1 hxm hFI
          go_wp2
          go_quiet (fail)
          go_wp2
          go_ret
          rw [unhide HE]
          obtain ⟨ao', n', c', hc', _, hX⟩ := unhide HFI _
          simp only [World.cell?_drewN] at hc'
          rw [hc24] at hc'
          cases hc'
          exact ⟨_, rfl, hX⟩
      · have hde : r2.deed M = r2.ackd M := by unfold Rn.deed; rw [if_neg (by omega), if_pos k1]
        rw [hde] at HE
        have hca := racked_any ha5 hbs.plain.1 hbs.plain.2 hbs.qs (by have := hbs.rels; omega) M (.slice uo M.ups.length uc) huv (fun d hd => by
          obtain ⟨p1, p2, p3⟩ := hg2.rl.rng d (by rw [← hg2.rf.rels]; exact hd)
          exact hg2.whole (by omega) p1 p2)
        simp only [mval] at hca
        rw [k1] at hca m0
        have HCA := hide hca
        clear hca ha5 hf5 hs5 hd5 hg2 hbs hde k1 hxm
        go_wp2_with fail
        refine (unhide HCA).mono ?_
        rintro e w6 ⟨rfl, h6⟩
        obtain ⟨ao, n, c, hc24, hbl, hX⟩ := unhide HFIN w6 _ (unhide HTT w6 _ h6)
        have HX := hide hX
        clear h6 hX HCA
        go_wp2
        go_ret
        rw [unhide HE]
        exact ⟨_, rfl, unhide HX⟩
      · have hde : r2.deed M = r2.askd M := by unfold Rn.deed; rw [if_neg (by omega), if_neg (by omega), if_pos k1]
        rw [hde] at HE
        have hca := rasked_any ha5 hbs.plain.1 hbs.plain.2 hbs.qs hbs.rels hbs.seq hbs.clock (by have := hbs.period; omega) M (.slice uo M.ups.length uc) huv (fun _ => hg2.whole (by omega) hsf (unhide HSQ)) (hg2.whole (by omega) (unhide HTG (by omega)) (by have h1 := hg2.num; have h2 := hg2.b.num; rw [hg2.rf.seq]; omega))
        simp only [mval] at hca
        rw [k1] at hca m0
        have HCA := hide hca
        clear hca ha5 hf5 hs5 hd5 hg2 hbs hde k1 hxm
        go_wp2_with fail
        refine (unhide HCA).mono ?_
        rintro e w6 ⟨rfl, h6⟩
        obtain ⟨ao, n, c, hc24, hbl, hX⟩ := unhide HFIN w6 _ (unhide HTT w6 _ h6)
        have HX := hide hX
        clear h6 hX HCA
        go_wp2
        go_ret
        rw [unhide HE]
        exact ⟨_, rfl, unhide HX⟩
      · have hde : r2.deed M = r2.tabled M := by unfold Rn.deed; rw [if_neg (by omega), if_neg (by omega), if_neg (by omega), if_pos k1]
        rw [hde] at HE
        have hca := rtable_any ha5 hbs.len hbs.plain.1 M (.slice uo M.ups.length uc) (hg2.tab (unhide HSQ)) huv
        simp only [mval] at hca
        rw [k1] at hca m0
        have HCA := hide hca
        clear hca ha5 hf5 hs5 hd5 hg2 hbs hde k1 hxm
        go_wp2_with fail
        refine (unhide HCA).mono ?_
        rintro e w6 ⟨rfl, h6⟩
        obtain ⟨ao, n, c, hc24, hbl, hX⟩ := unhide HFIN w6 _ (unhide HTT w6 _ h6)
        have HX := hide hX
        clear h6 hX HCA
        go_wp2
        go_ret
        rw [unhide HE]
        exact ⟨_, rfl, unhide HX⟩
      · have hde : r2.deed M = r2 := by unfold Rn.deed; rw [if_neg (by omega), if_neg (by omega), if_neg (by omega), if_neg (by omega)]
        rw [hde] at HE
        rw [k1] at m0
        obtain ⟨ao, n, c, hc24, hbl, hX⟩ := unhide HFIN wr _ (unhide HTT _ _ (RTo.same ha5 (Below.refl _ _)))
        have HX := hide hX
        clear ha5 hf5 hs5 hd5 hg2 hbs hde k1 hxm hX
        go_wp2
        go_ret
        rw [unhide HE]
        exact ⟨_, rfl, unhide HX⟩
/-- Receive, whatever the bytes. -/
theorem rreceive_any {B : Int} {x : Nd} {r : Rn} (hg : Gh B x r) (hB : B ≤ 999999999000) {W : World} {b : Nat} {v : Rv} (h : RAt W b v r) (s : List UInt8) (hs : s.length ≤ maxLen) :
    Calls Tryz.prog 56 #[.pointer (some ⟨b, 0, none⟩), .string (bs s)] W fun e w' => ∃ o, e = .returned o ∧ RToX W w' b v (r.receive s) o := by
  rcases hd : (decB s && !decide ((readM s).frm = r.self.id)) with _ | _
  · exact rreceive_no hg hB h s hs hd
  · simp only [Bool.and_eq_true, Bool.not_eq_true', decide_eq_false_iff_not] at hd
    exact rreceive_yes hg hB h s hd.1 hd.2
end Go.Proofs.YtnneljcbelgoeaaGreatDoor.wire
