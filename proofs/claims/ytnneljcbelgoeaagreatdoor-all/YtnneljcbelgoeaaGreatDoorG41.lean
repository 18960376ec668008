import Derived.Test.YtnneljcbelgoeaaGreatDoorG40
import Derived.Test.YtnneljcbelgoeaaGreatDoorG12
import Derived.Test.YtnneljcbelgoeaaGreatDoorG39
import Derived.Test.YtnneljcbelgoeaaGreatDoorG32
/- gossiplaw's drained over nodes: the events that can be received are the document's (P6). -/
namespace Go.Proofs.YtnneljcbelgoeaaGreatDoor.wire
open Go.RowKit Go.Maps
theorem keysAt_head {W : World} {ao : Option Addr} {cap : Nat} {l : List K3} (h : KeysAt W (.slice ao l.length cap) l) (k : Nat) (hk : k ≤ l.length) : KeysAt W (.slice ao k cap) (l.take k) := by
  rcases h with ⟨hv, rfl⟩ | ⟨b, off, cap', hv, hlt, hc⟩
  · simp only [Value.slice.injEq] at hv
    obtain ⟨rfl, _, rfl⟩ := hv
    have : k = 0 := by simpa using hk
    subst this
    exact .inl ⟨rfl, by simp⟩
  · simp only [Value.slice.injEq] at hv
    obtain ⟨rfl, _, rfl⟩ := hv
    have hl : (l.take k).length = k := by simp; omega
    refine .inr ⟨b, off, cap, by rw [hl], hlt, fun i hi => ?_⟩
    have hil : i < l.length := by omega
    rw [List.getElem_take]
    exact hc i hil
/-- How many are received. -/
theorem drain_count (most : Int) (l : List K3) : ∃ k : Nat, k ≤ l.length ∧ l.take most.toNat = l.take k ∧ l.drop most.toNat = l.drop k ∧ ((¬ most < (l.length : Int) ∧ k = l.length) ∨ (most < (l.length : Int) ∧ ¬ most < 0 ∧ most = (k : Int)) ∨ (most < (l.length : Int) ∧ most < 0 ∧ k = 0)) := by
  by_cases h1 : most < (l.length : Int)
  · by_cases h2 : most < 0
    · have h0 : most.toNat = 0 := by omega
      exact ⟨0, Nat.zero_le _, by rw [h0], by rw [h0], .inr (.inr ⟨h1, h2, rfl⟩)⟩
    · exact ⟨most.toNat, by omega, rfl, rfl, .inr (.inl ⟨h1, h2, by omega⟩)⟩
  · refine ⟨l.length, Nat.le_refl _, ?_, ?_, .inl ⟨h1, rfl⟩⟩
    · rw [List.take_of_length_le (by omega), List.take_of_length_le (Nat.le_refl _)]
    · rw [List.drop_of_length_le (by omega), List.drop_of_length_le (Nat.le_refl _)]
set_option maxRecDepth 100000 in
set_option maxHeartbeats 1000000 in
theorem drained_s (n wb : Nat) (s : Sg) (w W : World) (h : VV n wb s w W) (_hn : n ≤ 18000) (i : Nat) (t : Nt) (hi : s.ns[i]? = some t) (most : Int) :
    Calls Tryz.prog 43 #[.pointer (some ⟨t.b, 0, none⟩), .int .i64 most] W fun e W' => ∃ (o : Value) (K : List K3) (s' : Sg), e = .returned (.tuple #[o, .bool true]) ∧ K.length ≤ 8 ∧ VS wb { s' with a := [keysT o K] } w W' ∧ VI (n + 1) s' ∧ s'.ls.length ≤ 2 * n ∧ s'.mark ≤ 2000 * (n : Int) := by
  have hk := h.vi.nk t (List.mem_of_getElem? hi)
  have hrec : W.heap[t.b]? = some (.cells #[.pointer (some ⟨t.x.nb, 0, none⟩), .pointer (some ⟨t.y.nb, 0, none⟩), .pointer (some ⟨t.rb, 0, none⟩)] 88 (0, 0)) := h.vs.has hk.rc
  have k0 := cell_at hrec 0
  simp only [List.getElem?_toArray, List.getElem?_cons_zero] at k0
  have hltb := lt_blk hrec
  obtain ⟨kk, hkk, e1, e2, hcase⟩ := drain_count most t.x.x.evs
  have hev8 := hk.gh.ok.evs
  have HX := hide (drain_any hev8 (h.vs.atX hi) most)
  rw [e1, e2] at HX
  have HG := hide (hk.gh.drained kk)
  have HK := hide hk
  have HC := hide h
  have HI := hide hi
  have HLL := hide (unhide HC).vi.ll
  have HMK := hide (unhide HC).vi.m1
  have HE1 := hide e1
  have HE2 := hide e2
  clear h hk hi hrec e1 e2
  go_enter Tryz.func43, Tryz.ntmps43
  go_wp2_with fail
  refine (unhide HX).mono ?_
  rintro e w1 ⟨o1, rfl, ho1, ht1⟩
  obtain ⟨p, q, h1⟩ := (unhide HC).vs.gotX (unhide HI) ht1 ho1 (by decide) (by decide) (by decide) (by decide)
  generalize hX' : ({ t.x.x with evs := t.x.x.evs.drop kk } : Nd) = X' at *
  have hi1 : (s.ns.set i (t.setX p q X'))[i]? = some (t.setX p q X') := List.getElem?_set_self (List.getElem?_eq_some_iff.1 (unhide HI)).1
  have hrec1 : w1.heap[t.b]? = some (.cells #[.pointer (some ⟨t.x.nb, 0, none⟩), .pointer (some ⟨t.y.nb, 0, none⟩), .pointer (some ⟨t.rb, 0, none⟩)] 88 (0, 0)) := h1.has (unhide HK).rc
  have k1 := cell_at hrec1 1
  simp only [List.getElem?_toArray, List.getElem?_cons_zero, List.getElem?_cons_succ] at k1
  have hltb1 := lt_blk hrec1
  have HY := hide (drain_any (x := t.y.x) (by rw [(unhide HK).tw]; exact hev8) (h1.atY (n := t.setX p q X') hi1) most)
  rw [(unhide HK).tw, unhide HE1, unhide HE2, hX'] at HY
  have H1 := hide h1
  have HI1 := hide hi1
  have HX' := hide hX'
  clear h1 hi1 hrec1 ho1 ht1 HX k0 hX'
  go_wp2_with fail
  refine (unhide HY).mono ?_
  rintro e w2 ⟨o2, rfl, ho2, ht2⟩
  obtain ⟨p', q', h2⟩ := (unhide H1).callY (n := t.setX p q X') (unhide HI1) ht2
  simp only [List.set_set] at h2
  have hi2 : (s.ns.set i ((t.setX p q X').setY p' q' X'))[i]? = some ((t.setX p q X').setY p' q' X') := List.getElem?_set_self (List.getElem?_eq_some_iff.1 (unhide HI)).1
  have hrec2 : w2.heap[t.b]? = some (.cells #[.pointer (some ⟨t.x.nb, 0, none⟩), .pointer (some ⟨t.y.nb, 0, none⟩), .pointer (some ⟨t.rb, 0, none⟩)] 88 (0, 0)) := h2.has (unhide HK).rc
  have k2 := cell_at hrec2 2
  simp only [List.getElem?_toArray, List.getElem?_cons_zero, List.getElem?_cons_succ] at k2
  have hltb2 := lt_blk hrec2
  have hra := h2.atR (n := (t.setX p q X').setY p' q' X') hi2 (unhide HK).dr
  have hltr := hra.ltb
  have hev : t.r.evs = t.x.x.evs := (unhide HK).gh.rf.evs
  have hrow : w2.ownsRow 0 58 3 t.rv.e t.r.evs.length (t.r.evs.flatMap keyC) := hra.rows.e
  have c22 := hra.cell 22
  have f22 := hra.free 22
  rw [hev] at hrow
  obtain ⟨eo, ec, hef, _⟩ := row_form hrow
  simp only [refC, List.getElem?_toArray, List.getElem?_cons_zero, List.getElem?_cons_succ, hef] at c22
  rw [hef] at hrow
  have hra1 : w2.ownsRow 0 76 3 o1 (t.x.x.evs.take kk).length ((t.x.x.evs.take kk).flatMap keyC) := Sep.rd h2 .ta _ (List.mem_singleton.2 rfl)
  have hl8 : (t.x.x.evs.take kk).length ≤ 8 := by rw [List.length_take]; omega
  have HL8 := hide hl8
  have HS1 := hide (lkeys_any (t.x.x.evs.take kk) o1 (.slice eo kk ec) w2 (keysAt_row hra1) (keysAt_head (rkeysAt_row hrow) kk hkk) (by omega))
  have HS2 := hide (fun m => lkeys_any (t.x.x.evs.take kk) o2 (.slice eo kk ec) (w2.drewN m) ((keysAt_row ho2).below (below_draws (Below.refl _ _) m)) ((keysAt_head (rkeysAt_row hrow) kk hkk).below (below_draws (Below.refl _ _) m)) (by omega))
  have H2 := hide h2
  have HI2 := hide hi2
  have HRA := hide hra
  have HROW := hide hrow
  have HEV := hide hev
  have HEF := hide hef
  clear h2 hi2 hrec2 ho2 ht2 HY k1 H1 HI1 hra hrow hra1 hev hef hl8
  rcases hcase with ⟨g1, rfl⟩ | ⟨g1, g2, rfl⟩ | ⟨g1, g2, rfl⟩
  · go_wp2_with fail
    refine (unhide HS1).mono ?_
    rintro e w3 ⟨rfl, m1, rfl⟩
    go_wp2_with fail
    refine (unhide HS2 m1).mono ?_
    rintro e w3 ⟨rfl, m2, rfl⟩
    have h3 := ((unhide H2).draws m1).draws m2
    have hra3 : RAt ((w2.drewN m1).drewN m2) t.rb t.rv t.r := h3.atR (n := (t.setX p q X').setY p' q' X') (unhide HI2) (unhide HK).dr
    have hrow3 := own_below (unhide HROW) (below_draws (below_draws (Below.refl _ _) m1) m2)
    have hrec3 : ((w2.drewN m1).drewN m2).heap[t.b]? = some (.cells #[.pointer (some ⟨t.x.nb, 0, none⟩), .pointer (some ⟨t.y.nb, 0, none⟩), .pointer (some ⟨t.rb, 0, none⟩)] 88 (0, 0)) := h3.has (unhide HK).rc
    generalize (w2.drewN m1).drewN m2 = w3 at h3 hra3 hrow3 hrec3 ⊢
    have j2 := cell_at hrec3 2
    have j22 := hra3.cell 22
    simp only [refC, List.getElem?_toArray, List.getElem?_cons_zero, List.getElem?_cons_succ, unhide HEF] at j2 j22
    have hl3 := lt_blk hrec3
    have hl4 := hra3.ltb
    have H3 := hide h3
    have HRA3 := hide hra3
    have HROW3 := hide hrow3
    have HREC3 := hide hrec3
    clear h3 hra3 hrow3 hrec3 HS1 HS2 H2 HRA HROW k2 c22 f22
    go_wp2_with (refine wpList_tail rfl _ _ rfl etyK (t.x.x.evs.length) rfl rfl (unhide HROW3) (by omega) ?_)
    intro vt hvt
    have hvt2 : Src w3 3 vt (t.x.x.evs.length - (t.x.x.evs.length)) ((t.x.x.evs.drop (t.x.x.evs.length)).flatMap keyC) := by
      have e := row_drop keyC 3 (fun _ => rfl) t.x.x.evs (t.x.x.evs.length)
      rw [← e]
      first | exact hvt | (rw [Nat.sub_self]; exact hvt)
    have HVT := hide hvt2
    clear hvt hvt2
    go_wp2_with (at_builtin; refine wpList_app rfl _ _ rfl etyK w3.heap.size (n1 := 0) (xs1 := []) rfl rfl (World.ownsRow_nil _ _ _ _) (unhide HVT) (one_of oneKv _) (by omega) (Nat.le_refl _) ?_)
    intro v5 w5 ho5 hg5 _
    have hb5 : Below w3.heap.size w3 w5 := (Below.refl _ _).grown hg5 (Nat.le_refl _) (fun k e => by cases e)
    have hlen5 : (t.r.evs.drop (t.x.x.evs.length)).length = 0 + (t.x.x.evs.length - (t.x.x.evs.length)) := by rw [unhide HEV, List.length_drop]; omega
    have ho5' : w5.ownsRow 0 58 3 v5 (t.r.evs.drop (t.x.x.evs.length)).length ((t.r.evs.drop (t.x.x.evs.length)).flatMap keyC) := by
      rw [hlen5, unhide HEV]
      exact own_mono (by simpa using ho5) (Nat.zero_le _)
    obtain ⟨v', hvd, hra6, hfr6, hft6⟩ := (unhide HRA3).setE (l := t.r.evs.drop (t.x.x.evs.length)) (Frm.of_below hb5 (Nat.le_refl _)) (fun g hg => .inr (own_lt ho5 hg).1) ho5'
    have h6 := (unhide H3).callR (unhide HI2) hra6 hfr6 hft6
    simp only [List.set_set] at h6
    have hGd := unhide HG
    have hdl : X'.dl = t.x.x.dl := by rw [← unhide HX']
    have hV : VI (n + 1) { s with ns := s.ns.set i (t.set3 X' p q p' q' v' { t.r with evs := t.r.evs.drop (t.x.x.evs.length) }) } := (unhide HC).vi.node (unhide HI) p q p' q' (hGd.mono (by omega)) hdl hvd
    have i2 := cell_at ((hb5.block t.b hl3).trans (unhide HREC3)) 2
    have hblk5 := (hb5.block t.rb hl4).trans (unhide HRA3).blk
    have i22 := cell_at hblk5 22
    have g22 := free_at hblk5 22
    simp only [refC, List.getElem?_toArray, List.getElem?_cons_zero, List.getElem?_cons_succ, unhide HEF] at i2 i22
    obtain ⟨vo5, vc5, hvf5, _⟩ := row_form ho5
    subst hvf5
    have hz5 := hb5.size
    have H6 := hide h6
    have HV := hide hV
    clear h6 hV hra6 hfr6 hft6 ho5 ho5' hg5 hb5 HVT H3 HRA3 HROW3 HREC3 hGd hblk5 j2 j22 HG HC hlen5 hdl
    go_wp2
    go_ret2
    exact ⟨_, rfl, _, unhide HL8, _, unhide H6, unhide HV, unhide HLL, unhide HMK⟩
  · go_wp2_with fail
    refine (unhide HS1).mono ?_
    rintro e w3 ⟨rfl, m1, rfl⟩
    go_wp2_with fail
    refine (unhide HS2 m1).mono ?_
    rintro e w3 ⟨rfl, m2, rfl⟩
    have h3 := ((unhide H2).draws m1).draws m2
    have hra3 : RAt ((w2.drewN m1).drewN m2) t.rb t.rv t.r := h3.atR (n := (t.setX p q X').setY p' q' X') (unhide HI2) (unhide HK).dr
    have hrow3 := own_below (unhide HROW) (below_draws (below_draws (Below.refl _ _) m1) m2)
    have hrec3 : ((w2.drewN m1).drewN m2).heap[t.b]? = some (.cells #[.pointer (some ⟨t.x.nb, 0, none⟩), .pointer (some ⟨t.y.nb, 0, none⟩), .pointer (some ⟨t.rb, 0, none⟩)] 88 (0, 0)) := h3.has (unhide HK).rc
    generalize (w2.drewN m1).drewN m2 = w3 at h3 hra3 hrow3 hrec3 ⊢
    have j2 := cell_at hrec3 2
    have j22 := hra3.cell 22
    simp only [refC, List.getElem?_toArray, List.getElem?_cons_zero, List.getElem?_cons_succ, unhide HEF] at j2 j22
    have hl3 := lt_blk hrec3
    have hl4 := hra3.ltb
    have H3 := hide h3
    have HRA3 := hide hra3
    have HROW3 := hide hrow3
    have HREC3 := hide hrec3
    clear h3 hra3 hrow3 hrec3 HS1 HS2 H2 HRA HROW k2 c22 f22
    go_wp2_with (refine wpList_tail rfl _ _ rfl etyK (kk) rfl rfl (unhide HROW3) (by omega) ?_)
    intro vt hvt
    have hvt2 : Src w3 3 vt (t.x.x.evs.length - (kk)) ((t.x.x.evs.drop (kk)).flatMap keyC) := by
      have e := row_drop keyC 3 (fun _ => rfl) t.x.x.evs (kk)
      rw [← e]
      first | exact hvt | (rw [Nat.sub_self]; exact hvt)
    have HVT := hide hvt2
    clear hvt hvt2
    go_wp2_with (at_builtin; refine wpList_app rfl _ _ rfl etyK w3.heap.size (n1 := 0) (xs1 := []) rfl rfl (World.ownsRow_nil _ _ _ _) (unhide HVT) (one_of oneKv _) (by omega) (Nat.le_refl _) ?_)
    intro v5 w5 ho5 hg5 _
    have hb5 : Below w3.heap.size w3 w5 := (Below.refl _ _).grown hg5 (Nat.le_refl _) (fun k e => by cases e)
    have hlen5 : (t.r.evs.drop (kk)).length = 0 + (t.x.x.evs.length - (kk)) := by rw [unhide HEV, List.length_drop]; omega
    have ho5' : w5.ownsRow 0 58 3 v5 (t.r.evs.drop (kk)).length ((t.r.evs.drop (kk)).flatMap keyC) := by
      rw [hlen5, unhide HEV]
      exact own_mono (by simpa using ho5) (Nat.zero_le _)
    obtain ⟨v', hvd, hra6, hfr6, hft6⟩ := (unhide HRA3).setE (l := t.r.evs.drop (kk)) (Frm.of_below hb5 (Nat.le_refl _)) (fun g hg => .inr (own_lt ho5 hg).1) ho5'
    have h6 := (unhide H3).callR (unhide HI2) hra6 hfr6 hft6
    simp only [List.set_set] at h6
    have hGd := unhide HG
    have hdl : X'.dl = t.x.x.dl := by rw [← unhide HX']
    have hV : VI (n + 1) { s with ns := s.ns.set i (t.set3 X' p q p' q' v' { t.r with evs := t.r.evs.drop (kk) }) } := (unhide HC).vi.node (unhide HI) p q p' q' (hGd.mono (by omega)) hdl hvd
    have i2 := cell_at ((hb5.block t.b hl3).trans (unhide HREC3)) 2
    have hblk5 := (hb5.block t.rb hl4).trans (unhide HRA3).blk
    have i22 := cell_at hblk5 22
    have g22 := free_at hblk5 22
    simp only [refC, List.getElem?_toArray, List.getElem?_cons_zero, List.getElem?_cons_succ, unhide HEF] at i2 i22
    obtain ⟨vo5, vc5, hvf5, _⟩ := row_form ho5
    subst hvf5
    have hz5 := hb5.size
    have H6 := hide h6
    have HV := hide hV
    clear h6 hV hra6 hfr6 hft6 ho5 ho5' hg5 hb5 HVT H3 HRA3 HROW3 HREC3 hGd hblk5 j2 j22 HG HC hlen5 hdl
    go_wp2
    go_ret2
    exact ⟨_, rfl, _, unhide HL8, _, unhide H6, unhide HV, unhide HLL, unhide HMK⟩
  · go_wp2_with fail
    refine (unhide HS1).mono ?_
    rintro e w3 ⟨rfl, m1, rfl⟩
    go_wp2_with fail
    refine (unhide HS2 m1).mono ?_
    rintro e w3 ⟨rfl, m2, rfl⟩
    have h3 := ((unhide H2).draws m1).draws m2
    have hra3 : RAt ((w2.drewN m1).drewN m2) t.rb t.rv t.r := h3.atR (n := (t.setX p q X').setY p' q' X') (unhide HI2) (unhide HK).dr
    have hrow3 := own_below (unhide HROW) (below_draws (below_draws (Below.refl _ _) m1) m2)
    have hrec3 : ((w2.drewN m1).drewN m2).heap[t.b]? = some (.cells #[.pointer (some ⟨t.x.nb, 0, none⟩), .pointer (some ⟨t.y.nb, 0, none⟩), .pointer (some ⟨t.rb, 0, none⟩)] 88 (0, 0)) := h3.has (unhide HK).rc
    generalize (w2.drewN m1).drewN m2 = w3 at h3 hra3 hrow3 hrec3 ⊢
    have j2 := cell_at hrec3 2
    have j22 := hra3.cell 22
    simp only [refC, List.getElem?_toArray, List.getElem?_cons_zero, List.getElem?_cons_succ, unhide HEF] at j2 j22
    have hl3 := lt_blk hrec3
    have hl4 := hra3.ltb
    have H3 := hide h3
    have HRA3 := hide hra3
    have HROW3 := hide hrow3
    have HREC3 := hide hrec3
    clear h3 hra3 hrow3 hrec3 HS1 HS2 H2 HRA HROW k2 c22 f22
    go_wp2_with (refine wpList_tail rfl _ _ rfl etyK (0) rfl rfl (unhide HROW3) (by omega) ?_)
    intro vt hvt
    have hvt2 : Src w3 3 vt (t.x.x.evs.length - (0)) ((t.x.x.evs.drop (0)).flatMap keyC) := by
      have e := row_drop keyC 3 (fun _ => rfl) t.x.x.evs (0)
      rw [← e]
      first | exact hvt | (rw [Nat.sub_self]; exact hvt)
    have HVT := hide hvt2
    clear hvt hvt2
    go_wp2_with (at_builtin; refine wpList_app rfl _ _ rfl etyK w3.heap.size (n1 := 0) (xs1 := []) rfl rfl (World.ownsRow_nil _ _ _ _) (unhide HVT) (one_of oneKv _) (by omega) (Nat.le_refl _) ?_)
    intro v5 w5 ho5 hg5 _
    have hb5 : Below w3.heap.size w3 w5 := (Below.refl _ _).grown hg5 (Nat.le_refl _) (fun k e => by cases e)
    have hlen5 : (t.r.evs.drop (0)).length = 0 + (t.x.x.evs.length - (0)) := by rw [unhide HEV, List.length_drop]; omega
    have ho5' : w5.ownsRow 0 58 3 v5 (t.r.evs.drop (0)).length ((t.r.evs.drop (0)).flatMap keyC) := by
      rw [hlen5, unhide HEV]
      exact own_mono (by simpa using ho5) (Nat.zero_le _)
    obtain ⟨v', hvd, hra6, hfr6, hft6⟩ := (unhide HRA3).setE (l := t.r.evs.drop (0)) (Frm.of_below hb5 (Nat.le_refl _)) (fun g hg => .inr (own_lt ho5 hg).1) ho5'
    have h6 := (unhide H3).callR (unhide HI2) hra6 hfr6 hft6
    simp only [List.set_set] at h6
    have hGd := unhide HG
    have hdl : X'.dl = t.x.x.dl := by rw [← unhide HX']
    have hV : VI (n + 1) { s with ns := s.ns.set i (t.set3 X' p q p' q' v' { t.r with evs := t.r.evs.drop (0) }) } := (unhide HC).vi.node (unhide HI) p q p' q' (hGd.mono (by omega)) hdl hvd
    have i2 := cell_at ((hb5.block t.b hl3).trans (unhide HREC3)) 2
    have hblk5 := (hb5.block t.rb hl4).trans (unhide HRA3).blk
    have i22 := cell_at hblk5 22
    have g22 := free_at hblk5 22
    simp only [refC, List.getElem?_toArray, List.getElem?_cons_zero, List.getElem?_cons_succ, unhide HEF] at i2 i22
    obtain ⟨vo5, vc5, hvf5, _⟩ := row_form ho5
    subst hvf5
    have hz5 := hb5.size
    have H6 := hide h6
    have HV := hide hV
    clear h6 hV hra6 hfr6 hft6 ho5 ho5' hg5 hb5 HVT H3 HRA3 HROW3 HREC3 hGd hblk5 j2 j22 HG HC hlen5 hdl
    go_wp2
    go_ret2
    exact ⟨_, rfl, _, unhide HL8, _, unhide H6, unhide HV, unhide HLL, unhide HMK⟩
end Go.Proofs.YtnneljcbelgoeaaGreatDoor.wire
/- gossiplaw's onNode over nodes: Drain, See, See of the twin. -/
namespace Go.Proofs.YtnneljcbelgoeaaGreatDoor.wire
open Go.RowKit Go.Maps
theorem VI.kept {n : Nat} {s : Sg} (h : VI (n + 1) s) (hl : s.ls.length ≤ 2 * n) (hm : s.mark ≤ 2000 * (n : Int)) (k : Nat) (hk : k ≤ 1000) (v x y z lv wv : Value) (L LL : List K3) (hL : L.length ≤ 2000) (hLL : LL.length ≤ 2000) : VI (n + 1) { s with a := [], mark := s.mark + k + 2, lv := lv, wv := wv, ls := s.ls ++ [v] ++ [x], ws := s.ws ++ [y] ++ [z], fz := keysT z LL :: keysT y L :: keysT v L :: keysT x LL :: s.fz } := by
  have hf : ∀ q ∈ s.fz, q ∈ keysT z LL :: keysT y L :: keysT v L :: keysT x LL :: s.fz := fun q hq => by simp [hq]
  have m0 := h.m0
  exact { h with uf := hf _ h.uf, df := hf _ h.df, nk := fun t ht => (h.nk t ht).up (Nat.le_refl _) hf, hd := h.hd.pushL v x y z lv wv L LL _ [] hL hLL, ll := (by simp; omega), m0 := (by show 0 ≤ s.mark + k + 2; omega), m1 := (by show s.mark + k + 2 ≤ 2000 * ((n + 1 : Nat) : Int); omega), a := rfl }
set_option maxRecDepth 100000 in
set_option maxHeartbeats 1000000 in
theorem on_drain (n wb : Nat) (s : Sg) (w W : World) (h : VV n wb s w W) (hn : n ≤ 18000) (o : Op8) (hkd : o.kind = 16) (i : Nat) (t : Nt) (hi : s.ns[i]? = some t) :
    Calls Tryz.prog 20 #[.pointer (some ⟨wb, 0, none⟩), .pointer (some ⟨t.b, 0, none⟩), opv o] W fun e W' => e = .returned (.bool true) ∧ ∃ s', VV (n + 1) wb s' w W' := by
  obtain ⟨kind, a, b, c, d, e, x, S⟩ := o
  simp only at hkd
  subst hkd
  have HC := hide h
  have HI := hide hi
  clear h hi
  go_enter Tryz.func20, Tryz.ntmps20
  go_wp2_with fail
  refine (drained_s n wb s w _ ⟨(unhide HC).vs.alloc _, (unhide HC).vi⟩ hn i t (unhide HI) a).mono ?_
  rintro e' w1 ⟨o1, K, s1, rfl, hK, h1, hv1, hl1, hm1⟩
  have hrow : w1.ownsRow 0 76 3 o1 K.length (K.flatMap keyC) := Sep.rd h1 .ta _ (List.mem_singleton.2 rfl)
  obtain ⟨oo, oc, hof, _⟩ := row_form hrow
  subst hof
  have HKP := hide (keep_s wb _ w w1 h1 (by simp only; omega) (by simp only; rw [hv1.hd.lw]; omega) hv1.m0 (by simp only; omega) (.slice oo K.length oc) K (by omega) rfl)
  have HV1 := hide hv1
  clear h1 hrow hv1 HC HI
  go_wp2_with fail
  refine (unhide HKP).mono ?_
  rintro e' w2 ⟨rfl, lv, wv, x1, y1, z1, L, LL, hL, hLL, h2⟩
  have HF : Hid (VV (n + 1) wb _ w w2) := hide ⟨h2, (unhide HV1).kept hl1 hm1 K.length (by omega) (.slice oo K.length oc) x1 y1 z1 lv wv L LL (by omega) (by omega)⟩
  clear h2 HKP HV1
  go_wp2
  go_ret
  exact ⟨rfl, _, unhide HF⟩
set_option maxRecDepth 100000 in
set_option maxHeartbeats 1000000 in
theorem on_see (n wb : Nat) (s : Sg) (w W : World) (h : VV n wb s w W) (hn : n ≤ 18000) (o : Op8) (hkd : o.kind = 17 ∨ o.kind = 18) (i : Nat) (t : Nt) (hi : s.ns[i]? = some t) :
    Calls Tryz.prog 20 #[.pointer (some ⟨wb, 0, none⟩), .pointer (some ⟨t.b, 0, none⟩), opv o] W fun e W' => e = .returned (.bool true) ∧ ∃ s', VV (n + 1) wb s' w W' := by
  obtain ⟨kind, a, b, c, d, e, x, S⟩ := o
  simp only at hkd
  have hk := h.vi.nk t (List.mem_of_getElem? hi)
  have hrec : W.heap[t.b]? = some (.cells #[.pointer (some ⟨t.x.nb, 0, none⟩), .pointer (some ⟨t.y.nb, 0, none⟩), .pointer (some ⟨t.rb, 0, none⟩)] 88 (0, 0)) := h.vs.has hk.rc
  have k0 := cell_at hrec 0
  have k1 := cell_at hrec 1
  simp only [List.getElem?_toArray, List.getElem?_cons_zero, List.getElem?_cons_succ] at k0 k1
  have hltb := lt_blk hrec
  have hox : t.x.x.others.length ≤ 8 := by unfold Nd.others; rw [List.length_map]; have := List.length_filter_le (fun m => !(m.k.id == t.x.x.c.self)) t.x.x.tab; have := hk.gh.ok.len; omega
  have HC := hide h
  have HI := hide hi
  have HTW := hide hk.tw
  clear h hi hk hrec
  rcases hkd with rfl | rfl
  case' inl =>
    go_enter Tryz.func20, Tryz.ntmps20
    go_wp2_with fail
    have h0 := (unhide HC).vs.alloc (.cells #[.int .i64 17, .int .i64 x, .int .i64 a, .int .i64 b, .int .i64 c, .int .i64 d, .int .i64 e, .string (bs S)] 28)
    refine (seen_s wb s w _ h0 n (unhide HC).vi hn i t (unhide HI) t.x (h0.atX (unhide HI))).mono ?_
  case' inr =>
    go_enter Tryz.func20, Tryz.ntmps20
    go_wp2_with fail
    have h0 := (unhide HC).vs.alloc (.cells #[.int .i64 18, .int .i64 x, .int .i64 a, .int .i64 b, .int .i64 c, .int .i64 d, .int .i64 e, .string (bs S)] 28)
    refine (seen_s wb s w _ h0 n (unhide HC).vi hn i t (unhide HI) t.y (by have := h0.atY (unhide HI); rw [unhide HTW] at this; exact this)).mono ?_
  all_goals
    rintro e' w1 ⟨o1, rfl, h1⟩
    clear h0
    generalize t.x.x.others = K at h1 hox
    have hv := (unhide HC).vi
    have hll := hv.ll
    have hmk := hv.m1
    have hrow : w1.ownsRow 0 76 3 o1 K.length (K.flatMap keyC) := Sep.rd h1 .ta _ (List.mem_singleton.2 rfl)
    obtain ⟨oo, oc, hof, _⟩ := row_form hrow
    subst hof
    have HKP := hide (keep_s wb _ w w1 h1 (by simp only; omega) (by simp only; rw [hv.hd.lw]; omega) hv.m0 (by simp only; omega) (.slice oo K.length oc) K (by omega) rfl)
    have HV1 := hide hv.up
    clear h1 hrow hv HC HI k0 k1
    go_wp2_with fail
    refine (unhide HKP).mono ?_
    rintro e' w2 ⟨rfl, lv, wv, x1, y1, z1, L, LL, hL, hLL, h2⟩
    have HF : Hid (VV (n + 1) wb _ w w2) := hide ⟨h2, (unhide HV1).kept hll hmk K.length (by omega) (.slice oo K.length oc) x1 y1 z1 lv wv L LL (by omega) (by omega)⟩
    clear h2 HKP HV1
    go_wp2
    go_ret
    exact ⟨rfl, _, unhide HF⟩
end Go.Proofs.YtnneljcbelgoeaaGreatDoor.wire
/- gossiplaw's step over nodes: what the caller owns, Encode, packets, nodes. -/
namespace Go.Proofs.YtnneljcbelgoeaaGreatDoor.wire
open Go.RowKit Go.Maps
set_option maxRecDepth 100000 in
set_option maxHeartbeats 1000000 in
theorem vstep_own (n wb : Nat) (s : Sg) (w W : World) (h : VV n wb s w W) (hn : n ≤ 18000) (o : Op8) (hk : Op8.own o.kind) (ho : o.ok) :
    Calls Tryz.prog 10 #[.pointer (some ⟨wb, 0, none⟩), opv o] W fun e W' => e = .returned (.bool true) ∧ ∃ s', VV (n + 1) wb s' w W' := by
  have HC := hide h
  clear h
  have HO := hide (fun V hV => vowner_yes n wb s w V hV hn o hk ho)
  clear hk ho
  go_enter Tryz.func10, Tryz.ntmps10
  go_wp2_with fail
  refine (unhide HO _ ⟨(unhide HC).vs.alloc _, (unhide HC).vi⟩).mono ?_
  rintro e w1 ⟨rfl, s', hs'⟩
  have HS := hide hs'
  clear hs' HO HC
  go_wp2
  go_ret
  exact ⟨rfl, s', unhide HS⟩
/-- A step that is none, and what it finds. -/
theorem VV.enter {n wb : Nat} {s : Sg} {w W w1 : World} (h : VV n wb s w W) (o : Obj) (hb : Below (W.alloc o).heap.size (W.alloc o) w1) : VV n wb s w w1 := ⟨(h.vs.alloc o).mono hb, h.vi⟩
set_option maxRecDepth 100000 in
set_option maxHeartbeats 1000000 in
theorem vstep_none (n wb : Nat) (s : Sg) (w W : World) (h : VV n wb s w W) (o : Op8) (hk : noneOwn o.kind) (h5 : ¬ o.kind = 5) (h6 : ¬ o.kind = 6) (h9 : ¬ o.kind = 9) (h11 : ¬ o.kind = 11) (hz : s.ns.length = 0 ∨ o.kind < 10 ∨ 18 < o.kind) :
    Calls Tryz.prog 10 #[.pointer (some ⟨wb, 0, none⟩), opv o] W fun e W' => e = .returned (.bool true) ∧ ∃ s', VV (n + 1) wb s' w W' := by
  have HC := hide h
  clear h
  have HO := hide (fun V => vowner_no wb V o hk)
  obtain ⟨kind, a, b, c, d, e, x, S⟩ := o
  simp only at hk h5 h6 h9 h11 hz
  clear hk
  go_enter Tryz.func10, Tryz.ntmps10
  go_wp2_with fail
  refine (unhide HO _).mono ?_
  rintro e w1 ⟨rfl, hb⟩
  have hC1 := (unhide HC).enter _ hb
  have hbx := (hb.block W.heap.size (by simp)).trans (heap_alloc_new W _)
  have p0 : w1.cell? ⟨W.heap.size, 0, none⟩ = some (.int .i64 kind) := cell_at hbx 0
  have hnrow : w1.ownsRow 0 51 1 s.nv s.ns.length (s.ns.map fun n => .pointer (some ⟨n.b, 0, none⟩)) := Sep.rd hC1.vs .nd
  obtain ⟨no, nc, hnf, _⟩ := row_form hnrow
  have c14 : w1.cell? ⟨wb, 14, none⟩ = some s.nv := hC1.vs.cell 14
  rw [hnf] at c14
  have hwl := hC1.vs.lt
  have hbl := lt_blk hbx
  have HC1 := hide hC1
  clear hC1 hbx hb HC HO hnrow hnf
  rcases (show (s.ns.length : Int) = 0 ∨ (¬ (s.ns.length : Int) = 0 ∧ kind < 10) ∨ (¬ (s.ns.length : Int) = 0 ∧ ¬ kind < 10 ∧ 18 < kind) by omega) with g1 | ⟨g1, g2⟩ | ⟨g1, g2, g3⟩
  case' inr.inl => have gb : ((s.ns.length : Int) == 0) = false := beq_eq_false_iff_ne.2 g1
  case' inr.inr => have gb : ((s.ns.length : Int) == 0) = false := beq_eq_false_iff_ne.2 g1
  all_goals
    clear hz
    go_wp2
    go_ret
    exact ⟨rfl, s, (unhide HC1).vs, (unhide HC1).vi.up⟩
set_option maxRecDepth 100000 in
set_option maxHeartbeats 1000000 in
theorem vstep_enc (n wb : Nat) (s : Sg) (w W : World) (h : VV n wb s w W) (hn : n ≤ 18000) (o : Op8) (hk : o.kind = 5) (hg : w.cell? ⟨0, 0, none⟩ = some (.iface 207 (.agg #[.pointer (some ⟨1, 64, none⟩)]))) (hlt : 0 < w.heap.size) :
    Calls Tryz.prog 10 #[.pointer (some ⟨wb, 0, none⟩), opv o] W fun e W' => e = .returned (.bool true) ∧ ∃ s', VV (n + 1) wb s' w W' := by
  have HC := hide h
  clear h
  have HO := hide (fun V => vowner_no wb V o (by unfold noneOwn; omega))
  obtain ⟨kind, a, b, c, d, e, x, S⟩ := o
  simp only at hk
  subst hk
  go_enter Tryz.func10, Tryz.ntmps10
  go_wp2_with fail
  refine (unhide HO _).mono ?_
  rintro e w1 ⟨rfl, hb⟩
  have hC1 := (unhide HC).enter _ hb
  have hbx := (hb.block W.heap.size (by simp)).trans (heap_alloc_new W _)
  have p0 : w1.cell? ⟨W.heap.size, 0, none⟩ = some (.int .i64 5) := cell_at hbx 0
  have hcells : ∀ j, w1.cell? ⟨wb, j, none⟩ = s.cells[j]? := hC1.vs.cell
  have HC1 := hide hC1
  clear hC1 hbx hb HC HO
  go_wp2_with fail
  clear hcells
  have hur : w1.ownsRow 0 58 3 s.uv s.m.ups.length (s.m.ups.flatMap keyC) := (unhide HC1).vs.has (unhide HC1).vi.uf
  refine (encoded_any s.m s.uv w1 (rkeysAt_row hur) (by have := (unhide HC1).vi.un; omega) ((unhide HC1).vs.gate hlt hg)).mono ?_
  clear hur
  rintro e w2 ⟨rfl, hb2⟩
  have HC2 := hide ((unhide HC1).vs.mono hb2)
  have HB := hide (unhide HC1).vi
  clear hb2 HC1 p0
  have hL : (encB s.m).length ≤ 17000 := by
    unfold encB
    by_cases hw : wholeB s.m = true
    · rw [if_pos hw, bytesM_len]; have := whole_len hw; omega
    · rw [if_neg hw]; simp
  generalize encB s.m = L at hL ⊢
  have c0 : w2.cell? ⟨wb, 0, none⟩ = some s.tv := (unhide HC2).cell 0
  have f0 : w2.frozen? ⟨wb, 0, none⟩ = false := (unhide HC2).free 0
  have hw2 := (unhide HC2).lt
  have htn := (unhide HB).tn
  have HT : Hid (w2.ownsRow 0 9 1 s.tv s.ts.length (s.ts.map fun l => .string (bs l))) := hide (Sep.rd (unhide HC2) .tx)
  go_wp2_with (at_builtin; refine wpList_app rfl _ _ rfl etySt 0 rfl rfl ((unhide HT).alloc _) (Src.box (cs := [.string (bs L)]) 1 1 1 (by exact heap_alloc_new w2 _) rfl) (by simp [Value.oneCell']) (by omega) (by omega) ?_)
  intro v3 w3 hown3 hgrow3 hat3
  obtain ⟨vo, vc, hvf, _⟩ := row_form hown3
  subst hvf
  have hP := (unhide HC2).pushT ((Below.refl _ _).alloc (Nat.le_refl _) _) hgrow3 L _ hown3 (hat3.imp id (fun e => by rw [e]; simp))
  have d0 : w3.cell? ⟨wb, 0, none⟩ = some s.tv := cell_at hP.2 0
  have e0 : w3.frozen? ⟨wb, 0, none⟩ = false := free_at hP.2 0
  have HP := hide hP.1
  clear hP hown3 hgrow3 hat3 HC2 c0 f0 HT
  go_wp2
  go_ret
  exact ⟨rfl, _, unhide HP, (unhide HB).pushT L _ hL⟩
set_option maxRecDepth 100000 in
set_option maxHeartbeats 1000000 in
theorem vstep_del (n wb : Nat) (s : Sg) (w W : World) (h : VV n wb s w W) (hn : n ≤ 18000) (o : Op8) (hk : o.kind = 11) (ho : o.ok) :
    Calls Tryz.prog 10 #[.pointer (some ⟨wb, 0, none⟩), opv o] W fun e W' => e = .returned (.bool true) ∧ ∃ s', VV (n + 1) wb s' w W' := by
  have HC := hide h
  clear h
  have HO := hide (fun V => vowner_no wb V o (by unfold noneOwn; omega))
  have HD := hide (fun V hV => delivered_s n wb s w V hV hn o ho)
  clear ho
  obtain ⟨kind, a, b, c, d, e, x, S⟩ := o
  simp only at hk
  subst hk
  go_enter Tryz.func10, Tryz.ntmps10
  go_wp2_with fail
  refine (unhide HO _).mono ?_
  rintro e' w1 ⟨rfl, hb⟩
  have hC1 := (unhide HC).enter _ hb
  have hbx := (hb.block W.heap.size (by simp)).trans (heap_alloc_new W _)
  have p0 : w1.cell? ⟨W.heap.size, 0, none⟩ = some (.int .i64 11) := cell_at hbx 0
  have p1 : w1.cell? ⟨W.heap.size, 1, none⟩ = some (.int .i64 x) := cell_at hbx 1
  have p2 : w1.cell? ⟨W.heap.size, 2, none⟩ = some (.int .i64 a) := cell_at hbx 2
  have p3 : w1.cell? ⟨W.heap.size, 3, none⟩ = some (.int .i64 b) := cell_at hbx 3
  have p4 : w1.cell? ⟨W.heap.size, 4, none⟩ = some (.int .i64 c) := cell_at hbx 4
  have p5 : w1.cell? ⟨W.heap.size, 5, none⟩ = some (.int .i64 d) := cell_at hbx 5
  have p6 : w1.cell? ⟨W.heap.size, 6, none⟩ = some (.int .i64 e) := cell_at hbx 6
  have p7 : w1.cell? ⟨W.heap.size, 7, none⟩ = some (.string (bs S)) := cell_at hbx 7
  have hbl := lt_blk hbx
  have HC1 := hide hC1
  clear hC1 hbx hb HC HO
  go_wp2_with fail
  refine (unhide HD w1 (unhide HC1)).mono ?_
  rintro e' w2 ⟨rfl, s', hs'⟩
  have HS := hide hs'
  clear hs' HD HC1 p0 p1 p2 p3 p4 p5 p6 p7
  go_wp2
  go_ret
  exact ⟨rfl, s', unhide HS⟩
theorem on_any (n wb : Nat) (s : Sg) (w W : World) (h : VV n wb s w W) (hn : n ≤ 18000) (o : Op8) (hk : o.kind = 10 ∨ o.kind = 13 ∨ o.kind = 14 ∨ o.kind = 15 ∨ o.kind = 16 ∨ o.kind = 17 ∨ o.kind = 18) (ho : o.ok) (i : Nat) (t : Nt) (hi : s.ns[i]? = some t) (hg : w.cell? ⟨0, 0, none⟩ = some (.iface 207 (.agg #[.pointer (some ⟨1, 64, none⟩)]))) (hlt : 0 < w.heap.size) :
    Calls Tryz.prog 20 #[.pointer (some ⟨wb, 0, none⟩), .pointer (some ⟨t.b, 0, none⟩), opv o] W fun e W' => e = .returned (.bool true) ∧ ∃ s', VV (n + 1) wb s' w W' := by
  rcases hk with hk | hk | hk | hk | hk | hk
  · exact on_recv n wb s w W h hn o hk ho i t hi
  · exact on_join n wb s w W h hn o hk i t hi hg hlt
  · exact on_leave n wb s w W h hn o hk i t hi hg hlt
  · exact on_tick n wb s w W h hn o hk i t hi
  · exact on_drain n wb s w W h hn o hk i t hi
  · exact on_see n wb s w W h hn o hk i t hi
set_option maxRecDepth 100000 in
set_option maxHeartbeats 1000000 in
theorem vstep_node (n wb : Nat) (s : Sg) (w W : World) (h : VV n wb s w W) (hn : n ≤ 18000) (o : Op8) (hk : o.kind = 10 ∨ o.kind = 13 ∨ o.kind = 14 ∨ o.kind = 15 ∨ o.kind = 16 ∨ o.kind = 17 ∨ o.kind = 18) (ho : o.ok) (hx0 : -9223372036854775808 ≤ o.x) (hx1 : o.x ≤ 9223372036854775807) (hz : ¬ s.ns.length = 0) (hg : w.cell? ⟨0, 0, none⟩ = some (.iface 207 (.agg #[.pointer (some ⟨1, 64, none⟩)]))) (hlt : 0 < w.heap.size) :
    Calls Tryz.prog 10 #[.pointer (some ⟨wb, 0, none⟩), opv o] W fun e W' => e = .returned (.bool true) ∧ ∃ s', VV (n + 1) wb s' w W' := by
  have HC := hide h
  have hnn := h.vi.nn
  clear h
  have HO := hide (fun V => vowner_no wb V o (by unfold noneOwn; omega))
  obtain ⟨q0, q1⟩ := pickW_bd o.x (s.ns.length : Int) (by omega)
  obtain ⟨q, hq⟩ := Int.eq_ofNat_of_zero_le q0
  have hql : q < s.ns.length := by omega
  have hqi : (q : Int) < (s.ns.length : Int) := by omega
  have hz' : (0 : Int) < (s.ns.length : Int) := by omega
  have hz2 : ((s.ns.length : Int) == 0) = false := beq_eq_false_iff_ne.2 (by omega)
  have hlp : (s.ns.length : Int) ≤ 4294967296 := by omega
  have HP := hide (fun W' => lpick_any o.x (s.ns.length : Int) W' hx0 hx1 hz' hlp)
  rw [hq] at HP
  have HD := hide (fun V hV => on_any n wb s w V hV hn o hk ho q s.ns[q] (List.getElem?_eq_getElem hql) hg hlt)
  clear q0 q1 hq ho
  have hi : s.ns[q]? = some s.ns[q] := List.getElem?_eq_getElem hql
  obtain ⟨kind, a, b, c, d, e, x, S⟩ := o
  simp only at hk hx0 hx1 HP
  have h5 : ¬ kind = 5 := by omega
  have h6 : ¬ kind = 6 := by omega
  have h9 : ¬ kind = 9 := by omega
  have h11 : ¬ kind = 11 := by omega
  have h10 : ¬ kind < 10 := by omega
  have h18 : ¬ 18 < kind := by omega
  clear hk
  go_enter Tryz.func10, Tryz.ntmps10
  go_wp2_with fail
  refine (unhide HO _).mono ?_
  rintro e' w1 ⟨rfl, hb⟩
  have hC1 := (unhide HC).enter _ hb
  have hbx := (hb.block W.heap.size (by simp)).trans (heap_alloc_new W _)
  have p0 : w1.cell? ⟨W.heap.size, 0, none⟩ = some (.int .i64 kind) := cell_at hbx 0
  have p1 : w1.cell? ⟨W.heap.size, 1, none⟩ = some (.int .i64 x) := cell_at hbx 1
  have p2 : w1.cell? ⟨W.heap.size, 2, none⟩ = some (.int .i64 a) := cell_at hbx 2
  have p3 : w1.cell? ⟨W.heap.size, 3, none⟩ = some (.int .i64 b) := cell_at hbx 3
  have p4 : w1.cell? ⟨W.heap.size, 4, none⟩ = some (.int .i64 c) := cell_at hbx 4
  have p5 : w1.cell? ⟨W.heap.size, 5, none⟩ = some (.int .i64 d) := cell_at hbx 5
  have p6 : w1.cell? ⟨W.heap.size, 6, none⟩ = some (.int .i64 e) := cell_at hbx 6
  have p7 : w1.cell? ⟨W.heap.size, 7, none⟩ = some (.string (bs S)) := cell_at hbx 7
  have hbl := lt_blk hbx
  have hnrow : w1.ownsRow 0 51 1 s.nv s.ns.length (s.ns.map fun n => .pointer (some ⟨n.b, 0, none⟩)) := Sep.rd hC1.vs .nd
  obtain ⟨g, gc, hnf, _, hcl⟩ := own_cell1 hnrow q (.pointer (some ⟨(s.ns[q]).b, 0, none⟩)) (by rw [List.getElem?_map, hi]; rfl)
  have c14 : w1.cell? ⟨wb, 14, none⟩ = some s.nv := hC1.vs.cell 14
  rw [hnf] at c14
  have hwl := hC1.vs.lt
  have HC1 := hide hC1
  generalize (s.ns[q]).b = tb at hcl HD
  clear hC1 hbx hb HC HO hnrow hnf hi
  go_wp2_with fail
  go_quiet ((go_at_call 19; exact Calls.quiet_of_same (unhide HP _)))
  go_wp2_with fail
  refine (unhide HD _ ⟨(unhide HC1).vs.draws _, (unhide HC1).vi⟩).mono ?_
  rintro e' w2 ⟨rfl, s', hs'⟩
  have HS := hide hs'
  clear hs' HD HC1 HP p0 p1 p2 p3 p4 p5 p6 p7 c14 hcl
  go_wp2_with fail
  refine (looks_s wb s' w w2 (unhide HS).vs (unhide HS).vi.hd (by have := (unhide HS).vi.ll; omega) (by have := (unhide HS).vi.ol; omega)).mono ?_
  rintro e' w3 ⟨rfl, k3, rfl⟩
  go_wp2
  go_ret
  exact ⟨rfl, s', (unhide HS).vs.draws k3, (unhide HS).vi⟩
end Go.Proofs.YtnneljcbelgoeaaGreatDoor.wire
