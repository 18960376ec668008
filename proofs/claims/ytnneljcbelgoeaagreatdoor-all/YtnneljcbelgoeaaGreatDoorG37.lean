import Derived.Test.YtnneljcbelgoeaaGreatDoorG36
import Derived.Outline
/- The document's node: others are asked (P9). -/
namespace Go.Proofs.YtnneljcbelgoeaaGreatDoor.wire
open Go.RowKit Go.Maps

/-- While others are asked: the node, and the list of those that can be asked still. -/
structure Mz (W wr : World) (b : Nat) (v0 v : Rv) (q : Rn) (lv : Value) (L : List Int) : Prop where
  d : v.d = v0.d
  node : RAt wr b v q
  frm : Frm (rfeet b v0) W wr
  feet : ∀ k ∈ rfeet b v, k ∈ rfeet b v0 ∨ W.heap.size ≤ k
  row : wr.ownsRow W.heap.size 3 1 lv L.length (L.flatMap intC)
  out : ∀ g, lv.ownBlock = some g → g ∉ rfeet b v ∧ v.d.ownBlock ≠ some g
/-- Its ghost. -/
structure Az (B : Int) (e : Int) (y : Nd) (q : Rn) : Prop where
  rf : Rf y q
  ok : NdOk y
  rl : RlE e y
  prb : y.ptgt ≠ 0
  dl : DlOk y.dl
  dat : (y.dat : Int) ≤ B
  out : q.out.length ≤ 910
theorem Az.bounds {B e : Int} {y : Nd} {q : Rn} (h : Az B e y q) : q.queue.length ≤ 1000 ∧ (∀ u ∈ q.queue, -1000000 ≤ u.sent ∧ u.sent ≤ 1000000) ∧ (1 ≤ q.probe ∧ q.probe ≤ 250) ∧ wholeB ⟨3, q.self.id, q.self.inc, q.no, q.probe, q.updates.1⟩ = true := by
  obtain ⟨p1, p2, p3⟩ := h.rf.prb h.prb
  have htgt : 1 ≤ y.ptgt ∧ y.ptgt ≤ 250 := by
    rcases h.ok.pass.tgt with hh | hh
    · exact absurd hh h.prb
    · exact hh.1
  refine ⟨?_, fun u hu => ?_, by rw [h.rf.probe]; exact htgt, ?_⟩
  · rw [h.rf.queue.length_eq, List.length_map]
    have := h.ok.len
    have := List.length_filter_le pendB y.tab
    omega
  · obtain ⟨m, hm, rfl⟩ := List.mem_map.1 (h.rf.queue.mem_iff.1 hu)
    have h1 := h.ok.sends m (List.mem_filter.1 hm).1
    have hcf := h.ok.cfg
    simp only [cfgB, Bool.and_eq_true, decide_eq_true_eq] at hcf
    show -1000000 ≤ y.c.sends - m.sends ∧ y.c.sends - m.sends ≤ 1000000
    omega
  · rw [h.rf.self, (h.rf.updates h.ok).1, p2, h.rf.probe]
    exact direct_whole h.ok (by omega) htgt (h.rl.prb h.prb).1
theorem Az.draw {B e : Int} {y : Nd} {q : Rn} (h : Az B e y q) {n : Int} (hn : 1 ≤ n) : Az (B + 1) e (y.drew n) (q.draw n).2 := by
  obtain ⟨d1, d2, d3⟩ := h.rf.draw hn
  obtain ⟨m, em, hm⟩ := drew_ex y n
  refine ⟨d2, drew_ok h.ok n, h.rl.drew n, by rw [em]; exact h.prb, by rw [em]; exact h.dl, ?_, by rw [d3]; exact h.out⟩
  have : (q.draw n).2.drawn ≤ q.drawn + 1 := (draw_keep q n).2.1
  rw [d2.drawn, h.rf.drawn] at this
  have := h.dat
  omega
theorem Az.direct {B e : Int} {y : Nd} {q : Rn} (h : Az B e y q) (dest : Int) (ho : q.out.length ≤ 909) : Az B e y.along (q.direct dest 3 q.no q.probe) := by
  obtain ⟨p1, p2, p3⟩ := h.rf.prb h.prb
  have htgt : 1 ≤ y.ptgt ∧ y.ptgt ≤ 250 := by
    rcases h.ok.pass.tgt with hh | hh
    · exact absurd hh h.prb
    · exact hh.1
  obtain ⟨g1, g2⟩ := h.rf.direct h.ok (kind := 3) (seq := y.pnum) (tgt := y.ptgt) dest (by omega) htgt (h.rl.prb h.prb).1
  rw [p2, h.rf.probe]
  exact ⟨g2, along_ok h.ok, h.rl.along h.ok, h.prb, h.dl, h.dat, by rw [g1]; simp; omega⟩
theorem Mz.draw {W wr w' : World} {b : Nat} {v0 v : Rv} {q q' : Rn} {lv : Value} {L : List Int} (h : Mz W wr b v0 v q lv L) (ha : RAt w' b v q') (hf : Frm [b] wr w') : Mz W w' b v0 v q' lv L :=
  ⟨h.d, ha, h.frm.trans hf (by simp [rfeet]), h.feet, own_frm h.row hf (fun k hk e => by simp only [List.mem_singleton] at e; subst e; exact (h.out k hk).1 (by simp [rfeet])), h.out⟩
theorem Mz.call {W wr w' : World} {b : Nat} {v0 v : Rv} {q q' : Rn} {lv : Value} {L : List Int} (h : Mz W wr b v0 v q lv L) (ht : RTo wr w' b v q') : ∃ v', Mz W w' b v0 v' q' lv L := by
  obtain ⟨v', hd, ha, hf, hs⟩ := ht
  refine ⟨v', hd.trans h.d, ha, h.frm.trans hf h.feet, fun k hk => ?_, own_frm h.row hf (fun k hk => (h.out k hk).1), fun g hg => ⟨fun hm => ?_, by rw [hd]; exact (h.out g hg).2⟩⟩
  · rcases hs k hk with h1 | h1
    · exact h.feet k h1
    · exact .inr (Nat.le_trans h.frm.size h1)
  · rcases hs g hm with h1 | h1
    · exact (h.out g hg).1 h1
    · have := (own_lt h.row hg).2; omega
theorem Mz.newL {W wr w' : World} {b : Nat} {v0 v : Rv} {q : Rn} {lv lv' : Value} {L L' : List Int} (h : Mz W wr b v0 v q lv L) (hf : Fi intC 3 1 wr w' lv' L') : Mz W w' b v0 v q lv' L' :=
  ⟨h.d, h.node.below hf.below, h.frm.step hf.below, h.feet, own_mono hf.own h.frm.size, fun g hg => ⟨fun hm => by
    have h1 := (own_lt hf.own hg).1
    have h2 := h.node.lt hm
    omega, fun hm => by
    have h1 := (own_lt hf.own hg).1
    have h2 := h.node.rows.d.lt hm
    omega⟩⟩
theorem Mz.to {W wr : World} {b : Nat} {v0 v : Rv} {q : Rn} {lv : Value} {L : List Int} (h : Mz W wr b v0 v q lv L) : RTo W wr b v0 q := ⟨v, h.d, h.node, h.frm, h.feet⟩
theorem asks_none (q : Rn) (n : Nat) (L : List Int) (h : n = 0 ∨ L.length = 0) : q.asks n L = q := by
  cases n with
  | zero => rfl
  | succ n =>
    have hl : L.length = 0 := h.resolve_left (by omega)
    unfold Rn.asks
    rw [if_pos hl]
theorem asks_some (q : Rn) (n : Nat) (L : List Int) (h : 0 < L.length) : q.asks (n + 1) L = ((q.draw L.length).2.direct (L.getD (q.draw L.length).1.toNat 0) 3 (q.draw L.length).2.no (q.draw L.length).2.probe).asks n (L.eraseIdx (q.draw L.length).1.toNat) := by
  conv => lhs; unfold Rn.asks
  rw [if_neg (by omega)]
theorem direct_c (q : Rn) (a k s t : Int) : (q.direct a k s t).c = q.c ∧ (q.direct a k s t).out.length = q.out.length + 1 := by
  unfold Rn.direct Rn.sendTo Rn.updates
  simp
theorem draw_c (q : Rn) (n : Int) : (q.draw n).2.c = q.c ∧ (q.draw n).2.out = q.out := by
  unfold Rn.draw
  split <;> exact ⟨rfl, rfl⟩
set_option maxHeartbeats 2000000 in
set_option maxRecDepth 100000 in
theorem rask_any {B e : Int} {x : Nd} {r : Rn} (hz : Az B e x r) (hB : B ≤ 999999998000) (hout : r.out.length ≤ 900) {W : World} {b : Nat} {v : Rv} (h : RAt W b v r) :
    Calls Tryz.prog 106 #[.pointer (some ⟨b, 0, none⟩)] W fun e w' => e = .returned (.tuple #[]) ∧ RTo W w' b v r.ask := by
  obtain ⟨oo, oc, hov, hob, hocc, _⟩ := row_form h.rows.o
  have HOW := hide (hov ▸ h.rows.o : W.ownsRow 0 134 4 (.slice oo r.others.length oc) r.others.length (r.others.flatMap rmC))
  have c13 := h.cell 13
  have c15 := h.cell 15
  have hlt := h.ltb
  simp only [refC, List.getElem?_toArray, List.getElem?_cons_zero, List.getElem?_cons_succ, hov] at c13 c15
  have hcf := hz.ok.cfg
  simp only [cfgB, Bool.and_eq_true, decide_eq_true_eq] at hcf
  have hpx : 0 ≤ r.c.proxies ∧ r.c.proxies ≤ 3 := by rw [hz.rf.c]; omega
  have hol : r.others.length ≤ 7 := by
    have := rest_len hz.ok
    have := hz.ok.len
    rw [hz.rf.others, List.length_map]; omega
  have H0 := hide h
  have HZ := hide hz
  have HOB := hide hob
  have HAS : Hid (r.ask = r.asks r.c.proxies.toNat (idsOf (fun m => decide (m.k.st ≤ 2) && !(m.k.id == r.probe)) r.others)) := hide rfl
  clear h hz hob hov hcf
  obtain ⟨A, hA⟩ : ∃ A, A = r.others := ⟨_, rfl⟩
  rw [← hA] at c13 HOW HOB hol hocc HAS
  clear hA
  go_enter Tryz.func106, Tryz.ntmps106
  go_wp2_with fail
  go_loopw [2, 3, 4] (fun l i _ wr => ∃ k : Nat, i = .int .i64 k ∧ k ≤ A.length ∧ Fi intC 3 1 W wr l (idsOf (fun m => decide (m.k.st ≤ 2) && !(m.k.id == r.probe)) (A.take k))) (fun _ i _ _ => A.length - (Go.RowKit.intOf i).toNat)
  case atStart => exact ⟨0, by go_num, by omega, by simpa [idsOf] using Fi.nil _ _ _ (Below.refl _ _)⟩
  case round =>
    obtain ⟨k, rfl, hk, hfi⟩ := hrel
    have hbw := hfi.below
    have e13 := (hbw.cell (p := ⟨b, 13, none⟩) hlt).trans c13
    have e15 := (hbw.cell (p := ⟨b, 15, none⟩) hlt).trans c15
    have hwz := hbw.size
    have hltr : b < wr.heap.size := by omega
    obtain ⟨ro, rc, hrv, hrb, _⟩ := row_form hfi.own
    have hfl : (idsOf (fun m => decide (m.k.st ≤ 2) && !(m.k.id == r.probe)) (A.take k)).length ≤ A.length := Nat.le_trans (idsOf_len _ _) (by simp; omega)
    subst hrv
    have HFI := hide hfi
    by_cases hlt2 : k < A.length
    · obtain ⟨g, hg, hgl⟩ := unhide HOB (by omega)
      subst hg
      have hcell : ∀ j, j < 4 → wr.cell? ⟨g, k * 4 + j, none⟩ = (rmC A[k])[j]? := fun j hj => (hbw.cell (p := ⟨g, k * 4 + j, none⟩) hgl).trans (row_cell rmC 4 (fun _ => rfl) (unhide HOW) k hlt2 j hj)
      have p0 := hcell 0 (by omega)
      have p1 := hcell 1 (by omega)
      have p2 := hcell 2 (by omega)
      simp only [rmC, List.getElem?_cons_zero, List.getElem?_cons_succ, Nat.add_zero] at p0 p1 p2
      have htf := take_idsOf A (fun m => decide (m.k.st ≤ 2) && !(m.k.id == r.probe)) k hlt2
      generalize A[k] = U at p0 p1 p2 htf
      obtain ⟨⟨ui, ua, ub⟩, ud⟩ := U
      simp only at p0 p1 p2 htf
      have hki : (k : Int) < (A.length : Int) := by omega
      have HTF := hide htf
      clear hfi hbw htf hrb hcell
      by_cases hst : ub ≤ 2
      · have hst' : decide (ub ≤ 2) = true := by simpa using hst
        by_cases hid : ui = r.probe
        · have hid' : (ui == r.probe) = true := by simpa using hid
          have HC : Hid ((decide (ub ≤ 2) && !(ui == r.probe)) = false) := hide (by simp [hid])
          clear hid
          go_wp2
          go_quiet (fail)
          go_wp2
          go_roundw
          case rel => exact ⟨k + 1, by go_num, by omega, by rw [unhide HTF, unhide HC, if_neg (by simp), List.append_nil]; exact (unhide HFI).mono (bdrewN ((Below.refl _ _).alloc (Nat.le_refl _) _) _)⟩
          case measure => simp [Go.RowKit.intOf]; omega
        · have hid' : (ui == r.probe) = false := by simpa using hid
          have HC : Hid ((decide (ub ≤ 2) && !(ui == r.probe)) = true) := hide (by simp [hid, hst])
          clear hid
          go_wp2
          go_quiet (fail)
          go_wp2_with (at_builtin; refine wpList_app rfl _ _ rfl etyI W.heap.size rfl rfl (own_below (unhide HFI).own (bdrewN (((Below.refl _ _).alloc (Nat.le_refl _) _).alloc (by simp) _) _)) (Src.box (cs := intC ui) 1 1 1 (heap_new2 wr _ _) (by rfl)) (int_one _) (by omega) (by simp; omega) ?_)
          intro v' w3 ho3 hg3 _
          have HFI3 := hide ((unhide HFI).push (bdrewN (((Below.refl _ _).alloc (Nat.le_refl _) _).alloc (by simp) _) _) hg3 [ui] (by simpa using ho3))
          clear ho3 hg3
          go_wp2
          go_roundw
          case rel => exact ⟨k + 1, by go_num, by omega, by rw [unhide HTF, unhide HC, if_pos rfl]; exact unhide HFI3⟩
          case measure => simp [Go.RowKit.intOf]; omega
      · have hst' : decide (ub ≤ 2) = false := by simpa using hst
        have HC : Hid ((decide (ub ≤ 2) && !(ui == r.probe)) = false) := hide (by simp [hst])
        go_wp2
        go_quiet (fail)
        go_wp2
        go_roundw
        case rel => exact ⟨k + 1, by go_num, by omega, by rw [unhide HTF, unhide HC, if_neg (by simp), List.append_nil]; exact (unhide HFI).mono (bdrewN ((Below.refl _ _).alloc (Nat.le_refl _) _) _)⟩
        case measure => simp [Go.RowKit.intOf]; omega
    · have hke : k = A.length := by omega
      subst hke
      have hpA : idsOf (fun m => decide (m.k.st ≤ 2) && !(m.k.id == r.probe)) (A.take A.length) = idsOf (fun m => decide (m.k.st ≤ 2) && !(m.k.id == r.probe)) A := by rw [List.take_length]
      rw [hpA] at hfi hfl ⊢
      clear HFI hpA
      obtain ⟨P, hP⟩ : ∃ P, P = idsOf (fun m => decide (m.k.st ≤ 2) && !(m.k.id == r.probe)) A := ⟨_, rfl⟩
      rw [← hP] at hfi hfl HAS ⊢
      have hM0 : Mz W wr b v v r (.slice ro P.length rc) P := ⟨rfl, (unhide H0).below hfi.below, Frm.of_below hfi.below (Nat.le_refl _), fun k hk => .inl hk, hfi.own, fun g hg => ⟨fun hm => by
        have h1 := (own_lt hfi.own hg).1
        have h2 := (unhide H0).lt hm
        omega, fun hm => by
        have h1 := (own_lt hfi.own hg).1
        have h2 := (unhide H0).rows.d.lt hm
        omega⟩⟩
      have HM0 := hide hM0
      clear hfi hbw hrb hM0 hP
      obtain ⟨N, hN⟩ : ∃ N : Nat, r.c.proxies = (N : Int) := Int.eq_ofNat_of_zero_le hpx.1
      have HN := hide hN
      rw [hN, Int.toNat_natCast] at HAS
      have hN3 : N ≤ 3 := by omega
      clear hN hpx
      go_wp2_with fail
      go_loopw [2, 5, 6, 7] (fun l n _ _ w' => ∃ (i : Nat) (L : List Int) (q : Rn) (v' : Rv) (y : Nd), n = .int .i64 i ∧ i ≤ N ∧ Mz W w' b v v' q l L ∧ Az (B + i) e y q ∧ L.length ≤ 7 ∧ q.out.length ≤ 900 + i ∧ Hid (q.c = r.c) ∧ Hid (r.asks N P = q.asks (N - i) L)) (fun _ n _ _ _ => N - (Go.RowKit.intOf n).toNat)
      case atStart => exact ⟨0, P, r, v, x, by go_num, by omega, unhide HM0, by simpa using unhide HZ, by omega, by omega, hide rfl, hide rfl⟩
      case round =>
        obtain ⟨i, L, q, v', y, rfl, hi, hmz, haz, hL7, hqo, HQC, HQA⟩ := hrel
        obtain ⟨lo, lc, hlv, hlb, hlc, hlm⟩ := row_form hmz.row
        subst hlv
        have c4 := hmz.node.cell 4
        have hltq := hmz.node.ltb
        simp only [refC, List.getElem?_toArray, List.getElem?_cons_zero, List.getElem?_cons_succ] at c4
        rw [unhide HQC, unhide HN] at c4
        have HMZ := hide hmz
        have HAZ := hide haz
        by_cases hgo : i < N ∧ 0 < L.length
        · obtain ⟨hiN, hL0⟩ := hgo
          have hiN' : (i : Int) < (N : Int) := by omega
          have hL0' : (0 : Int) < (L.length : Int) := by omega
          have hdb : q.drawn ≤ 1000000000000 := by rw [haz.rf.drawn]; have := haz.dat; omega
          have hdl : DlOk q.draws := by rw [haz.rf.draws]; exact haz.dl
          have HDR := hide (rdraw_at hmz.node hdl hdb (L.length : Int) (by omega) (by omega))
          obtain ⟨d0, d1⟩ := draw_bd q hdl (n := (L.length : Int)) (by omega)
          have haz2 := haz.draw (n := (L.length : Int)) (by omega)
          have hqa := unhide HQA
          rw [show N - i = (N - (i + 1)) + 1 by omega, asks_some q _ L hL0] at hqa
          obtain ⟨z, hz⟩ := Int.eq_ofNat_of_zero_le d0
          rw [hz] at HDR d1 hqa
          simp only [Int.toNat_natCast] at hqa
          have hzl : z < L.length := by omega
          obtain ⟨cc1, cc2⟩ := draw_c q (L.length : Int)
          have hqc2 : (q.draw (L.length : Int)).2.c = r.c := cc1.trans (unhide HQC)
          have hqo2 : (q.draw (L.length : Int)).2.out.length ≤ 900 + i := by rw [cc2]; exact hqo
          rw [List.getD_eq_getElem?_getD, List.getElem?_eq_getElem hzl, Option.getD_some] at hqa
          generalize (q.draw (L.length : Int)).2 = q2 at HDR haz2 hqa hqc2 hqo2
          obtain ⟨b1, b2, b3, b4⟩ := haz2.bounds
          have haz3 := haz2.direct L[z] (by omega)
          obtain ⟨dc1, dc2⟩ := direct_c q2 L[z] 3 q2.no q2.probe
          have HAZ3 := hide haz3
          have HQA3 := hide hqa
          have HQC3 := hide (dc1.trans hqc2)
          have hqo3 : (q2.direct L[z] 3 q2.no q2.probe).out.length ≤ 900 + (i + 1) := by rw [dc2]; omega
          have HB2 := hide b2
          have HB4 := hide b4
          have hzi : (z : Int) < (L.length : Int) := by omega
          clear hmz haz haz2 haz3 hqa dc1 dc2 b2 b4 hdl d0 d1 hz cc1 cc2 hqc2 HQA HQC hlb
          go_wp2_with fail
          refine (unhide HDR).mono ?_
          rintro e w3 ⟨rfl, ha3, hf3⟩
          have hm3 := (unhide HMZ).draw ha3 hf3
          obtain ⟨g, hg, hgl⟩ : ∃ g, lo = some ⟨g, 0, none⟩ ∧ g < w3.heap.size := by
            obtain ⟨ao, cap, e, hb, _⟩ := row_form hm3.row
            cases e
            exact hb hL0
          subst hg
          have q0 := row_cell intC 1 (fun _ => rfl) hm3.row z hzl 0 (by omega)
          simp only [intC, List.getElem?_cons_zero, Nat.mul_one, Nat.add_zero] at q0
          have c15 := ha3.cell 15
          have c17 := ha3.cell 17
          have hlt3 := ha3.ltb
          simp only [refC, List.getElem?_toArray, List.getElem?_cons_zero, List.getElem?_cons_succ] at c15 c17
          have HSD := hide (rsend_direct ha3.drew (by omega) b1 (unhide HB2) L[z] 3 q2.no q2.probe (by omega) (unhide HB4))
          have HM3 := hide hm3
          generalize L[z] = dest at q0 HSD HAZ3 HQA3 HQC3 hqo3
          clear ha3 hf3 hm3 HDR HMZ
          go_wp2_with fail
          go_region_with (go_at_call 62; refine (unhide HSD).mono ?_; rintro e w5 ⟨rfl, h5⟩)
          all_goals
            obtain ⟨v5, hm5⟩ := (unhide HM3).call (RTo.from (bdrew (Below.refl _ _)) h5)
            have HM5 := hide hm5
            have hlp : (L.take z).length = z := by simp; omega
            have HLP := hide hlp
            have hz5 : g < w5.heap.size := (own_lt hm5.row (k := g) rfl).2
            clear h5 hm5 hlp
            go_wp2_with (at_builtin; refine wpList_app rfl _ _ rfl etyI w5.heap.size (n := z) (xs := (L.flatMap intC).take (z * 1)) (n1 := 0) (xs1 := []) rfl rfl (World.ownsRow_nil _ _ _ _) ?_ (fun u hu => one_of int_one _ u (List.mem_of_mem_take hu)) (by omega) (by omega) ?_)
            · (simp [Act.eval]; first | exact Src.head (unhide HM5).row z (Nat.le_of_lt hzl) | (rw [← Nat.mul_one z]; exact Src.head (unhide HM5).row z (Nat.le_of_lt hzl)) | (have hh := Src.head (unhide HM5).row z (Nat.le_of_lt hzl); rw [Nat.mul_one] at hh; exact hh))
            intro v6 w6 ho6 hg6 _
            have hf6 : Fi intC 3 1 w5 w6 v6 (L.take z) := by
              have := (Fi.nil intC 3 1 (Below.refl w5.heap.size w5)).push (Below.refl _ _) hg6 (L.take z) (by
                have e := row_take intC 1 (fun _ => rfl) L z
                rw [Nat.mul_one] at e
                try rw [Nat.mul_one] at ho6
                rw [e] at ho6
                rw [unhide HLP]; simpa using ho6)
              simpa using this
            have HF6 := hide hf6
            have hz6 := hf6.below.size
            have HL6 := hide (own_below (unhide HM5).row hf6.below)
            clear ho6 hg6 hf6
            go_wp2_with (refine wpList_tail rfl _ _ rfl etyI (z + 1) rfl rfl (unhide HL6) (by omega) ?_)
            intro vt hvt
            have hvt2 : Src w6 1 vt (L.length - (z + 1)) ((L.drop (z + 1)).flatMap intC) := by
              have e := row_drop intC 1 (fun _ => rfl) L (z + 1)
              rw [← e]
              first | exact hvt | simpa using hvt
            have HVT := hide hvt2
            clear hvt hvt2
            go_wp2_with (at_builtin; refine wpList_app rfl _ _ rfl etyI w5.heap.size rfl rfl (unhide HF6).own (unhide HVT) (one_of int_one _) (by have := unhide HLP; omega) (by omega) ?_)
            intro v7 w7 ho7 hg7 _
            have hf7 := (unhide HF6).push (Below.refl _ _) hg7 (L.drop (z + 1)) (by first | (rw [List.length_take, List.length_drop]; exact ho7) | (rw [unhide HLP, List.length_drop]; exact ho7) | simpa using ho7)
            rw [← List.eraseIdx_eq_take_drop_succ] at hf7
            have hm7 := (unhide HM5).newL hf7
            have HM7 := hide hm7
            obtain ⟨lo7, lc7, hv7, _⟩ := row_form hm7.row
            subst hv7
            have hle : (L.eraseIdx z).length ≤ 7 := by rw [List.length_eraseIdx]; split <;> omega
            clear hf7 hm7 ho7 hg7 HVT HL6 HF6
            go_wp2
            go_roundw
            case rel => exact ⟨i + 1, L.eraseIdx z, _, v5, _, by go_num, by omega, unhide HM7, by simpa [Int.add_assoc] using unhide HAZ3, hle, hqo3, HQC3, HQA3⟩
            case measure => simp [Go.RowKit.intOf]; omega
        · have hno : N - i = 0 ∨ L.length = 0 := by omega
          have HE : Hid (r.ask = q) := hide (by rw [unhide HAS, unhide HQA, asks_none q _ L hno])
          have HT := hide hmz.to
          clear hmz haz HQA hno
          have hcs : N ≤ i ∨ (i < N ∧ L.length = 0) := by omega
          rcases hcs with h1 | ⟨h1, h2⟩
          case' inl => have h1' : ¬ (i : Int) < (N : Int) := by omega
          case' inr =>
            have h1' : (i : Int) < (N : Int) := by omega
            have h2' : ¬ (0 : Int) < (L.length : Int) := by omega
            clear h2
          all_goals
            clear hgo
            go_wp2
            go_end0
            rw [unhide HE]
            exact ⟨rfl, unhide HT⟩
end Go.Proofs.YtnneljcbelgoeaaGreatDoor.wire
