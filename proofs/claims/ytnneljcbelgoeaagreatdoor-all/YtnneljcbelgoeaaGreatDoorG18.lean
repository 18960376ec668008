import Derived.Test.YtnneljcbelgoeaaGreatDoorG17
/- A tick: the next one is probed (P9). -/
namespace Go.Proofs.YtnneljcbelgoeaaGreatDoor.wire
open Go.RowKit Go.Maps

theorem PassAt.form {w : World} {v : Value} {l : List Int} (h : PassAt w v l) : ∃ ao cap, v = .slice ao l.length cap := by
  rcases h with ⟨rfl, rfl⟩ | ⟨b, off, cap, cs, rfl, _⟩
  · exact ⟨none, 0, rfl⟩
  · exact ⟨_, _, rfl⟩
theorem renew_dl (x : Nd) : x.renew.dl = x.dl := by
  unfold Nd.renew; split
  · obtain ⟨m, e, _⟩ := mixed_ex x x.present
    rw [e]
  · rfl
theorem PassAt.tail {w : World} {b off N cap : Nat} {t : Int} {r : List Int} (h : PassAt w (.slice (some ⟨b, off, none⟩) N cap) (t :: r)) : PassAt w (.slice (some ⟨b, off + 1, none⟩) (N - 1) (cap - 1)) r ∧ (cap = 1 → PassAt w (.slice (some ⟨b, off, none⟩) (N - 1) 0) r) := by
  rcases h with ⟨e0, _⟩ | ⟨b', off', cap', cs, e0, hb, h1, h2, hcs⟩
  · cases e0
  · simp only [Value.slice.injEq, Option.some.injEq, Addr.mk.injEq, List.length_cons] at e0
    obtain ⟨⟨rfl, rfl, _⟩, rfl, rfl⟩ := e0
    simp only [List.length_cons] at h1
    refine ⟨.inr ⟨b, off + 1, cap - 1, cs, rfl, hb, by omega, by omega, fun i hi => ?_⟩, fun hc => .inr ⟨b, off, 0, cs, rfl, hb, by omega, by omega, fun i hi => by omega⟩⟩
    have := hcs (i + 1) (by simp; omega)
    rw [show off + 1 + i = off + (i + 1) by omega]
    simpa using this
/-- A probe begins. -/
def Nd.aims (y : Nd) (t : Int) : Nd := { y with num := y.num + 1, ptgt := t, pnum := y.num + 1, pst := y.clock, pack := false }
theorem NAt.aims {W : World} {nb mb : Nat} {cb : Dk} {pv rv : Value} {y : Nd} (h : NAt W nb mb cb pv rv { y with num := y.num + 1 }) (t : Int) :
    NAt ((((W.setCell ⟨nb, 10, none⟩ (.int .i64 t)).setCell ⟨nb, 11, none⟩ (.int .i64 (y.num + 1))).setCell ⟨nb, 12, none⟩ (.int .i64 y.clock)).setCell ⟨nb, 13, none⟩ (.bool false)) nb mb cb pv rv (y.aims t) ∧ Frm [nb] W ((((W.setCell ⟨nb, 10, none⟩ (.int .i64 t)).setCell ⟨nb, 11, none⟩ (.int .i64 (y.num + 1))).setCell ⟨nb, 12, none⟩ (.int .i64 y.clock)).setCell ⟨nb, 13, none⟩ (.bool false)) := by
  obtain ⟨a1, b1⟩ := h.set 10 (.int .i64 t) (x' := { y with num := y.num + 1, ptgt := t }) rfl rfl rfl rfl rfl
  obtain ⟨a2, b2⟩ := a1.set 11 (.int .i64 (y.num + 1)) (x' := { y with num := y.num + 1, ptgt := t, pnum := y.num + 1 }) rfl rfl rfl rfl rfl
  obtain ⟨a3, b3⟩ := a2.set 12 (.int .i64 y.clock) (x' := { y with num := y.num + 1, ptgt := t, pnum := y.num + 1, pst := y.clock }) rfl rfl rfl rfl rfl
  obtain ⟨a4, b4⟩ := a3.set 13 (.bool false) (x' := y.aims t) rfl rfl rfl rfl rfl
  exact ⟨a4, ((b1.trans b2 (by simp)).trans b3 (by simp)).trans b4 (by simp)⟩
set_option maxHeartbeats 2000000 in
set_option maxRecDepth 100000 in
theorem probeNext_any {x : Nd} (hx : NdOk x) (hdl : DlOk x.dl) (hB : NdB Bg x) {nb mb : Nat} {cb : Dk} {pv rv : Value} {W : World} (hn : NAt W nb mb cb pv rv x) :
    Calls Tryz.prog 71 #[.pointer (some ⟨nb, 0, none⟩)] W fun e w' => ∃ o, e = .returned o ∧ Outs W w' o x.probeNext.1 ∧ NTo W w' nb mb cb pv rv x.probeNext.2 := by
  have HP := hide (probing_any hn)
  have HX := hide hx
  have HN := hide hn
  have HB := hide hB
  have HDL := hide hdl
  have hlt := hn.lt
  clear hn hx hB hdl
  by_cases hp : x.ptgt = 0
  · have hp' : (x.ptgt == 0) = true := by simp [hp]
    rw [hp'] at HP
    go_enter Tryz.func71, Tryz.ntmps71
    go_wp2_with fail
    refine (unhide HP).mono ?_
    rintro e w1 ⟨rfl, hb1⟩
    have HB1 := hide hb1
    have HN1 := hide ((unhide HN).below hb1)
    clear hb1 HP
    go_wp2_with fail
    refine (left_any (unhide HX) (unhide HN1)).mono ?_
    rcases hL : x.left with _ | _
    · have HL := hide hL
      clear hL
      rintro e w2 ⟨rfl, hb2⟩
      have HB2 := hide ((unhide HB1).trans (hb2.mono (unhide HB1).size))
      have hn2 := (unhide HN1).below hb2
      obtain ⟨pao, pcap, hpv⟩ := hn2.pass.form
      subst hpv
      have c9 := hn2.c_pass
      have l2 := hn2.lt
      have HN2 := hide hn2
      have hpn : x.probeNext = x.renew.probeOne := by simp [Nd.probeNext, hp, unhide HL]
      have HPN := hide hpn
      have HF2 := hide (Frm.of_below (S := feet nb mb cb (.slice pao x.pass.length pcap) rv) (unhide HB2) (Nat.le_refl _))
      have HS2 := hide (fun k (hk : k ∈ feet nb mb cb (.slice pao x.pass.length pcap) rv) => (Or.inl hk : k ∈ feet nb mb cb (.slice pao x.pass.length pcap) rv ∨ W.heap.size ≤ k))
      have hz2 := (unhide HB2).size
      clear hb2 HB1 HN1 hn2 hpn HN hp hp' HL
      by_cases hl0 : x.pass.length = 0
      case' pos =>
        rw [hl0] at c9
        go_wp2_with fail
        refine (present_any (unhide HX) (unhide HN2)).mono ?_
        rintro e w3 ⟨v3, rfl, ho3, hb3⟩
        have hn3 := (unhide HN2).below hb3
        have hpl := present_len (unhide HX)
        have HM := hide (mixed_row (unhide HDL) (unhide HB) hn3 x.present (by omega) ho3 (fun k hk => (unhide HN2).feet_lt k hk))
        have HF3 := hide ((unhide HF2).step hb3)
        have HL3 := hide (fun k hk => (own_lt ho3 (k := k) hk).1)
        have hz3 := hb3.size
        have HFL := hide ((unhide HN2).feet_lt)
        have HAB := hide (heap_lt (unhide HN2).draw.ab)
        obtain ⟨ao3, cap3, hv3⟩ := own_form ho3
        obtain ⟨N, hN⟩ : ∃ N, N = x.present.length := ⟨_, rfl⟩
        rw [← hN] at hv3
        subst hv3
        clear ho3 hb3 hn3 HF2 HN2 c9 hN hpl
        go_wp2_with fail
        refine (unhide HM).mono ?_
        rintro e w4 ⟨rfl, hn4, hp4, hf4⟩
        have c9 := hn4.c_pass
        have f9 := free_at hn4.blk 9
        have l4 := hn4.lt
        have hs4 := hn4.setPass hp4 (fun e => by have h1 := (unhide HL3) _ e; have h2 := unhide HAB; omega)
        have HN5 := hide hs4.1
        have HF5 := hide (((unhide HF3).trans hf4 (fun j hj => by
          rcases List.mem_cons.1 hj with h | h
          · exact .inl (by simp [feet, Dk.all, h])
          · exact .inr (by have := (unhide HL3) j (Option.mem_toList.1 h); omega))).trans hs4.2 (by simp [feet]))
        have hry : x.renew = { (x.mixed x.present).2 with pass := (x.mixed x.present).1 } := by simp [Nd.renew, hl0]
        rw [← hry] at HN5
        have HS5 := hide (fun k (hk : k ∈ feet nb mb cb (.slice ao3 N cap3) rv) => show k ∈ feet nb mb cb (.slice pao x.pass.length pcap) rv ∨ W.heap.size ≤ k from by
          simp only [feet, List.mem_cons, List.mem_append, Option.mem_toList] at hk ⊢
          rcases hk with h | h | h | h | h | h
          · exact .inl (.inl h)
          · exact .inl (.inr (.inl h))
          · exact .inl (.inr (.inr (.inl h)))
          · exact .inr (by have := (unhide HL3) k h; omega)
          · exact .inl (.inr (.inr (.inr (.inr (.inl h)))))
          · exact .inl (.inr (.inr (.inr (.inr (.inr h))))))
        clear hn4 hp4 hf4 hs4 HM HF3 hry HS2 HL3 HFL HAB
        rcases hyp : x.renew.pass with _ | ⟨t, r⟩
        · have hN0 : N = 0 := by
            obtain ⟨ao, cap, e⟩ := (unhide HN5).pass.form
            rw [hyp] at e
            cases e; rfl
          subst hN0
          have he : x.probeNext = ([], x.renew) := by rw [unhide HPN]; simp [Nd.probeOne, hyp]
          go_wp2
          go_ret
          rw [he]
          exact ⟨_, rfl, outs_nil _ _, _, rv, unhide HN5, unhide HF5, unhide HS5⟩
        rcases (unhide HN5).pass with ⟨_, e0⟩ | ⟨b, off, cap', cs, e0, _⟩
        · rw [hyp] at e0; cases e0
        rw [hyp] at e0
        simp only [Value.slice.injEq] at e0
        obtain ⟨rfl, hNL, rfl⟩ := e0
        have hN1 : ((N : Int) == 0) = false := by rw [beq_eq_false_iff_ne, hNL]; simp; omega
        have HYP := hide hyp
        have HNL : Hid (N = r.length + 1) := hide hNL
        clear hyp hl0 hNL
        go_wp2_with fail
        generalize w4.setCell ⟨nb, 9, none⟩ (.slice (some ⟨b, off, none⟩) N cap3) = w5 at HN5 HF5 ⊢
        clear c9 f9 l4 hz3
      case' neg =>
        obtain ⟨t, r, hyp0⟩ : ∃ t r, x.pass = t :: r := by
          cases h : x.pass with
          | nil => rw [h] at hl0; exact absurd rfl hl0
          | cons t r => exact ⟨t, r, rfl⟩
        have hrx : x.renew = x := by simp [Nd.renew, hl0]
        have hyp : x.renew.pass = t :: r := by rw [hrx]; exact hyp0
        rcases (unhide HN2).pass with ⟨_, e0⟩ | ⟨b, off, cap3, cs, e0, _⟩
        · rw [hyp0] at e0; cases e0
        simp only [Value.slice.injEq] at e0
        obtain ⟨rfl, _, hcc⟩ := e0
        have hcc := hcc.symm
        subst hcc
        obtain ⟨N, hN⟩ : ∃ N, N = x.pass.length := ⟨_, rfl⟩
        have HNL : Hid (N = r.length + 1) := hide (by rw [hN, hyp0]; rfl)
        have hN1 : ((N : Int) == 0) = false := by rw [beq_eq_false_iff_ne, hN, hyp0]; simp; omega
        have HYP := hide hyp
        have HF5 := HF2
        have HN5 := hide (show NAt w2 nb mb cb (.slice (some ⟨b, off, none⟩) N cap3) rv x.renew from by rw [hrx, hN]; exact unhide HN2)
        have HS5 := hide (fun k (hk : k ∈ feet nb mb cb (.slice (some ⟨b, off, none⟩) N cap3) rv) => show k ∈ feet nb mb cb (.slice (some ⟨b, off, none⟩) x.pass.length cap3) rv ∨ W.heap.size ≤ k from by rw [hN] at hk; exact .inl hk)
        rw [← hN] at c9
        clear HN2 HF2 HS2 hyp hrx hN hyp0 hl0
        go_wp2_with fail
        generalize w2 = w5 at *
        clear c9
      all_goals
        have hn5 := unhide HN5
        have c9 := hn5.c_pass
        have c7 := hn5.c_clock
        have l5 := hn5.lt
        have hbb : b < w5.heap.size ∧ w5.cell? ⟨b, off, none⟩ = some (.int .i64 t) ∧ b ≠ nb := by
          obtain ⟨cs, hb⟩ := hn5.pass.blk (k := b) rfl
          refine ⟨lt_blk hb, ?_, (hn5.pass_ne (k := b) rfl).1⟩
          rcases hn5.pass with ⟨e0, _⟩ | ⟨b', off', cap', cs', e0, hb', _, _, hcs⟩
          · cases e0
          · simp only [Value.slice.injEq, Option.some.injEq, Addr.mk.injEq] at e0
            obtain ⟨⟨rfl, rfl, _⟩, _, _⟩ := e0
            have := hcs 0 (by rw [unhide HYP]; simp)
            rw [cell_at hb']
            simpa [unhide HYP] using this
        obtain ⟨l6, d0, hbn⟩ := hbb
        have HNX := hide (next_any (renew_b (unhide HX) (unhide HB) |>.mono (by unfold Bg Big; omega)) hn5.drew)
        have hN2 : (0 : Int) < (N : Int) := by have := unhide HNL; omega
        have hN3 : 0 < N := by have := unhide HNL; omega
        have hbn' : ¬ nb = b := fun e => hbn e.symm
        have hbn2 : ¬ b = nb := hbn
        obtain ⟨Y, hY⟩ : ∃ Y, Y = x.renew := ⟨_, rfl⟩
        rw [← hY] at c7 HNX
        have HYE := hide hY
        clear hn5 hY
        go_region_held3 (fun w' => w'.cell? ⟨nb, 9, none⟩ = some (.slice (some ⟨b, off, none⟩) N cap3) ∧ w'.cell? ⟨b, off, none⟩ = some (.int .i64 t) ∧ w'.cell? ⟨nb, 7, none⟩ = some (.int .i64 Y.clock)) (simp [*, World.cell?_setCell_other])
          (first
            | (go_at_call 60; refine (unhide HNX).mono ?_; rintro e w6 ⟨rfl, hn6, hf6⟩; have p9 := hn6.c_pass; have p7 := hn6.c_clock; have pd := ((World.cell?_of_block (hf6.block b l6 (by simpa using hbn)) : w6.cell? ⟨b, off, none⟩ = _)).trans d0; have g10 := hn6.c_ptgt; have g11 := hn6.c_pnum; have g12 := hn6.c_pst; have g13 := hn6.c_pack; have f10 := free_at hn6.blk 10; have f11 := free_at hn6.blk 11; have f12 := free_at hn6.blk 12; have f13 := free_at hn6.blk 13; have HN6 := hide hn6; have HF6 := hide ((unhide HF5).trans (S' := [nb]) ⟨hf6.os, hf6.tape, hf6.output, hf6.size, hf6.block⟩ (by simp [feet])); have l66 := hn6.lt; clear hn6 hf6))
        have HN7 := hide ((unhide HN6).aims t).1
        have HF7 := hide ((unhide HF6).trans ((unhide HN6).aims t).2 (by simp [feet]))
        clear HN6 HF6 p9 p7 pd g10 g11 g12 g13 f10 f11 f12 f13 l66 c9 c7 d0 l5 l6 HNX HN5 HF5
        generalize ((((w6.setCell ⟨nb, 10, none⟩ (.int .i64 t)).setCell ⟨nb, 11, none⟩ (.int .i64 (Y.num + 1))).setCell ⟨nb, 12, none⟩ (.int .i64 Y.clock)).setCell ⟨nb, 13, none⟩ (.bool false)) = w7 at HN7 HF7 ⊢
        have hn7 := unhide HN7
        have c9 := hn7.c_pass
        have f9 := free_at hn7.blk 9
        have l7 := hn7.lt
        have hcap : 1 ≤ cap3 := by
          rcases hn7.pass with ⟨e0, _⟩ | ⟨b', off', cap', cs', e0, hb', h1, _, hcs⟩
          · cases e0
          · simp only [Value.slice.injEq] at e0; omega
        have hNc : N ≤ cap3 := by
          rcases hn7.pass with ⟨e0, _⟩ | ⟨b', off', cap', cs', e0, hb', h1, _, hcs⟩
          · cases e0
          · simp only [Value.slice.injEq] at e0; omega
        clear hn7
        have hpt0 : PassAt w7 (.slice (some ⟨b, off, none⟩) N cap3) (t :: r) := by
          have h1 := (unhide HN7).pass
          have e : (Y.aims t).pass = t :: r := by
            show Y.pass = _
            rw [unhide HYE]; exact unhide HYP
          rw [e] at h1
          exact h1
        have hpt := hpt0.tail
        clear hpt0
        have HPT := hide hpt
        have hsp := (unhide HN7).draw.sepp
        have HSP := hide hsp
        clear hpt hsp
        by_cases hc1 : cap3 = 1
        case' pos =>
          have HS8 := hide ((unhide HN7).setPass ((unhide HPT).2 hc1) (unhide HSP))
          have HFT := hide (fun k (hk : k ∈ feet nb mb cb (.slice (some ⟨b, off, none⟩) (N - 1) 0) rv) => (unhide HS5) k hk)
          go_wp2_with fail
          generalize w7.setCell ⟨nb, 9, none⟩ (.slice (some ⟨b, off, none⟩) (N - 1) 0) = w8 at HS8 ⊢
        case' neg =>
          have HS8 := hide ((unhide HN7).setPass ((unhide HPT).1) (unhide HSP))
          have HFT := hide (fun k (hk : k ∈ feet nb mb cb (.slice (some ⟨b, off + 1, none⟩) (N - 1) (cap3 - 1)) rv) => (unhide HS5) k hk)
          go_wp2_with fail
          generalize w7.setCell ⟨nb, 9, none⟩ (.slice (some ⟨b, off + 1, none⟩) (N - 1) (cap3 - 1)) = w8 at HS8 ⊢
        all_goals
          obtain ⟨hn8, hf8⟩ := unhide HS8
          have eY : ({ Y.aims t with pass := r } : Nd) = Y.begin t r := rfl
          rw [eY] at hn8
          have hYok : NdOk (Y.begin t r) := by rw [unhide HYE]; exact begin_ok (renew_ok (unhide HX)) (unhide HYP)
          have c10 := hn8.c_ptgt
          have c11 := hn8.c_pnum
          have e10 : (Y.begin t r).ptgt = t := rfl
          have e11 : (Y.begin t r).pnum = Y.num + 1 := rfl
          rw [e10] at c10
          rw [e11] at c11
          have HDI := hide (direct_any hYok hn8.drew 1 t (Y.num + 1) t)
          have HN8 := hide hn8
          have HF8 := hide ((unhide HF7).trans hf8 (by simp [feet]))
          have hpo : x.probeNext = ([(Y.begin t r).direct 1 t (Y.num + 1) t], (Y.begin t r).along) := by
            rw [unhide HPN, unhide HYE]
            simp only [Nd.probeOne, unhide HYP]
          have HPO := hide hpo
          generalize hPK : (Y.begin t r).direct 1 t (Y.num + 1) t = PK at HDI HPO
          have l8 := hn8.lt
          clear hn8 hf8 HS8 eY hYok e10 e11 hpo hPK HN7 HF7 HPT HSP c9 f9 l7
          go_region_held3 (fun w' => w'.cell? ⟨nb, 10, none⟩ = some (.int .i64 t) ∧ w'.cell? ⟨nb, 11, none⟩ = some (.int .i64 (Y.num + 1))) (go_keep)
            (first
              | (go_at_call 102; refine (unhide HDI).mono ?_; rintro e w9 ⟨rfl, hn9, hf9⟩; have q10 : w9.cell? ⟨nb, 10, none⟩ = some (.int .i64 t) := hn9.c_ptgt; have q11 : w9.cell? ⟨nb, 11, none⟩ = some (.int .i64 (Y.num + 1)) := hn9.c_pnum; have HN9 := hide hn9; have HF9 := hide ((unhide HF8).trans (S' := [mb]) ⟨hf9.os, hf9.tape, hf9.output, hf9.size, hf9.block⟩ (by simp [feet])); clear hn9 hf9))
          go_wp2
          go_ret
          rw [unhide HPO]
          exact ⟨_, rfl, outs_one PK (unhide HF9).size, _, rv, (unhide HN9).alloc _, (unhide HF9).alloc _, unhide HFT⟩
    · rintro e w2 ⟨rfl, hb2⟩
      have HB2 := hide ((unhide HB1).trans (hb2.mono (unhide HB1).size))
      clear hb2 HB1 HN1
      have he : x.probeNext = ([], x) := by simp [Nd.probeNext, hL]
      go_wp2
      go_ret
      rw [he]
      exact ⟨_, rfl, outs_nil _ _, NTo.here (unhide HN) (unhide HB2)⟩
  · have hp' : (x.ptgt == 0) = false := by simp [hp]
    rw [hp'] at HP
    have he : x.probeNext = ([], x) := by simp [Nd.probeNext, hp]
    go_enter Tryz.func71, Tryz.ntmps71
    go_wp2_with fail
    refine (unhide HP).mono ?_
    rintro e w1 ⟨rfl, hb1⟩
    have HB1 := hide hb1
    clear hb1 HP
    go_wp2
    go_ret
    rw [he]
    exact ⟨_, rfl, outs_nil _ _, NTo.here (unhide HN) (unhide HB1)⟩
end Go.Proofs.YtnneljcbelgoeaaGreatDoor.wire
