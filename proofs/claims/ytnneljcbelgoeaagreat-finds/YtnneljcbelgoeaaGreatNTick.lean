import Derived.Test.YtnneljcbelgoeaaGreatNOver
import Derived.Test.YtnneljcbelgoeaaGreatNEnds
import Derived.Test.YtnneljcbelgoeaaGreatNTick8
/- Tick (P9). -/
namespace Go.Proofs.YtnneljcbelgoeaaGreat.wire
open Go.RowKit Go.Maps

set_option maxHeartbeats 2000000 in
set_option maxRecDepth 100000 in
theorem goOn_any {x : Nd} (hx : NdOk x) (hdl : DlOk x.dl) (hB : NdB Bg x) {nb mb : Nat} {cb : Dk} {pv rv : Value} {W : World} (hn : NAt W nb mb cb pv rv x) :
    Calls Tryz.prog 32 #[.pointer (some ⟨nb, 0, none⟩)] W fun e w' => ∃ o, e = .returned o ∧ Outs W w' o x.goOn.1 ∧ NTo W w' nb mb cb pv rv x.goOn.2 := by
  have HP := hide (probing_any hn)
  have HX := hide hx
  have HN := hide hn
  have HB := hide hB
  have HDL := hide hdl
  have hlt := hn.lt
  have hcf := hx.cfg
  simp only [cfgB, Bool.and_eq_true, decide_eq_true_eq] at hcf
  obtain ⟨_, ⟨p1, p2⟩, ⟨v1, v2⟩, _⟩ := hcf
  obtain ⟨k1, k2⟩ := hB.clock
  obtain ⟨⟨k3, k4⟩, _⟩ := hB.tk
  unfold Bg at k2 k4
  clear hn hx hB hdl
  by_cases hp : x.ptgt = 0
  · have hp' : (x.ptgt == 0) = true := by simp [hp]
    rw [hp'] at HP
    have he : x.goOn = ([], x) := by simp [Nd.goOn, hp]
    rw [he]
    go_enter Tryz.func32, Tryz.ntmps32
    go_wp2_with fail
    refine (unhide HP).mono ?_
    rintro e w1 ⟨rfl, hb1⟩
    have HB1 := hide hb1
    clear hb1 HP
    go_wp2
    go_ret
    exact ⟨_, rfl, outs_nil _ _, NTo.here (unhide HN) (unhide HB1)⟩
  · have hp' : (x.ptgt == 0) = false := by simp [hp]
    rw [hp'] at HP
    go_enter Tryz.func32, Tryz.ntmps32
    go_wp2_with fail
    refine (unhide HP).mono ?_
    rintro e w1 ⟨rfl, hb1⟩
    have hn1 := (unhide HN).below hb1
    have c7 := hn1.c_clock
    have c12 := hn1.c_pst
    have c1 := hn1.c_period
    have c2 := hn1.c_wait
    have l1 := hn1.lt
    have HB1 := hide hb1
    have HN1 := hide hn1
    clear hb1 hn1 HP
    by_cases h1 : x.clock - x.pst = x.c.wait
    · have h1' : (x.clock - x.pst == x.c.wait) = true := by simp [h1]
      have he : x.goOn = x.askOthers := by simp [Nd.goOn, hp, h1]
      have HE := hide he
      have HA := fun n => hide (askOthers_any (unhide HX) (unhide HDL) (unhide HB) ((unhide HN1).drewN n))
      clear he h1
      go_wp2_with fail
      go_quiet (fail)
      go_wp2_with fail
      refine (unhide (HA _)).mono ?_
      rintro e w2 ⟨o, rfl, ho, hto⟩
      obtain ⟨oa, oc, rfl⟩ := own_form ho
      have HO := hide ho
      have HTO := hide hto
      clear ho hto HA
      go_wp2
      go_ret
      rw [unhide HE]
      exact ⟨_, rfl, own_mono (unhide HO) (unhide HB1).size, NTo.trans (Frm.of_below (bdrewN (unhide HB1) _) (Nat.le_refl _)) (fun k hk => .inl hk) (unhide HTO)⟩
    · have h1' : (x.clock - x.pst == x.c.wait) = false := by simp [h1]
      by_cases h2 : x.clock - x.pst = x.c.period
      · have h2' : (x.clock - x.pst == x.c.period) = true := by simp [h2]
        have he : x.goOn = ([], x.endProbe) := by
          unfold Nd.goOn
          rw [if_neg hp, if_neg h1, if_pos h2]
        have HE := hide he
        have HA := fun n => hide (endProbe_any (unhide HX) ((unhide HB).mono (by unfold Bg Big; omega)) ((unhide HN1).drewN n))
        clear he h1 h2
        go_wp2_with fail
        go_quiet (fail)
        go_wp2_with fail
        refine (unhide (HA _)).mono ?_
        rintro e w2 ⟨rfl, hto⟩
        have HTO := hide hto
        clear hto HA
        go_wp2
        go_ret
        rw [unhide HE]
        exact ⟨_, rfl, outs_nil _ _, NTo.trans (Frm.of_below (bdrewN (unhide HB1) _) (Nat.le_refl _)) (fun k hk => .inl hk) (unhide HTO)⟩
      · have h2' : (x.clock - x.pst == x.c.period) = false := by simp [h2]
        have he : x.goOn = ([], x) := by
          unfold Nd.goOn
          rw [if_neg hp, if_neg h1, if_neg h2]
        have HE := hide he
        clear he h1 h2
        go_wp2_with fail
        go_quiet (fail)
        go_wp2
        go_ret
        rw [unhide HE]
        exact ⟨_, rfl, outs_nil _ _, NTo.here (unhide HN) (bdrewN (unhide HB1) _)⟩
end Go.Proofs.YtnneljcbelgoeaaGreat.wire
