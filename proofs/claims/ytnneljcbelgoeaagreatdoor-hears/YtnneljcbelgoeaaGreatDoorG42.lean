import Derived.Test.YtnneljcbelgoeaaGreatDoorG41
import Derived.Outline
/- The document's node: a probe goes on, or ends (P9). -/
namespace Go.Proofs.YtnneljcbelgoeaaGreatDoor.wire
open Go.RowKit Go.Maps

theorem asks_keep : ∀ (n : Nat) (l : List Int) (r : Rn), (r.asks n l).probe = r.probe ∧ (r.asks n l).clock = r.clock ∧ (r.asks n l).start = r.start ∧ (r.asks n l).acked = r.acked ∧ (r.asks n l).others = r.others ∧ (r.asks n l).c = r.c
  | 0, _, _ => ⟨rfl, rfl, rfl, rfl, rfl, rfl⟩
  | n + 1, l, r => by
    by_cases h : l.length = 0
    · rw [asks_none r (n + 1) l (.inr h)]; exact ⟨rfl, rfl, rfl, rfl, rfl, rfl⟩
    · rw [asks_some r n l (by omega)]
      obtain ⟨a, b, c, d, e, f⟩ := asks_keep n (l.eraseIdx (r.draw l.length).1.toNat) ((r.draw l.length).2.direct (l.getD (r.draw l.length).1.toNat 0) 3 (r.draw l.length).2.no (r.draw l.length).2.probe)
      have k : ∀ q : Rn, ∀ a k s t : Int, (q.direct a k s t).probe = q.probe ∧ (q.direct a k s t).clock = q.clock ∧ (q.direct a k s t).start = q.start ∧ (q.direct a k s t).acked = q.acked ∧ (q.direct a k s t).others = q.others ∧ (q.direct a k s t).c = q.c := fun q a k s t => ⟨rfl, rfl, rfl, rfl, rfl, rfl⟩
      have k2 : (r.draw l.length).2.probe = r.probe ∧ (r.draw l.length).2.clock = r.clock ∧ (r.draw l.length).2.start = r.start ∧ (r.draw l.length).2.acked = r.acked ∧ (r.draw l.length).2.others = r.others ∧ (r.draw l.length).2.c = r.c := by
        unfold Rn.draw
        split <;> exact ⟨rfl, rfl, rfl, rfl, rfl, rfl⟩
      obtain ⟨p1, p2, p3, p4, p5, p6⟩ := k (r.draw l.length).2 (l.getD (r.draw l.length).1.toNat 0) 3 (r.draw l.length).2.no (r.draw l.length).2.probe
      obtain ⟨q1, q2, q3, q4, q5, q6⟩ := k2
      exact ⟨a.trans (p1.trans q1), b.trans (p2.trans q2), c.trans (p3.trans q3), d.trans (p4.trans q4), e.trans (p5.trans q5), f.trans (p6.trans q6)⟩
set_option maxHeartbeats 2000000 in
set_option maxRecDepth 100000 in
/-- The end of a probe. (Of the code it is the rest of probing.) -/
theorem rprobing_any {B e : Int} {x : Nd} {r : Rn} (hz : Az B e x r) (hB : B ≤ 999999998000) (hout : r.out.length ≤ 900) (hbd : RBd r) (hbd1 : RBd r.ask) (hpd : r.start ≤ r.clock ∧ 0 ≤ r.start) (hkey : ∀ m ∈ r.others, isKeyB m.k = true) {W : World} {b : Nat} {v : Rv} (h : RAt W b v r) :
    Calls Tryz.prog 73 #[.pointer (some ⟨b, 0, none⟩)] W fun e w' => e = .returned (.tuple #[]) ∧ RTo W w' b v r.probing := by
  have c8 := h.cell 8
  have c16 := h.cell 16
  have c2 := h.cell 2
  have c18 := h.cell 18
  have hlt := h.ltb
  simp only [refC, List.getElem?_toArray, List.getElem?_cons_zero, List.getElem?_cons_succ] at c8 c16 c2 c18
  have hcl := hbd.clock
  have H0 := hide h
  have HZ := hide hz
  have HA := hide (fun q => rask_any hz hB hout (h.drewN q))
  obtain ⟨cond, hcond⟩ : ∃ c : Bool, c = (decide (r.clock - r.start = r.c.wait) && !r.acked) := ⟨_, rfl⟩
  obtain ⟨R1, hR1⟩ : ∃ R1 : Rn, R1 = if cond then r.ask else r := ⟨_, rfl⟩
  obtain ⟨ak1, ak2, ak3, ak4, ak5, ak6⟩ := asks_keep r.c.proxies.toNat (idsOf (fun m => decide (m.k.st ≤ 2) && !(m.k.id == r.probe)) r.others) r
  have hask : r.ask = r.asks r.c.proxies.toNat (idsOf (fun m => decide (m.k.st ≤ 2) && !(m.k.id == r.probe)) r.others) := rfl
  rw [← hask] at ak1 ak2 ak3 ak4 ak5 ak6
  have hk1 : R1.probe = r.probe ∧ R1.acked = r.acked ∧ R1.others = r.others ∧ R1.c = r.c ∧ RBd R1 := by
    rw [hR1]
    cases cond
    · exact ⟨rfl, rfl, rfl, rfl, hbd⟩
    · exact ⟨ak1, ak4, ak5, ak6, hbd1⟩
  have hpr : r.probing = if r.clock - r.start < r.c.period then R1 else R1.endProbe := by
    unfold Rn.probing
    rw [hR1, hcond]
    by_cases e1 : r.clock - r.start = r.c.wait
    · cases ea : r.acked
      · rw [if_pos ⟨e1, rfl⟩]; simp [e1]
      · rw [if_neg (by simp)]; simp
    · rw [if_neg (fun hh => e1 hh.1)]; simp [e1]
  have HPR := hide hpr
  have HC := hide hcond
  have HR1 := hide hR1
  have HK1 := hide hk1
  have HKEY := hide hkey
  clear h hz hbd hbd1 ak1 ak2 ak3 ak4 ak5 ak6 hask hk1 hpr hcond hkey hR1
  go_enter Tryz.func73, Tryz.ntmps73
  go_wp2
  go_quiet (fail)
  go_upto_region 1 with fail
  go_cut [28] (fun p wq => p = .bool cond ∧ ∃ q, wq = W.drewN q)
  case first =>
    by_cases e1 : r.clock - r.start = r.c.wait
    · have e1' : ((r.clock - r.start) == r.c.wait) = true := by simpa using e1
      cases ea : r.acked with
      | false =>
        have E : Hid (cond = true) := hide (by rw [unhide HC, ea]; simp [e1])
        rw [ea] at c18
        clear e1 ea
        go_wp2
        go_meet
        case rel => exact ⟨by rw [unhide E], _, rfl⟩
      | true =>
        have E : Hid (cond = false) := hide (by rw [unhide HC, ea]; simp)
        rw [ea] at c18
        clear e1 ea
        go_wp2
        go_meet
        case rel => exact ⟨by rw [unhide E], _, rfl⟩
    · have e1' : ((r.clock - r.start) == r.c.wait) = false := by simpa using e1
      have E : Hid (cond = false) := hide (by rw [unhide HC]; simp [e1])
      clear e1
      go_wp2
      go_meet
      case rel => exact ⟨by rw [unhide E], _, rfl⟩
  case rest =>
   obtain ⟨rfl, q, hwc⟩ := hcut
   subst hwc
   go_upto_if 28 with fail
   go_cut [] (fun wq => RTo W wq b v R1)
   case first =>
    have HS' := hide (RTo.same (unhide H0) (bdrewN (Below.refl _ _) q))
    cases cond with
    | true =>
      have E : Hid (R1 = r.ask) := hide (by rw [unhide HR1]; simp)
      go_wp2_with fail
      refine (unhide HA _).mono ?_
      rintro e w3 ⟨rfl, h3⟩
      have HT := hide (RTo.from (bdrewN (Below.refl _ _) _) h3)
      clear h3
      go_wp2
      go_meet
      case rel => (rw [unhide E]; exact unhide HT)
    | false =>
      have E : Hid (R1 = r) := hide (by rw [unhide HR1]; simp)
      go_wp2
      go_meet
      case rel => (rw [unhide E]; exact unhide HS')
   case rest =>
    obtain ⟨w2, hw2⟩ : ∃ w2, w2 = wc := ⟨_, rfl⟩
    rw [← hw2] at hcut ⊢
    clear hw2 c8 c16 c2 c18 hlt HA HR1 HC H0
    obtain ⟨n1, n2, n3, n4, n5⟩ := unhide HK1
    obtain ⟨v1, hd1, ha1, hf1, hs1⟩ := hcut
    have c1 := ha1.cell 1
    have c15 := ha1.cell 15
    have f15 := ha1.free 15
    have hlt1 := ha1.ltb
    simp only [refC, List.getElem?_toArray, List.getElem?_cons_zero, List.getElem?_cons_succ] at c1 c15
    rw [n4] at c1
    have HTT := hide (fun w' (Q : Rn) (h : RTo w2 w' b v1 Q) => RTo.trans hd1 hf1 hs1 h)
    by_cases hp : r.clock - r.start < r.c.period
    · have HE : Hid (r.probing = R1) := hide (by rw [unhide HPR, if_pos hp])
      have HT := hide (unhide HTT _ _ (RTo.same ha1 (Below.refl _ _)))
      clear ha1 hf1 hs1 hd1 n1 n2 n3 n4 n5
      go_wp2
      refine bodyPost_ret (results_none rfl _ _ _) rfl ?_
      rw [unhide HE]
      exact ⟨rfl, unhide HT⟩
    · have HE : Hid (r.probing = R1.endProbe) := hide (by rw [unhide HPR, if_neg hp])
      have HKE : Hid (∀ m ∈ R1.others, isKeyB m.k = true) := hide (by rw [n3]; exact unhide HKEY)
      have HPB : Hid (1 ≤ R1.probe ∧ R1.probe ≤ 250) := hide (by rw [n1]; exact (unhide HZ).bounds.2.2.1)
      obtain ⟨k3, t3⟩ := ha1.set 15 (.int .i64 0) (r' := { R1 with probe := 0 }) rfl
      have hbd3 : RBd { R1 with probe := 0 } := ⟨n5.evs, n5.queue, n5.lost, n5.clock, n5.susp, n5.len, n5.rise, n5.pass⟩
      have HF := hide (rfind_any k3 n5.rise (by have := n5.len; simp only; omega) R1.probe)
      have HB3 := hide hbd3
      have K3 := hide k3
      have HF3 := hide (frm_own w2 b v1 (j := 15) (.int .i64 0))
      clear ha1 hf1 hs1 hd1 n1 n2 n3 n4 k3 t3 hbd3
      have HN5 := hide n5
      clear n5
      go_wp2_with fail
      generalize w2.setCell ⟨b, 15, none⟩ (.int .i64 0) = w3 at HF K3 HF3 ⊢
      refine (unhide HF).mono ?_
      rintro e w4 ⟨rfl, hb4⟩
      have h4 := (unhide K3).below hb4
      obtain ⟨oo, oc, hov, hob, hocc, _⟩ := row_form h4.rows.o
      have how : w4.ownsRow 0 134 4 (.slice oo R1.others.length oc) R1.others.length (R1.others.flatMap rmC) := hov ▸ h4.rows.o
      have c13 := h4.cell 13
      have c18 := h4.cell 18
      have hlt4 := h4.ltb
      simp only [refC, List.getElem?_toArray, List.getElem?_cons_zero, List.getElem?_cons_succ, hov] at c13 c18
      have HTW := hide (fun w' (Q : Rn) (h : RTo w4 w' b v1 Q) => unhide HTT w' Q (RTo.then' (unhide HF3) (RTo.from hb4 h)))
      have HEP : Hid (R1.endProbe = match findR R1.probe R1.others with | some o => if !R1.acked && decide (o.k.st = 1) then ({ R1 with probe := 0 } : Rn).heard ⟨R1.probe, o.k.inc, 2⟩ else { R1 with probe := 0 } | none => { R1 with probe := 0 }) := hide rfl
      have H4 := hide h4
      have HT0 := hide (unhide HTW w4 _ (RTo.same h4 (Below.refl _ _)))
      cases ea : R1.acked with
      | true =>
        have E : Hid (R1.endProbe = { R1 with probe := 0 }) := hide (by
          rw [unhide HEP]
          cases findR R1.probe R1.others with
          | none => rfl
          | some o => simp [ea])
        rw [ea] at c18
        clear ea h4 hb4 how hov
        go_wp2
        go_end0
        rw [unhide HE, unhide E]
        exact ⟨rfl, unhide HT0⟩
      | false =>
        rw [ea] at c18
        rcases htr : thereR R1.probe R1.others with _ | _
        · have E : Hid (R1.endProbe = { R1 with probe := 0 }) := hide (by rw [unhide HEP, there_not htr])
          clear ea h4 hb4 how hov
          go_wp2
          go_end0
          rw [unhide HE, unhide E]
          exact ⟨rfl, unhide HT0⟩
        · obtain ⟨hpl, hpi, hpf⟩ := there_pos (unhide HN5).rise htr
          obtain ⟨g, hg, hgl⟩ := hob (by simp only; omega)
          subst hg
          have q1 := row_cell rmC 4 (fun _ => rfl) how (posR R1.probe R1.others) hpl 1 (by omega)
          have q2 := row_cell rmC 4 (fun _ => rfl) how (posR R1.probe R1.others) hpl 2 (by omega)
          simp only [rmC, List.getElem?_cons_zero, List.getElem?_cons_succ] at q1 q2
          have hkm := unhide HKE _ (List.getElem_mem hpl)
          have hpli : (posR R1.probe R1.others : Int) < (R1.others.length : Int) := by omega
          have HPF := hide hpf
          rw [hpf] at HEP
          generalize R1.others[posR R1.probe R1.others] = O at q1 q2 hpi hkm HEP
          obtain ⟨⟨oi, oa, os⟩, od⟩ := O
          simp only at q1 q2 hpi hkm
          by_cases h1 : os = 1
          · have h1' : (os == 1) = true := by simpa using h1
            have E : Hid (R1.endProbe = ({ R1 with probe := 0 } : Rn).heard ⟨R1.probe, oa, 2⟩) := hide (by rw [unhide HEP]; simp [ea, h1])
            have hk2 : isKeyB ⟨R1.probe, oa, 2⟩ = true := by
              have hkb := key_bounds hkm
              have := unhide HPB
              simp only [isKeyB, Bool.and_eq_true] at hkm ⊢
              exact ⟨isId_mk this.1 this.2, hkm.2.1, rfl⟩
            have HC := hide (rheard_any (unhide H4) (unhide HB3) ⟨R1.probe, oa, 2⟩ hk2)
            clear ea h4 hb4 how hov h1 hpf hk2
            go_wp2_with fail
            refine (unhide HC).mono ?_
            rintro e w5 ⟨rfl, h5⟩
            have HT5 := hide (unhide HTW w5 _ h5)
            clear h5 HC
            go_wp2
            go_end0
            rw [unhide HE, unhide E]
            exact ⟨rfl, unhide HT5⟩
          · have h1' : (os == 1) = false := by simpa using h1
            have E : Hid (R1.endProbe = { R1 with probe := 0 }) := hide (by rw [unhide HEP]; simp [h1])
            clear ea h4 hb4 how hov h1 hpf
            go_wp2
            go_end0
            rw [unhide HE, unhide E]
            exact ⟨rfl, unhide HT0⟩
end Go.Proofs.YtnneljcbelgoeaaGreatDoor.wire
/- The document's node: the ghosts of a tick (P9). No Go here. -/
namespace Go.Proofs.YtnneljcbelgoeaaGreatDoor.wire
open Go.RowKit Go.Maps

/-- The document's node in the midst of a tick. -/
structure Gt (B : Int) (y : Nd) (q : Rn) : Prop where
  rf : Rf y q
  ok : NdOk y
  rl : RlE 1 y
  b : NdB B y
  dl : DlOk y.dl
  out : q.out = []
  num : y.num ≤ 4000000000
theorem Gt.bs {B : Int} {y : Nd} {q : Rn} (h : Gt B y q) (hB : B ≤ Big) : RBs q := RBs.of h.rf h.ok (h.b.mono hB) h.dl (by rw [h.out]; simp)
theorem Gh.later {B : Int} {x : Nd} {r : Rn} (h : Gh B x r) : Gt (B + 1) x.later.endRelays r.later := by
  have hl := h.rl
  have hb := h.b
  refine ⟨h.rf.later h.ok, endRelays_ok (later_ok h.ok), ⟨hl.rel.filter (fun r => !decide (r.till ≤ x.clock + 1)) rfl (Int.le_refl _), fun q hq => hl.rng q (List.mem_filter.1 hq).1, fun hh => by
    obtain ⟨a, b, c⟩ := hl.prb hh
    exact ⟨a, by show x.pst ≤ x.clock + 1; omega, by show x.clock + 1 < x.pst + x.c.period + 1; omega⟩, hl.own⟩, ⟨?_, ?_, ?_, ?_, ?_⟩, h.dl, rfl, h.num⟩
  · have := hb.clock; show 0 ≤ x.clock + 1 ∧ x.clock + 1 ≤ B + 1; omega
  · have := hb.num; show 0 ≤ x.num ∧ x.num ≤ B + 1; omega
  · have := hb.dropped; show 0 ≤ x.dropped ∧ x.dropped ≤ B + 1; omega
  · have := hb.lost; show 0 ≤ x.lost ∧ x.lost ≤ B + 1; omega
  · have := hb.tk; show (0 ≤ x.pst ∧ x.pst ≤ B + 1) ∧ (x.dat : Int) ≤ B + 1; omega
theorem Gt.sus {B : Int} {x : Nd} {r : Rn} (h : Gt B x r) (i : Nat) (hi : i ≤ r.others.length) : ∃ y, Gt (B + i) y (r.sus i) ∧ (r.sus i).others.length = r.others.length := by
  have hle : i ≤ x.rest.length := by rw [h.rf.others, List.length_map] at hi; exact hi
  obtain ⟨y, hy, hf, hok, hrl, hout, hlen, _, _⟩ := h.rf.sus h.ok h.rl i hle
  refine ⟨y, ⟨hf, hok, hrl, ?_, by rw [hy, deads_dl]; exact h.dl, by rw [hout]; exact h.out, by rw [hy, deads_num]; exact h.num⟩, by rw [hf.others, h.rf.others, List.length_map, List.length_map, hlen]⟩
  have hb := deads_b ((x.rest.take i).filter (overB x.clock)) h.b
  rw [← hy] at hb
  refine hb.mono ?_
  have : ((x.rest.take i).filter (overB x.clock)).length ≤ i := Nat.le_trans (List.length_filter_le _ _) (by simp; omega)
  omega
theorem Gt.keys {B : Int} {y : Nd} {q : Rn} (h : Gt B y q) : ∀ m ∈ q.others, isKeyB m.k = true := fun m hm => by
  rw [h.rf.others] at hm
  obtain ⟨a, ha, rfl⟩ := List.mem_map.1 hm
  exact h.ok.keys a (List.mem_filter.1 ha).1
/-- What probing asks. -/
theorem Gt.az {B : Int} {y : Nd} {q : Rn} (h : Gt B y q) (hp : 0 < q.probe) : Az B 1 y q := ⟨h.rf, h.ok, h.rl, by rw [h.rf.probe] at hp; omega, h.dl, h.b.tk.2, by rw [h.out]; simp⟩
theorem Gt.asked {B : Int} {y : Nd} {q : Rn} (h : Gt B y q) (hp : 0 < q.probe) (hB : B + 10 ≤ Big) : RBd q.ask := by
  have hne : y.ptgt ≠ 0 := by rw [h.rf.probe] at hp; omega
  have hpx : q.c.proxies.toNat ≤ 3 := by
    have hcf := h.ok.cfg
    simp only [cfgB, Bool.and_eq_true, decide_eq_true_eq] at hcf
    rw [h.rf.c]; omega
  have hask : q.ask = q.asks q.c.proxies.toNat (idsOf (fun m => decide (m.k.st ≤ 2) && !(m.k.id == q.probe)) q.others) := rfl
  generalize idsOf (fun m => decide (m.k.st ≤ 2) && !(m.k.id == q.probe)) q.others = L at hask
  obtain ⟨a1, a2, a3, a4, a5, a6, a7⟩ := h.rf.asks q.c.proxies.toNat L h.ok h.rl hne
  have hok := asks_ok (min q.c.proxies.toNat L.length) L h.ok
  have hb := asks_b (min q.c.proxies.toNat L.length) L h.b
  have hb' := hb.mono (C := Big) (by have : (min q.c.proxies.toNat L.length : Nat) ≤ 3 := by omega
                                     omega)
  rw [hask]
  have hdl : (y.asks (min q.c.proxies.toNat L.length) L).2.dl = y.dl := by
    exact asks_dl _ _ _
  exact (RBs.of (r := { q.asks q.c.proxies.toNat L with out := [] }) (a2.sent []) hok hb' (by rw [hdl]; exact h.dl) (by simp)).toRBd |> fun k => ⟨k.evs, k.queue, k.lost, k.clock, k.susp, k.len, k.rise, k.pass⟩
end Go.Proofs.YtnneljcbelgoeaaGreatDoor.wire
/- The document's node: Tick (P9). -/
namespace Go.Proofs.YtnneljcbelgoeaaGreatDoor.wire
open Go.RowKit Go.Maps

theorem sus_step (r : Rn) (i : Nat) (h : i < (r.sus i).others.length) : r.sus (i + 1) = if decide ((r.sus i).others[i].k.st = 2) && decide ((r.sus i).others[i].due ≤ (r.sus i).clock) then (r.sus i).heard ⟨(r.sus i).others[i].k.id, (r.sus i).others[i].k.inc, 3⟩ else r.sus i := by
  conv => lhs; unfold Rn.sus
  rw [getBang _ i h]
set_option maxHeartbeats 4000000 in
set_option maxRecDepth 100000 in
theorem rtick_any {B : Int} {x : Nd} {r : Rn} (hg : Gh B x r) (hB : B ≤ 999999990000) {W : World} {b : Nat} {v : Rv} (h : RAt W b v r) :
    Calls Tryz.prog 42 #[.pointer (some ⟨b, 0, none⟩)] W fun e w' => ∃ o, e = .returned o ∧ RToX W w' b v r.tick o := by
  obtain ⟨ha1, hf1, hs1⟩ := h.mute
  have hbs := hg.bs (by unfold Big; omega)
  have hcl := hbs.clock
  have hbc := hg.b.clock
  rw [← hg.rf.clock] at hbc
  have hrl := hbs.rels
  have c24 := h.cell 24
  have f24 := h.free 24
  have hlt := h.ltb
  have c8 := h.cell 8
  have f8 := h.free 8
  obtain ⟨xo, xc, hxv, _⟩ := row_form h.rows.x
  simp only [refC, List.getElem?_toArray, List.getElem?_cons_zero, List.getElem?_cons_succ, hxv] at c24 c8
  obtain ⟨k2, t2⟩ := ha1.set 8 (.int .i64 (r.clock + 1)) (r' := { r with out := [], clock := r.clock + 1 }) rfl
  have hf2 : Frm (rfeet b v) W ((W.setCell ⟨b, 24, none⟩ (.slice none 0 0)).setCell ⟨b, 8, none⟩ (.int .i64 (r.clock + 1))) := hf1.trans (frm_set _ b 8 _) (by simp [rfeet])
  obtain ⟨v1, hv1⟩ : ∃ v1 : Rv, v1 = { v with x := .slice none 0 0 } := ⟨_, rfl⟩
  have hvd : v1.d = v.d := by rw [hv1]
  rw [← hv1] at k2 hs1
  have HFIN : Hid (∀ (w' : World) (R : Rn), RTo ((W.setCell ⟨b, 24, none⟩ (.slice none 0 0)).setCell ⟨b, 8, none⟩ (.int .i64 (r.clock + 1))) w' b v1 R → ∃ ao n c, w'.cell? ⟨b, 24, none⟩ = some (.slice ao n c) ∧ b < w'.heap.size ∧ RToX W w' b v R (.slice ao n c)) := hide (fun w' R hR => by
    obtain ⟨v7, hd7, ha7, hf7, hs7⟩ := RTo.trans hvd hf2 hs1 hR
    obtain ⟨ao, cap, hx, _⟩ := row_form ha7.rows.x
    have c := ha7.cell 24
    simp only [refC, List.getElem?_toArray, List.getElem?_cons_zero, List.getElem?_cons_succ, hx] at c
    exact ⟨ao, _, cap, c, ha7.ltb, v7, hd7, ha7, hf7, hs7, hx.symm⟩)
  have HK2 := hide k2
  have HLO := hide hbs.len
  have HG := hide hg
  have HGL := hide hg.later
  clear h ha1 hf1 hs1 hxv k2 t2 hf2 hv1 hvd hbs hg
  go_enter Tryz.func42, Tryz.ntmps42
  go_wp2_with fail
  generalize (W.setCell ⟨b, 24, none⟩ (.slice none 0 0)).setCell ⟨b, 8, none⟩ (.int .i64 (r.clock + 1)) = w2 at HFIN HK2 ⊢
  obtain ⟨lo, lc, hlv, hlb, hlcc, _⟩ := row_form (unhide HK2).rows.l
  have HOL := hide (hlv ▸ (unhide HK2).rows.l : w2.ownsRow 0 132 5 (.slice lo r.rels.length lc) r.rels.length (r.rels.flatMap rrC))
  have c20 := (unhide HK2).cell 20
  have d8 := (unhide HK2).cell 8
  have f20 := (unhide HK2).free 20
  have hlt2 := (unhide HK2).ltb
  simp only [refC, List.getElem?_toArray, List.getElem?_cons_zero, List.getElem?_cons_succ, hlv] at c20 d8
  have HLB := hide hlb
  have HLA : Hid (r.later = { r with out := [], clock := r.clock + 1, rels := r.rels.filter (fun q => decide (r.clock + 1 < q.till)) }) := hide rfl
  obtain ⟨Q, hQ⟩ : ∃ Q, Q = r.rels := ⟨_, rfl⟩
  rw [← hQ] at HOL c20 HLB hlcc hrl HLA
  obtain ⟨cl, hcl'⟩ : ∃ cl, cl = r.clock + 1 := ⟨_, rfl⟩
  rw [← hcl'] at d8 HLA
  have HCL := hide hcl'
  have hclb : 0 ≤ cl ∧ cl ≤ 1000000000001 := by omega
  clear hcl'
  clear hlb hlv c24 f24 c8 f8 hQ hlt
  go_loopw [3, 4] (fun l i wr => ∃ k : Nat, i = .int .i64 k ∧ k ≤ Q.length ∧ Fi rrC 132 5 w2 wr l ((Q.take k).filter (fun q => decide (cl < q.till)))) (fun _ i _ => Q.length - (Go.RowKit.intOf i).toNat)
  case atStart => exact ⟨0, by go_num, by omega, by simpa using Fi.nil _ _ _ (Below.refl _ _)⟩
  case round =>
    obtain ⟨k, rfl, hk, hfi⟩ := hrel
    have hbw := hfi.below
    have e20 := (hbw.cell (p := ⟨b, 20, none⟩) hlt2).trans c20
    have e8 := (hbw.cell (p := ⟨b, 8, none⟩) hlt2).trans d8
    have g20 := (hbw.frozen (p := ⟨b, 20, none⟩) hlt2).trans f20
    have hwz := hbw.size
    obtain ⟨ro, rc, hrv, _⟩ := row_form hfi.own
    have hfl : ((Q.take k).filter (fun q => decide (cl < q.till))).length ≤ Q.length := Nat.le_trans (List.length_filter_le _ _) (by simp; omega)
    subst hrv
    have HFI := hide hfi
    by_cases hlt3 : k < Q.length
    · obtain ⟨g, hg, hgl⟩ := unhide HLB (by omega)
      subst hg
      have hcell : ∀ j, j < 5 → wr.cell? ⟨g, k * 5 + j, none⟩ = (rrC Q[k])[j]? := fun j hj => (hbw.cell (p := ⟨g, k * 5 + j, none⟩) hgl).trans (row_cell rrC 5 (fun _ => rfl) (unhide HOL) k hlt3 j hj)
      have q0 := hcell 0 (by omega)
      have q1 := hcell 1 (by omega)
      have q2 := hcell 2 (by omega)
      have q3 := hcell 3 (by omega)
      have q4 := hcell 4 (by omega)
      simp only [rrC, List.getElem?_cons_zero, List.getElem?_cons_succ, Nat.add_zero] at q0 q1 q2 q3 q4
      have htf := take_filter (fun q : Rel => decide (cl < q.till)) Q k hlt3
      generalize Q[k] = U at q0 q1 q2 q3 q4 htf
      obtain ⟨ut, un', uk, uu, ul⟩ := U
      simp only at q0 q1 q2 q3 q4 htf
      have hki : (k : Int) < (Q.length : Int) := by omega
      have HTF := hide htf
      clear hfi hbw hcell htf
      by_cases ht : cl < ul
      · have ht' : decide (cl < ul) = true := by simpa using ht
        go_wp2
        go_quiet (fail)
        go_wp2_with (at_builtin; refine wpList_app rfl _ _ rfl etyR w2.heap.size rfl rfl (own_below (unhide HFI).own (bdrewN ((Below.refl _ _).alloc (Nat.le_refl _) _) _)) (Src.box (cs := rrC ⟨ut, un', uk, uu, ul⟩) 5 1 1 (heap_alloc_new wr _) (by rfl)) (rr_one _) (by omega) (by simp; omega) ?_)
        intro v' w3 ho3 hg3 _
        have HFI3 := hide ((unhide HFI).push (bdrewN ((Below.refl _ _).alloc (Nat.le_refl _) _) _) hg3 [⟨ut, un', uk, uu, ul⟩] (by simpa using ho3))
        clear ho3 hg3
        go_wp2
        go_roundw
        case rel => exact ⟨k + 1, by go_num, by omega, by rw [unhide HTF, if_pos ht']; exact unhide HFI3⟩
        case measure => simp [Go.RowKit.intOf]; omega
      · have ht' : decide (cl < ul) = false := by simpa using ht
        go_wp2
        go_quiet (fail)
        go_wp2
        go_roundw
        case rel => exact ⟨k + 1, by go_num, by omega, by rw [unhide HTF, ht', if_neg (by simp), List.append_nil]; exact (unhide HFI).mono (bdrewN (Below.refl _ _) _)⟩
        case measure => simp [Go.RowKit.intOf]; omega
    · have hke : k = Q.length := by omega
      subst hke
      rw [List.take_length] at hfi ⊢
      have hS := (unhide HK2).setL (l := Q.filter (fun q => decide (cl < q.till))) (Frm.of_below hfi.below (Nat.le_refl _)) (fun g hg => .inr (own_lt hfi.own hg).1) (own_base0 hfi.own)
      rw [← unhide HCL, ← unhide HLA] at hS
      have HS := hide hS
      clear hfi hbw hS
      have hlo : r.others.length ≤ 7 := unhide HLO
      go_wp2_with fail
      generalize (Q.filter (fun q => decide (cl < q.till))).length = nn at HS ⊢
      generalize wr.setCell ⟨b, 20, none⟩ (.slice ro nn rc) = w3 at HS ⊢
      clear e20 e8 g20 hwz hfl c20 d8 f20 hk HFI HOL HLB HLA hlcc hrl
      go_loopw [5, 6] (fun i _ wr => ∃ k : Nat, i = .int .i64 k ∧ k ≤ r.others.length ∧ RTo w2 wr b v1 (r.later.sus k)) (fun i _ _ => r.others.length - (Go.RowKit.intOf i).toNat)
      case atStart => exact ⟨0, by go_num, by omega, unhide HS⟩
      case round =>
        obtain ⟨k, rfl, hk, ht⟩ := hrel
        obtain ⟨y, hgt, hlen⟩ := (unhide HGL).sus k hk
        have hlen' : (r.later.sus k).others.length = r.others.length := hlen
        have hbk := hgt.bs (by unfold Big; omega)
        have hcl5 := hbk.clock
        obtain ⟨v5, hd5, ha5, hf5, hs5⟩ := ht
        obtain ⟨oo, oc, hov, hob, hocc, _⟩ := row_form ha5.rows.o
        have c13 := ha5.cell 13
        have c8 := ha5.cell 8
        have hlt5 := ha5.ltb
        simp only [refC, List.getElem?_toArray, List.getElem?_cons_zero, List.getElem?_cons_succ, hov, hlen'] at c13 c8
        have HTT := hide (fun w' (R : Rn) (h : RTo wr w' b v5 R) => RTo.trans hd5 hf5 hs5 h)
        by_cases hlt3 : k < r.others.length
        · have hlt4 : k < (r.later.sus k).others.length := by rw [hlen']; exact hlt3
          have HST := hide (sus_step r.later k hlt4)
          obtain ⟨g, hg, hgl⟩ := hob (by omega)
          subst hg
          have hol := hov ▸ ha5.rows.o
          have hcell : ∀ j, j < 4 → wr.cell? ⟨g, k * 4 + j, none⟩ = (rmC (r.later.sus k).others[k])[j]? := fun j hj => row_cell rmC 4 (fun _ => rfl) hol k hlt4 j hj
          have q0 := hcell 0 (by omega)
          have q1 := hcell 1 (by omega)
          have q2 := hcell 2 (by omega)
          have q3 := hcell 3 (by omega)
          simp only [rmC, List.getElem?_cons_zero, List.getElem?_cons_succ, Nat.add_zero] at q0 q1 q2 q3
          have hkm := hgt.keys _ (List.getElem_mem hlt4)
          generalize (r.later.sus k).others[k] = O at q0 q1 q2 q3 hkm HST
          obtain ⟨⟨oi, oa, os⟩, od⟩ := O
          simp only at q0 q1 q2 q3
          have hki : (k : Int) < (r.others.length : Int) := by omega
          have hk3 : isKeyB ⟨oi, oa, 3⟩ = true := by
            simp only [isKeyB, Bool.and_eq_true] at hkm ⊢
            exact ⟨hkm.1, hkm.2.1, rfl⟩
          have HC := hide (fun w' (hb : Below wr.heap.size wr w') => rheard_any (ha5.below hb) hbk.toRBd ⟨oi, oa, 3⟩ hk3)
          have HB5 := hide (fun w' (hb : Below wr.heap.size wr w') => RTo.same ha5 hb)
          have hsv := hcl5
          generalize (r.later.sus k).clock = ck at c8 HST hcl5 hsv
          clear ha5 hf5 hs5 hd5 hbk hgt hov hol hcell hob hkm hk3 hlen hlen' hlt4
          by_cases h2 : os = 2
          · have h2' : (os == 2) = true := by simpa using h2
            by_cases h3 : od ≤ ck
            · have h3' : decide (od ≤ ck) = true := by simpa using h3
              have E : Hid (r.later.sus (k + 1) = (r.later.sus k).heard ⟨oi, oa, 3⟩) := hide (by rw [unhide HST, if_pos (by simp [h2, h3])])
              clear HST h2 h3
              go_wp2_with fail
              go_quiet (fail)
              go_wp2_with fail
              refine (unhide HC _ (bdrewN ((Below.refl _ _).alloc (Nat.le_refl _) _) _)).mono ?_
              rintro e w6 ⟨rfl, h6⟩
              have HT6 := hide (unhide HTT w6 _ (RTo.from (bdrewN ((Below.refl _ _).alloc (Nat.le_refl _) _) _) h6))
              clear h6 HC HTT HB5
              go_wp2
              go_roundw
              case rel => exact ⟨k + 1, by go_num, by omega, by rw [unhide E]; exact unhide HT6⟩
              case measure => simp [Go.RowKit.intOf]; omega
            · have h3' : decide (od ≤ ck) = false := by simpa using h3
              have E : Hid (r.later.sus (k + 1) = r.later.sus k) := hide (by rw [unhide HST, if_neg (by simp [h3])])
              clear HST h2 h3
              go_wp2_with fail
              go_quiet (fail)
              go_wp2
              go_roundw
              case rel => exact ⟨k + 1, by go_num, by omega, by rw [unhide E]; exact unhide HTT _ _ (unhide HB5 _ (bdrewN ((Below.refl _ _).alloc (Nat.le_refl _) _) _))⟩
              case measure => simp [Go.RowKit.intOf]; omega
          · have h2' : (os == 2) = false := by simpa using h2
            have E : Hid (r.later.sus (k + 1) = r.later.sus k) := hide (by rw [unhide HST, if_neg (by simp [h2])])
            clear HST h2
            go_wp2_with fail
            go_quiet (fail)
            go_wp2
            go_roundw
            case rel => exact ⟨k + 1, by go_num, by omega, by rw [unhide E]; exact unhide HTT _ _ (unhide HB5 _ (bdrewN ((Below.refl _ _).alloc (Nat.le_refl _) _) _))⟩
            case measure => simp [Go.RowKit.intOf]; omega
        · have hke : k = r.others.length := by omega
          subst hke
          have c15 := ha5.cell 15
          simp only [refC, List.getElem?_toArray, List.getElem?_cons_zero, List.getElem?_cons_succ] at c15
          have HGT := hide hgt
          have HA5 := hide ha5
          have HGH : Hid (Gh (B + 1 + (r.others.length : Nat) + 3) y.goOn.2 (if 0 < (r.later.sus r.others.length).probe then (r.later.sus r.others.length).probing else (r.later.sus r.others.length))) := hide (by
            obtain ⟨g1, g2, g3⟩ := hgt.rf.goOn hgt.ok hgt.rl hgt.out
            exact ⟨g2, goOn_ok hgt.ok, by rw [goOn_dl]; exact hgt.dl, goOn_b hgt.ok hgt.b, g3, by rw [goOn_num]; exact hgt.num, by rw [g1]; have := goOn_len hgt.ok; omega⟩)
          have HET : Hid (r.tick = if (if 0 < (r.later.sus r.others.length).probe then (r.later.sus r.others.length).probing else (r.later.sus r.others.length)).probe = 0 ∧ (if 0 < (r.later.sus r.others.length).probe then (r.later.sus r.others.length).probing else (r.later.sus r.others.length)).self.st ≠ 4 then (if 0 < (r.later.sus r.others.length).probe then (r.later.sus r.others.length).probing else (r.later.sus r.others.length)).begin else (if 0 < (r.later.sus r.others.length).probe then (r.later.sus r.others.length).probing else (r.later.sus r.others.length))) := hide rfl
          clear hob hov ha5 hf5 hs5 hd5 hbk hgt hlen hlen'
          generalize r.later.sus r.others.length = R1 at c15 c8 HGT HA5 HET hcl5 HGH
          go_upto_if 96 with fail
          go_cut [] (fun wq => RTo w2 wq b v1 (if 0 < R1.probe then R1.probing else R1))
          case first =>
            by_cases hp : 0 < R1.probe
            · have hp' : decide (0 < R1.probe) = true := by simpa using hp
              have hst : R1.start ≤ R1.clock ∧ 0 ≤ R1.start := by
                have hgt := unhide HGT
                have hne : y.ptgt ≠ 0 := by rw [hgt.rf.probe] at hp; omega
                exact ⟨by rw [(hgt.rf.prb hne).1, hgt.rf.clock]; exact (hgt.rl.prb hne).2.1, by rw [(hgt.rf.prb hne).1]; exact hgt.b.tk.1.1⟩
              have HPC := hide (rprobing_any ((unhide HGT).az hp) (by omega) (by rw [(unhide HGT).out]; simp) ((unhide HGT).bs (by unfold Big; omega)).toRBd ((unhide HGT).asked hp (by unfold Big; omega)) hst (unhide HGT).keys (unhide HA5))
              clear hst
              go_wp2_with fail
              refine (unhide HPC).mono ?_
              rintro e w6 ⟨rfl, h6⟩
              have HT6 := hide (unhide HTT w6 _ h6)
              clear h6 HPC HTT
              go_wp2
              go_meet
              case rel => rw [if_pos hp]; exact unhide HT6
            · have hp' : decide (0 < R1.probe) = false := by simpa using hp
              go_wp2
              go_meet
              case rel => rw [if_neg (by omega)]; exact unhide HTT _ _ (RTo.same (unhide HA5) (Below.refl _ _))
          case rest =>
            generalize (if 0 < R1.probe then R1.probing else R1) = R2 at HET HGH hcut
            obtain ⟨v6, hd6, ha6, hf6, hs6⟩ := hcut
            have HA6 := hide ha6
            have HT6 := hide (fun w' (R : Rn) (h : RTo _ w' b v6 R) => RTo.trans hd6 hf6 hs6 h)
            have e15 := ha6.cell 15
            have e12 := ha6.cell 12
            have hlt6 := ha6.ltb
            simp only [refC, List.getElem?_toArray, List.getElem?_cons_zero, List.getElem?_cons_succ] at e15 e12
            clear hd6 ha6 hf6 hs6 c15 c8 c13
            by_cases hz : R2.probe = 0
            · have hz' : (R2.probe == 0) = true := by simpa using hz
              by_cases h4 : R2.self.st = 4
              · have h4' : (R2.self.st == 4) = true := by simpa using h4
                have E : Hid (r.tick = R2) := hide (by rw [unhide HET, if_neg (by simp [h4])])
                obtain ⟨ao, an, ac, k24, klt, hX⟩ := unhide HFIN _ _ (unhide HT6 _ _ (RTo.same (unhide HA6) (Below.refl _ _)))
                have HX := hide hX
                clear hz h4 hX
                go_wp2
                go_ret
                rw [unhide E]
                exact ⟨_, rfl, unhide HX⟩
              · have h4' : (R2.self.st == 4) = false := by simpa using h4
                have E : Hid (r.tick = R2.begin) := hide (by rw [unhide HET, if_pos ⟨hz, h4⟩])
                have HBC := hide (rbegin_any (unhide HGH) (by omega) (by rw [← (unhide HGH).rf.probe]; exact hz) (unhide HA6))
                clear h4 hz
                go_wp2_with fail
                refine (unhide HBC).mono ?_
                rintro e w7 ⟨rfl, h7⟩
                obtain ⟨ao, an, ac, k24, klt, hX⟩ := unhide HFIN _ _ (unhide HT6 _ _ h7)
                have HX := hide hX
                clear hX h7 HBC
                go_wp2
                go_ret
                rw [unhide E]
                exact ⟨_, rfl, unhide HX⟩
            · have hz' : (R2.probe == 0) = false := by simpa using hz
              have E : Hid (r.tick = R2) := hide (by rw [unhide HET, if_neg (by simp [hz])])
              obtain ⟨ao, an, ac, k24, klt, hX⟩ := unhide HFIN _ _ (unhide HT6 _ _ (RTo.same (unhide HA6) (Below.refl _ _)))
              have HX := hide hX
              clear hz hX
              go_wp2
              go_ret
              rw [unhide E]
              exact ⟨_, rfl, unhide HX⟩
end Go.Proofs.YtnneljcbelgoeaaGreatDoor.wire
