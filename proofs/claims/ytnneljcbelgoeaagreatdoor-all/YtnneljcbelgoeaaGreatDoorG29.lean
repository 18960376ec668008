import Derived.Test.YtnneljcbelgoeaaGreatDoorG19
import Derived.Test.YtnneljcbelgoeaaGreatDoorG28
import Derived.Test.YtnneljcbelgoeaaGreatDoorG06
import Derived.Test.YtnneljcbelgoeaaGreatDoorG04
import Derived.Test.YtnneljcbelgoeaaGreatDoorG20
import Derived.Test.YtnneljcbelgoeaaGreatDoorG12
import Derived.Test.YtnneljcbelgoeaaGreatDoorG09
/- A tick keeps it too; what comes out is small. No Go here. -/
namespace Go.Proofs.YtnneljcbelgoeaaGreatDoor.wire

theorem Up.deads : ∀ (l : List Mem) {x : Nd}, NdOk x → (∀ m ∈ l, isKeyB m.k = true) → Up x (l.foldl (fun y m => y.hear m.dead) x)
  | [], x, _, _ => Up.refl x
  | m :: r, _, hx, hl => (Up.hear hx m.dead).trans (Up.deads r (hear_ok hx _ (dead_key (hl m (List.mem_cons_self ..)))) (fun m' hm' => hl m' (List.mem_cons_of_mem _ hm')))
theorem Up.drew (x : Nd) (n : Int) : Up x (x.drew n) := by
  obtain ⟨m, e, _⟩ := drew_ex x n
  rw [e]
  exact Up.same rfl rfl rfl
theorem Up.asks : ∀ (n : Nat) (l : List Int) {x : Nd}, NdOk x → Up x (x.asks n l).2
  | 0, _, x, _ => Up.refl x
  | n + 1, _, x, hx => ((Up.drew x _).trans (Up.along (drew_ok hx _))).trans (Up.asks n _ (along_ok (drew_ok hx _)))
theorem Up.endProbe {x : Nd} (hx : NdOk x) : Up x x.endProbe := by
  unfold Nd.endProbe
  split
  · exact Up.same rfl rfl rfl
  · exact (Up.hear (idle_ok hx) _).of_same rfl rfl rfl
theorem Up.goOn {x : Nd} (hx : NdOk x) : Up x x.goOn.2 := by
  unfold Nd.goOn
  split
  · exact Up.refl x
  · split
    · unfold Nd.askOthers
      split
      · exact Up.refl x
      · exact Up.asks _ _ hx
    · split
      · exact Up.endProbe hx
      · exact Up.refl x
theorem Up.renew (x : Nd) : Up x x.renew := by
  unfold Nd.renew
  split
  · obtain ⟨m, e, _⟩ := mixed_ex x x.present
    rw [e]
    exact Up.same rfl rfl rfl
  · exact Up.refl x
theorem Up.probeOne {x : Nd} (hx : NdOk x) : Up x x.probeOne.2 := by
  unfold Nd.probeOne
  split
  · exact Up.refl x
  · rename_i t r hp
    exact (Up.along (begin_ok hx hp)).of_same rfl rfl rfl
theorem Up.probeNext {x : Nd} (hx : NdOk x) : Up x x.probeNext.2 := by
  unfold Nd.probeNext
  split
  · exact Up.refl x
  · exact (Up.renew x).trans (Up.probeOne (renew_ok hx))
theorem Up.tick {x : Nd} (hx : NdOk x) : Up x x.tick.2 := by
  have h1 : Up x x.later.endRelays := Up.same rfl rfl rfl
  have x2 := endRelays_ok (later_ok hx)
  have h2 : Up x.later.endRelays x.later.endRelays.endSuspects := Up.deads _ x2 (fun m hm => x2.keys m (List.mem_filter.1 hm).1)
  have x3 := endSuspects_ok x2
  exact ((h1.trans h2).trans (Up.goOn x3)).trans (Up.probeNext (goOn_ok x3))
theorem deads_rels : ∀ (l : List Mem) (x : Nd), (l.foldl (fun y m => y.hear m.dead) x).rels = x.rels ∧ (l.foldl (fun y m => y.hear m.dead) x).num = x.num
  | [], _ => ⟨rfl, rfl⟩
  | m :: r, x => ⟨(deads_rels r (x.hear m.dead)).1.trans (hear_rels x m.dead).1, (deads_rels r (x.hear m.dead)).2.trans (hear_rels x m.dead).2⟩
theorem asks_rels : ∀ (n : Nat) (l : List Int) (x : Nd), (x.asks n l).2.rels = x.rels ∧ (x.asks n l).2.num = x.num
  | 0, _, _ => ⟨rfl, rfl⟩
  | n + 1, l, x => by
    obtain ⟨m, e, _⟩ := drew_ex x (l.length : Int)
    obtain ⟨a, b⟩ := asks_rels n (l.eraseIdx (x.drawn l.length).toNat) (x.drew l.length).along
    refine ⟨a.trans ?_, b.trans ?_⟩
    · show (x.drew l.length).rels = x.rels
      rw [e]
    · show (x.drew l.length).num = x.num
      rw [e]
theorem goOn_rels (x : Nd) : x.goOn.2.rels = x.rels ∧ x.goOn.2.num = x.num := by
  unfold Nd.goOn
  split
  · exact ⟨rfl, rfl⟩
  · split
    · unfold Nd.askOthers
      split
      · exact ⟨rfl, rfl⟩
      · exact asks_rels _ _ _
    · split
      · show x.endProbe.rels = x.rels ∧ x.endProbe.num = x.num
        unfold Nd.endProbe
        split
        · exact ⟨rfl, rfl⟩
        · exact hear_rels _ _
      · exact ⟨rfl, rfl⟩
theorem renew_rels (x : Nd) : x.renew.rels = x.rels ∧ x.renew.num = x.num := by
  unfold Nd.renew
  split
  · obtain ⟨m, e, _⟩ := mixed_ex x x.present
    rw [e]
    exact ⟨rfl, rfl⟩
  · exact ⟨rfl, rfl⟩
theorem probeNext_rels (x : Nd) : x.probeNext.2.rels = x.rels ∧ x.num ≤ x.probeNext.2.num := by
  unfold Nd.probeNext
  split
  · exact ⟨rfl, Int.le_refl _⟩
  · have h : x.renew.probeOne.2.rels = x.renew.rels ∧ x.renew.num ≤ x.renew.probeOne.2.num := by
      unfold Nd.probeOne
      split
      · exact ⟨rfl, Int.le_refl _⟩
      · exact ⟨rfl, by show x.renew.num ≤ x.renew.num + 1; omega⟩
    rw [(renew_rels x).1, (renew_rels x).2] at h
    exact h
theorem RelOk.tick {x : Nd} (h : RelOk x) : RelOk x.tick.2 := by
  have h1 : RelOk x.later.endRelays := h.filter (fun r => !decide (r.till ≤ x.later.clock)) rfl (Int.le_refl _)
  have h2 : RelOk x.later.endRelays.endSuspects := h1.same (deads_rels _ _).1 (Int.le_of_eq (deads_rels _ _).2.symm)
  have h3 : RelOk x.later.endRelays.endSuspects.goOn.2 := h2.same (goOn_rels _).1 (Int.le_of_eq (goOn_rels _).2.symm)
  exact h3.same (probeNext_rels _).1 (probeNext_rels _).2
/-- How many packets come out of whatever came in. -/
theorem its_one {x : Nd} (h : RelOk x) (m : M6) : (x.rels.filter (itsB m)).length ≤ 1 := by
  have hp := h.rise.filter (itsB m)
  rcases hl : x.rels.filter (itsB m) with _ | ⟨a, _ | ⟨b, r⟩⟩
  · simp
  · simp
  · rw [hl] at hp
    have h1 : a.num < b.num := (List.pairwise_cons.1 hp).1 b (by simp)
    have ha : itsB m a = true := (List.mem_filter.1 (by rw [hl]; simp : a ∈ x.rels.filter (itsB m))).2
    have hb : itsB m b = true := (List.mem_filter.1 (by rw [hl]; simp : b ∈ x.rels.filter (itsB m))).2
    simp only [itsB, Bool.and_eq_true, decide_eq_true_eq] at ha hb
    omega
theorem deed_one {x : Nd} (h : RelOk x) (hx : NdOk x) (m : M6) : (x.deed m).1.length ≤ 1 := by
  unfold Nd.deed
  repeat' split
  · unfold Nd.takePing; split <;> simp
  · unfold Nd.takeAck
    have hok := relay_ok hx (if x.ptgt = m.tgt ∧ x.pnum = m.seq then true else x.pack) (l := x.rels.filter (fun r => !(itsB m r))) (Nat.le_trans (List.length_filter_le _ _) hx.rels)
    rw [(relayed_keeps (x.rels.filter (itsB m)) hok).2.2.2.2.2.1]
    exact its_one h m
  · unfold Nd.takeAsk
    split
    · unfold Nd.takePing; split <;> simp
    · split <;> simp
  · simp [Nd.takeJoin]
  · simp
theorem bytesS_len (m : M6) (h : m.ups.length ≤ 8) : (bytesS m).length ≤ 60 := by
  unfold bytesS
  split
  · rw [bytesM_len]; omega
  · simp
theorem direct_small (x : Nd) (kind dest seq tgt : Int) : (x.direct kind dest seq tgt).bytes.length ≤ 60 := by
  have := picks_len x
  refine bytesS_len _ ?_
  show (x.picks.map Mem.k).length ≤ 8
  rw [List.length_map]; omega
theorem relayed_small : ∀ (l : List Rel) (x : Nd), ∀ p ∈ (x.relayed l).1, p.bytes.length ≤ 60
  | [], _, p, hp => by cases hp
  | r :: l, x, p, hp => by
    have hp' : p ∈ x.direct 2 r.asker r.under r.tgt :: (x.along.relayed l).1 := hp
    rcases List.mem_cons.1 hp' with rfl | h
    · exact direct_small _ _ _ _ _
    · exact relayed_small l x.along p h
theorem takePing_small (x : Nd) (m : M6) : ∀ p ∈ (x.takePing m).1, p.bytes.length ≤ 60 := by
  intro p hp
  unfold Nd.takePing at hp
  by_cases h : m.tgt = x.c.self
  · rw [if_pos h] at hp; simp at hp; subst hp; exact direct_small _ _ _ _ _
  · rw [if_neg h] at hp; cases hp
theorem deed_small {x : Nd} (hx : NdOk x) (m : M6) : ∀ p ∈ (x.deed m).1, p.bytes.length ≤ 60 := by
  intro p hp
  unfold Nd.deed at hp
  repeat' split at hp
  · exact takePing_small x m p hp
  · unfold Nd.takeAck at hp
    exact relayed_small _ _ p hp
  · unfold Nd.takeAsk at hp
    by_cases h1 : m.tgt = x.c.self
    · rw [if_pos h1] at hp; exact takePing_small x m p hp
    · rw [if_neg h1] at hp
      by_cases h2 : 4 ≤ x.rels.length
      · rw [if_pos h2] at hp; cases hp
      · rw [if_neg h2] at hp; simp at hp; subst hp; exact direct_small _ _ _ _ _
  · simp [Nd.takeJoin] at hp
    subst hp
    refine bytesS_len _ ?_
    show (x.tab.map Mem.k).length ≤ 8
    rw [List.length_map]; exact hx.len
  · cases hp
theorem receive_out {x : Nd} (hx : NdOk x) (hr : RelOk x) (b : List UInt8) : (x.receive b).1.length ≤ 1 ∧ ∀ p ∈ (x.receive b).1, p.bytes.length ≤ 60 := by
  unfold Nd.receive
  split
  · rename_i ht
    obtain ⟨hw, _⟩ := takes_parts ht
    obtain ⟨hk, hl8, ha⟩ := whole_parts hw
    have h1 := hear_ok hx ⟨(readM b).frm, (readM b).inc, 1⟩ hk
    have h2 := hears_ok' (readM b).ups h1 ha
    exact ⟨deed_one (hr.same (((hears_rels _ _).1).trans (hear_rels _ _).1) (Int.le_of_eq (((hears_rels _ _).2).trans (hear_rels _ _).2).symm)) h2 _, deed_small h2 _⟩
  · simp
theorem others_le {x : Nd} (hx : NdOk x) : x.others.length ≤ 7 := by
  obtain ⟨m, hm⟩ := hx.self
  obtain ⟨h1, h2⟩ := findM_in hm
  have hl := hx.len
  unfold Nd.others
  rw [List.length_map]
  have : (x.tab.filter (fun m => !(m.k.id == x.c.self))).length < x.tab.length := by
    rw [List.length_filter_lt_length_iff_exists]
    exact ⟨m, h1, by simp [h2]⟩
  omega
theorem pending_le {x : Nd} (hx : NdOk x) : x.pending ≤ 8 := Nat.le_trans (List.length_filter_le _ _) hx.len
theorem knows_up {x y : Nd} (h : Up x y) {j : Int} (hj : Knows j x) : Knows j y := by
  unfold Knows at *
  obtain ⟨o, ho⟩ := Option.isSome_iff_exists.1 hj
  obtain ⟨o', h1, _⟩ := h.up j o ho
  rw [h1]; rfl
/-- Whom it knows. -/
theorem others_ge {x : Nd} (l : List Int) (hl : l.Nodup) (hk : ∀ i ∈ l, i ≠ x.c.self ∧ Knows i x) : l.length ≤ x.others.length := by
  have := len_sub l (x.others.map K3.id) hl (fun a ha => by
    obtain ⟨h1, h2⟩ := hk a ha
    obtain ⟨m, hm⟩ := Option.isSome_iff_exists.1 h2
    obtain ⟨m1, m2⟩ := findM_in hm
    refine List.mem_map.2 ⟨m.k, List.mem_map.2 ⟨m, List.mem_filter.2 ⟨m1, ?_⟩, rfl⟩, m2⟩
    simp [m2, h1])
  simpa using this
end Go.Proofs.YtnneljcbelgoeaaGreatDoor.wire
/- Leave (P8). It lies in the cut of seat ..ZD alone. -/
namespace Go.Proofs.YtnneljcbelgoeaaGreatDoor.wire
open Go.RowKit Go.Maps

theorem left_key {k : K3} (h : isKeyB k = true) : isKeyB ⟨k.id, k.inc, 4⟩ = true := by
  simp only [isKeyB, Bool.and_eq_true] at h ⊢
  exact ⟨h.1, h.2.1, by simp [isStB]⟩
set_option maxHeartbeats 1000000 in
set_option maxRecDepth 100000 in
theorem leave_no {x : Nd} (hx : NdOk x) {nb mb : Nat} {cb : Dk} {pv rv : Value} {W : World} (hn : NAt W nb mb cb pv rv x) (he : x.left = true) :
    Calls Tryz.prog 39 #[.pointer (some ⟨nb, 0, none⟩)] W fun e w' => e = .returned (.iface 108 (.int .i64 4)) ∧ Below W.heap.size W w' := by
  have HL := hide (left_any hx hn)
  have HLL := hide he
  clear hn hx he
  go_enter Tryz.func39, Tryz.ntmps39
  go_wp2_with fail
  refine (unhide HL).mono ?_
  rw [unhide HLL]
  rintro e w1 ⟨rfl, hb1⟩
  have HB1 := hide hb1
  clear hb1
  go_wp2
  go_ret
  exact ⟨rfl, unhide HB1⟩
set_option maxHeartbeats 1000000 in
set_option maxRecDepth 100000 in
theorem leave_yes {x : Nd} (hx : NdOk x) (hB : NdB Big x) {nb mb : Nat} {cb : Dk} {pv rv : Value} {W : World} (hn : NAt W nb mb cb pv rv x) (he : x.left = false) :
    Calls Tryz.prog 39 #[.pointer (some ⟨nb, 0, none⟩)] W fun e w' => e = .returned .nilIface ∧ NAt w' nb mb cb pv rv x.leave ∧ Frm [nb, mb, cb] W w' := by
  have HL := hide (left_any hx hn)
  have HLL := hide he
  have HN := hide hn
  have HX := hide hx
  have hok := left_key hx.own_key.1
  obtain ⟨k0, k1⟩ := hB.clock
  obtain ⟨l0, l1⟩ := hB.lost
  unfold Big at k1 l1
  have hle : x.leave = x.change ⟨x.own.id, x.own.inc, 4⟩ := rfl
  rw [hle]
  have HC := fun w (h : NAt w nb mb cb pv rv x) => hide (change_any (unhide HX) h ⟨x.own.id, x.own.inc, 4⟩ hok k0 k1 l0 l1)
  have HSF := fun w (h : NAt w nb mb cb pv rv x) => hide (self_any (unhide HX) h)
  generalize x.change ⟨x.own.id, x.own.inc, 4⟩ = Y at HC ⊢
  generalize x.own = k at HC HSF
  obtain ⟨a, b, c⟩ := k
  dsimp only at HC HSF
  clear hn hx he hB hle hok
  go_enter Tryz.func39, Tryz.ntmps39
  go_wp2_with fail
  refine (unhide HL).mono ?_
  rw [unhide HLL]
  rintro e w1 ⟨rfl, hb1⟩
  have HB1 := hide hb1
  have HN1 := hide ((unhide HN).below hb1)
  clear hb1 HL
  go_wp2_with fail
  refine (unhide (HSF _ (unhide HN1))).mono ?_
  rintro e w2 ⟨rfl, hb2⟩
  have HN2 := hide ((unhide HN1).below hb2)
  have HB2 := hide ((unhide HB1).trans (hb2.mono (unhide HB1).size))
  clear hb2 HSF
  go_wp2_with fail
  refine (unhide (HC _ ((unhide HN2).alloc _))).mono ?_
  rintro e w3 ⟨rfl, hn3, hf3⟩
  have HN3 := hide hn3
  have HF3 := hide (((Frm.of_below (unhide HB2) (Nat.le_refl _)).alloc _).trans hf3 (fun j hj => .inl hj))
  clear hn3 hf3 HC
  go_wp2
  go_ret
  exact ⟨rfl, unhide HN3, unhide HF3⟩
end Go.Proofs.YtnneljcbelgoeaaGreatDoor.wire
/- The ghosts behind each call: the node and the document's are one. No Go here. -/
namespace Go.Proofs.YtnneljcbelgoeaaGreatDoor.wire
theorem join_bd {B : Int} {x : Nd} (h : NdB B x) (i : Int) : NdB (B + 1) (x.join i).2 := by
  obtain ⟨h1, h2, h3, h4, h5⟩ := h
  refine ⟨⟨h1.1, by show x.clock ≤ _; omega⟩, ⟨by show 0 ≤ x.num + 1; omega, by show x.num + 1 ≤ B + 1; omega⟩, ⟨h3.1, by show x.dropped ≤ _; omega⟩, ⟨h4.1, by show x.lost ≤ _; omega⟩, ⟨⟨h5.1.1, by show x.pst ≤ _; omega⟩, by show (x.dat : Int) ≤ _; omega⟩⟩
theorem asks_out : ∀ (n : Nat) (l : List Int) (x : Nd), (x.asks n l).1.length = n ∧ ∀ p ∈ (x.asks n l).1, p.bytes.length ≤ 60
  | 0, _, _ => ⟨rfl, fun _ h => by cases h⟩
  | n + 1, l, x => by
    obtain ⟨h1, h2⟩ := asks_out n (l.eraseIdx (x.drawn l.length).toNat) (x.drew l.length).along
    refine ⟨by simp [Nd.asks, h1], fun p hp => ?_⟩
    simp only [Nd.asks, List.mem_cons] at hp
    rcases hp with rfl | hp
    · exact direct_small _ _ _ _ _
    · exact h2 p hp
theorem goOn_out {x : Nd} (hx : NdOk x) : x.goOn.1.length ≤ 8 ∧ ∀ p ∈ x.goOn.1, p.bytes.length ≤ 60 := by
  unfold Nd.goOn
  split
  · exact ⟨by simp, fun _ h => by cases h⟩
  · split
    · unfold Nd.askOthers
      split
      · exact ⟨by simp, fun _ h => by cases h⟩
      · obtain ⟨h1, h2⟩ := asks_out (min x.c.proxies.toNat x.able.length) x.able x
        refine ⟨?_, h2⟩
        rw [h1]
        have : x.c.proxies ≤ 3 := by
          have := hx.cfg
          simp only [cfgB, Bool.and_eq_true, decide_eq_true_eq] at this
          omega
        omega
    · split <;> exact ⟨by simp, fun _ h => by cases h⟩
theorem probeNext_out (x : Nd) : x.probeNext.1.length ≤ 1 ∧ ∀ p ∈ x.probeNext.1, p.bytes.length ≤ 60 := by
  unfold Nd.probeNext
  split
  · exact ⟨by simp, fun _ h => by cases h⟩
  · unfold Nd.probeOne
    split
    · exact ⟨by simp, fun _ h => by cases h⟩
    · refine ⟨by simp, fun p hp => ?_⟩
      simp at hp; subst hp
      exact direct_small _ _ _ _ _
theorem tick_out {x : Nd} (hx : NdOk x) : x.tick.1.length ≤ 9 ∧ ∀ p ∈ x.tick.1, p.bytes.length ≤ 60 := by
  have h0 : NdOk x.later.endRelays.endSuspects := endSuspects_ok (endRelays_ok (later_ok hx))
  obtain ⟨a1, a2⟩ := goOn_out h0
  obtain ⟨b1, b2⟩ := probeNext_out x.later.endRelays.endSuspects.goOn.2
  refine ⟨by simp [Nd.tick]; omega, fun p hp => ?_⟩
  simp only [Nd.tick, List.mem_append] at hp
  rcases hp with hp | hp
  · exact a2 p hp
  · exact b2 p hp
theorem join_out (x : Nd) (i : Int) : (x.join i).1.length ≤ 1 ∧ ∀ p ∈ (x.join i).1, p.bytes.length ≤ 60 := by
  refine ⟨by simp [Nd.join], fun p hp => ?_⟩
  simp [Nd.join] at hp; subst hp
  exact bytesS_len _ (by simp)
/-- What comes of a call: the same packets, and they are one again. -/
structure Gone (B : Int) (dl : List Int) (o : List Pk) (x : Nd) (r : Rn) : Prop where
  gh : Gh B x r
  out : r.out = o
  len : o.length ≤ 9
  small : ∀ p ∈ o, p.bytes.length ≤ 60
  dl : x.dl = dl
theorem Gh.received {B : Int} {x : Nd} {r : Rn} (h : Gh B x r) (hB : B ≤ 1000000000) (l : List UInt8) : Gone (B + 10) x.dl (x.receive l).1 (x.receive l).2 (r.receive l) := by
  obtain ⟨g, _⟩ := receive_keeps h.ok l
  have hn := h.b.num
  have s := h.rf.receive h.ok h.rl ⟨hn.1, by omega⟩ l
  have hb := g.b B h.b
  obtain ⟨o1, o2⟩ := receive_out h.ok h.rl.rel l
  exact ⟨⟨s.rf, g.ok, by rw [g.up.dl]; exact h.dl, hb, s.rl, by have := hb.num.2; omega, by rw [s.out]; omega⟩, s.out, by omega, o2, g.up.dl⟩
theorem Gh.ticked {B : Int} {x : Nd} {r : Rn} (h : Gh B x r) (hB : B ≤ 1000000000) : Gone (B + 21) x.dl x.tick.1 x.tick.2 r.tick := by
  have hn := h.b.num
  have s := h.rf.tick h.ok h.rl ⟨hn.1, by omega⟩
  have hb := tick_b h.ok h.b
  obtain ⟨o1, o2⟩ := tick_out h.ok
  exact ⟨⟨s.rf, tick_ok h.ok, by rw [(Up.tick h.ok).dl]; exact h.dl, hb, s.rl, by have := hb.num.2; omega, by rw [s.out]; omega⟩, s.out, o1, o2, (Up.tick h.ok).dl⟩
theorem Gh.joined {B : Int} {x : Nd} {r : Rn} (h : Gh B x r) (hB : B ≤ 1000000000) (i : Int) : Gone (B + 1) x.dl (x.join i).1 (x.join i).2 (r.join i) ∧ r.joinErr i = x.joinErr i := by
  have hn := h.b.num
  obtain ⟨s, e⟩ := h.rf.join h.ok h.rl ⟨hn.1, by omega⟩ i
  have hb := join_bd h.b i
  obtain ⟨o1, o2⟩ := join_out x i
  exact ⟨⟨⟨s.rf, num_ok h.ok _, h.dl, hb, s.rl, by have := hb.num.2; omega, by rw [s.out]; omega⟩, s.out, by omega, o2, rfl⟩, e⟩
theorem Gh.left {B : Int} {x : Nd} {r : Rn} (h : Gh B x r) : Gh (B + 1) x.leave r.leave := by
  obtain ⟨a, b, c⟩ := h.rf.leave h.ok h.rl
  obtain ⟨m, hm⟩ := h.ok.self
  have hid : x.own.id = x.c.self := h.ok.own_key.2
  have hb : NdB (B + 1) x.leave := change_b h.b _
  exact ⟨a, change_ok h.ok _ (left_key h.ok.own_key.1) (.inl (by show (findM x.own.id x.tab).isSome = true; rw [hid, hm]; rfl)), h.dl, hb, b, h.num, by rw [c]; exact h.out⟩
theorem Gh.drained {B : Int} {x : Nd} {r : Rn} (h : Gh B x r) (k : Nat) : Gh B { x with evs := x.evs.drop k } { r with evs := r.evs.drop k } := by
  have f := h.rf
  have o := h.ok
  refine ⟨⟨f.c, f.draws, f.drawn, f.clock, f.seq, f.self, f.others, f.pass, f.probe, f.prb, f.queue, f.rels, f.dropped, by show r.evs.drop k = x.evs.drop k; rw [f.evs], f.lost⟩, ⟨o.cfg, o.rise, o.len, o.keys, o.sends, o.self, ?_, o.rels, o.pass⟩, h.dl, ⟨h.b.clock, h.b.num, h.b.dropped, h.b.lost, h.b.tk⟩, h.rl.same rfl (Int.le_refl _) rfl rfl rfl rfl rfl (.inl rfl), h.num, h.out⟩
  show (x.evs.drop k).length ≤ 8
  have := o.evs
  rw [List.length_drop]
  omega
theorem Gh.made {c : Cfg} (hc : cfgB c = true) (dl : List Int) (hd : DlOk dl) : Gh 0 (Nd.new c dl) (Rn.new c dl) := by
  have hs : (1 : Int) ≤ c.self ∧ c.self ≤ 250 := by simp only [cfgB, Bool.and_eq_true] at hc; exact isId_of hc.1
  have hself : (Nd.new c dl).own = ⟨c.self, 1, 1⟩ := by simp [Nd.own, Nd.new, atM, findM]
  have hok : NdOk (Nd.new c dl) := (nice_new c hc 250 (by omega) hd).ok
  refine ⟨⟨rfl, rfl, rfl, rfl, rfl, ?_, ?_, rfl, rfl, fun h => absurd rfl h, ?_, rfl, rfl, rfl, rfl⟩, hok, hd, new_b c dl, ⟨⟨by simp [Nd.new], by simp [Nd.new]⟩, by simp [Nd.new], fun h => absurd rfl h, .inl (by rw [hself])⟩, by simp [Nd.new], by simp [Rn.new]⟩
  · rw [hself]; rfl
  · simp [Rn.new, Nd.rest, Nd.new]
  · simp [Rn.new, Nd.new, pendB]
end Go.Proofs.YtnneljcbelgoeaaGreatDoor.wire
/- What stands between two steps of a script over nodes. -/
namespace Go.Proofs.YtnneljcbelgoeaaGreatDoor.wire
open Go.RowKit Go.Maps
/-- A node of the script: its record and the draws are nobody's to write; its twin is one with it, and the document's. -/
structure Nk (n : Nat) (fz : List Th) (t : Nt) : Prop where
  rc : recT t ∈ fz
  dr : intsT t.rv.d t.r.draws ∈ fz
  tw : t.y.x = t.x.x
  gh : Gh (100 * (n : Int)) t.x.x t.r
theorem Nk.up {n n' : Nat} {fz fz' : List Th} {t : Nt} (h : Nk n fz t) (hn : n ≤ n') (hf : ∀ q ∈ fz, q ∈ fz') : Nk n' fz' t := ⟨hf _ h.rc, hf _ h.dr, h.tw, h.gh.mono (by omega)⟩
/-- How much there is of everything, when at most n steps were made. -/
structure VI (n : Nat) (s : Sg) : Prop where
  tn : s.ts.length ≤ n
  tl : ∀ l ∈ s.ts, l.length ≤ 17000
  un : s.m.ups.length ≤ n + 8
  uf : rkeysT s.uv s.m.ups ∈ s.fz
  df : intsT s.dv s.ds ∈ s.fz
  dn : s.ds.length ≤ n
  dr : ∀ z ∈ s.ds, -9223372036854775808 ≤ z ∧ z ≤ 9223372036854775807
  c : -9223372036854775808 ≤ s.c.period ∧ s.c.period ≤ 9223372036854775807
  nn : s.ns.length ≤ n
  nk : ∀ t ∈ s.ns, Nk n s.fz t
  pn : s.ps.length ≤ 60
  pl : ∀ p ∈ s.ps, p.bytes.length ≤ 60
  hd : Held s
  ll : s.ls.length ≤ 2 * n
  ol : s.os.length ≤ 4 * n
  m0 : 0 ≤ s.mark
  m1 : s.mark ≤ 2000 * (n : Int)
  a : s.a = []
  b : s.b = []
theorem VI.up {n : Nat} {s : Sg} (h : VI n s) : VI (n + 1) s :=
  ⟨by have := h.tn; omega, h.tl, by have := h.un; omega, h.uf, h.df, by have := h.dn; omega, h.dr, h.c, by have := h.nn; omega, fun t ht => (h.nk t ht).up (by omega) (fun _ q => q), h.pn, h.pl, h.hd, by have := h.ll; omega, by have := h.ol; omega, h.m0, by have := h.m1; omega, h.a, h.b⟩
/-- The state and its bounds. -/
def VV (n wb : Nat) (s : Sg) (w W : World) : Prop := VS wb s w W ∧ VI n s
theorem VV.vs {n wb : Nat} {s : Sg} {w W : World} (h : VV n wb s w W) : VS wb s w W := h.1
theorem VV.vi {n wb : Nat} {s : Sg} {w W : World} (h : VV n wb s w W) : VI n s := h.2
/-- The texts' row grows. -/
theorem VS.pushT {wb : Nat} {s : Sg} {w W W1 W2 : World} (h : VS wb s w W) (hb : Below W.heap.size W W1) (hg : W1.grownBy W2 s.tv.ownBlock) (S : List UInt8) (v' : Value) (hown : W2.ownsRow 0 9 1 v' (s.ts.length + 1) (s.ts.map (fun l => .string (bs l)) ++ [.string (bs S)])) (hat : v'.ownBlock = s.tv.ownBlock ∨ v'.ownBlock = some W1.heap.size) :
    VS wb { s with tv := v', ts := s.ts ++ [S] } w (W2.setCell ⟨wb, 0, none⟩ v') ∧ W2.heap[wb]? = some (.cells s.cells 41 (0, 0)) :=
  h.grow (s' := { s with tv := v', ts := s.ts ++ [S] }) .tx (by simp) hb (Frm.of_grown hg (fun k e => .inl (by simp [Sg.th, rowT, e]))) (by simpa [Sg.th, rowT] using hown) (fun k hk => by
    simp only [Sg.th, rowT, Option.mem_toList] at hk ⊢
    rcases hat with e | e
    · exact .inl (e ▸ hk)
    · rw [e] at hk; cases hk; exact .inr (Nat.le_refl _)) 0 v' rfl (fun q h1 h2 => by cases q <;> first | rfl | exact absurd rfl h1 | exact absurd rfl h2)
theorem VI.pushT {n : Nat} {s : Sg} (h : VI n s) (S : List UInt8) (v' : Value) (hS : S.length ≤ 17000) : VI (n + 1) { s with tv := v', ts := s.ts ++ [S] } := by
  have u := h.up
  refine { u with tn := by simp; exact h.tn, tl := fun l hl => ?_, hd := ⟨u.hd.lw, u.hd.ok, u.hd.l, u.hd.o⟩ }
  simp only [List.mem_append, List.mem_singleton] at hl
  rcases hl with hl | rfl
  · exact h.tl l hl
  · exact hS
/-- The message is another one, its updates nobody's to write. -/
theorem VS.setM {wb : Nat} {s : Sg} {w W : World} (h : VS wb s w W) (m : M6) (uv : Value) :
    VS wb { s with m := m, uv := uv } w ((((((W.setCell ⟨wb, 1, none⟩ (.int .i64 m.kind)).setCell ⟨wb, 2, none⟩ (.int .i64 m.frm)).setCell ⟨wb, 3, none⟩ (.int .i64 m.inc)).setCell ⟨wb, 4, none⟩ (.int .i64 m.seq)).setCell ⟨wb, 5, none⟩ (.int .i64 m.tgt)).setCell ⟨wb, 6, none⟩ uv) := by
  have k : ∀ (s s' : Sg), s'.tv = s.tv → s'.ts = s.ts → s'.nv = s.nv → s'.ns = s.ns → s'.pv = s.pv → s'.ps = s.ps → s'.lv = s.lv → s'.ls = s.ls → s'.wv = s.wv → s'.ws = s.ws → s'.ov = s.ov → s'.os = s.os → s'.kv = s.kv → s'.ks = s.ks → s'.fz = s.fz → s'.a = s.a → s'.b = s.b → ∀ q, q ≠ Ix.wb → s'.th wb q = s.th wb q := by
    intro s s' e1 e2 e3 e4 e5 e6 e7 e8 e9 e10 e11 e12 e13 e14 e15 e16 e17 q hq
    cases q <;> simp_all [Sg.th]
  have a1 := h.store (s' := { s with m := { s.m with kind := m.kind } }) 1 (.int .i64 m.kind) rfl (k _ _ rfl rfl rfl rfl rfl rfl rfl rfl rfl rfl rfl rfl rfl rfl rfl rfl rfl)
  have a2 := a1.store (s' := { s with m := { s.m with kind := m.kind, frm := m.frm } }) 2 (.int .i64 m.frm) rfl (k _ _ rfl rfl rfl rfl rfl rfl rfl rfl rfl rfl rfl rfl rfl rfl rfl rfl rfl)
  have a3 := a2.store (s' := { s with m := { s.m with kind := m.kind, frm := m.frm, inc := m.inc } }) 3 (.int .i64 m.inc) rfl (k _ _ rfl rfl rfl rfl rfl rfl rfl rfl rfl rfl rfl rfl rfl rfl rfl rfl rfl)
  have a4 := a3.store (s' := { s with m := { s.m with kind := m.kind, frm := m.frm, inc := m.inc, seq := m.seq } }) 4 (.int .i64 m.seq) rfl (k _ _ rfl rfl rfl rfl rfl rfl rfl rfl rfl rfl rfl rfl rfl rfl rfl rfl rfl)
  have a5 := a4.store (s' := { s with m := { s.m with kind := m.kind, frm := m.frm, inc := m.inc, seq := m.seq, tgt := m.tgt } }) 5 (.int .i64 m.tgt) rfl (k _ _ rfl rfl rfl rfl rfl rfl rfl rfl rfl rfl rfl rfl rfl rfl rfl rfl rfl)
  exact a5.store (s' := { s with m := m, uv := uv }) 6 uv rfl (k _ _ rfl rfl rfl rfl rfl rfl rfl rfl rfl rfl rfl rfl rfl rfl rfl rfl rfl)
theorem VS.setShape {wb : Nat} {s : Sg} {w W : World} (h : VS wb s w W) (c : Cfg) :
    VS wb { s with c := c } w ((((((W.setCell ⟨wb, 8, none⟩ (.int .i64 c.self)).setCell ⟨wb, 9, none⟩ (.int .i64 c.period)).setCell ⟨wb, 10, none⟩ (.int .i64 c.wait)).setCell ⟨wb, 11, none⟩ (.int .i64 c.suspect)).setCell ⟨wb, 12, none⟩ (.int .i64 c.proxies)).setCell ⟨wb, 13, none⟩ (.int .i64 c.sends)) := by
  have k : ∀ (s : Sg) (c : Cfg), ∀ q, q ≠ Ix.wb → ({ s with c := c } : Sg).th wb q = s.th wb q := by
    intro s c q hq
    cases q <;> first | rfl | exact absurd rfl hq
  have a1 := h.store (s' := { s with c := { s.c with self := c.self } }) 8 (.int .i64 c.self) rfl (k _ _)
  have a2 := a1.store (s' := { s with c := { s.c with self := c.self, period := c.period } }) 9 (.int .i64 c.period) rfl (fun q hq => (k _ _ q hq).trans (k _ _ q hq).symm)
  have a3 := a2.store (s' := { s with c := { s.c with self := c.self, period := c.period, wait := c.wait } }) 10 (.int .i64 c.wait) rfl (fun q hq => (k _ _ q hq).trans (k _ _ q hq).symm)
  have a4 := a3.store (s' := { s with c := { s.c with self := c.self, period := c.period, wait := c.wait, suspect := c.suspect } }) 11 (.int .i64 c.suspect) rfl (fun q hq => (k _ _ q hq).trans (k _ _ q hq).symm)
  have a5 := a4.store (s' := { s with c := { s.c with self := c.self, period := c.period, wait := c.wait, suspect := c.suspect, proxies := c.proxies } }) 12 (.int .i64 c.proxies) rfl (fun q hq => (k _ _ q hq).trans (k _ _ q hq).symm)
  exact a5.store (s' := { s with c := c }) 13 (.int .i64 c.sends) rfl (fun q hq => (k _ _ q hq).trans (k _ _ q hq).symm)
end Go.Proofs.YtnneljcbelgoeaaGreatDoor.wire
namespace Go.Proofs.YtnneljcbelgoeaaGreatDoor.wire
open Go.RowKit
set_option maxRecDepth 100000 in
set_option maxHeartbeats 1000000 in
theorem text_any (n wb : Nat) (s : St) (w W : World) (h : WV n wb s w W) (hn : n ≤ 20000) (c : Int) (h0 : -9223372036854775808 ≤ c) (h1 : c ≤ 9223372036854775807) :
    Calls Tryz.prog 13 #[.pointer (some ⟨wb, 0, none⟩), .int .i64 c] W fun e w' => ∃ l, e = .returned (.string (bs l)) ∧ l.length ≤ 17000 ∧ ∃ k, w' = W.drewN k := by
  have ht := h.rows.t
  have htn := h.tn
  have htl := h.tl
  have c0 : W.cell? ⟨wb, 0, none⟩ = some s.tv := h.cell 0
  obtain ⟨ao, cap, hv⟩ := own_form ht
  by_cases hz : s.ts.length = 0
  · rw [hz] at hv
    rw [hv] at c0
    clear ht htl h hv
    go_enter Tryz.func13, Tryz.ntmps13
    go_wp2
    go_ret
    exact ⟨[], by simp [bs], by simp, 0, rfl⟩
  · obtain ⟨g, cap', hv', _, _⟩ := ht.form (by omega)
    rw [hv'] at c0
    obtain ⟨p0, p1⟩ := pickW_bd c (s.ts.length : Int) (by omega)
    obtain ⟨q, hq⟩ := Int.eq_ofNat_of_zero_le p0
    have hql : q < s.ts.length := by omega
    have hcell : W.cell? ⟨g, q, none⟩ = some (.string (bs s.ts[q])) := by
      rw [hv'] at ht
      rw [ht.cellAt q (by omega)]
      simp [hql]
    have hlen := htl s.ts[q] (List.getElem_mem hql)
    have hnz : ((s.ts.length : Int) == 0) = false := beq_eq_false_iff_ne.2 (by omega)
    have hlp : (s.ts.length : Int) ≤ 4294967296 := by omega
    have hlq : (0 : Int) < (s.ts.length : Int) := by omega
    have HP := hide (fun W' => lpick_any c (s.ts.length : Int) W' h0 h1 hlq hlp)
    rw [hq] at HP
    generalize s.ts[q] = l at hcell hlen
    clear ht htl h hv hv' p0 p1 hq
    have hq0 : (0 : Int) ≤ (q : Int) := by omega
    have hq1 : (q : Int) < (s.ts.length : Int) := by omega
    go_enter Tryz.func13, Tryz.ntmps13
    go_wp2_with fail
    go_quiet ((go_at_call 19; exact Calls.quiet_of_same (unhide HP _)))
    go_wp2
    go_ret
    exact ⟨l, rfl, hlen, _, rfl⟩
end Go.Proofs.YtnneljcbelgoeaaGreatDoor.wire
