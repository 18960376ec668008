import Derived.Test.YtnneljcbelgoeaaGreatNTickAll
import Derived.Test.YtnneljcbelgoeaaGreatNReceive3
import Derived.Test.YtnneljcbelgoeaaGreatNMade
/- What a node knows never falls; what it keeps through whatever comes. No Go here. -/
namespace Go.Proofs.YtnneljcbelgoeaaGreat.wire

/-- b is not smaller than a. -/
def leK (a b : K3) : Prop := a.inc < b.inc ∨ (a.inc = b.inc ∧ a.st ≤ b.st)
theorem leK.refl (a : K3) : leK a a := .inr ⟨rfl, Int.le_refl _⟩
theorem leK.trans {a b c : K3} (h : leK a b) (k : leK b c) : leK a c := by
  unfold leK at *
  omega
theorem leK_of_not {a b : K3} (h : greaterB a b = false) : leK a b := by
  unfold greaterB at h
  unfold leK
  split at h
  · rename_i e
    have : ¬ b.st < a.st := by simpa using h
    right; exact ⟨e, by omega⟩
  · rename_i e
    have : ¬ b.inc < a.inc := by simpa using h
    left; omega
theorem not_of_leK {a b : K3} (h : leK a b) : greaterB a b = false := by
  unfold greaterB
  unfold leK at h
  split
  · simp; omega
  · simp; omega
theorem leK_of_greater {a b : K3} (h : greaterB a b = true) : leK b a := by
  unfold greaterB at h
  unfold leK
  split at h
  · rename_i e
    have : b.st < a.st := by simpa using h
    right; omega
  · have : b.inc < a.inc := by simpa using h
    left; omega
/-- x' knows all that x knows, or more. -/
structure Up (x x' : Nd) : Prop where
  c : x'.c = x.c
  dl : x'.dl = x.dl
  up : ∀ i o, findM i x.tab = some o → ∃ o', findM i x'.tab = some o' ∧ leK o.k o'.k
theorem Up.refl (x : Nd) : Up x x := ⟨rfl, rfl, fun _ o h => ⟨o, h, leK.refl _⟩⟩
theorem Up.trans {x y z : Nd} (h : Up x y) (k : Up y z) : Up x z :=
  ⟨k.c.trans h.c, k.dl.trans h.dl, fun i o ho => by
    obtain ⟨o', h1, h2⟩ := h.up i o ho
    obtain ⟨o'', h3, h4⟩ := k.up i o' h1
    exact ⟨o'', h3, h2.trans h4⟩⟩
theorem Up.same {x y : Nd} (hc : y.c = x.c) (hd : y.dl = x.dl) (ht : y.tab = x.tab) : Up x y := ⟨hc, hd, fun i o ho => ⟨o, by rw [ht]; exact ho, leK.refl _⟩⟩
theorem Up.of_same {x y z : Nd} (h : Up y z) (hc : y.c = x.c) (hd : y.dl = x.dl) (ht : y.tab = x.tab) : Up x z := (Up.same hc hd ht).trans h
theorem Up.change {x : Nd} (hx : NdOk x) (k : K3) (hk : ∀ o, findM k.id x.tab = some o → leK o.k k) : Up x (x.change k) := by
  refine ⟨rfl, rfl, fun i o ho => ?_⟩
  have e : findM i (x.change k).tab = if k.id = i then some ⟨k, x.clock + x.c.suspect, x.c.sends⟩ else findM i x.tab := findM_putM ⟨k, x.clock + x.c.suspect, x.c.sends⟩ i x.tab hx.rise
  rw [e]
  split
  · rename_i e2
    exact ⟨_, rfl, hk o (by rw [e2]; exact ho)⟩
  · exact ⟨o, ho, leK.refl _⟩
theorem Up.hear {x : Nd} (hx : NdOk x) (k : K3) : Up x (x.hear k) := by
  unfold Nd.hear
  split
  · unfold Nd.hearSelf
    split
    · exact Up.refl x
    · rename_i h
      simp only [Bool.or_eq_true, decide_eq_true_eq, not_or] at h
      obtain ⟨m, hm⟩ := hx.self
      have hown : x.own = m.k := by simp [Nd.own, atM, hm]
      have hid := (hx.own_key).2
      refine Up.change hx _ (fun o ho => ?_)
      have e : o = m := by
        have h1 : findM x.own.id x.tab = some o := ho
        rw [hid, hm] at h1
        exact (Option.some.inj h1).symm
      subst e
      have h2 : ¬ k.inc < o.k.inc := by rw [← hown]; exact h.2.2.1
      left
      show o.k.inc < k.inc + 1
      omega
  · unfold Nd.hearOther
    have heard : (∀ o, findM k.id x.tab = some o → leK o.k k) → Up x (x.heard k) := fun h => by
      unfold Nd.heard
      split
      · exact Up.change hx k h
      · exact (Up.change hx k h).trans (Up.same rfl rfl rfl)
    split
    · rename_i o ho
      split
      · rename_i hg
        exact heard (fun o' ho' => by rw [ho] at ho'; cases ho'; exact leK_of_greater hg)
      · exact Up.refl x
    · rename_i ho
      split
      · exact Up.refl x
      · exact heard (fun o' ho' => by rw [ho] at ho'; cases ho')
theorem Up.along {x : Nd} (hx : NdOk x) : Up x x.along := by
  refine ⟨rfl, rfl, fun i o ho => ?_⟩
  have h := along_keys hx i
  rw [ho] at h
  rcases hf : findM i x.along.tab with _ | o'
  · rw [hf] at h; cases h
  · rw [hf] at h
    have : o'.k = o.k := by simpa using h
    exact ⟨o', rfl, by rw [this]; exact leK.refl _⟩
theorem Up.hears : ∀ (l : List K3) {x : Nd}, NdOk x → allB l = true → Up x (x.hears l)
  | [], x, _, _ => Up.refl x
  | k :: r, x, hx, hl => by
    have h1 : isKeyB k = true ∧ allB r = true := by simpa [allB] using hl
    exact (Up.hear hx k).trans (Up.hears r (hear_ok hx k h1.1) h1.2)
theorem hears_ok' : ∀ (l : List K3) {x : Nd}, NdOk x → allB l = true → NdOk (x.hears l)
  | [], _, hx, _ => hx
  | k :: r, x, hx, hl => by
    have h1 : isKeyB k = true ∧ allB r = true := by simpa [allB] using hl
    exact hears_ok' r (hear_ok hx k h1.1) h1.2
theorem hears_b' : ∀ (l : List K3) {B : Int} {x : Nd}, NdB B x → NdB (B + l.length) (x.hears l)
  | [], _, _, h => h.mono (by simp)
  | k :: r, B, x, h => (hears_b' r (hear_b h k)).mono (by simp; omega)
/-- Relays: each has a number of its own. -/
structure RelOk (x : Nd) : Prop where
  rise : x.rels.Pairwise (fun a b => a.num < b.num)
  top : ∀ r ∈ x.rels, r.num ≤ x.num
theorem RelOk.same {x y : Nd} (h : RelOk x) (hr : y.rels = x.rels) (hn : x.num ≤ y.num) : RelOk y :=
  ⟨by rw [hr]; exact h.rise, fun r hm => by rw [hr] at hm; exact Int.le_trans (h.top r hm) hn⟩
theorem RelOk.filter {x y : Nd} (h : RelOk x) (p : Rel → Bool) (hr : y.rels = x.rels.filter p) (hn : x.num ≤ y.num) : RelOk y :=
  ⟨by rw [hr]; exact h.rise.filter _, fun r hm => by rw [hr] at hm; exact Int.le_trans (h.top r (List.mem_filter.1 hm).1) hn⟩
theorem hear_rels (x : Nd) (k : K3) : (x.hear k).rels = x.rels ∧ (x.hear k).num = x.num := by
  unfold Nd.hear Nd.hearSelf Nd.hearOther Nd.heard
  repeat' split
  all_goals exact ⟨rfl, rfl⟩
theorem hears_rels : ∀ (l : List K3) (x : Nd), (x.hears l).rels = x.rels ∧ (x.hears l).num = x.num
  | [], _ => ⟨rfl, rfl⟩
  | k :: r, x => ⟨(hears_rels r (x.hear k)).1.trans (hear_rels x k).1, (hears_rels r (x.hear k)).2.trans (hear_rels x k).2⟩
/-- Behind the pings that were relayed. -/
theorem relayed_keeps : ∀ (l : List Rel) {x : Nd}, NdOk x → NdOk (x.relayed l).2 ∧ Up x (x.relayed l).2 ∧ (x.relayed l).2.rels = x.rels ∧ (x.relayed l).2.num = x.num ∧ (∀ B, NdB B x → NdB B (x.relayed l).2) ∧ (x.relayed l).1.length = l.length ∧ (x.relayed l).2.dropped = x.dropped
  | [], x, hx => ⟨hx, Up.refl x, rfl, rfl, fun _ h => h, rfl, rfl⟩
  | r :: l, x, hx => by
    obtain ⟨a, b, c, d, e, f, g⟩ := relayed_keeps l (along_ok hx)
    exact ⟨a, (Up.along hx).trans b, c, d, fun B h => e B (along_b h), by show (x.along.relayed l).1.length + 1 = _; rw [f]; rfl, g⟩
/-- What a message does beside its keys. -/
structure Kept1 (x y : Nd) : Prop where
  ok : NdOk y
  up : Up x y
  rel : RelOk x → RelOk y
  b : ∀ B, NdB B x → NdB (B + 1) y
  dropped : y.dropped = x.dropped
theorem Kept1.along {x : Nd} (hx : NdOk x) : Kept1 x x.along := ⟨along_ok hx, Up.along hx, fun h => h.same rfl (Int.le_refl _), fun _ h => (along_b h).mono (by omega), rfl⟩
theorem Kept1.refl {x : Nd} (hx : NdOk x) : Kept1 x x := ⟨hx, Up.refl x, id, fun _ h => h.mono (by omega), rfl⟩
theorem takePing_keeps {x : Nd} (hx : NdOk x) (m : M6) : Kept1 x (x.takePing m).2 := by
  unfold Nd.takePing; split
  · exact Kept1.along hx
  · exact Kept1.refl hx
theorem takeAck_keeps {x : Nd} (hx : NdOk x) (m : M6) : Kept1 x (x.takeAck m).2 := by
  unfold Nd.takeAck
  have hok := relay_ok hx (if x.ptgt = m.tgt ∧ x.pnum = m.seq then true else x.pack) (l := x.rels.filter (fun r => !(itsB m r))) (Nat.le_trans (List.length_filter_le _ _) hx.rels)
  obtain ⟨a, b, c, d, e, _, g⟩ := relayed_keeps (x.rels.filter (itsB m)) hok
  refine ⟨a, b.of_same rfl rfl rfl, fun h => h.filter _ c (Int.le_of_eq d.symm), fun B h => (e B ⟨h.clock, h.num, h.dropped, h.lost, h.tk⟩).mono (by omega), g⟩
theorem takeAsk_keeps {x : Nd} (hx : NdOk x) (m : M6) : Kept1 x (x.takeAsk m).2 := by
  unfold Nd.takeAsk
  split
  · exact takePing_keeps hx m
  · split
    · exact Kept1.refl hx
    · rename_i h4
      have hok := ask_ok hx (by omega) m
      refine ⟨along_ok hok, (Up.along hok).of_same rfl rfl rfl, fun h => ?_, fun B h => ?_, rfl⟩
      · refine ⟨?_, fun r hr => ?_⟩
        · show (x.rels ++ [_]).Pairwise _
          rw [List.pairwise_append]
          refine ⟨h.rise, by simp, fun a ha b hb => ?_⟩
          simp at hb
          subst hb
          have := h.top a ha
          show a.num < x.num + 1
          omega
        · have hr' : r ∈ x.rels ++ [⟨m.tgt, x.num + 1, m.frm, m.seq, x.clock + x.c.period⟩] := hr
          rcases List.mem_append.1 hr' with h1 | h1
          · have := h.top r h1
            show r.num ≤ x.num + 1
            omega
          · simp at h1; subst h1; exact Int.le_refl _
      · have hB := h.mono (C := B + 1) (by omega)
        exact ⟨hB.clock, ⟨by have := h.num; show 0 ≤ x.num + 1; omega, by have := h.num; show x.num + 1 ≤ B + 1; omega⟩, hB.dropped, hB.lost, hB.tk⟩
theorem deed_keeps {x : Nd} (hx : NdOk x) (m : M6) : Kept1 x (x.deed m).2 := by
  unfold Nd.deed
  repeat' split
  · exact takePing_keeps hx m
  · exact takeAck_keeps hx m
  · exact takeAsk_keeps hx m
  · exact Kept1.refl hx
  · exact Kept1.refl hx
theorem takes_parts {s : Int} {b : List UInt8} (h : takesB s b = true) : wholeB (readM b) = true ∧ (readM b).frm ≠ s := by
  simp only [takesB, Bool.and_eq_true, Bool.not_eq_true', decide_eq_false_iff_not] at h
  refine ⟨?_, h.2⟩
  have := h.1
  simp only [decB, Bool.and_eq_true] at this
  exact this.2
/-- Whatever bytes come. -/
structure Got (x y : Nd) : Prop where
  ok : NdOk y
  up : Up x y
  rel : RelOk x → RelOk y
  b : ∀ B, NdB B x → NdB (B + 10) y
theorem receive_keeps {x : Nd} (hx : NdOk x) (b : List UInt8) : Got x (x.receive b).2 ∧ (takesB x.c.self b = true → (x.receive b).2.dropped = x.dropped) := by
  unfold Nd.receive
  split
  · rename_i ht
    obtain ⟨hw, _⟩ := takes_parts ht
    obtain ⟨hk, hl8, ha⟩ := whole_parts hw
    have h1 := hear_ok hx ⟨(readM b).frm, (readM b).inc, 1⟩ hk
    have h2 := hears_ok' (readM b).ups h1 ha
    have k := deed_keeps h2 (readM b)
    refine ⟨⟨k.ok, ((Up.hear hx _).trans (Up.hears _ h1 ha)).trans k.up, fun h => k.rel (h.same (((hears_rels _ _).1).trans (hear_rels _ _).1) (Int.le_of_eq (((hears_rels _ _).2).trans (hear_rels _ _).2).symm)), fun B h => (k.b _ (hears_b' _ (hear_b h _))).mono (by omega)⟩, fun _ => ?_⟩
    rw [k.dropped]
    have hd : ∀ (x : Nd) (k : K3), (x.hear k).dropped = x.dropped := fun x k => by
      unfold Nd.hear Nd.hearSelf Nd.hearOther Nd.heard
      repeat' split
      all_goals rfl
    have hds : ∀ (l : List K3) (x : Nd), (x.hears l).dropped = x.dropped := fun l => by
      induction l with
      | nil => intro x; rfl
      | cons k r ih => intro x; exact (ih (x.hear k)).trans (hd x k)
    rw [hds, hd]
  · rename_i ht
    refine ⟨⟨⟨hx.cfg, hx.rise, hx.len, hx.keys, hx.sends, hx.self, hx.evs, hx.rels, hx.pass⟩, Up.same rfl rfl rfl, fun h => h.same rfl (Int.le_refl _), fun B h => ?_⟩, fun h => absurd h ht⟩
    have hB := h.mono (C := B + 10) (by omega)
    exact ⟨hB.clock, hB.num, ⟨by have := h.dropped; show 0 ≤ x.dropped + 1; omega, by have := h.dropped; show x.dropped + 1 ≤ B + 10; omega⟩, hB.lost, hB.tk⟩
end Go.Proofs.YtnneljcbelgoeaaGreat.wire
/- A tick keeps it too; what comes out is small. No Go here. -/
namespace Go.Proofs.YtnneljcbelgoeaaGreat.wire

theorem Up.deads : ∀ (l : List Mem) {x : Nd}, NdOk x → (∀ m ∈ l, isKeyB m.k = true) → Up x (l.foldl (fun y m => y.hear m.dead) x)
  | [], x, _, _ => Up.refl x
  | m :: r, _, hx, hl => (Up.hear hx m.dead).trans (Up.deads r (hear_ok hx _ (dead_key (hl m (List.mem_cons_self ..)))) (fun m' hm' => hl m' (List.mem_cons_of_mem _ hm')))
theorem Up.drew (x : Nd) (n : Int) : Up x (x.drew n) := by
  obtain ⟨m, e, _⟩ := drew_ex x n
  rw [e]
  exact Up.same rfl rfl rfl
theorem Up.asks : ∀ (n : Nat) (l : List Int) {x : Nd}, NdOk x → Up x (x.asks n l).2
  | 0, _, x, _ => Up.refl x
  | n + 1, _, x, hx => ((Up.drew x _).trans (Up.along (drew_ok hx _))).trans (Up.asks n _ (along_ok (drew_ok hx _)))
theorem Up.endProbe {x : Nd} (hx : NdOk x) : Up x x.endProbe := by
  unfold Nd.endProbe
  split
  · exact Up.same rfl rfl rfl
  · exact (Up.hear (idle_ok hx) _).of_same rfl rfl rfl
theorem Up.goOn {x : Nd} (hx : NdOk x) : Up x x.goOn.2 := by
  unfold Nd.goOn
  split
  · exact Up.refl x
  · split
    · unfold Nd.askOthers
      split
      · exact Up.refl x
      · exact Up.asks _ _ hx
    · split
      · exact Up.endProbe hx
      · exact Up.refl x
theorem Up.renew (x : Nd) : Up x x.renew := by
  unfold Nd.renew
  split
  · obtain ⟨m, e, _⟩ := mixed_ex x x.present
    rw [e]
    exact Up.same rfl rfl rfl
  · exact Up.refl x
theorem Up.probeOne {x : Nd} (hx : NdOk x) : Up x x.probeOne.2 := by
  unfold Nd.probeOne
  split
  · exact Up.refl x
  · rename_i t r hp
    exact (Up.along (begin_ok hx hp)).of_same rfl rfl rfl
theorem Up.probeNext {x : Nd} (hx : NdOk x) : Up x x.probeNext.2 := by
  unfold Nd.probeNext
  split
  · exact Up.refl x
  · exact (Up.renew x).trans (Up.probeOne (renew_ok hx))
theorem Up.tick {x : Nd} (hx : NdOk x) : Up x x.tick.2 := by
  have h1 : Up x x.later.endRelays := Up.same rfl rfl rfl
  have x2 := endRelays_ok (later_ok hx)
  have h2 : Up x.later.endRelays x.later.endRelays.endSuspects := Up.deads _ x2 (fun m hm => x2.keys m (List.mem_filter.1 hm).1)
  have x3 := endSuspects_ok x2
  exact ((h1.trans h2).trans (Up.goOn x3)).trans (Up.probeNext (goOn_ok x3))
theorem deads_rels : ∀ (l : List Mem) (x : Nd), (l.foldl (fun y m => y.hear m.dead) x).rels = x.rels ∧ (l.foldl (fun y m => y.hear m.dead) x).num = x.num
  | [], _ => ⟨rfl, rfl⟩
  | m :: r, x => ⟨(deads_rels r (x.hear m.dead)).1.trans (hear_rels x m.dead).1, (deads_rels r (x.hear m.dead)).2.trans (hear_rels x m.dead).2⟩
theorem asks_rels : ∀ (n : Nat) (l : List Int) (x : Nd), (x.asks n l).2.rels = x.rels ∧ (x.asks n l).2.num = x.num
  | 0, _, _ => ⟨rfl, rfl⟩
  | n + 1, l, x => by
    obtain ⟨m, e, _⟩ := drew_ex x (l.length : Int)
    obtain ⟨a, b⟩ := asks_rels n (l.eraseIdx (x.drawn l.length).toNat) (x.drew l.length).along
    refine ⟨a.trans ?_, b.trans ?_⟩
    · show (x.drew l.length).rels = x.rels
      rw [e]
    · show (x.drew l.length).num = x.num
      rw [e]
theorem goOn_rels (x : Nd) : x.goOn.2.rels = x.rels ∧ x.goOn.2.num = x.num := by
  unfold Nd.goOn
  split
  · exact ⟨rfl, rfl⟩
  · split
    · unfold Nd.askOthers
      split
      · exact ⟨rfl, rfl⟩
      · exact asks_rels _ _ _
    · split
      · show x.endProbe.rels = x.rels ∧ x.endProbe.num = x.num
        unfold Nd.endProbe
        split
        · exact ⟨rfl, rfl⟩
        · exact hear_rels _ _
      · exact ⟨rfl, rfl⟩
theorem renew_rels (x : Nd) : x.renew.rels = x.rels ∧ x.renew.num = x.num := by
  unfold Nd.renew
  split
  · obtain ⟨m, e, _⟩ := mixed_ex x x.present
    rw [e]
    exact ⟨rfl, rfl⟩
  · exact ⟨rfl, rfl⟩
theorem probeNext_rels (x : Nd) : x.probeNext.2.rels = x.rels ∧ x.num ≤ x.probeNext.2.num := by
  unfold Nd.probeNext
  split
  · exact ⟨rfl, Int.le_refl _⟩
  · have h : x.renew.probeOne.2.rels = x.renew.rels ∧ x.renew.num ≤ x.renew.probeOne.2.num := by
      unfold Nd.probeOne
      split
      · exact ⟨rfl, Int.le_refl _⟩
      · exact ⟨rfl, by show x.renew.num ≤ x.renew.num + 1; omega⟩
    rw [(renew_rels x).1, (renew_rels x).2] at h
    exact h
theorem RelOk.tick {x : Nd} (h : RelOk x) : RelOk x.tick.2 := by
  have h1 : RelOk x.later.endRelays := h.filter (fun r => !decide (r.till ≤ x.later.clock)) rfl (Int.le_refl _)
  have h2 : RelOk x.later.endRelays.endSuspects := h1.same (deads_rels _ _).1 (Int.le_of_eq (deads_rels _ _).2.symm)
  have h3 : RelOk x.later.endRelays.endSuspects.goOn.2 := h2.same (goOn_rels _).1 (Int.le_of_eq (goOn_rels _).2.symm)
  exact h3.same (probeNext_rels _).1 (probeNext_rels _).2
/-- How many packets come out of whatever came in. -/
theorem its_one {x : Nd} (h : RelOk x) (m : M6) : (x.rels.filter (itsB m)).length ≤ 1 := by
  have hp := h.rise.filter (itsB m)
  rcases hl : x.rels.filter (itsB m) with _ | ⟨a, _ | ⟨b, r⟩⟩
  · simp
  · simp
  · rw [hl] at hp
    have h1 : a.num < b.num := (List.pairwise_cons.1 hp).1 b (by simp)
    have ha : itsB m a = true := (List.mem_filter.1 (by rw [hl]; simp : a ∈ x.rels.filter (itsB m))).2
    have hb : itsB m b = true := (List.mem_filter.1 (by rw [hl]; simp : b ∈ x.rels.filter (itsB m))).2
    simp only [itsB, Bool.and_eq_true, decide_eq_true_eq] at ha hb
    omega
theorem deed_one {x : Nd} (h : RelOk x) (hx : NdOk x) (m : M6) : (x.deed m).1.length ≤ 1 := by
  unfold Nd.deed
  repeat' split
  · unfold Nd.takePing; split <;> simp
  · unfold Nd.takeAck
    have hok := relay_ok hx (if x.ptgt = m.tgt ∧ x.pnum = m.seq then true else x.pack) (l := x.rels.filter (fun r => !(itsB m r))) (Nat.le_trans (List.length_filter_le _ _) hx.rels)
    rw [(relayed_keeps (x.rels.filter (itsB m)) hok).2.2.2.2.2.1]
    exact its_one h m
  · unfold Nd.takeAsk
    split
    · unfold Nd.takePing; split <;> simp
    · split <;> simp
  · simp [Nd.takeJoin]
  · simp
theorem bytesS_len (m : M6) (h : m.ups.length ≤ 8) : (bytesS m).length ≤ 60 := by
  unfold bytesS
  split
  · rw [bytesM_len]; omega
  · simp
theorem direct_small (x : Nd) (kind dest seq tgt : Int) : (x.direct kind dest seq tgt).bytes.length ≤ 60 := by
  have := picks_len x
  refine bytesS_len _ ?_
  show (x.picks.map Mem.k).length ≤ 8
  rw [List.length_map]; omega
theorem relayed_small : ∀ (l : List Rel) (x : Nd), ∀ p ∈ (x.relayed l).1, p.bytes.length ≤ 60
  | [], _, p, hp => by cases hp
  | r :: l, x, p, hp => by
    have hp' : p ∈ x.direct 2 r.asker r.under r.tgt :: (x.along.relayed l).1 := hp
    rcases List.mem_cons.1 hp' with rfl | h
    · exact direct_small _ _ _ _ _
    · exact relayed_small l x.along p h
theorem takePing_small (x : Nd) (m : M6) : ∀ p ∈ (x.takePing m).1, p.bytes.length ≤ 60 := by
  intro p hp
  unfold Nd.takePing at hp
  by_cases h : m.tgt = x.c.self
  · rw [if_pos h] at hp; simp at hp; subst hp; exact direct_small _ _ _ _ _
  · rw [if_neg h] at hp; cases hp
theorem deed_small {x : Nd} (hx : NdOk x) (m : M6) : ∀ p ∈ (x.deed m).1, p.bytes.length ≤ 60 := by
  intro p hp
  unfold Nd.deed at hp
  repeat' split at hp
  · exact takePing_small x m p hp
  · unfold Nd.takeAck at hp
    exact relayed_small _ _ p hp
  · unfold Nd.takeAsk at hp
    by_cases h1 : m.tgt = x.c.self
    · rw [if_pos h1] at hp; exact takePing_small x m p hp
    · rw [if_neg h1] at hp
      by_cases h2 : 4 ≤ x.rels.length
      · rw [if_pos h2] at hp; cases hp
      · rw [if_neg h2] at hp; simp at hp; subst hp; exact direct_small _ _ _ _ _
  · simp [Nd.takeJoin] at hp
    subst hp
    refine bytesS_len _ ?_
    show (x.tab.map Mem.k).length ≤ 8
    rw [List.length_map]; exact hx.len
  · cases hp
theorem receive_out {x : Nd} (hx : NdOk x) (hr : RelOk x) (b : List UInt8) : (x.receive b).1.length ≤ 1 ∧ ∀ p ∈ (x.receive b).1, p.bytes.length ≤ 60 := by
  unfold Nd.receive
  split
  · rename_i ht
    obtain ⟨hw, _⟩ := takes_parts ht
    obtain ⟨hk, hl8, ha⟩ := whole_parts hw
    have h1 := hear_ok hx ⟨(readM b).frm, (readM b).inc, 1⟩ hk
    have h2 := hears_ok' (readM b).ups h1 ha
    exact ⟨deed_one (hr.same (((hears_rels _ _).1).trans (hear_rels _ _).1) (Int.le_of_eq (((hears_rels _ _).2).trans (hear_rels _ _).2).symm)) h2 _, deed_small h2 _⟩
  · simp
theorem others_le {x : Nd} (hx : NdOk x) : x.others.length ≤ 7 := by
  obtain ⟨m, hm⟩ := hx.self
  obtain ⟨h1, h2⟩ := findM_in hm
  have hl := hx.len
  unfold Nd.others
  rw [List.length_map]
  have : (x.tab.filter (fun m => !(m.k.id == x.c.self))).length < x.tab.length := by
    rw [List.length_filter_lt_length_iff_exists]
    exact ⟨m, h1, by simp [h2]⟩
  omega
theorem pending_le {x : Nd} (hx : NdOk x) : x.pending ≤ 8 := Nat.le_trans (List.length_filter_le _ _) hx.len
theorem knows_up {x y : Nd} (h : Up x y) {j : Int} (hj : Knows j x) : Knows j y := by
  unfold Knows at *
  obtain ⟨o, ho⟩ := Option.isSome_iff_exists.1 hj
  obtain ⟨o', h1, _⟩ := h.up j o ho
  rw [h1]; rfl
/-- Whom it knows. -/
theorem others_ge {x : Nd} (l : List Int) (hl : l.Nodup) (hk : ∀ i ∈ l, i ≠ x.c.self ∧ Knows i x) : l.length ≤ x.others.length := by
  have := len_sub l (x.others.map K3.id) hl (fun a ha => by
    obtain ⟨h1, h2⟩ := hk a ha
    obtain ⟨m, hm⟩ := Option.isSome_iff_exists.1 h2
    obtain ⟨m1, m2⟩ := findM_in hm
    refine List.mem_map.2 ⟨m.k, List.mem_map.2 ⟨m, List.mem_filter.2 ⟨m1, ?_⟩, rfl⟩, m2⟩
    simp [m2, h1])
  simpa using this
end Go.Proofs.YtnneljcbelgoeaaGreat.wire
