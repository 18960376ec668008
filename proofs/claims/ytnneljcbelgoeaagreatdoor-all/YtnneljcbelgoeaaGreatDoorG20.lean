import Derived.Test.YtnneljcbelgoeaaGreatDoorG19
/- The document's node: a tick (P9). No Go here. -/
namespace Go.Proofs.YtnneljcbelgoeaaGreatDoor.wire

theorem putM_at (m : Mem) : ∀ (t : List Mem), Rise t → (findM m.k.id t).isSome = true → putM m t = t.map (fun y => if y.k.id = m.k.id then m else y)
  | [], _, h => by simp [findM] at h
  | y :: r, h, hf => by
    obtain ⟨h1, h2⟩ := List.pairwise_cons.1 h
    rw [putM_cons, List.map_cons]
    unfold findM at hf
    rw [List.find?_cons] at hf
    by_cases ey : y.k.id = m.k.id
    · have hr : r.map (fun y => if y.k.id = m.k.id then m else y) = r := by
        have : r.map (fun y => if y.k.id = m.k.id then m else y) = r.map id := List.map_congr_left (fun a ha => by have := h1 a ha; rw [if_neg (by omega)]; rfl)
        rw [this, List.map_id]
      rw [if_neg (by omega), if_pos ey.symm, if_pos ey, hr]
    · have e0 : (y.k.id == m.k.id) = false := by simp [ey]
      rw [e0] at hf
      obtain ⟨m0, hm0⟩ := Option.isSome_iff_exists.1 hf
      have hin := findM_in (i := m.k.id) (t := r) hm0
      have := h1 m0 hin.1
      rw [if_neg (by omega), if_neg (by omega), if_neg ey, putM_at m r h2 hf]
/-- Who is dead is so at his place. -/
theorem dead_rest {x : Nd} (hx : NdOk x) {m : Mem} (hm : m ∈ x.rest) (hs : m.k.st = 2) : (x.hear m.dead).rest = x.rest.map (fun y => if y.k.id = m.k.id then ⟨m.dead, x.clock + x.c.suspect, x.c.sends⟩ else y) := by
  obtain ⟨h1, h2⟩ := List.mem_filter.1 hm
  have hne : m.k.id ≠ x.c.self := by simpa using h2
  have hf := findM_mem hx.rise h1
  have hgr : greaterB m.dead m.k = true := by simp [greaterB, Mem.dead, hs]
  have e : x.hear m.dead = x.heard m.dead := by
    unfold Nd.hear
    rw [if_neg (show ¬ m.dead.id = x.c.self from hne)]
    unfold Nd.hearOther
    rw [show findM m.dead.id x.tab = some m from hf]
    simp only [hgr, if_true]
  have er : (x.heard m.dead).rest = (putM ⟨m.dead, x.clock + x.c.suspect, x.c.sends⟩ x.tab).filter (fun m => !(m.k.id == x.c.self)) := by unfold Nd.heard Nd.rest; split <;> rfl
  rw [e, er, putM_filter ⟨m.dead, x.clock + x.c.suspect, x.c.sends⟩ x.c.self (show m.dead.id ≠ x.c.self from hne) x.tab hx.rise]
  refine putM_at _ _ (hx.rise.filter _) ?_
  have : findM m.k.id x.rest = some m := findM_mem (hx.rise.filter _) hm
  show (findM m.k.id x.rest).isSome = true
  rw [this]; rfl
theorem rest_in {x : Nd} {m : Mem} (h : m ∈ x.rest) : m ∈ x.tab := (List.mem_filter.1 h).1
/-- The suspects whose time is up. -/
theorem Rf.sus {e : Int} {x : Nd} {r : Rn} (h : Rf x r) (hx : NdOk x) (hl : RlE e x) : ∀ i, i ≤ x.rest.length →
    ∃ y, y = ((x.rest.take i).filter (overB x.clock)).foldl (fun y m => y.hear m.dead) x ∧ Rf y (r.sus i) ∧ NdOk y ∧ RlE e y ∧ (r.sus i).out = r.out ∧ y.rest.length = x.rest.length ∧ (∀ j, i ≤ j → y.rest[j]? = x.rest[j]?) ∧ y.clock = x.clock
  | 0, _ => ⟨x, by simp, h, hx, hl, rfl, rfl, fun _ _ => rfl, rfl⟩
  | i + 1, hi => by
    obtain ⟨y, hy, hf, hok, hrl, hout, hlen, hat, hck⟩ := h.sus hx hl i (by omega)
    have hil : i < x.rest.length := by omega
    have hget : x.rest[i]? = some x.rest[i] := List.getElem?_eq_getElem hil
    have hyi : y.rest[i]? = some x.rest[i] := (hat i (Nat.le_refl _)).trans hget
    have ho : (r.sus i).others[i]! = toR x.rest[i] := by
      rw [hf.others]
      have : (y.rest.map toR)[i]? = some (toR x.rest[i]) := by rw [List.getElem?_map, hyi]; rfl
      rw [getElem!_def, this]
    have hmem : x.rest[i] ∈ y.rest := List.mem_of_getElem? hyi
    obtain ⟨m, hm⟩ : ∃ m, m = x.rest[i] := ⟨_, rfl⟩
    rw [← hm] at ho hget hyi hmem
    have ecase : (decide ((r.sus i).others[i]!.k.st = 2) && decide ((r.sus i).others[i]!.due ≤ (r.sus i).clock)) = overB x.clock m := by
      rw [ho, hf.clock, hck]
      show (decide (m.k.st = 2) && decide ((if m.k.st = 2 then m.due else 0) ≤ x.clock)) = (decide (m.k.st = 2) && decide (m.due ≤ x.clock))
      by_cases e2 : m.k.st = 2
      · simp [e2]
      · simp [e2]
    have etake : (x.rest.take (i + 1)).filter (overB x.clock) = (x.rest.take i).filter (overB x.clock) ++ (if overB x.clock m then [m] else []) := by
      rw [List.take_succ_eq_append_getElem hil, List.filter_append, ← hm]
      congr 1
      rw [List.filter_cons]
      split <;> simp
    unfold Rn.sus
    rw [ecase, etake, List.foldl_append, ← hy]
    by_cases eo : overB x.clock m = true
    · have hst : m.k.st = 2 := by
        simp only [overB, Bool.and_eq_true, decide_eq_true_eq] at eo
        exact eo.1
      have hkey : isKeyB m.dead = true := dead_key (hok.keys m (rest_in hmem))
      have ek : (⟨(r.sus i).others[i]!.k.id, (r.sus i).others[i]!.k.inc, 3⟩ : K3) = m.dead := by rw [ho]; rfl
      rw [if_pos eo, if_pos eo, ek]
      have hrest := dead_rest hok hmem hst
      refine ⟨y.hear m.dead, rfl, hf.hear hok _ hkey, hear_ok hok _ hkey, hrl.hear hok _, by rw [heard_out]; exact hout, by rw [hrest, List.length_map]; exact hlen, fun j hj => ?_, by rw [(hear_prb y m.dead).2.2.2.2.1]; exact hck⟩
      rw [hrest, List.getElem?_map, hat j (by omega)]
      cases hj2 : x.rest[j]? with
      | none => rfl
      | some z =>
        have hlt : m.k.id < z.k.id := by
          have hrise : x.rest.Pairwise (fun a b => a.k.id < b.k.id) := hx.rise.filter _
          obtain ⟨hjl, hz⟩ := List.getElem?_eq_some_iff.1 hj2
          have := List.pairwise_iff_getElem.1 hrise i j hil hjl (by omega)
          rw [← hm, hz] at this
          exact this
        simp only [Option.map_some]
        rw [if_neg (by omega)]
    · rw [if_neg eo, if_neg eo]
      exact ⟨y, rfl, hf, hok, hrl, hout, hlen, fun j hj => hat j (by omega), hck⟩
theorem over_rest {e : Int} {x : Nd} (hx : NdOk x) (hl : RlE e x) : x.tab.filter (overB x.clock) = x.rest.filter (overB x.clock) := by
  unfold Nd.rest
  rw [List.filter_filter]
  refine List.filter_congr (fun m hm => ?_)
  by_cases e2 : m.k.id = x.c.self
  · have hf := findM_mem hx.rise hm
    rw [e2] at hf
    have eo : x.own = m.k := by simp [Nd.own, atM, hf]
    have hst := hl.own
    rw [eo] at hst
    have : overB x.clock m = false := by
      simp only [overB, Bool.and_eq_false_iff, decide_eq_false_iff_not]
      left; omega
    simp [this]
  · simp [e2]
theorem Rf.later {x : Nd} {r : Rn} (h : Rf x r) (_hx : NdOk x) : Rf x.later.endRelays r.later := by
  refine ⟨h.c, h.draws, h.drawn, by show r.clock + 1 = x.clock + 1; rw [h.clock], h.seq, h.self, h.others, h.pass, h.probe, h.prb, h.queue, ?_, h.dropped, h.evs, h.lost⟩
  show r.rels.filter (fun q => decide (r.clock + 1 < q.till)) = x.rels.filter (fun q => !decide (q.till ≤ x.clock + 1))
  rw [h.rels, h.clock]
  refine List.filter_congr (fun q _ => ?_)
  rw [Bool.eq_iff_iff]
  simp
theorem Rf.draw {x : Nd} {r : Rn} (h : Rf x r) {n : Int} (hn : 1 ≤ n) : (r.draw n).1 = x.drawn n ∧ Rf (x.drew n) (r.draw n).2 ∧ (r.draw n).2.out = r.out := by
  unfold Rn.draw Nd.drawn Nd.drew Nd.mute
  rw [h.draws, h.drawn]
  have e : decide (n < 1) = false := by simp; omega
  rw [e]
  by_cases e0 : x.dl.length = 0
  · simp only [e0, decide_true, Bool.or_false, if_true]
    exact ⟨trivial, h, trivial⟩
  · simp only [e0, decide_false, Bool.or_false, if_false, Bool.false_eq_true]
    exact ⟨trivial, ⟨h.c, rfl, by show x.dat + 1 = x.dat + 1; rfl, h.clock, h.seq, h.self, h.others, h.pass, h.probe, h.prb, h.queue, h.rels, h.dropped, h.evs, h.lost⟩, trivial⟩
theorem Rf.present {x : Nd} {r : Rn} (h : Rf x r) (hx : NdOk x) : r.present = x.present := by
  unfold Rn.present Nd.present Nd.others
  rw [h.others]
  show ((x.rest.map toR).filter (fun m => decide (m.k.st ≤ 2))).map (fun m => m.k.id) = ((x.rest.map Mem.k).filter thereB).map K3.id
  rw [List.filter_map, List.filter_map, List.map_map, List.map_map]
  congr 1
  refine List.filter_congr (fun m hm => ?_)
  have := (key_bounds (hx.keys m (rest_in hm))).2.2
  show decide (m.k.st ≤ 2) = (decide (m.k.st = 1) || decide (m.k.st = 2))
  rw [Bool.eq_iff_iff]
  simp only [decide_eq_true_eq, Bool.or_eq_true]
  omega
theorem RlE.drew {e : Int} {x : Nd} (h : RlE e x) (n : Int) : RlE e (x.drew n) := by
  obtain ⟨m, em, _⟩ := drew_ex x n
  rw [em]
  exact h.same rfl (Int.le_refl _) rfl rfl rfl rfl rfl (.inl rfl)
/-- The asks. -/
theorem Rf.asks {e : Int} : ∀ (n : Nat) (l : List Int) {x : Nd} {r : Rn}, Rf x r → NdOk x → RlE e x → x.ptgt ≠ 0 →
    (r.asks n l).out = r.out ++ (x.asks (min n l.length) l).1 ∧ Rf (x.asks (min n l.length) l).2 (r.asks n l) ∧ RlE e (x.asks (min n l.length) l).2 ∧ (x.asks (min n l.length) l).2.ptgt = x.ptgt ∧ (x.asks (min n l.length) l).2.pst = x.pst ∧ (x.asks (min n l.length) l).2.clock = x.clock ∧ (x.asks (min n l.length) l).2.c = x.c
  | 0, l, x, r, h, _, hl, _ => by
    rw [Nat.zero_min]
    exact ⟨(List.append_nil _).symm, h, hl, rfl, rfl, rfl, rfl⟩
  | n + 1, l, x, r, h, hx, hl, hp => by
    by_cases e0 : l.length = 0
    · have : min (n + 1) l.length = 0 := by omega
      rw [this]
      unfold Rn.asks
      rw [if_pos e0]
      exact ⟨(List.append_nil _).symm, h, hl, rfl, rfl, rfl, rfl⟩
    · obtain ⟨d1, d2, d3⟩ := h.draw (n := (l.length : Int)) (by omega)
      obtain ⟨m, em, _⟩ := drew_ex x l.length
      have hbd := drawn_bd x (n := (l.length : Int)) (by omega)
      obtain ⟨y, hy⟩ : ∃ y, y = x.drew l.length := ⟨_, rfl⟩
      obtain ⟨i, hi⟩ : ∃ i, i = (x.drawn l.length).toNat := ⟨_, rfl⟩
      obtain ⟨q, hq⟩ : ∃ q, q = (r.draw l.length).2 := ⟨_, rfl⟩
      have hyok : NdOk y := by rw [hy]; exact drew_ok hx _
      have hyl : RlE e y := by rw [hy]; exact hl.drew _
      have hyf : y.ptgt = x.ptgt ∧ y.pnum = x.pnum ∧ y.pst = x.pst ∧ y.clock = x.clock ∧ y.c = x.c := by rw [hy, em]; exact ⟨rfl, rfl, rfl, rfl, rfl⟩
      obtain ⟨f1, f2, f3, f4, f5⟩ := hyf
      have hRy : Rf y q := by rw [hy, hq]; exact d2
      have hyp : y.ptgt ≠ 0 := by rw [f1]; exact hp
      obtain ⟨p1, p2, p3⟩ := hRy.prb hyp
      have htgt : 1 ≤ y.ptgt ∧ y.ptgt ≤ 250 := by
        rcases hyok.pass.tgt with hh | hh
        · exact absurd hh hyp
        · exact hh.1
      have hil : i < l.length := by omega
      have hlen : (l.eraseIdx i).length = l.length - 1 := by rw [List.length_eraseIdx_of_lt hil]
      obtain ⟨g1, g2⟩ := hRy.direct hyok (kind := 3) (seq := y.pnum) (tgt := y.ptgt) (l.getD i 0) (by omega) htgt (hyl.prb hyp).1
      have ih := Rf.asks n (l.eraseIdx i) g2 (along_ok hyok) (hyl.along hyok) hyp
      rw [hlen] at ih
      have emin : min (n + 1) l.length = min n (l.length - 1) + 1 := by omega
      have e1 : x.asks (min (n + 1) l.length) l = (y.direct 3 (l.getD i 0) y.pnum y.ptgt :: (y.along.asks (min n (l.length - 1)) (l.eraseIdx i)).1, (y.along.asks (min n (l.length - 1)) (l.eraseIdx i)).2) := by
        rw [emin, hy, hi]
        rfl
      have e2 : r.asks (n + 1) l = (q.direct (l.getD i 0) 3 y.pnum y.ptgt).asks n (l.eraseIdx i) := by
        rw [← p2, ← hRy.probe, hi, ← d1, hq]
        show (if l.length = 0 then r else _) = _
        rw [if_neg e0]
      rw [e1, e2]
      obtain ⟨i1, i2, i3, i4, i5, i6, i7⟩ := ih
      refine ⟨?_, i2, i3, i4.trans f1, i5.trans f3, i6.trans f4, i7.trans f5⟩
      rw [i1, g1, hq, d3, List.append_assoc]
      rfl
theorem Rf.idle {x : Nd} {r : Rn} (h : Rf x r) : Rf x.idle { r with probe := 0 } :=
  ⟨h.c, h.draws, h.drawn, h.clock, h.seq, h.self, h.others, h.pass, rfl, fun hh => absurd rfl hh, h.queue, h.rels, h.dropped, h.evs, h.lost⟩
theorem RlE.idle {e : Int} {x : Nd} (h : RlE e x) : RlB x.idle := ⟨⟨h.rel.rise, h.rel.top⟩, h.rng, fun hh => absurd rfl hh, h.own⟩
theorem Rf.endProbe {e : Int} {x : Nd} {r : Rn} (h : Rf x r) (hx : NdOk x) (hl : RlE e x) (hp : x.ptgt ≠ 0) : Rf x.endProbe r.endProbe ∧ RlB x.endProbe ∧ r.endProbe.out = r.out := by
  obtain ⟨p1, p2, p3⟩ := h.prb hp
  have hne : x.ptgt ≠ x.c.self := by
    rcases hx.pass.tgt with hh | hh
    · exact absurd hh hp
    · exact hh.2
  have ef : findR r.probe r.others = (findM x.ptgt x.tab).map toR := by rw [h.probe, h.others, rest_find hne]
  cases hf : findM x.ptgt x.tab with
  | none =>
    rw [hf] at ef
    have er : r.endProbe = { r with probe := 0 } := by unfold Rn.endProbe; rw [ef]; rfl
    have ex : x.endProbe = x.idle := by
      unfold Nd.endProbe
      rw [if_pos (by simp [atM, hf, zeroM])]
    rw [er, ex]
    exact ⟨h.idle, hl.idle, rfl⟩
  | some o =>
    rw [hf] at ef
    obtain ⟨o1, o2⟩ := findM_in hf
    have ea : (atM x.ptgt x.tab).k = o.k := by simp [atM, hf]
    by_cases ec : (!x.pack && decide (o.k.st = 1)) = true
    · have ec2 : ¬ (x.pack || !decide (o.k.st = 1)) = true := by
        revert ec
        cases x.pack <;> cases decide (o.k.st = 1) <;> simp
      have er : r.endProbe = ({ r with probe := 0 } : Rn).heard ⟨o.k.id, o.k.inc, 2⟩ := by
        unfold Rn.endProbe
        rw [ef]
        show (if (!r.acked && decide (o.k.st = 1)) = true then ({ r with probe := 0 } : Rn).heard ⟨r.probe, o.k.inc, 2⟩ else _) = _
        rw [if_pos (by rw [p3]; exact ec), h.probe, o2]
      have ex : x.endProbe = x.idle.hear ⟨o.k.id, o.k.inc, 2⟩ := by
        unfold Nd.endProbe
        rw [if_neg (by rw [ea]; exact ec2), ea]
      have hkey : isKeyB ⟨o.k.id, o.k.inc, 2⟩ = true := by
        have := hx.keys o o1
        simp only [isKeyB, Bool.and_eq_true] at this ⊢
        exact ⟨this.1, this.2.1, by simp [isStB]⟩
      rw [er, ex]
      exact ⟨h.idle.hear (idle_ok hx) _ hkey, hl.idle.hear (idle_ok hx) _, heard_out _ _⟩
    · have ec2 : (x.pack || !decide (o.k.st = 1)) = true := by
        revert ec
        cases x.pack <;> cases decide (o.k.st = 1) <;> simp
      have er : r.endProbe = { r with probe := 0 } := by
        unfold Rn.endProbe
        rw [ef]
        show (if (!r.acked && decide (o.k.st = 1)) = true then _ else ({ r with probe := 0 } : Rn)) = _
        rw [if_neg (by rw [p3]; exact ec)]
      have ex : x.endProbe = x.idle := by
        unfold Nd.endProbe
        rw [if_pos (by rw [ea]; exact ec2)]
      rw [er, ex]
      exact ⟨h.idle, hl.idle, rfl⟩
theorem RlE.tight {e : Int} {x : Nd} (h : RlE e x) (ht : x.ptgt ≠ 0 → x.clock < x.pst + x.c.period) : RlB x := ⟨h.rel, h.rng, fun hh => ⟨(h.prb hh).1, (h.prb hh).2.1, by have := ht hh; omega⟩, h.own⟩
/-- A probe goes on. -/
theorem Rf.goOn {x : Nd} {r : Rn} (h : Rf x r) (hx : NdOk x) (hl : RlE 1 x) (h0 : r.out = []) : Same1 x.goOn.1 x.goOn.2 (if 0 < r.probe then r.probing else r) := by
  have hcf := hx.cfg
  simp only [cfgB, Bool.and_eq_true, decide_eq_true_eq] at hcf
  obtain ⟨_, ⟨c1, c2⟩, ⟨v1, v2⟩, _⟩ := hcf
  unfold Nd.goOn
  rw [h.probe]
  by_cases hp : x.ptgt = 0
  · rw [if_pos hp, if_neg (by omega)]
    exact ⟨h0, h, hl.tight (fun hh => absurd hp hh)⟩
  · have hp1 : 0 < x.ptgt := by
      rcases hx.pass.tgt with hh | hh
      · exact absurd hh hp
      · omega
    rw [if_neg hp, if_pos hp1]
    obtain ⟨p1, p2, p3⟩ := h.prb hp
    obtain ⟨q1, q2, q3⟩ := hl.prb hp
    have eage : r.clock - r.start = x.clock - x.pst := by rw [h.clock, p1]
    by_cases hw : x.clock - x.pst = x.c.wait
    · rw [if_pos hw]
      cases hpk : x.pack with
      | true =>
        have ep : r.probing = r := by
          unfold Rn.probing
          rw [if_neg (by rw [p3, hpk]; simp), if_pos (by rw [eage, h.c]; omega)]
        have ea : x.askOthers = ([], x) := by unfold Nd.askOthers; rw [if_pos hpk]
        rw [ep, ea]
        exact ⟨h0, h, hl.tight (fun _ => by omega)⟩
      | false =>
        have ep : r.probing = r.ask := by
          unfold Rn.probing
          rw [if_pos ⟨by rw [eage, h.c]; exact hw, by rw [p3]; exact hpk⟩, if_pos (by rw [eage, h.c]; omega)]
        have ea : x.askOthers = x.asks (min x.c.proxies.toNat x.able.length) x.able := by unfold Nd.askOthers; rw [if_neg (by rw [hpk]; decide)]
        have el : (r.others.filter (fun m => decide (m.k.st ≤ 2) && !(m.k.id == r.probe))).map (fun m => m.k.id) = x.able := by
          have hpr := h.present hx
          unfold Rn.present at hpr
          unfold Nd.able
          rw [← hpr, List.filter_map, List.filter_filter, h.probe]
          congr 1
          exact List.filter_congr (fun m _ => Bool.and_comm _ _)
        have er : r.ask = r.asks x.c.proxies.toNat x.able := by
          unfold Rn.ask
          rw [el, h.c]
        rw [ep, ea, er]
        obtain ⟨a1, a2, a3, a4, a5, a6, a7⟩ := h.asks x.c.proxies.toNat x.able hx hl hp
        exact ⟨by rw [a1, h0]; rfl, a2, a3.tight (fun _ => by rw [a5, a6, a7]; omega)⟩
    · rw [if_neg hw]
      by_cases hd : x.clock - x.pst = x.c.period
      · have ep : r.probing = r.endProbe := by
          unfold Rn.probing
          rw [if_neg (fun hh => hw (by rw [← eage, ← h.c]; exact hh.1)), if_neg (by rw [eage, h.c]; omega)]
        rw [if_pos hd, ep]
        obtain ⟨e1, e2, e3⟩ := h.endProbe hx hl hp
        exact ⟨e3.trans h0, e1, e2⟩
      · have ep : r.probing = r := by
          unfold Rn.probing
          rw [if_neg (fun hh => hw (by rw [← eage, ← h.c]; exact hh.1)), if_pos (by rw [eage, h.c]; omega)]
        rw [if_neg hd, ep]
        exact ⟨h0, h, hl.tight (fun _ => by omega)⟩
theorem Rf.mixFrom : ∀ (i : Nat) (l : List Int) {x : Nd} {r : Rn}, Rf x r → (r.mixFrom i l).1 = (x.mixFrom i l).1 ∧ Rf (x.mixFrom i l).2 (r.mixFrom i l).2 ∧ (r.mixFrom i l).2.out = r.out
  | 0, _, _, _, h => ⟨rfl, h, rfl⟩
  | i + 1, l, x, r, h => by
    obtain ⟨d1, d2, d3⟩ := h.draw (n := (i : Int) + 2) (by omega)
    obtain ⟨a, b, c⟩ := Rf.mixFrom i (swapL l (i + 1) (x.drawn ((i : Int) + 2)).toNat) d2
    unfold Rn.mixFrom Nd.mixFrom
    rw [d1]
    exact ⟨a, b, c.trans d3⟩
theorem Rf.renew {x : Nd} {r : Rn} (h : Rf x r) (hx : NdOk x) (hl : RlB x) : Rf x.renew r.renew ∧ RlB x.renew ∧ r.renew.out = r.out ∧ x.renew.num = x.num ∧ x.renew.ptgt = x.ptgt := by
  unfold Rn.renew Nd.renew
  rw [h.pass, h.present hx]
  by_cases e : x.pass.length = 0
  · rw [if_pos e, if_pos e]
    obtain ⟨a, b, c⟩ := h.mixFrom (x.present.length - 1) x.present
    obtain ⟨m, em, _⟩ := mixed_ex x x.present
    have ex : (x.mixFrom (x.present.length - 1) x.present).2 = { x with dat := m } := em
    refine ⟨?_, ?_, c, ?_, ?_⟩
    · unfold Nd.mixed
      rw [a]
      exact ⟨b.c, b.draws, b.drawn, b.clock, b.seq, b.self, b.others, rfl, b.probe, b.prb, b.queue, b.rels, b.dropped, b.evs, b.lost⟩
    · rw [em]
      exact hl.same rfl (Int.le_refl _) rfl rfl rfl rfl rfl (.inl rfl)
    · rw [em]
    · rw [em]
  · rw [if_neg e, if_neg e]
    exact ⟨h, hl, rfl, rfl, rfl⟩
theorem Rf.probeOne {x : Nd} {r : Rn} (h : Rf x r) (hx : NdOk x) (hl : RlB x) (hn : 0 ≤ x.num ∧ x.num ≤ 4000000000) : r.probeOne.out = r.out ++ x.probeOne.1 ∧ Rf x.probeOne.2 r.probeOne ∧ RlB x.probeOne.2 := by
  have hcf := hx.cfg
  simp only [cfgB, Bool.and_eq_true, decide_eq_true_eq] at hcf
  obtain ⟨_, ⟨c1, c2⟩, _⟩ := hcf
  unfold Rn.probeOne Nd.probeOne
  rw [h.pass]
  cases hp : x.pass with
  | nil => exact ⟨(List.append_nil _).symm, h, hl⟩
  | cons t l =>
    have hid := hx.pass.ids t (by rw [hp]; simp)
    obtain ⟨q, hq⟩ : ∃ q : Rn, q = { r with probe := t, pass := l, start := r.clock, acked := false, seq := r.seq + 1, no := r.seq + 1 } := ⟨_, rfl⟩
    have hRq : Rf (x.begin t l) q := by
      rw [hq]
      exact ⟨h.c, h.draws, h.drawn, h.clock, by show r.seq + 1 = x.num + 1; rw [h.seq], h.self, h.others, rfl, rfl, fun _ => ⟨h.clock, by show r.seq + 1 = x.num + 1; rw [h.seq], rfl⟩, h.queue, h.rels, h.dropped, h.evs, h.lost⟩
    have hb := begin_ok hx hp
    have hlb : RlB (x.begin t l) := ⟨⟨hl.rel.rise, fun q hq => by have := hl.rel.top q hq; show q.num ≤ x.num + 1; omega⟩, hl.rng, fun _ => ⟨by show 0 ≤ x.num + 1 ∧ x.num + 1 ≤ 4294967295; omega, Int.le_refl _, by show x.clock < x.clock + x.c.period + 0; omega⟩, hl.own⟩
    obtain ⟨d1, d2⟩ := hRq.direct hb (kind := 1) (seq := x.num + 1) (tgt := t) t (by omega) hid.1 (by omega)
    have er : ({ r with probe := t, pass := l, start := r.clock, acked := false, seq := r.seq + 1, no := r.seq + 1 } : Rn).direct t 1 (r.seq + 1) t = q.direct t 1 (x.num + 1) t := by
      rw [hq, ← h.seq]
    show (({ r with probe := t, pass := l, start := r.clock, acked := false, seq := r.seq + 1, no := r.seq + 1 } : Rn).direct t 1 (r.seq + 1) t).out = r.out ++ [(x.begin t l).direct 1 t (x.num + 1) t] ∧ Rf (x.begin t l).along (({ r with probe := t, pass := l, start := r.clock, acked := false, seq := r.seq + 1, no := r.seq + 1 } : Rn).direct t 1 (r.seq + 1) t) ∧ RlB (x.begin t l).along
    rw [er]
    refine ⟨?_, d2, hlb.along hb⟩
    rw [d1, hq]
theorem deads_num : ∀ (l : List Mem) (x : Nd), (l.foldl (fun y m => y.hear m.dead) x).num = x.num
  | [], _ => rfl
  | m :: l, x => (deads_num l (x.hear m.dead)).trans (hear_rels x m.dead).2
theorem asks_num : ∀ (n : Nat) (l : List Int) (x : Nd), (x.asks n l).2.num = x.num
  | 0, _, _ => rfl
  | n + 1, l, x => by
    obtain ⟨m, e, _⟩ := drew_ex x l.length
    have := asks_num n (l.eraseIdx (x.drawn l.length).toNat) (x.drew l.length).along
    show ((x.drew l.length).along.asks n (l.eraseIdx (x.drawn l.length).toNat)).2.num = x.num
    rw [this]
    show (x.drew l.length).num = x.num
    rw [e]
theorem goOn_num (x : Nd) : x.goOn.2.num = x.num := by
  unfold Nd.goOn Nd.askOthers Nd.endProbe
  repeat' split
  all_goals first | rfl | exact asks_num _ _ _ | exact (hear_rels _ _).2
theorem tick_num (x : Nd) : x.later.endRelays.endSuspects.goOn.2.num = x.num := by
  rw [goOn_num]
  exact deads_num _ _
/-- Tick (P9). -/
theorem Rf.tick {x : Nd} {r : Rn} (h : Rf x r) (hx : NdOk x) (hl : RlB x) (hn : 0 ≤ x.num ∧ x.num ≤ 4000000000) : Same1 x.tick.1 x.tick.2 r.tick := by
  have h1 := h.later hx
  have hx1 := endRelays_ok (later_ok hx)
  have hl1 : RlE 1 x.later.endRelays := ⟨hl.rel.filter (fun r => !decide (r.till ≤ x.clock + 1)) rfl (Int.le_refl _), fun q hq => hl.rng q (List.mem_filter.1 hq).1, fun hh => by
    obtain ⟨a, b, c⟩ := hl.prb hh
    exact ⟨a, by show x.pst ≤ x.clock + 1; omega, by show x.clock + 1 < x.pst + x.c.period + 1; omega⟩, hl.own⟩
  have elen : r.others.length = x.later.endRelays.rest.length := by rw [h.others, List.length_map]; rfl
  obtain ⟨y, hy, hf, hok, hrl, hout, _⟩ := h1.sus hx1 hl1 r.others.length (by omega)
  have ey : y = x.later.endRelays.endSuspects := by
    rw [hy, elen, List.take_length]
    unfold Nd.endSuspects
    rw [over_rest hx1 hl1]
  obtain ⟨g1, g2, g3⟩ := hf.goOn hok hrl (by rw [hout]; rfl)
  have hgo := goOn_ok hok
  have hnum : y.goOn.2.num = x.num := by
    rw [ey]
    exact tick_num x
  obtain ⟨r2, hr2⟩ : ∃ r2, r2 = if 0 < (r.later.sus r.others.length).probe then (r.later.sus r.others.length).probing else r.later.sus r.others.length := ⟨_, rfl⟩
  rw [← hr2] at g1 g2
  have et : r.tick = if r2.probe = 0 ∧ r2.self.st ≠ 4 then r2.begin else r2 := by rw [hr2]; rfl
  have ex : x.tick = (y.goOn.1 ++ y.goOn.2.probeNext.1, y.goOn.2.probeNext.2) := by rw [ey]; rfl
  rw [et, ex, g2.probe, g2.self]
  unfold Nd.probeNext Nd.left
  generalize y.goOn = G at *
  by_cases e : G.2.ptgt = 0 ∧ G.2.own.st ≠ 4
  · rw [if_pos e, if_neg (by simp [e.1, e.2])]
    obtain ⟨b1, b2, b3, b4, b5⟩ := g2.renew hgo g3
    obtain ⟨c1, c2, c3⟩ := b1.probeOne (renew_ok hgo) b2 (by rw [b4, hnum]; exact hn)
    exact ⟨by show r2.renew.probeOne.out = G.1 ++ G.2.renew.probeOne.1; rw [c1, b3, g1], c2, c3⟩
  · rw [if_neg e, if_pos (by
      by_cases e1 : G.2.ptgt = 0
      · have : G.2.own.st = 4 := by
          by_cases e2 : G.2.own.st = 4
          · exact e2
          · exact absurd ⟨e1, e2⟩ e
        simp [this]
      · simp [e1])]
    exact ⟨by show r2.out = G.1 ++ []; rw [List.append_nil]; exact g1, g2, g3⟩
end Go.Proofs.YtnneljcbelgoeaaGreatDoor.wire
