import Derived.Test.YtnneljcbelgoeaaGreatNUps
/- Where all answer, all stay alive. No Go here. -/
namespace Go.Proofs.YtnneljcbelgoeaaGreat.wire

/-- A node among n whom it all knows, each alive as it began; P: its period. -/
structure Calm0 (n : Nat) (s P T : Int) (x : Nd) : Prop where
  ok : NdOk x
  self : x.c.self = s
  per : x.c.period = P
  keys : ∀ m ∈ x.tab, m.k.inc = 1 ∧ m.k.st = 1 ∧ m.k.id ≤ n
  all : ∀ i : Int, 1 ≤ i → i ≤ n → Knows i x
  sn : s ≤ n
  rels : x.rels = []
  dropped : x.dropped = 0
  dl : DlOk x.dl
  clock : x.clock = T
  pass : ∀ i ∈ x.pass, i ≤ n
/-- At rest. -/
structure Calm (n : Nat) (s P T : Int) (x : Nd) : Prop where
  c0 : Calm0 n s P T x
  begun : T = 0 → x.ptgt = 0
  on : 1 ≤ T → x.ptgt ≠ 0 ∧ x.pack = true ∧ (1 ≤ x.pst ∧ x.pst ≤ T) ∧ T < x.pst + P ∧ (T ≤ P → x.pst = 1)
/-- It waits for an answer by t, under q. -/
structure Await (n : Nat) (s P T t q : Int) (x : Nd) : Prop where
  c0 : Calm0 n s P T x
  one : 1 ≤ T
  tgt : x.ptgt = t
  num : x.pnum = q
  st : x.pst = T
  t0 : t ≠ 0
  first : T ≤ P → T = 1
theorem Calm0.own {n : Nat} {s P T : Int} {x : Nd} (h : Calm0 n s P T x) : x.own = ⟨s, 1, 1⟩ := by
  obtain ⟨m, hm⟩ := h.ok.self
  have e : x.own = m.k := by simp [Nd.own, atM, hm]
  obtain ⟨h1, h2⟩ := findM_in hm
  obtain ⟨k1, k2, _⟩ := h.keys m h1
  rw [e, show m.k = ⟨m.k.id, m.k.inc, m.k.st⟩ from rfl, k1, k2, h2, h.self]
theorem Calm0.left {n : Nat} {s P T : Int} {x : Nd} (h : Calm0 n s P T x) : x.left = false := by simp [Nd.left, h.own]
/-- A key as all know it turns nothing. -/
def Plain1 (n : Nat) (k : K3) : Prop := (k.inc = 1 ∧ k.st = 1) ∧ (1 ≤ k.id ∧ k.id ≤ n)
theorem Calm0.hear {n : Nat} {s P T : Int} {x : Nd} (h : Calm0 n s P T x) {k : K3} (hk : Plain1 n k) : x.hear k = x := by
  unfold Nd.hear
  split
  · simp [Nd.hearSelf, hk.1.2]
  · unfold Nd.hearOther
    have hkn := h.all k.id hk.2.1 hk.2.2
    obtain ⟨o, ho⟩ := Option.isSome_iff_exists.1 hkn
    rw [ho]
    have := h.keys o (findM_in ho).1
    simp [greaterB, hk.1.1, hk.1.2, this.1, this.2.1]
theorem Calm0.hears {n : Nat} {s P T : Int} {x : Nd} (h : Calm0 n s P T x) : ∀ (l : List K3), (∀ k ∈ l, Plain1 n k) → x.hears l = x
  | [], _ => rfl
  | k :: r, hl => by
    show (x.hear k).hears r = x
    rw [h.hear (hl k (List.mem_cons_self ..))]
    exact h.hears r (fun k' hk' => hl k' (List.mem_cons_of_mem _ hk'))
theorem Calm0.picks {n : Nat} {s P T : Int} {x : Nd} (h : Calm0 n s P T x) : ∀ k ∈ x.picks.map Mem.k, Plain1 n k := by
  intro k hk
  obtain ⟨m, hm, rfl⟩ := List.mem_map.1 hk
  have h1 := (picks_mem hm).1
  obtain ⟨a, b, c⟩ := h.keys m h1
  exact ⟨⟨a, b⟩, (key_bounds (h.ok.keys m h1)).1.1, c⟩
theorem along_mem {x : Nd} {m : Mem} (h : m ∈ x.along.tab) : ∃ m' ∈ x.tab, m.k = m'.k := by
  rcases lessAll_mem _ h with h | ⟨m', h1, rfl⟩
  · exact ⟨m, h, rfl⟩
  · exact ⟨m', (picks_mem h1).1, rfl⟩
theorem Calm0.along {n : Nat} {s P T : Int} {x : Nd} (h : Calm0 n s P T x) : Calm0 n s P T x.along :=
  ⟨along_ok h.ok, h.self, h.per, fun m hm => by obtain ⟨m', h1, e⟩ := along_mem hm; rw [e]; exact h.keys m' h1, fun i h1 h2 => knows_up (Up.along h.ok) (h.all i h1 h2), h.sn, h.rels, h.dropped, h.dl, h.clock, h.pass⟩
/-- A direct message of such a node is whole. -/
theorem Calm0.direct {n : Nat} {s P T : Int} {x : Nd} (h : Calm0 n s P T x) {kind dest seq tgt : Int} (hk : 1 ≤ kind ∧ kind ≤ 3) (ht : 1 ≤ tgt ∧ tgt ≤ 250) (hq : 0 ≤ seq ∧ seq ≤ 4294967295) :
    wholeB ⟨kind, s, 1, seq, tgt, x.picks.map Mem.k⟩ = true ∧ x.direct kind dest seq tgt = ⟨dest, bytesM ⟨kind, s, 1, seq, tgt, x.picks.map Mem.k⟩⟩ := by
  have hs : 1 ≤ s ∧ s ≤ 250 := by rw [← h.self]; exact h.ok.id
  have hw : wholeB ⟨kind, s, 1, seq, tgt, x.picks.map Mem.k⟩ = true := by
    simp only [wholeB, Bool.and_eq_true]
    refine ⟨isId_mk hs.1 hs.2, rfl, isSeq_mk hq.1 hq.2, ?_, ?_⟩
    · have hp := picks_len x
      rw [suits_low (by simp [lowB]; omega), isId_mk ht.1 ht.2]
      simp only [List.length_map, Bool.true_and, decide_eq_true_eq]
      omega
    · unfold allB
      rw [List.all_eq_true]
      intro k hk
      obtain ⟨m, hm, rfl⟩ := List.mem_map.1 hk
      exact h.ok.keys m (picks_mem hm).1
  refine ⟨hw, ?_⟩
  show (⟨dest, bytesS ⟨kind, x.along.own.id, x.along.own.inc, seq, tgt, x.picks.map Mem.k⟩⟩ : Pk) = _
  rw [along_own h.ok, h.own]
  simp [bytesS, hw]
/-- A ping comes in. -/
theorem Calm.ping {n : Nat} {s P T : Int} {x : Nd} (h : Calm n s P T x) {f q : Int} {ups : List K3} (hf : 1 ≤ f ∧ f ≤ n) (hne : f ≠ s) (hq : 0 ≤ q ∧ q ≤ 4294967295) (hu : ∀ k ∈ ups, Plain1 n k) (hw : wholeB ⟨1, f, 1, q, s, ups⟩ = true) :
    ∃ ups', (x.receive (bytesM ⟨1, f, 1, q, s, ups⟩)).1 = [⟨f, bytesM ⟨2, s, 1, q, s, ups'⟩⟩] ∧ wholeB ⟨2, s, 1, q, s, ups'⟩ = true ∧ (∀ k ∈ ups', Plain1 n k) ∧ Calm n s P T (x.receive (bytesM ⟨1, f, 1, q, s, ups⟩)).2 := by
  obtain ⟨hd, hr⟩ := dec_of_whole hw
  have hs : 1 ≤ s ∧ s ≤ 250 := by rw [← h.c0.self]; exact h.c0.ok.id
  have ht : takesB x.c.self (bytesM ⟨1, f, 1, q, s, ups⟩) = true := by simp [takesB, hd, hr, h.c0.self, hne]
  have e : x.receive (bytesM ⟨1, f, 1, q, s, ups⟩) = ([x.direct 2 f q s], x.along) := by
    unfold Nd.receive
    rw [if_pos ht, hr]
    have h1 : x.hear ⟨f, 1, 1⟩ = x := h.c0.hear ⟨⟨rfl, rfl⟩, hf.1, hf.2⟩
    show ((x.hear ⟨f, 1, 1⟩).hears ups).deed ⟨1, f, 1, q, s, ups⟩ = _
    rw [h1, h.c0.hears ups hu]
    simp [Nd.deed, Nd.takePing, h.c0.self]
  obtain ⟨w1, w2⟩ := h.c0.direct (kind := 2) (dest := f) (seq := q) (tgt := s) (by omega) hs hq
  refine ⟨x.picks.map Mem.k, by rw [e, w2], w1, h.c0.picks, ?_⟩
  rw [e]
  exact ⟨h.c0.along, h.begun, h.on⟩
/-- The answer comes in. -/
theorem Await.ack {n : Nat} {s P T t q : Int} {x : Nd} (h : Await n s P T t q x) (hP : 4 ≤ P) (htn : 1 ≤ t ∧ t ≤ n) (hts : t ≠ s) {ups : List K3} (hu : ∀ k ∈ ups, Plain1 n k) (hw : wholeB ⟨2, t, 1, q, t, ups⟩ = true) :
    (x.receive (bytesM ⟨2, t, 1, q, t, ups⟩)).1 = [] ∧ Calm n s P T (x.receive (bytesM ⟨2, t, 1, q, t, ups⟩)).2 := by
  obtain ⟨hd, hr⟩ := dec_of_whole hw
  have ht : takesB x.c.self (bytesM ⟨2, t, 1, q, t, ups⟩) = true := by simp [takesB, hd, hr, h.c0.self, hts]
  have e : x.receive (bytesM ⟨2, t, 1, q, t, ups⟩) = ([], { x with pack := true }) := by
    unfold Nd.receive
    rw [if_pos ht, hr]
    have h1 : x.hear ⟨t, 1, 1⟩ = x := h.c0.hear ⟨⟨rfl, rfl⟩, htn.1, htn.2⟩
    show ((x.hear ⟨t, 1, 1⟩).hears ups).deed ⟨2, t, 1, q, t, ups⟩ = _
    rw [h1, h.c0.hears ups hu]
    have hz := h.c0.rels
    simp [Nd.deed, Nd.takeAck, hz, Nd.relayed, h.tgt, h.num]
  rw [e]
  have c := h.c0
  refine ⟨rfl, ⟨⟨⟨c.ok.cfg, c.ok.rise, c.ok.len, c.ok.keys, c.ok.sends, c.ok.self, c.ok.evs, c.ok.rels, c.ok.pass⟩, c.self, c.per, c.keys, c.all, c.sn, c.rels, c.dropped, c.dl, c.clock, c.pass⟩, fun h0 => by have := h.one; omega, fun _ => ⟨by show x.ptgt ≠ 0; rw [h.tgt]; exact h.t0, rfl, ⟨by show 1 ≤ x.pst; rw [h.st]; exact h.one, by show x.pst ≤ T; rw [h.st]; exact Int.le_refl _⟩, by show T < x.pst + P; rw [h.st]; omega, fun h1 => by show x.pst = 1; rw [h.st]; exact h.first h1⟩⟩⟩
/-- Whom it can probe. -/
theorem Calm0.present {n : Nat} {s P T : Int} {x : Nd} (h : Calm0 n s P T x) {i : Int} (h1 : 1 ≤ i) (h2 : i ≤ n) (hne : i ≠ s) : i ∈ x.present := by
  obtain ⟨m, hm⟩ := Option.isSome_iff_exists.1 (h.all i h1 h2)
  obtain ⟨m1, m2⟩ := findM_in hm
  have hk := h.keys m m1
  unfold Nd.present Nd.others
  refine List.mem_map.2 ⟨m.k, List.mem_filter.2 ⟨List.mem_map.2 ⟨m, List.mem_filter.2 ⟨m1, ?_⟩, rfl⟩, ?_⟩, m2⟩
  · rw [h.self, m2]; simpa using hne
  · simp [thereB, hk.2.1]
theorem Calm0.present_n {n : Nat} {s P T : Int} {x : Nd} (h : Calm0 n s P T x) : ∀ i ∈ x.present, i ≤ n := by
  intro i hi
  unfold Nd.present Nd.others at hi
  obtain ⟨k, hk, rfl⟩ := List.mem_map.1 hi
  obtain ⟨m, hm, rfl⟩ := List.mem_map.1 (List.mem_filter.1 hk).1
  exact (h.keys m (List.mem_filter.1 hm).1).2.2
theorem Calm0.same {n : Nat} {s P T T' : Int} {x y : Nd} (h : Calm0 n s P T x) (hok : NdOk y) (hc : y.c = x.c) (ht : y.tab = x.tab) (hr : y.rels = []) (hd : y.dropped = 0) (hl : y.dl = x.dl) (hk : y.clock = T') (hp : ∀ i ∈ y.pass, i ≤ n) : Calm0 n s P T' y :=
  ⟨hok, by rw [hc]; exact h.self, by rw [hc]; exact h.per, by rw [ht]; exact h.keys, fun i h1 h2 => by unfold Knows; rw [ht]; exact h.all i h1 h2, h.sn, hr, hd, by rw [hl]; exact h.dl, hk, hp⟩
theorem Calm0.later {n : Nat} {s P T : Int} {x : Nd} (h : Calm0 n s P T x) : x.later.endRelays.endSuspects = x.later ∧ Calm0 n s P (T + 1) x.later := by
  have e1 : x.later.endRelays = x.later := by
    have hr : x.later.rels = [] := h.rels
    unfold Nd.endRelays
    rw [hr]
    show ({ x.later with rels := [] } : Nd) = x.later
    rw [← hr]
  refine ⟨?_, h.same (later_ok h.ok) rfl rfl h.rels h.dropped rfl (by show x.clock + 1 = T + 1; rw [h.clock]) h.pass⟩
  rw [e1]
  unfold Nd.endSuspects
  have hz : x.later.tab.filter (overB x.later.clock) = [] := by
    rw [List.filter_eq_nil_iff]
    intro m hm
    have := h.keys m hm
    simp [overB, this.2.1]
  rw [hz]
  rfl
/-- One begins to be probed. -/
theorem Calm0.next {n : Nat} {s P T : Int} {z : Nd} (h : Calm0 n s P T z) (hn2 : 2 ≤ n) (hz : z.ptgt = 0) (hT : 1 ≤ T) (hf : T ≤ P → T = 1) (hq : 0 ≤ z.num ∧ z.num ≤ 4000000000) :
    ∃ t q ups, z.probeNext.1 = [⟨t, bytesM ⟨1, s, 1, q, t, ups⟩⟩] ∧ wholeB ⟨1, s, 1, q, t, ups⟩ = true ∧ (∀ k ∈ ups, Plain1 n k) ∧ (1 ≤ t ∧ t ≤ n) ∧ t ≠ s ∧ (0 ≤ q ∧ q ≤ 4294967295) ∧ Await n s P T t q z.probeNext.2 := by
  have hs : 1 ≤ s ∧ s ≤ 250 := by rw [← h.self]; exact h.ok.id
  have hrn : Calm0 n s P T z.renew ∧ z.renew.pass ≠ [] ∧ z.renew.num = z.num := by
    by_cases hp : z.pass.length = 0
    · obtain ⟨m, e, _⟩ := mixed_ex z z.present
      have hpm := mixed_perm z z.present
      have er : z.renew = { ({ z with dat := m } : Nd) with pass := (z.mixed z.present).1 } := by
        unfold Nd.renew
        rw [if_pos hp, e]
      refine ⟨?_, ?_, by rw [er]⟩
      · have hok := renew_ok h.ok
        rw [er] at hok ⊢
        exact h.same hok rfl rfl h.rels h.dropped rfl h.clock (fun i hi => h.present_n i (hpm.mem_iff.1 hi))
      · rw [er]
        intro hnil
        have hnil' : (z.mixed z.present).1 = [] := hnil
        have hi : ∃ i : Int, 1 ≤ i ∧ i ≤ n ∧ i ≠ s := by
          by_cases h1 : s = 1
          · exact ⟨2, by omega, by omega, by omega⟩
          · exact ⟨1, by omega, by omega, by omega⟩
        obtain ⟨i, i1, i2, i3⟩ := hi
        have := hpm.mem_iff.2 (h.present i1 i2 i3)
        rw [hnil'] at this
        cases this
    · have er : z.renew = z := by unfold Nd.renew; rw [if_neg hp]
      rw [er]
      exact ⟨h, fun e => hp (by rw [e]; rfl), rfl⟩
  obtain ⟨hc, hne, hnum⟩ := hrn
  obtain ⟨t, r, hp⟩ : ∃ t r, z.renew.pass = t :: r := by
    cases hh : z.renew.pass with
    | nil => exact absurd hh hne
    | cons t r => exact ⟨t, r, rfl⟩
  have hid := hc.ok.pass.ids t (by rw [hp]; simp)
  have htn := hc.pass t (by rw [hp]; simp)
  have e : z.probeNext = ([(z.renew.begin t r).direct 1 t (z.renew.num + 1) t], (z.renew.begin t r).along) := by
    unfold Nd.probeNext
    rw [if_neg (by simp [hz, h.left])]
    simp only [Nd.probeOne, hp]
  have hcb : Calm0 n s P T (z.renew.begin t r) := hc.same (begin_ok hc.ok hp) rfl rfl hc.rels hc.dropped rfl hc.clock (fun i hi => hc.pass i (by rw [hp]; exact List.mem_cons_of_mem _ hi))
  obtain ⟨w1, w2⟩ := hcb.direct (kind := 1) (dest := t) (seq := z.renew.num + 1) (tgt := t) (by omega) hid.1 (by omega)
  refine ⟨t, z.renew.num + 1, (z.renew.begin t r).picks.map Mem.k, by rw [e, w2], w1, hcb.picks, ⟨hid.1.1, htn⟩, by rw [← hc.self]; exact hid.2, by omega, ?_⟩
  rw [e]
  exact ⟨hcb.along, hT, rfl, rfl, hc.clock, by omega, hf⟩
theorem Calm.tick {n : Nat} {s P T : Int} {x : Nd} (h : Calm n s P T x) (hn2 : 2 ≤ n) (hT : 0 ≤ T) (hq : 0 ≤ x.num ∧ x.num ≤ 4000000000) :
    (x.tick.1 = [] ∧ Calm n s P (T + 1) x.tick.2 ∧ T ≠ 0 ∧ T ≠ P) ∨
    ∃ t q ups, x.tick.1 = [⟨t, bytesM ⟨1, s, 1, q, t, ups⟩⟩] ∧ wholeB ⟨1, s, 1, q, t, ups⟩ = true ∧ (∀ k ∈ ups, Plain1 n k) ∧ (1 ≤ t ∧ t ≤ n) ∧ t ≠ s ∧ (0 ≤ q ∧ q ≤ 4294967295) ∧ Await n s P (T + 1) t q x.tick.2 := by
  obtain ⟨e1, hc1⟩ := h.c0.later
  have hcf := h.c0.ok.cfg
  simp only [cfgB, Bool.and_eq_true, decide_eq_true_eq] at hcf
  obtain ⟨_, ⟨p1, p2⟩, ⟨v1, v2⟩, _⟩ := hcf
  rw [h.c0.per] at p1 v2
  have et : x.tick = (x.later.goOn.1 ++ x.later.goOn.2.probeNext.1, x.later.goOn.2.probeNext.2) := by
    unfold Nd.tick
    rw [e1]
  have due : ∀ z : Nd, x.later.goOn = ([], z) → Calm0 n s P (T + 1) z → z.ptgt = 0 → z.num = x.num → (T + 1 ≤ P → T + 1 = 1) → ∃ t q ups, x.tick.1 = [⟨t, bytesM ⟨1, s, 1, q, t, ups⟩⟩] ∧ wholeB ⟨1, s, 1, q, t, ups⟩ = true ∧ (∀ k ∈ ups, Plain1 n k) ∧ (1 ≤ t ∧ t ≤ n) ∧ t ≠ s ∧ (0 ≤ q ∧ q ≤ 4294967295) ∧ Await n s P (T + 1) t q x.tick.2 := fun z hg hz h0 hnum hf => by
    obtain ⟨t, q, ups, a, b⟩ := hz.next hn2 h0 (by omega) hf (by rw [hnum]; exact hq)
    refine ⟨t, q, ups, ?_, ?_⟩
    · rw [et, hg]; exact a
    · rw [et, hg]; exact b
  by_cases hT0 : T = 0
  · right
    have hp := h.begun hT0
    have hg : x.later.goOn = ([], x.later) := by
      unfold Nd.goOn
      rw [if_pos (show x.later.ptgt = 0 from hp)]
    exact due _ hg hc1 hp rfl (fun _ => by omega)
  · obtain ⟨o1, o2, ⟨o3, o3'⟩, o4, o5⟩ := h.on (by omega)
    have hck : x.later.clock = T + 1 := hc1.clock
    have hps : x.later.pst = x.pst := rfl
    by_cases hD : T + 1 - x.pst = P
    · right
      have hg : x.later.goOn = ([], x.later.idle) := by
        unfold Nd.goOn
        rw [if_neg (show ¬ x.later.ptgt = 0 from o1), hck, hps, if_neg (show ¬ T + 1 - x.pst = x.later.c.wait from (by show ¬ T + 1 - x.pst = x.c.wait; omega)), if_pos (show T + 1 - x.pst = x.later.c.period from (by show T + 1 - x.pst = x.c.period; rw [h.c0.per]; exact hD))]
        have : x.later.endProbe = x.later.idle := by
          unfold Nd.endProbe
          rw [if_pos (show (x.later.pack || !decide ((atM x.later.ptgt x.later.tab).k.st = 1)) = true by rw [show x.later.pack = true from o2]; rfl)]
        rw [this]
      exact due _ hg (hc1.same (idle_ok hc1.ok) rfl rfl hc1.rels hc1.dropped rfl hc1.clock hc1.pass) rfl rfl (fun hh => by omega)
    · left
      have hg : x.later.goOn = ([], x.later) := by
        unfold Nd.goOn
        rw [if_neg (show ¬ x.later.ptgt = 0 from o1), hck, hps]
        by_cases hw : T + 1 - x.pst = x.c.wait
        · rw [if_pos (show T + 1 - x.pst = x.later.c.wait from hw)]
          unfold Nd.askOthers
          rw [if_pos (show x.later.pack = true from o2)]
        · rw [if_neg (show ¬ T + 1 - x.pst = x.later.c.wait from hw), if_neg (show ¬ T + 1 - x.pst = x.later.c.period from by rw [show x.later.c.period = P from h.c0.per]; exact hD)]
      have hpn : x.later.probeNext = ([], x.later) := by
        unfold Nd.probeNext
        rw [if_pos (by simp [show x.later.ptgt ≠ 0 from o1])]
      rw [et, hg]
      show ([] ++ x.later.probeNext.1 = [] ∧ Calm n s P (T + 1) x.later.probeNext.2 ∧ T ≠ 0 ∧ T ≠ P)
      rw [hpn]
      refine ⟨rfl, ⟨hc1, fun hh => by omega, fun _ => ⟨o1, o2, ⟨o3, by show x.pst ≤ T + 1; omega⟩, by show T + 1 < x.pst + P; omega, fun hh => o5 (by omega)⟩⟩, hT0, fun hh => ?_⟩
      have := o5 (by omega)
      omega
end Go.Proofs.YtnneljcbelgoeaaGreat.wire
