import Derived.Test.YtnneljcbelgoeaaGreatNStayB
/- Finds: one is silent; what node 1 makes of it. No Go here. -/
namespace Go.Proofs.YtnneljcbelgoeaaGreat.wire

/-- A key that goes about: all are alive but g, who is at most u. -/
structure Kg (n : Nat) (g u : Int) (k : K3) : Prop where
  inc : k.inc = 1
  id : 1 ≤ k.id ∧ k.id ≤ n
  st : k.id ≠ g → k.st = 1
  gst : k.id = g → k.st ≤ u
theorem Kg.wide {n : Nat} {g u v : Int} {k : K3} (h : Kg n g u k) (huv : u ≤ v) : Kg n g v k := ⟨h.inc, h.id, h.st, fun e => Int.le_trans (h.gst e) huv⟩
theorem direct_own {x : Nd} (hx : NdOk x) {s : Int} (ho : x.own = ⟨s, 1, 1⟩) (hs : 1 ≤ s ∧ s ≤ 250) {kind dest seq tgt : Int} (hk : 1 ≤ kind ∧ kind ≤ 3) (ht : 1 ≤ tgt ∧ tgt ≤ 250) (hq : 0 ≤ seq ∧ seq ≤ 4294967295) :
    wholeB ⟨kind, s, 1, seq, tgt, x.picks.map Mem.k⟩ = true ∧ x.direct kind dest seq tgt = ⟨dest, bytesM ⟨kind, s, 1, seq, tgt, x.picks.map Mem.k⟩⟩ := by
  have hw : wholeB ⟨kind, s, 1, seq, tgt, x.picks.map Mem.k⟩ = true := by
    simp only [wholeB, Bool.and_eq_true]
    refine ⟨isId_mk hs.1 hs.2, rfl, isSeq_mk hq.1 hq.2, ?_, ?_⟩
    · have hp := picks_len x
      rw [suits_low (by simp [lowB]; omega), isId_mk ht.1 ht.2]
      simp only [List.length_map, Bool.true_and, decide_eq_true_eq]
      omega
    · unfold allB
      rw [List.all_eq_true]
      intro k hk
      obtain ⟨m, hm, rfl⟩ := List.mem_map.1 hk
      exact hx.keys m (picks_mem hm).1
  refine ⟨hw, ?_⟩
  show (⟨dest, bytesS ⟨kind, x.along.own.id, x.along.own.inc, seq, tgt, x.picks.map Mem.k⟩⟩ : Pk) = _
  rw [along_own hx, ho]
  simp [bytesS, hw]
theorem along_due {x : Nd} {m : Mem} (h : m ∈ x.along.tab) : ∃ m' ∈ x.tab, m.k = m'.k ∧ m.due = m'.due := by
  rcases lessAll_mem _ h with h | ⟨m', h1, rfl⟩
  · exact ⟨m, h, rfl, rfl⟩
  · exact ⟨m', (picks_mem h1).1, rfl, rfl⟩

/-- One of those who answer. -/
structure Side (n : Nat) (g u s : Int) (x : Nd) : Prop where
  ok : NdOk x
  self : x.c.self = s
  keys : ∀ m ∈ x.tab, Kg n g u m.k
  ne : s ≠ g
theorem Side.wide {n : Nat} {g u v s : Int} {x : Nd} (h : Side n g u s x) (huv : u ≤ v) : Side n g v s x := ⟨h.ok, h.self, fun m hm => (h.keys m hm).wide huv, h.ne⟩
theorem Side.own {n : Nat} {g u s : Int} {x : Nd} (h : Side n g u s x) : x.own = ⟨s, 1, 1⟩ := by
  obtain ⟨m, hm⟩ := h.ok.self
  have e : x.own = m.k := by simp [Nd.own, atM, hm]
  obtain ⟨h1, h2⟩ := findM_in hm
  have hk := h.keys m h1
  have hid : m.k.id = s := by rw [h2, h.self]
  rw [e, show m.k = ⟨m.k.id, m.k.inc, m.k.st⟩ from rfl, hk.inc, hk.st (by rw [hid]; exact h.ne), hid]
theorem Side.same {n : Nat} {g u s : Int} {x y : Nd} (h : Side n g u s x) (hok : NdOk y) (hc : y.c = x.c) (ht : ∀ m ∈ y.tab, ∃ m' ∈ x.tab, m.k = m'.k) : Side n g u s y :=
  ⟨hok, by rw [hc]; exact h.self, fun m hm => by obtain ⟨m', h1, e⟩ := ht m hm; rw [e]; exact h.keys m' h1, h.ne⟩
theorem Side.along {n : Nat} {g u s : Int} {x : Nd} (h : Side n g u s x) : Side n g u s x.along := h.same (along_ok h.ok) rfl (fun _ hm => along_mem hm)
theorem Side.picks {n : Nat} {g u s : Int} {x : Nd} (h : Side n g u s x) : ∀ k ∈ x.picks.map Mem.k, Kg n g u k := by
  intro k hk
  obtain ⟨m, hm, rfl⟩ := List.mem_map.1 hk
  exact h.keys m (picks_mem hm).1
theorem Side.hear {n : Nat} {g u s : Int} {x : Nd} (h : Side n g u s x) {k : K3} (hk : Kg n g u k) (hb : isKeyB k = true) : Side n g u s (x.hear k) := by
  refine ⟨hear_ok h.ok k hb, by rw [(Up.hear h.ok k).c]; exact h.self, fun m hm => ?_, h.ne⟩
  have hput : ∀ m ∈ (x.heard k).tab, Kg n g u m.k := fun m hm => by
    have : m ∈ putM ⟨k, x.clock + x.c.suspect, x.c.sends⟩ x.tab := by
      unfold Nd.heard at hm
      split at hm
      · exact hm
      · exact hm
    rcases putM_mem this with rfl | h1
    · exact hk
    · exact h.keys m h1
  unfold Nd.hear at hm
  split at hm
  · rename_i e
    have h1 : k.st = 1 := hk.st (by rw [e, h.self]; exact h.ne)
    have e2 : x.hearSelf k = x := by simp [Nd.hearSelf, h1]
    rw [e2] at hm
    exact h.keys m hm
  · unfold Nd.hearOther at hm
    split at hm
    · split at hm
      · exact hput m hm
      · exact h.keys m hm
    · split at hm
      · exact h.keys m hm
      · exact hput m hm
theorem Side.hears {n : Nat} {g u s : Int} : ∀ (l : List K3) {x : Nd}, Side n g u s x → (∀ k ∈ l, Kg n g u k) → allB l = true → Side n g u s (x.hears l)
  | [], _, h, _, _ => h
  | k :: r, x, h, hl, hb => by
    have hb' : isKeyB k = true ∧ allB r = true := by simpa [allB] using hb
    show Side n g u s ((x.hear k).hears r)
    exact Side.hears r (h.hear (hl k (List.mem_cons_self ..)) hb'.1) (fun k' hk' => hl k' (List.mem_cons_of_mem _ hk')) hb'.2
theorem kg_one {n : Nat} {g u : Int} (hg : 2 ≤ g) (hn : 1 ≤ n) : Kg n g u ⟨1, 1, 1⟩ := ⟨rfl, ⟨Int.le_refl _, by show (1 : Int) ≤ n; omega⟩, fun _ => rfl, fun e => absurd e (by show ¬ (1 : Int) = g; omega)⟩
/-- What an answerer heard. -/
theorem Side.heard {n : Nat} {g u s : Int} {x : Nd} (h : Side n g u s x) (hg : 2 ≤ g) (hn : 1 ≤ n) {m : M6} (hm : m.frm = 1 ∧ m.inc = 1) (hu : ∀ k ∈ m.ups, Kg n g u k) (hw : wholeB m = true) (hs : s ≠ 1) :
    ∃ y, Side n g u s y ∧ x.receive (bytesM m) = y.deed m := by
  obtain ⟨hd, hr⟩ := dec_of_whole hw
  obtain ⟨_, _, hall⟩ := whole_parts hw
  have ht : takesB x.c.self (bytesM m) = true := by simp [takesB, hd, hr, h.self, hm.1, Ne.symm hs]
  refine ⟨(x.hear ⟨m.frm, m.inc, 1⟩).hears m.ups, ?_, ?_⟩
  · rw [hm.1, hm.2]
    exact (h.hear (kg_one hg hn) (by decide)).hears _ hu hall
  · unfold Nd.receive
    rw [if_pos ht, hr]
/-- A ping that goes to t, an answer of t's, an ask. -/
def PingG (n : Nat) (g u t q : Int) (p : Pk) : Prop := ∃ ups, p = ⟨t, bytesM ⟨1, 1, 1, q, t, ups⟩⟩ ∧ wholeB ⟨1, 1, 1, q, t, ups⟩ = true ∧ ∀ k ∈ ups, Kg n g u k
def AckG (n : Nat) (g u t q : Int) (p : Pk) : Prop := ∃ ups, p = ⟨1, bytesM ⟨2, t, 1, q, t, ups⟩⟩ ∧ wholeB ⟨2, t, 1, q, t, ups⟩ = true ∧ ∀ k ∈ ups, Kg n g u k
def AskG (n : Nat) (g u : Int) (p : Pk) : Prop := (2 ≤ p.dest ∧ p.dest ≤ n) ∧ p.dest ≠ g ∧ ∃ q ups, p.bytes = bytesM ⟨3, 1, 1, q, g, ups⟩ ∧ wholeB ⟨3, 1, 1, q, g, ups⟩ = true ∧ ∀ k ∈ ups, Kg n g u k
theorem Side.ping {n : Nat} {g u t q : Int} {x : Nd} (h : Side n g u t x) (hg : 2 ≤ g) (hn : 1 ≤ n) (ht1 : t ≠ 1) (hq : 0 ≤ q ∧ q ≤ 4294967295) {p : Pk} (hp : PingG n g u t q p) :
    ∃ p', (x.receive p.bytes).1 = [p'] ∧ AckG n g u t q p' ∧ Side n g u t (x.receive p.bytes).2 := by
  obtain ⟨ups, rfl, hw, hu⟩ := hp
  obtain ⟨y, hy, e⟩ := h.heard hg hn (m := ⟨1, 1, 1, q, t, ups⟩) ⟨rfl, rfl⟩ hu hw ht1
  have e2 : x.receive (bytesM ⟨1, 1, 1, q, t, ups⟩) = ([y.direct 2 1 q t], y.along) := by
    rw [e]
    simp [Nd.deed, Nd.takePing, hy.self]
  have hs : 1 ≤ t ∧ t ≤ 250 := by rw [← h.self]; exact h.ok.id
  obtain ⟨w1, w2⟩ := direct_own hy.ok hy.own hs (kind := 2) (dest := 1) (seq := q) (tgt := t) (by omega) hs hq
  refine ⟨_, by rw [e2], ⟨y.picks.map Mem.k, w2, w1, hy.picks⟩, ?_⟩
  rw [e2]
  exact hy.along
theorem Side.ask {n : Nat} {g u s : Int} {x : Nd} (h : Side n g u s x) (hg : 2 ≤ g) (hn : 1 ≤ n) (hs1 : s ≠ 1) {p : Pk} (hp : AskG n g u p) :
    ((x.receive p.bytes).1.length ≤ 1 ∧ ∀ p' ∈ (x.receive p.bytes).1, p'.dest = g) ∧ Side n g u s (x.receive p.bytes).2 := by
  obtain ⟨_, _, q, ups, hb, hw, hu⟩ := hp
  rw [hb]
  obtain ⟨y, hy, e⟩ := h.heard hg hn (m := ⟨3, 1, 1, q, g, ups⟩) ⟨rfl, rfl⟩ hu hw hs1
  have e2 : x.receive (bytesM ⟨3, 1, 1, q, g, ups⟩) = y.takeAsk ⟨3, 1, 1, q, g, ups⟩ := by
    rw [e]
    simp [Nd.deed]
  rw [e2]
  have hk := (takeAsk_keeps hy.ok ⟨3, 1, 1, q, g, ups⟩)
  unfold Nd.takeAsk at hk ⊢
  rw [if_neg (show ¬ g = y.c.self by rw [hy.self]; exact Ne.symm hy.ne)] at hk ⊢
  split
  · exact ⟨⟨Nat.zero_le _, fun _ h => (by cases h)⟩, hy⟩
  · rename_i hr
    rw [if_neg hr] at hk
    refine ⟨⟨Nat.le_refl _, fun p' hp' => ?_⟩, ?_⟩
    · simp only [List.mem_singleton] at hp'
      rw [hp']
      rfl
    · exact hy.same hk.ok rfl (fun m hm => along_mem (x := { y with num := y.num + 1, rels := y.rels ++ [⟨g, y.num + 1, 1, q, y.clock + y.c.period⟩] }) hm)

/-- Node 1, at clock T; to it g is u. -/
structure Lead (n : Nat) (g u P S T : Int) (x : Nd) : Prop where
  ok : NdOk x
  self : x.c.self = 1
  per : x.c.period = P
  sus : x.c.suspect = S
  keys : ∀ m ∈ x.tab, (m.k.inc = 1 ∧ m.k.id ≤ n) ∧ (m.k.id ≠ g → m.k.st = 1) ∧ (m.k.id = g → m.k.st = u)
  all : ∀ i : Int, 1 ≤ i → i ≤ n → Knows i x
  gn : 2 ≤ g ∧ g ≤ n
  rels : x.rels = []
  dl : DlOk x.dl
  clock : x.clock = T
  pass : ∀ i ∈ x.pass, i ≤ n
theorem Lead.kg {n : Nat} {g u P S T : Int} {x : Nd} (h : Lead n g u P S T x) {m : Mem} (hm : m ∈ x.tab) : Kg n g u m.k := by
  obtain ⟨⟨a, b⟩, c, d⟩ := h.keys m hm
  exact ⟨a, ⟨(key_bounds (h.ok.keys m hm)).1.1, b⟩, c, fun e => by rw [d e]; exact Int.le_refl _⟩
theorem Lead.side {n : Nat} {g u P S T : Int} {x : Nd} (h : Lead n g u P S T x) : Side n g u 1 x := ⟨h.ok, h.self, fun _ hm => h.kg hm, by have := h.gn; omega⟩
theorem Lead.left {n : Nat} {g u P S T : Int} {x : Nd} (h : Lead n g u P S T x) : x.left = false := by simp [Nd.left, h.side.own]
theorem Lead.hear {n : Nat} {g u P S T : Int} {x : Nd} (h : Lead n g u P S T x) {k : K3} (hk : Kg n g u k) : x.hear k = x := by
  unfold Nd.hear
  split
  · rename_i e
    have h1 : k.st = 1 := hk.st (by rw [e, h.self]; have := h.gn; omega)
    simp [Nd.hearSelf, h1]
  · unfold Nd.hearOther
    obtain ⟨o, ho⟩ := Option.isSome_iff_exists.1 (h.all k.id hk.id.1 hk.id.2)
    rw [ho]
    obtain ⟨o1, o2⟩ := findM_in ho
    obtain ⟨⟨a, b⟩, c, d⟩ := h.keys o o1
    have : greaterB k o.k = false := by
      by_cases e : k.id = g
      · have h1 := hk.gst e
        have h2 := d (by rw [o2]; exact e)
        simp only [greaterB, hk.inc, a, if_true, decide_eq_false_iff_not]
        omega
      · have h1 := hk.st e
        have h2 := c (by rw [o2]; exact e)
        simp only [greaterB, hk.inc, a, if_true, decide_eq_false_iff_not]
        omega
    simp [this]
theorem Lead.hears {n : Nat} {g u P S T : Int} {x : Nd} (h : Lead n g u P S T x) : ∀ (l : List K3), (∀ k ∈ l, Kg n g u k) → x.hears l = x
  | [], _ => rfl
  | k :: r, hl => by
    show (x.hear k).hears r = x
    rw [h.hear (hl k (List.mem_cons_self ..))]
    exact h.hears r (fun k' hk' => hl k' (List.mem_cons_of_mem _ hk'))
theorem Lead.same {n : Nat} {g u P S T T' : Int} {x y : Nd} (h : Lead n g u P S T x) (hok : NdOk y) (hc : y.c = x.c) (ht : y.tab = x.tab) (hr : y.rels = []) (hl : y.dl = x.dl) (hk : y.clock = T') (hp : ∀ i ∈ y.pass, i ≤ n) : Lead n g u P S T' y :=
  ⟨hok, by rw [hc]; exact h.self, by rw [hc]; exact h.per, by rw [hc]; exact h.sus, by rw [ht]; exact h.keys, fun i h1 h2 => by unfold Knows; rw [ht]; exact h.all i h1 h2, h.gn, hr, by rw [hl]; exact h.dl, hk, hp⟩
theorem Lead.along {n : Nat} {g u P S T : Int} {x : Nd} (h : Lead n g u P S T x) : Lead n g u P S T x.along :=
  ⟨along_ok h.ok, h.self, h.per, h.sus, fun m hm => by obtain ⟨m', h1, e⟩ := along_mem hm; rw [e]; exact h.keys m' h1, fun i h1 h2 => knows_up (Up.along h.ok) (h.all i h1 h2), h.gn, h.rels, h.dl, h.clock, h.pass⟩
/-- When g is to be dead, at the latest E. -/
def Due (g T E : Int) (x : Nd) : Prop := ∀ m ∈ x.tab, m.k.id = g → T < m.due ∧ m.due ≤ E
theorem Due.along {g T E : Int} {x : Nd} (h : Due g T E x) : Due g T E x.along := fun m hm hg => by
  obtain ⟨m', h1, e1, e2⟩ := along_due hm
  rw [e2]
  exact h m' h1 (by rw [← e1]; exact hg)
/-- g is found to be more than it was. -/
theorem Lead.raise {n : Nat} {g u P S T : Int} {x : Nd} (h : Lead n g u P S T x) {v : Int} (hu : u < v) (hv : 1 ≤ v ∧ v ≤ 4) :
    Lead n g v P S T (x.hear ⟨g, 1, v⟩) ∧ Due g T (T + S) (x.hear ⟨g, 1, v⟩) ∧ ((x.hear ⟨g, 1, v⟩).ptgt = x.ptgt ∧ (x.hear ⟨g, 1, v⟩).pst = x.pst ∧ (x.hear ⟨g, 1, v⟩).pack = x.pack ∧ (x.hear ⟨g, 1, v⟩).num = x.num ∧ (x.hear ⟨g, 1, v⟩).pnum = x.pnum) := by
  have hgn := h.gn
  have hcf := h.ok.cfg
  simp only [cfgB, Bool.and_eq_true, decide_eq_true_eq] at hcf
  obtain ⟨_, _, _, ⟨s1, s2⟩, _⟩ := hcf
  obtain ⟨o, ho⟩ := Option.isSome_iff_exists.1 (h.all g (by omega) hgn.2)
  obtain ⟨o1, o2⟩ := findM_in ho
  obtain ⟨⟨a, b⟩, c, d⟩ := h.keys o o1
  have hgr : greaterB ⟨g, 1, v⟩ o.k = true := by
    simp only [greaterB, a, if_true, decide_eq_true_eq]
    rw [d o2]; exact hu
  have e : x.hear ⟨g, 1, v⟩ = x.heard ⟨g, 1, v⟩ := by
    unfold Nd.hear
    rw [if_neg (show ¬ g = x.c.self by rw [h.self]; omega)]
    unfold Nd.hearOther
    rw [show findM (⟨g, 1, v⟩ : K3).id x.tab = some o from ho]
    simp only [hgr, if_true]
  have hid : 1 ≤ g ∧ g ≤ 250 := by
    have := (key_bounds (h.ok.keys o o1)).1
    rw [o2] at this
    exact this
  have hok : NdOk (x.hear ⟨g, 1, v⟩) := hear_ok h.ok _ (by
    simp only [isKeyB, Bool.and_eq_true]
    exact ⟨isId_mk hid.1 hid.2, rfl, by simp [isStB]; omega⟩)
  have hup := Up.hear h.ok ⟨g, 1, v⟩
  have htab : (x.hear ⟨g, 1, v⟩).tab = putM ⟨⟨g, 1, v⟩, x.clock + x.c.suspect, x.c.sends⟩ x.tab := by
    rw [e]
    unfold Nd.heard
    split <;> rfl
  have hrise := hok.rise
  have hnew : findM g (x.hear ⟨g, 1, v⟩).tab = some ⟨⟨g, 1, v⟩, x.clock + x.c.suspect, x.c.sends⟩ := by
    rw [htab, findM_putM _ _ _ h.ok.rise]
    simp
  have hg : ∀ m ∈ (x.hear ⟨g, 1, v⟩).tab, m.k.id = g → m = ⟨⟨g, 1, v⟩, x.clock + x.c.suspect, x.c.sends⟩ := fun m hm hmg => by
    have h1 := findM_mem hrise hm
    rw [hmg, hnew] at h1
    exact (Option.some.inj h1).symm
  refine ⟨⟨hok, by rw [hup.c]; exact h.self, by rw [hup.c]; exact h.per, by rw [hup.c]; exact h.sus, fun m hm => ?_, fun i h1 h2 => knows_up hup (h.all i h1 h2), hgn, by rw [(hear_rels x _).1]; exact h.rels, by rw [hup.dl]; exact h.dl, ?_, fun i hi => ?_⟩, fun m hm hmg => ?_, ?_⟩
  · by_cases hmg : m.k.id = g
    · rw [hg m hm hmg]
      exact ⟨⟨rfl, hgn.2⟩, fun hh => absurd rfl hh, fun _ => rfl⟩
    · rw [htab] at hm
      rcases putM_mem hm with rfl | h1
      · exact absurd rfl hmg
      · obtain ⟨q1, q2, q3⟩ := h.keys m h1
        exact ⟨q1, q2, fun hh => absurd hh hmg⟩
  · rw [e]; unfold Nd.heard; split <;> exact h.clock
  · rw [e] at hi
    unfold Nd.heard at hi
    split at hi
    · exact h.pass i hi
    · exact h.pass i (List.mem_filter.1 hi).1
  · rw [hg m hm hmg]
    show T < x.clock + x.c.suspect ∧ x.clock + x.c.suspect ≤ T + S
    rw [h.clock, h.sus]
    rw [h.sus] at s1
    omega
  · rw [e]; unfold Nd.heard; split <;> exact ⟨rfl, rfl, rfl, rfl, rfl⟩
end Go.Proofs.YtnneljcbelgoeaaGreat.wire
/- Finds: a tick of node 1. No Go here. -/
namespace Go.Proofs.YtnneljcbelgoeaaGreat.wire

/-- Where node 1 stands with g; D: the last clock at which g may still be alive to it; z: the clock at which nothing has begun. -/
inductive Ph (z g P S T D : Int) (x : Nd) : Int → Prop
  | new (h0 : T = z) (hp : x.ptgt = 0) (hl : x.pass = []) : Ph z g P S T D x 1
  | probed (hp : x.ptgt = g) (hd : x.pst + P ≤ D) : Ph z g P S T D x 1
  | waits (hp : x.ptgt ≠ 0) (hm : g ∈ x.pass) (hd : x.pst + P * ((x.pass.length : Int) + 1) ≤ D) : Ph z g P S T D x 1
  | suspect (h : Due g T (D + S) x) : Ph z g P S T D x 2
  | dead : Ph z g P S T D x 3
/-- At rest. -/
structure Still (n : Nat) (g u P S T D : Int) (x : Nd) : Prop where
  l : Lead n g u P S T x
  ph : Ph 0 g P S T D x u
  on : x.ptgt ≠ 0 → (1 ≤ x.pst ∧ x.pst ≤ T) ∧ T < x.pst + P ∧ (0 ≤ x.pnum ∧ x.pnum ≤ 4294967295)
  acked : x.ptgt ≠ 0 → x.ptgt ≠ g → x.pack = true
  gone : x.ptgt = g → x.pack = false
/-- It waits for t, under q. -/
structure AwaitG (n : Nat) (g u P S T D t q : Int) (x : Nd) : Prop where
  l : Lead n g u P S T x
  ph : Ph 0 g P S T D x u
  on : (1 ≤ x.pst ∧ x.pst ≤ T) ∧ T < x.pst + P
  tgt : x.ptgt = t
  num : x.pnum = q
  tn : 2 ≤ t ∧ t ≤ n
  tg : t ≠ g
  qb : 0 ≤ q ∧ q ≤ 4294967295
theorem Ph.same {z g P S T D u : Int} {x y : Nd} (h : Ph z g P S T D x u) (h1 : y.ptgt = x.ptgt) (h2 : y.pst = x.pst) (h3 : y.pass = x.pass) (h4 : ∀ E, Due g T E x → Due g T E y) : Ph z g P S T D y u := by
  cases h with
  | new a b c => exact .new a (by rw [h1]; exact b) (by rw [h3]; exact c)
  | probed a b => exact .probed (by rw [h1]; exact a) (by rw [h2]; exact b)
  | waits a b c => exact .waits (by rw [h1]; exact a) (by rw [h3]; exact b) (by rw [h2, h3]; exact c)
  | suspect a => exact .suspect (h4 _ a)
  | dead => exact .dead
theorem Ph.zero {z z' g P S T D u : Int} {x : Nd} (h : Ph z g P S T D x u) (h1 : x.ptgt ≠ 0) : Ph z' g P S T D x u := by
  cases h with
  | new a b c => exact absurd b h1
  | probed a b => exact .probed a b
  | waits a b c => exact .waits a b c
  | suspect a => exact .suspect a
  | dead => exact .dead
/-- The answer comes in. -/
theorem AwaitG.ack {n : Nat} {g u P S T D t q : Int} {x : Nd} (h : AwaitG n g u P S T D t q x) {p : Pk} (hp : AckG n g u t q p) :
    (x.receive p.bytes).1 = [] ∧ Still n g u P S T D (x.receive p.bytes).2 := by
  obtain ⟨ups, rfl, hw, hu⟩ := hp
  obtain ⟨hd, hr⟩ := dec_of_whole hw
  have htn := h.tn
  have ht : takesB x.c.self (bytesM ⟨2, t, 1, q, t, ups⟩) = true := by
    have : ¬ t = 1 := by omega
    simp [takesB, hd, hr, h.l.self, this]
  have e : x.receive (bytesM ⟨2, t, 1, q, t, ups⟩) = ([], { x with pack := true }) := by
    unfold Nd.receive
    rw [if_pos ht, hr]
    have h1 : x.hear ⟨t, 1, 1⟩ = x := h.l.hear ⟨rfl, ⟨by show 1 ≤ t; omega, htn.2⟩, fun _ => rfl, fun e => absurd e h.tg⟩
    show ((x.hear ⟨t, 1, 1⟩).hears ups).deed ⟨2, t, 1, q, t, ups⟩ = _
    rw [h1, h.l.hears ups hu]
    have hz := h.l.rels
    simp [Nd.deed, Nd.takeAck, hz, Nd.relayed, h.tgt, h.num]
  show (x.receive (bytesM ⟨2, t, 1, q, t, ups⟩)).1 = [] ∧ Still n g u P S T D (x.receive (bytesM ⟨2, t, 1, q, t, ups⟩)).2
  rw [e]
  have c := h.l
  have hq : 0 ≤ x.pnum ∧ x.pnum ≤ 4294967295 := by rw [h.num]; exact h.qb
  refine ⟨rfl, ⟨c.same ⟨c.ok.cfg, c.ok.rise, c.ok.len, c.ok.keys, c.ok.sends, c.ok.self, c.ok.evs, c.ok.rels, c.ok.pass⟩ rfl rfl c.rels rfl c.clock c.pass, h.ph.same rfl rfl rfl (fun _ hh => hh), fun _ => ⟨h.on.1, h.on.2, hq⟩, fun _ _ => rfl, fun hh => absurd (h.tgt.symm.trans hh) h.tg⟩⟩
theorem Lead.later {n : Nat} {g u P S T : Int} {x : Nd} (h : Lead n g u P S T x) : x.later.endRelays = x.later ∧ Lead n g u P S (T + 1) x.later := by
  have hr : x.later.rels = [] := h.rels
  refine ⟨?_, h.same (later_ok h.ok) rfl rfl h.rels rfl (by show x.clock + 1 = T + 1; rw [h.clock]) h.pass⟩
  unfold Nd.endRelays
  rw [hr]
  show ({ x.later with rels := [] } : Nd) = x.later
  rw [← hr]
theorem Lead.deads_same {n : Nat} {g P S T : Int} {y : Nd} (h : Lead n g 3 P S T y) : ∀ (l : List Mem), (∀ m ∈ l, m.dead = ⟨g, 1, 3⟩) → l.foldl (fun y m => y.hear m.dead) y = y
  | [], _ => rfl
  | m :: r, hl => by
    have hgn := h.gn
    show r.foldl (fun y m => y.hear m.dead) (y.hear m.dead) = y
    rw [hl m (List.mem_cons_self ..), h.hear ⟨rfl, ⟨by show 1 ≤ g; omega, hgn.2⟩, fun hh => absurd rfl hh, fun _ => Int.le_refl _⟩]
    exact h.deads_same r (fun k' hk' => hl k' (List.mem_cons_of_mem _ hk'))
theorem Lead.over {n : Nat} {g u P S T : Int} {y : Nd} (h : Lead n g u P S T y) :
    (y.endSuspects = y ∧ (u = 2 → ∀ m ∈ y.tab, m.k.id = g → T < m.due)) ∨
    (u = 2 ∧ Lead n g 3 P S T y.endSuspects ∧ (y.endSuspects.ptgt = y.ptgt ∧ y.endSuspects.pst = y.pst ∧ y.endSuspects.pack = y.pack ∧ y.endSuspects.num = y.num ∧ y.endSuspects.pnum = y.pnum)) := by
  have hall : ∀ m ∈ y.tab.filter (overB y.clock), m.dead = ⟨g, 1, 3⟩ ∧ u = 2 := fun m hm => by
    obtain ⟨m1, m2⟩ := List.mem_filter.1 hm
    obtain ⟨⟨a, b⟩, c, d⟩ := h.keys m m1
    simp only [overB, Bool.and_eq_true, decide_eq_true_eq] at m2
    have hg : m.k.id = g := by
      by_cases e : m.k.id = g
      · exact e
      · have := c e; omega
    exact ⟨by simp only [Mem.dead, hg, a], by rw [← d hg]; exact m2.1⟩
  cases hz : y.tab.filter (overB y.clock) with
  | nil =>
    left
    refine ⟨by unfold Nd.endSuspects; rw [hz]; rfl, fun hu m hm hg => ?_⟩
    rw [List.filter_eq_nil_iff] at hz
    have h1 := hz m hm
    have h2 := (h.keys m hm).2.2 hg
    simp only [overB, h2, hu, decide_true, Bool.true_and, decide_eq_true_eq] at h1
    rw [h.clock] at h1
    omega
  | cons m r =>
    right
    rw [hz] at hall
    obtain ⟨e1, e2⟩ := hall m (List.mem_cons_self ..)
    subst e2
    obtain ⟨l1, _, l3⟩ := h.raise (v := 3) (by omega) (by omega)
    have e : y.endSuspects = y.hear ⟨g, 1, 3⟩ := by
      unfold Nd.endSuspects
      rw [hz]
      show r.foldl (fun y m => y.hear m.dead) (y.hear m.dead) = _
      rw [e1]
      exact l1.deads_same r (fun m' hm' => (hall m' (List.mem_cons_of_mem _ hm')).1)
    rw [e]
    exact ⟨rfl, l1, l3⟩
theorem Ph.bd {z g P S T D u : Int} {x : Nd} (h : Ph z g P S T D x u) : 1 ≤ u ∧ u ≤ 3 := by cases h <;> omega
/-- The clock goes on; one who was suspected too long is dead. -/
theorem Still.over {n : Nat} {g u P S T D : Int} {x : Nd} (h : Still n g u P S T D x) :
    ∃ v, u ≤ v ∧ Lead n g v P S (T + 1) x.later.endRelays.endSuspects ∧ Ph 1 g P S (T + 1) D x.later.endRelays.endSuspects v ∧
      (x.later.endRelays.endSuspects.ptgt = x.ptgt ∧ x.later.endRelays.endSuspects.pst = x.pst ∧ x.later.endRelays.endSuspects.pack = x.pack ∧ x.later.endRelays.endSuspects.num = x.num ∧ x.later.endRelays.endSuspects.pnum = x.pnum) := by
  obtain ⟨e1, hl⟩ := h.l.later
  rw [e1]
  rcases hl.over with ⟨e, hd⟩ | ⟨e, l3, f⟩
  · rw [e]
    refine ⟨u, Int.le_refl _, hl, ?_, rfl, rfl, rfl, rfl, rfl⟩
    cases h.ph with
    | new a b c => exact .new (by omega) b c
    | probed a b => exact .probed a b
    | waits a b c => exact .waits a b c
    | suspect a => exact .suspect fun m hm hg => ⟨hd rfl m hm hg, (a m hm hg).2⟩
    | dead => exact .dead
  · exact ⟨3, by omega, l3, .dead, f⟩
theorem Lead.present {n : Nat} {g u P S T : Int} {x : Nd} (h : Lead n g u P S T x) (hu : u = 1 ∨ u = 2) : g ∈ x.present := by
  have hgn := h.gn
  obtain ⟨m, hm⟩ := Option.isSome_iff_exists.1 (h.all g (by omega) hgn.2)
  obtain ⟨m1, m2⟩ := findM_in hm
  have hk := (h.keys m m1).2.2 m2
  unfold Nd.present Nd.others
  refine List.mem_map.2 ⟨m.k, List.mem_filter.2 ⟨List.mem_map.2 ⟨m, List.mem_filter.2 ⟨m1, ?_⟩, rfl⟩, ?_⟩, m2⟩
  · rw [h.self, m2]
    have : ¬ g = 1 := by omega
    simp [this]
  · simp [thereB, hk, hu]
theorem Lead.present_n {n : Nat} {g u P S T : Int} {x : Nd} (h : Lead n g u P S T x) : ∀ i ∈ x.present, 2 ≤ i ∧ i ≤ n := by
  intro i hi
  have h1 := present_ids h.ok i hi
  rw [h.self] at h1
  unfold Nd.present Nd.others at hi
  obtain ⟨k, hk, rfl⟩ := List.mem_map.1 hi
  obtain ⟨m, hm, rfl⟩ := List.mem_map.1 (List.mem_filter.1 hk).1
  have := (h.keys m (List.mem_filter.1 hm).1).1.2
  omega
/-- How many it knows. -/
theorem others_count {n : Nat} {s : Int} {x : Nd} (hx : NdOk x) (hself : x.c.self = s) (hids : ∀ m ∈ x.tab, m.k.id ≤ n) (hall : ∀ i : Int, 1 ≤ i → i ≤ n → Knows i x) (hs : 1 ≤ s ∧ s ≤ n) : x.others.length = n - 1 := by
  have hnd : ((List.range n).map (fun j : Nat => (j : Int) + 1)).Nodup := by
    rw [List.Nodup, List.pairwise_map]
    exact (List.pairwise_lt_range (n := n)).imp (fun {a b} hlt e => by omega)
  have hlen : (((List.range n).map (fun j : Nat => (j : Int) + 1)).erase s).length = n - 1 := by
    rw [List.length_erase_of_mem (List.mem_map.2 ⟨(s - 1).toNat, by simp; omega, by omega⟩)]
    simp
  have h1 : x.others.length ≤ n - 1 := by
    have := len_sub (x.others.map K3.id) (((List.range n).map (fun j : Nat => (j : Int) + 1)).erase s) ?_ ?_
    · rw [hlen] at this
      simpa using this
    · unfold Nd.others
      rw [List.map_map, List.Nodup, List.pairwise_map]
      exact (hx.rise.imp (fun {a b} hlt (e : a.k.id = b.k.id) => by omega)).filter _
    · intro a ha
      obtain ⟨k, hk, rfl⟩ := List.mem_map.1 ha
      unfold Nd.others at hk
      obtain ⟨m, hm, rfl⟩ := List.mem_map.1 hk
      obtain ⟨m1, m2⟩ := List.mem_filter.1 hm
      have hb := (key_bounds (hx.keys m m1)).1
      have hn := hids m m1
      have hne : m.k.id ≠ s := by rw [← hself]; simpa using m2
      exact (List.mem_erase_of_ne hne).2 (List.mem_map.2 ⟨(m.k.id - 1).toNat, by simp; omega, by omega⟩)
  have h2 : n - 1 ≤ x.others.length := by
    have := others_ge (x := x) (((List.range n).map (fun j : Nat => (j : Int) + 1)).erase s) ?_ ?_
    · rw [hlen] at this
      exact this
    · exact List.Nodup.erase _ hnd
    · intro i hi
      obtain ⟨e1, e2⟩ := hnd.mem_erase_iff.1 hi
      obtain ⟨j, hj, rfl⟩ := List.mem_map.1 e2
      have hjn : j < n := by simpa using hj
      exact ⟨by rw [hself]; exact e1, hall _ (by omega) (by omega)⟩
  omega
theorem Lead.count {n : Nat} {g u P S T : Int} {x : Nd} (h : Lead n g u P S T x) : x.others.length = n - 1 :=
  others_count h.ok h.self (fun m hm => (h.keys m hm).1.2) h.all (by have := h.gn; omega)
theorem Lead.present_len {n : Nat} {g u P S T : Int} {x : Nd} (h : Lead n g u P S T x) : x.present.length ≤ n - 1 := by
  rw [← h.count]
  unfold Nd.present
  rw [List.length_map]
  exact List.length_filter_le _ _
/-- The asks. -/
theorem Lead.asks {n : Nat} {g u P S T : Int} : ∀ (c : Nat) (able : List Int) {x : Nd}, Lead n g u P S T x → x.ptgt = g → (0 ≤ x.pnum ∧ x.pnum ≤ 4294967295) → (∀ i ∈ able, (2 ≤ i ∧ i ≤ n) ∧ i ≠ g) → c ≤ able.length →
    (Lead n g u P S T (x.asks c able).2 ∧ (∀ E, Due g T E x → Due g T E (x.asks c able).2)) ∧ ((x.asks c able).2.ptgt = x.ptgt ∧ (x.asks c able).2.pst = x.pst ∧ (x.asks c able).2.pack = x.pack ∧ (x.asks c able).2.pnum = x.pnum ∧ (x.asks c able).2.pass = x.pass) ∧ (x.asks c able).1.length = c ∧ ∀ p ∈ (x.asks c able).1, AskG n g u p
  | 0, _, _, h, _, _, _, _ => ⟨⟨h, fun _ hh => hh⟩, ⟨rfl, rfl, rfl, rfl, rfl⟩, rfl, fun _ hp => (by cases hp)⟩
  | c + 1, able, x, h, hg, hq, ha, hc => by
    obtain ⟨m, e, _⟩ := drew_ex x able.length
    have hb := drawn_bd x (n := able.length) (by omega)
    obtain ⟨i, hi⟩ : ∃ i, i = (x.drawn able.length).toNat := ⟨_, rfl⟩
    have hil : i < able.length := by omega
    obtain ⟨y, hy⟩ : ∃ y : Nd, y = { x with dat := m } := ⟨_, rfl⟩
    have hly : Lead n g u P S T y := by rw [hy]; exact h.same (dat_ok h.ok m) rfl rfl h.rels rfl h.clock h.pass
    have hyf : y.ptgt = x.ptgt ∧ y.pst = x.pst ∧ y.pack = x.pack ∧ y.pnum = x.pnum ∧ y.pass = x.pass ∧ y.tab = x.tab := by rw [hy]; exact ⟨rfl, rfl, rfl, rfl, rfl, rfl⟩
    have e2 : x.asks (c + 1) able = (y.direct 3 (able.getD i 0) y.pnum y.ptgt :: (y.along.asks c (able.eraseIdx i)).1, (y.along.asks c (able.eraseIdx i)).2) := by
      rw [hy, ← e, hi]
      rfl
    obtain ⟨f1, f2, f3, f4, f5, f6⟩ := hyf
    obtain ⟨⟨i1, i1'⟩, ⟨i2, i3, i4, i5, i6⟩, i7, i8⟩ := Lead.asks c (able.eraseIdx i) hly.along (by show y.ptgt = g; rw [f1]; exact hg) (by show 0 ≤ y.pnum ∧ y.pnum ≤ 4294967295; rw [f4]; exact hq) (fun j hj => ha j (List.mem_of_mem_eraseIdx hj)) (by rw [List.length_eraseIdx_of_lt hil]; omega)
    have hgn := h.gn
    have hid : 1 ≤ g ∧ g ≤ 250 := by
      rcases h.ok.pass.tgt with hh | hh
      · rw [hg] at hh; omega
      · rw [hg] at hh; exact hh.1
    obtain ⟨w1, w2⟩ := direct_own hly.ok hly.side.own (by omega) (kind := 3) (dest := able.getD i 0) (seq := y.pnum) (tgt := y.ptgt) (by omega) (by rw [f1, hg]; exact hid) (by rw [f4]; exact hq)
    rw [e2]
    refine ⟨⟨i1, fun E hE => i1' E (Due.along (fun m hm => by rw [f6] at hm; exact hE m hm))⟩, ⟨i2.trans f1, i3.trans f2, i4.trans f3, i5.trans f4, i6.trans f5⟩, by simp [i7], fun p hp => ?_⟩
    rcases List.mem_cons.1 hp with rfl | hp
    · have hm : able.getD i 0 = able[i] := by simp [List.getD_eq_getElem?_getD, List.getElem?_eq_getElem hil]
      have hmem := ha able[i] (List.getElem_mem hil)
      have ed : y.direct 3 (able.getD i 0) y.pnum y.ptgt = ⟨able[i], bytesM ⟨3, 1, 1, y.pnum, g, y.picks.map Mem.k⟩⟩ := by
        rw [w2, f1, hg, hm]
      rw [f1, hg] at w1
      rw [ed]
      exact ⟨hmem.1, hmem.2, y.pnum, y.picks.map Mem.k, rfl, w1, hly.side.picks⟩
    · exact i8 p hp
end Go.Proofs.YtnneljcbelgoeaaGreat.wire
/- Finds: the whole of a tick of node 1. No Go here. -/
namespace Go.Proofs.YtnneljcbelgoeaaGreat.wire

/-- Nobody is being probed; one is to begin. -/
inductive Rd (g P S T D : Int) (x : Nd) : Int → Prop
  | new (h0 : T = 1) (hl : x.pass = []) : Rd g P S T D x 1
  | waits (hm : g ∈ x.pass) (hd : T + P * (x.pass.length : Int) ≤ D) : Rd g P S T D x 1
  | suspect (h : Due g T (D + S) x) : Rd g P S T D x 2
  | dead : Rd g P S T D x 3
/-- What goes out of a tick, and what is then. -/
inductive TickG (n : Nat) (g v P S T D : Int) (o : List Pk) (y : Nd) : Prop
  | still (h : Still n g v P S T D y) (hl : o.length ≤ 3) (hp : ∀ p ∈ o, p.dest = g ∨ AskG n g v p)
  | ping {t q : Int} {p : Pk} (h : AwaitG n g v P S T D t q y) (e : o = [p]) (hp : PingG n g v t q p)
theorem Lead.begun {n : Nat} {g v P S T D : Int} {w : Nd} (h : Lead n g v P S T w) (hT : 1 ≤ T) (hP : 4 ≤ P) (hq : 0 ≤ w.num ∧ w.num ≤ 4000000000) (h0 : w.ptgt = 0)
    (hr : (v = 1 ∧ g ∈ w.pass ∧ T + P * (w.pass.length : Int) ≤ D) ∨ (v = 2 ∧ Due g T (D + S) w) ∨ v = 3) : TickG n g v P S T D w.probeOne.1 w.probeOne.2 := by
  have hgn := h.gn
  cases hp : w.pass with
  | nil =>
    have e : w.probeOne = ([], w) := by unfold Nd.probeOne; rw [hp]
    rw [e]
    refine .still ⟨h, ?_, fun hh => absurd h0 hh, fun hh => absurd h0 hh, fun hh => by have hh' : w.ptgt = g := hh; omega⟩ (by simp) (fun p hp => by cases hp)
    rcases hr with ⟨_, hm, _⟩ | ⟨rfl, hd⟩ | rfl
    · rw [hp] at hm; cases hm
    · exact .suspect hd
    · exact .dead
  | cons t r =>
    have hid := h.ok.pass.ids t (by rw [hp]; simp)
    have htn := h.pass t (by rw [hp]; simp)
    have e : w.probeOne = ([(w.begin t r).direct 1 t (w.num + 1) t], (w.begin t r).along) := by unfold Nd.probeOne; rw [hp]
    have hlb : Lead n g v P S T (w.begin t r) := h.same (begin_ok h.ok hp) rfl rfl h.rels rfl h.clock (fun i hi => h.pass i (by rw [hp]; exact List.mem_cons_of_mem _ hi))
    obtain ⟨w1, w2⟩ := direct_own hlb.ok hlb.side.own (by omega) (kind := 1) (dest := t) (seq := w.num + 1) (tgt := t) (by omega) hid.1 (by omega)
    have hst : (w.begin t r).along.pst = T := h.clock
    have hph : Ph 0 g P S T D (w.begin t r).along v := by
      rcases hr with ⟨rfl, hm, hd⟩ | ⟨rfl, hd⟩ | rfl
      · rw [hp] at hm hd
        have hlen : ((t :: r).length : Int) = (r.length : Int) + 1 := by simp
        rw [hlen] at hd
        by_cases etg : t = g
        · refine .probed (show t = g from etg) ?_
          rw [hst]
          have h1 : P * ((r.length : Int) + 1) = P * (r.length : Int) + P := by rw [Int.mul_add, Int.mul_one]
          have h2 : 0 ≤ P * (r.length : Int) := Int.mul_nonneg (by omega) (by omega)
          omega
        · refine .waits (show t ≠ 0 by have := hid.1; omega) ?_ ?_
          · show g ∈ r
            rcases List.mem_cons.1 hm with hh | hh
            · exact absurd hh.symm etg
            · exact hh
          · rw [hst]; exact hd
      · exact .suspect (Due.along (x := w.begin t r) hd)
      · exact .dead
    rw [e]
    rw [h.self] at hid
    by_cases etg : t = g
    · refine .still ⟨hlb.along, hph, fun _ => ⟨by rw [hst]; omega, by rw [hst]; omega, by show 0 ≤ w.num + 1 ∧ w.num + 1 ≤ 4294967295; omega⟩, fun _ hh => absurd etg hh, fun _ => rfl⟩ (by simp) (fun p hp => ?_)
      simp only [List.mem_singleton] at hp
      rw [hp, w2]
      exact .inl etg
    · exact .ping (t := t) (q := w.num + 1) ⟨hlb.along, hph, ⟨by rw [hst]; omega, by rw [hst]; omega⟩, rfl, rfl, by omega, etg, by omega⟩ rfl ⟨_, w2, w1, hlb.side.picks⟩
theorem Lead.next {n : Nat} {g v P S T D : Int} {z : Nd} (h : Lead n g v P S T z) (hT : 1 ≤ T) (hP : 4 ≤ P) (hD : 1 + P * ((n : Int) - 1) ≤ D) (hq : 0 ≤ z.num ∧ z.num ≤ 4000000000) (h0 : z.ptgt = 0) (hr : Rd g P S T D z v) : TickG n g v P S T D z.probeNext.1 z.probeNext.2 := by
  have hgn := h.gn
  have e0 : z.probeNext = z.renew.probeOne := by
    unfold Nd.probeNext
    rw [if_neg (by simp [h0, h.left])]
  rw [e0]
  by_cases hp : z.pass.length = 0
  · obtain ⟨m, e, _⟩ := mixed_ex z z.present
    have hpm := mixed_perm z z.present
    have er : z.renew = { ({ z with dat := m } : Nd) with pass := (z.mixed z.present).1 } := by
      unfold Nd.renew
      rw [if_pos hp, e]
    have hlw : Lead n g v P S T z.renew := by
      have hok := renew_ok h.ok
      rw [er] at hok ⊢
      exact h.same hok rfl rfl h.rels rfl h.clock (fun i hi => (h.present_n i (hpm.mem_iff.1 hi)).2)
    have hpass : z.renew.pass = (z.mixed z.present).1 := by rw [er]
    refine hlw.begun hT hP (by rw [er]; exact hq) (by rw [er]; exact h0) ?_
    cases hr with
    | new a b =>
      refine .inl ⟨rfl, by rw [hpass]; exact hpm.mem_iff.2 (h.present (.inl rfl)), ?_⟩
      rw [hpass, hpm.length_eq]
      have hl := h.present_len
      have : P * (z.present.length : Int) ≤ P * ((n : Int) - 1) := Int.mul_le_mul_of_nonneg_left (by omega) (by omega)
      omega
    | waits a b => rw [List.length_eq_zero_iff.1 hp] at a; cases a
    | suspect a => exact .inr (.inl ⟨rfl, by rw [er]; exact a⟩)
    | dead => exact .inr (.inr rfl)
  · have er : z.renew = z := by unfold Nd.renew; rw [if_neg hp]
    rw [er]
    refine h.begun hT hP hq h0 ?_
    cases hr with
    | new a b => exact absurd (by rw [b]; rfl) hp
    | waits a b => exact .inl ⟨rfl, a, b⟩
    | suspect a => exact .inr (.inl ⟨rfl, a⟩)
    | dead => exact .inr (.inr rfl)
theorem Still.tick {n : Nat} {g u P S T D : Int} {x : Nd} (h : Still n g u P S T D x) (hT : 0 ≤ T) (hD : 1 + P * ((n : Int) - 1) ≤ D) (hq : 0 ≤ x.num ∧ x.num ≤ 4000000000) :
    ∃ v, u ≤ v ∧ TickG n g v P S (T + 1) D x.tick.1 x.tick.2 := by
  obtain ⟨v, huv, hl, hph, f1, f2, f3, f4, f5⟩ := h.over
  have et : x.tick = (x.later.endRelays.endSuspects.goOn.1 ++ x.later.endRelays.endSuspects.goOn.2.probeNext.1, x.later.endRelays.endSuspects.goOn.2.probeNext.2) := rfl
  rw [et]
  generalize x.later.endRelays.endSuspects = y at *
  have hgn := hl.gn
  have hcf := hl.ok.cfg
  simp only [cfgB, Bool.and_eq_true, decide_eq_true_eq] at hcf
  obtain ⟨_, ⟨p1, p2⟩, ⟨v1, v2⟩, _, ⟨x1, x2⟩, _⟩ := hcf
  rw [hl.per] at p1 v2
  have hck := hl.clock
  have hon : y.ptgt ≠ 0 → (1 ≤ y.pst ∧ y.pst ≤ T) ∧ T < y.pst + P ∧ (0 ≤ y.pnum ∧ y.pnum ≤ 4294967295) := fun hh => by
    rw [f1] at hh
    rw [f2, f5]
    exact h.on hh
  have hack : y.ptgt ≠ 0 → y.ptgt ≠ g → y.pack = true := fun a b => by rw [f3]; rw [f1] at a b; exact h.acked a b
  have hgo : y.ptgt = g → y.pack = false := fun a => by rw [f3]; rw [f1] at a; exact h.gone a
  have hquiet : y.ptgt ≠ 0 → T + 1 - y.pst ≠ P → Still n g v P S (T + 1) D y := fun a b => by
    obtain ⟨q1, q2, q3⟩ := hon a
    exact ⟨hl, hph.zero a, fun _ => ⟨by omega, by omega, q3⟩, hack, hgo⟩
  have hmute : ∀ z : Nd, z.ptgt ≠ 0 → z.probeNext = ([], z) := fun z hz => by
    unfold Nd.probeNext
    rw [if_pos (by simp [hz])]
  by_cases h0 : y.ptgt = 0
  · have hg : y.goOn = ([], y) := by unfold Nd.goOn; rw [if_pos h0]
    rw [hg]
    refine ⟨v, huv, ?_⟩
    show TickG n g v P S (T + 1) D ([] ++ y.probeNext.1) y.probeNext.2
    rw [List.nil_append]
    refine hl.next (by omega) p1 hD (by rw [f4]; exact hq) h0 ?_
    cases hph with
    | new a b c => exact .new a c
    | probed a b => omega
    | waits a b c => exact absurd h0 a
    | suspect a => exact .suspect a
    | dead => exact .dead
  · obtain ⟨⟨o1, o2⟩, o3, o4⟩ := hon h0
    by_cases hw : T + 1 - y.pst = y.c.wait
    · have hg : y.goOn = y.askOthers := by
        unfold Nd.goOn
        rw [if_neg h0, hck, if_pos hw]
      rw [hg]
      cases hpk : y.pack with
      | true =>
        have ha : y.askOthers = ([], y) := by unfold Nd.askOthers; rw [if_pos hpk]
        rw [ha]
        refine ⟨v, huv, ?_⟩
        show TickG n g v P S (T + 1) D ([] ++ y.probeNext.1) y.probeNext.2
        rw [hmute y h0]
        exact .still (hquiet h0 (by omega)) (by simp) (fun p hp => by cases hp)
      | false =>
        have ha : y.askOthers = y.asks (min y.c.proxies.toNat y.able.length) y.able := by unfold Nd.askOthers; rw [if_neg (by rw [hpk]; decide)]
        rw [ha]
        have htg : y.ptgt = g := by
          by_cases e : y.ptgt = g
          · exact e
          · rw [hack h0 e] at hpk; cases hpk
        obtain ⟨⟨i1, i1'⟩, ⟨i2, i3, i4, i5, i6⟩, i7, i8⟩ := hl.asks (min y.c.proxies.toNat y.able.length) y.able htg o4 (fun i hi => by
          unfold Nd.able at hi
          obtain ⟨j1, j2⟩ := List.mem_filter.1 hi
          rw [htg] at j2
          exact ⟨hl.present_n i j1, by simpa using j2⟩) (by omega)
        generalize hA : y.asks (min y.c.proxies.toNat y.able.length) y.able = A at *
        have hz : A.2.ptgt ≠ 0 := by rw [i2]; exact h0
        rw [hmute A.2 hz]
        refine ⟨v, huv, .still ⟨i1, ((hph.zero h0).same i2 i3 i6 i1'), fun _ => ?_, fun _ hh => absurd (i2.trans htg) hh, fun _ => i4.trans hpk⟩ ?_ (fun p hp => ?_)⟩
        · rw [i3, i5]; exact ⟨by omega, by omega, o4⟩
        · simp only [List.append_nil, i7]; omega
        · simp only [List.append_nil] at hp
          exact .inr (i8 p hp)
    · by_cases hp : T + 1 - y.pst = P
      · have hg : y.goOn = ([], y.endProbe) := by
          unfold Nd.goOn
          rw [if_neg h0, hck, if_neg hw, if_pos (by rw [hl.per]; exact hp)]
        rw [hg]
        show ∃ v, u ≤ v ∧ TickG n g v P S (T + 1) D ([] ++ y.endProbe.probeNext.1) y.endProbe.probeNext.2
        rw [List.nil_append]
        have hli : Lead n g v P S (T + 1) y.idle := hl.same (idle_ok hl.ok) rfl rfl hl.rels rfl hl.clock hl.pass
        cases hb : (y.pack || !decide ((atM y.ptgt y.tab).k.st = 1)) with
        | true =>
          have e : y.endProbe = y.idle := by unfold Nd.endProbe; rw [if_pos hb]
          rw [e]
          refine ⟨v, huv, hli.next (by omega) p1 hD (by show 0 ≤ y.num ∧ y.num ≤ 4000000000; rw [f4]; exact hq) rfl ?_⟩
          cases hph with
          | new a b c => exact absurd b h0
          | probed a b =>
            exfalso
            rw [hgo a, Bool.false_or] at hb
            obtain ⟨m, hm⟩ := Option.isSome_iff_exists.1 (hl.all g (by omega) hgn.2)
            have hst := (hl.keys m (findM_in hm).1).2.2 (findM_in hm).2
            rw [a] at hb
            simp [atM, hm, hst] at hb
          | waits a b c =>
            refine .waits b ?_
            have h1 : P * ((y.pass.length : Int) + 1) = P * (y.pass.length : Int) + P := by rw [Int.mul_add, Int.mul_one]
            show T + 1 + P * (y.pass.length : Int) ≤ D
            omega
          | suspect a => exact .suspect a
          | dead => exact .dead
        | false =>
          simp only [Bool.or_eq_false_iff, Bool.not_eq_eq_eq_not, Bool.not_false, decide_eq_true_eq] at hb
          obtain ⟨b1, b2⟩ := hb
          have htg : y.ptgt = g := by
            by_cases e : y.ptgt = g
            · exact e
            · rw [hack h0 e] at b1; cases b1
          obtain ⟨m, hm⟩ := Option.isSome_iff_exists.1 (hl.all g (by omega) hgn.2)
          have hkm := hl.keys m (findM_in hm).1
          have hst := hkm.2.2 (findM_in hm).2
          have hid := (findM_in hm).2
          rw [htg] at b2
          have e1 : (atM g y.tab).k = m.k := by simp [atM, hm]
          rw [e1] at b2
          have hv : v = 1 := by omega
          subst hv
          obtain ⟨l1, l2, l3, l4, l5, l6, l7⟩ := hli.raise (v := 2) (by omega) (by omega)
          have e : y.endProbe = y.idle.hear ⟨g, 1, 2⟩ := by
            unfold Nd.endProbe
            rw [if_neg (by rw [htg, e1, b1, b2]; decide), htg, e1, hid, hkm.1.1]
          rw [e]
          refine ⟨2, by omega, l1.next (by omega) p1 hD (by rw [l6]; show 0 ≤ y.num ∧ y.num ≤ 4000000000; rw [f4]; exact hq) (by rw [l3]; rfl) (.suspect (fun m' h1 h2 => ⟨(l2 m' h1 h2).1, ?_⟩))⟩
          have h3 := (l2 m' h1 h2).2
          have h4 : y.pst + P ≤ D := by
            cases hph with
            | new a b c => exact absurd b h0
            | probed a b => exact b
            | waits a b c =>
              have h1 : P * ((y.pass.length : Int) + 1) = P * (y.pass.length : Int) + P := by rw [Int.mul_add, Int.mul_one]
              have h2 : 0 ≤ P * (y.pass.length : Int) := Int.mul_nonneg (by omega) (by omega)
              omega
          omega
      · have hg : y.goOn = ([], y) := by
          unfold Nd.goOn
          rw [if_neg h0, hck, if_neg hw, if_neg (by rw [hl.per]; exact hp)]
        rw [hg]
        refine ⟨v, huv, ?_⟩
        show TickG n g v P S (T + 1) D ([] ++ y.probeNext.1) y.probeNext.2
        rw [hmute y h0]
        exact .still (hquiet h0 hp) (by simp) (fun p hp => by cases hp)
/-- When the time is over, g is dead. -/
theorem Still.end {n : Nat} {g u P S T D : Int} {x : Nd} (h : Still n g u P S T D x) (hT : D + S ≤ T) (hT1 : 1 ≤ T) (hS : 0 ≤ S) (hP : 0 ≤ P) : u = 3 := by
  have hgn := h.l.gn
  cases h.ph with
  | new a b c => omega
  | probed a b => have := h.on (by omega); omega
  | waits a b c =>
    have h1 := h.on a
    have h2 : P * ((x.pass.length : Int) + 1) = P * (x.pass.length : Int) + P := by rw [Int.mul_add, Int.mul_one]
    have h3 : 0 ≤ P * (x.pass.length : Int) := Int.mul_nonneg hP (by omega)
    omega
  | suspect a =>
    obtain ⟨m, hm⟩ := Option.isSome_iff_exists.1 (h.l.all g (by omega) hgn.2)
    have := a m (findM_in hm).1 (findM_in hm).2
    omega
  | dead => rfl
end Go.Proofs.YtnneljcbelgoeaaGreat.wire
