import Derived.Test.YtnneljcbelgoeaaGreatNOthers
import Derived.Test.YtnneljcbelgoeaaGreatNDirect
import Derived.Test.YtnneljcbelgoeaaGreatNHears
/- THE PLAIN MATHEMATICS OF A TICK (P9). No Go here. -/
namespace Go.Proofs.YtnneljcbelgoeaaGreat.wire

/-- One draw, out of the list, at its place. -/
def drawZ (l : List Int) (a : Nat) (n : Int) : Int := (if l.getD (a % l.length) 0 < 0 then -(l.getD (a % l.length) 0 + 1) else l.getD (a % l.length) 0).tmod n
def Nd.mute (x : Nd) (n : Int) : Bool := decide (x.dl.length = 0) || decide (n < 1)
def Nd.drawn (x : Nd) (n : Int) : Int := if x.mute n then 0 else drawZ x.dl x.dat n
def Nd.drew (x : Nd) (n : Int) : Nd := if x.mute n then x else { x with dat := x.dat + 1 }
def Nd.endRelays (x : Nd) : Nd := { x with rels := x.rels.filter (fun r => !decide (r.till ≤ x.clock)) }
def overB (clock : Int) (m : Mem) : Bool := decide (m.k.st = 2) && decide (m.due ≤ clock)
def Mem.dead (m : Mem) : K3 := ⟨m.k.id, m.k.inc, 3⟩
def Nd.endSuspects (x : Nd) : Nd := (x.tab.filter (overB x.clock)).foldl (fun y m => y.hear m.dead) x
def Nd.present (x : Nd) : List Int := (x.others.filter thereB).map K3.id
def Nd.able (x : Nd) : List Int := x.present.filter (fun i => !(i == x.ptgt))
def Nd.asks : Nat → List Int → Nd → List Pk × Nd
  | 0, _, x => ([], x)
  | n + 1, able, x =>
    let y := x.drew able.length
    let r := y.along.asks n (able.eraseIdx (x.drawn able.length).toNat)
    (y.direct 3 (able.getD (x.drawn able.length).toNat 0) y.pnum y.ptgt :: r.1, r.2)
def Nd.askOthers (x : Nd) : List Pk × Nd := if x.pack then ([], x) else x.asks (min x.c.proxies.toNat x.able.length) x.able
def Nd.idle (x : Nd) : Nd := { x with ptgt := 0, pnum := 0, pst := 0, pack := false }
def Nd.endProbe (x : Nd) : Nd :=
  if x.pack || !decide ((atM x.ptgt x.tab).k.st = 1) then x.idle else x.idle.hear ⟨(atM x.ptgt x.tab).k.id, (atM x.ptgt x.tab).k.inc, 2⟩
def Nd.goOn (x : Nd) : List Pk × Nd :=
  if x.ptgt = 0 then ([], x) else if x.clock - x.pst = x.c.wait then x.askOthers else if x.clock - x.pst = x.c.period then ([], x.endProbe) else ([], x)
def swapL (l : List Int) (i j : Nat) : List Int := (l.set i (l.getD j 0)).set j (l.getD i 0)
/-- The order of a pass: swaps from place i down to place 1. -/
def Nd.mixFrom : Nat → List Int → Nd → List Int × Nd
  | 0, l, x => (l, x)
  | i + 1, l, x => (x.drew (i + 2)).mixFrom i (swapL l (i + 1) (x.drawn (i + 2)).toNat)
def Nd.mixed (x : Nd) (l : List Int) : List Int × Nd := x.mixFrom (l.length - 1) l
/-- The pass, begun anew if it is over. -/
def Nd.renew (x : Nd) : Nd := if x.pass.length = 0 then { (x.mixed x.present).2 with pass := (x.mixed x.present).1 } else x
def Nd.begin (x : Nd) (t : Int) (r : List Int) : Nd := { x with pass := r, num := x.num + 1, ptgt := t, pnum := x.num + 1, pst := x.clock, pack := false }
def Nd.probeOne (x : Nd) : List Pk × Nd :=
  match x.pass with
  | [] => ([], x)
  | t :: r => ([(x.begin t r).direct 1 t (x.num + 1) t], (x.begin t r).along)
def Nd.probeNext (x : Nd) : List Pk × Nd := if !decide (x.ptgt = 0) || x.left then ([], x) else x.renew.probeOne
def Nd.later (x : Nd) : Nd := { x with clock := x.clock + 1 }
def Nd.tick (x : Nd) : List Pk × Nd :=
  let y := x.later.endRelays.endSuspects.goOn
  let z := y.2.probeNext
  (y.1 ++ z.1, z.2)
theorem drawZ_bd (l : List Int) (a : Nat) {n : Int} (h : 1 ≤ n) : 0 ≤ drawZ l a n ∧ drawZ l a n < n := by
  unfold drawZ
  generalize l.getD (a % l.length) 0 = k
  have : 0 ≤ (if k < 0 then -(k + 1) else k) := by split <;> omega
  rw [Int.tmod_eq_emod_of_nonneg this]
  exact ⟨Int.emod_nonneg _ (by omega), Int.emod_lt_of_pos _ (by omega)⟩
theorem drawn_bd (x : Nd) {n : Int} (h : 1 ≤ n) : 0 ≤ x.drawn n ∧ x.drawn n < n := by
  unfold Nd.drawn
  split
  · omega
  · exact drawZ_bd _ _ h
end Go.Proofs.YtnneljcbelgoeaaGreat.wire
/- What a tick keeps (P9). No Go here. -/
namespace Go.Proofs.YtnneljcbelgoeaaGreat.wire

theorem swapL_perm (l : List Int) (i j : Nat) (hi : i < l.length) (hj : j < l.length) : (swapL l i j).Perm l := by
  have h := (Array.swap_perm (xs := l.toArray) (i := i) (j := j) (by simpa using hi) (by simpa using hj)).toList
  have e : (l.toArray.swap i j (by simpa using hi) (by simpa using hj)).toList = swapL l i j := by
    simp [Array.swap, swapL, List.getD_eq_getElem?_getD, List.getElem?_eq_getElem hi, List.getElem?_eq_getElem hj]
  rw [e] at h
  simpa using h
theorem swapL_len (l : List Int) (i j : Nat) : (swapL l i j).length = l.length := by simp [swapL]
theorem mixFrom_perm : ∀ (i : Nat) (l : List Int) (x : Nd), i < l.length ∨ i = 0 → (x.mixFrom i l).1.Perm l
  | 0, l, x, _ => List.Perm.refl l
  | i + 1, l, x, h => by
    have hd := drawn_bd x (n := (i : Int) + 2) (by omega)
    have hi : i + 1 < l.length := by omega
    have hj : (x.drawn ((i : Int) + 2)).toNat < l.length := by omega
    exact (mixFrom_perm i _ _ (.inl (by rw [swapL_len]; omega))).trans (swapL_perm l _ _ hi hj)
theorem mixed_perm (x : Nd) (l : List Int) : (x.mixed l).1.Perm l := mixFrom_perm _ _ _ (by omega)
theorem drew_ex (x : Nd) (n : Int) : ∃ m : Nat, x.drew n = { x with dat := m } ∧ x.dat ≤ m ∧ m ≤ x.dat + 1 := by
  unfold Nd.drew; split
  · exact ⟨x.dat, rfl, by omega, by omega⟩
  · exact ⟨x.dat + 1, rfl, by omega, by omega⟩
theorem mixFrom_ex : ∀ (i : Nat) (l : List Int) (x : Nd), ∃ m : Nat, (x.mixFrom i l).2 = { x with dat := m } ∧ x.dat ≤ m ∧ m ≤ x.dat + i
  | 0, l, x => ⟨x.dat, rfl, Nat.le_refl _, Nat.le_refl _⟩
  | i + 1, l, x => by
    obtain ⟨m, e, h1, h2⟩ := drew_ex x ((i : Int) + 2)
    obtain ⟨n, e', h3, h4⟩ := mixFrom_ex i (swapL l (i + 1) (x.drawn ((i : Int) + 2)).toNat) { x with dat := m }
    refine ⟨n, ?_, ?_, ?_⟩
    · show ((x.drew ((i : Int) + 2)).mixFrom i _).2 = _
      rw [e, e']
    · have : m ≤ n := h3
      omega
    · have : n ≤ m + i := h4
      omega
theorem mixed_ex (x : Nd) (l : List Int) : ∃ m : Nat, (x.mixed l).2 = { x with dat := m } ∧ x.dat ≤ m ∧ m ≤ x.dat + l.length := by
  obtain ⟨m, e, h1, h2⟩ := mixFrom_ex (l.length - 1) l x
  exact ⟨m, e, h1, by omega⟩
theorem dat_ok {x : Nd} (h : NdOk x) (n : Nat) : NdOk { x with dat := n } := ⟨h.cfg, h.rise, h.len, h.keys, h.sends, h.self, h.evs, h.rels, h.pass⟩
theorem dat_b {B : Int} {x : Nd} (h : NdB B x) {n : Nat} (hn : (n : Int) ≤ B) : NdB B { x with dat := n } := ⟨h.clock, h.num, h.dropped, h.lost, ⟨h.tk.1, hn⟩⟩
theorem drew_ok {x : Nd} (h : NdOk x) (n : Int) : NdOk (x.drew n) := by obtain ⟨m, e, _⟩ := drew_ex x n; rw [e]; exact dat_ok h _
theorem drew_b {B : Int} {x : Nd} (h : NdB B x) (n : Int) : NdB (B + 1) (x.drew n) := by
  obtain ⟨m, e, _, h2⟩ := drew_ex x n
  rw [e]
  exact dat_b (h.mono (by omega)) (by have := h.tk.2; omega)
theorem later_ok {x : Nd} (h : NdOk x) : NdOk x.later := ⟨h.cfg, h.rise, h.len, h.keys, h.sends, h.self, h.evs, h.rels, h.pass⟩
theorem later_b {B : Int} {x : Nd} (h : NdB B x) : NdB (B + 1) x.later :=
  ⟨⟨by have := h.clock; show 0 ≤ x.clock + 1; omega, by have := h.clock; show x.clock + 1 ≤ B + 1; omega⟩, (h.mono (by omega)).num, (h.mono (by omega)).dropped, (h.mono (by omega)).lost, (h.mono (by omega)).tk⟩
theorem endRelays_ok {x : Nd} (h : NdOk x) : NdOk x.endRelays := ⟨h.cfg, h.rise, h.len, h.keys, h.sends, h.self, h.evs, Nat.le_trans (List.length_filter_le _ _) h.rels, h.pass⟩
theorem endRelays_b {B : Int} {x : Nd} (h : NdB B x) : NdB B x.endRelays := ⟨h.clock, h.num, h.dropped, h.lost, h.tk⟩
theorem dead_key {m : Mem} (h : isKeyB m.k = true) : isKeyB m.dead = true := by
  simp only [isKeyB, Bool.and_eq_true] at *
  exact ⟨h.1, h.2.1, rfl⟩
theorem deads_ok : ∀ (l : List Mem) {x : Nd}, NdOk x → (∀ m ∈ l, isKeyB m.k = true) → NdOk (l.foldl (fun y m => y.hear m.dead) x)
  | [], _, h, _ => h
  | m :: r, _, h, hl => deads_ok r (hear_ok h _ (dead_key (hl m (List.mem_cons_self ..)))) (fun m' hm' => hl m' (List.mem_cons_of_mem _ hm'))
theorem deads_b : ∀ (l : List Mem) {B : Int} {x : Nd}, NdB B x → NdB (B + l.length) (l.foldl (fun y m => y.hear m.dead) x)
  | [], _, _, h => by simpa using h
  | m :: r, B, x, h => by
    have := deads_b r (hear_b h m.dead)
    refine this.mono ?_
    simp; omega
theorem endSuspects_ok {x : Nd} (h : NdOk x) : NdOk x.endSuspects := deads_ok _ h (fun m hm => h.keys m (List.mem_filter.1 hm).1)
theorem endSuspects_b {B : Int} {x : Nd} (h : NdOk x) (hB : NdB B x) : NdB (B + 8) x.endSuspects :=
  (deads_b _ hB).mono (by have := List.length_filter_le (overB x.clock) x.tab; have := h.len; omega)
theorem present_len {x : Nd} (h : NdOk x) : x.present.length ≤ 8 := by
  unfold Nd.present Nd.others
  rw [List.length_map]
  refine Nat.le_trans (List.length_filter_le _ _) ?_
  rw [List.length_map]
  exact Nat.le_trans (List.length_filter_le _ _) h.len
theorem present_ids {x : Nd} (h : NdOk x) : ∀ i ∈ x.present, (1 ≤ i ∧ i ≤ 250) ∧ i ≠ x.c.self := by
  intro i hi
  unfold Nd.present Nd.others at hi
  obtain ⟨k, hk, rfl⟩ := List.mem_map.1 hi
  obtain ⟨m, hm, rfl⟩ := List.mem_map.1 (List.mem_filter.1 hk).1
  obtain ⟨h1, h2⟩ := List.mem_filter.1 hm
  refine ⟨(key_bounds (h.keys m h1)).1, ?_⟩
  simpa using h2
theorem asks_ok : ∀ (n : Nat) (able : List Int) {x : Nd}, NdOk x → NdOk (x.asks n able).2
  | 0, _, _, h => h
  | n + 1, able, _, h => asks_ok n _ (along_ok (drew_ok h able.length))
theorem asks_b : ∀ (n : Nat) (able : List Int) {B : Int} {x : Nd}, NdB B x → NdB (B + n) (x.asks n able).2
  | 0, _, _, _, h => h.mono (by omega)
  | n + 1, able, B, x, h => (asks_b n _ (along_b (drew_b h able.length))).mono (by omega)
theorem askOthers_ok {x : Nd} (h : NdOk x) : NdOk x.askOthers.2 := by
  unfold Nd.askOthers; split
  · exact h
  · exact asks_ok _ _ h
theorem askOthers_b {B : Int} {x : Nd} (h : NdOk x) (hB : NdB B x) : NdB (B + 3) x.askOthers.2 := by
  unfold Nd.askOthers; split
  · exact hB.mono (by omega)
  · refine (asks_b _ _ hB).mono ?_
    have := h.cfg
    simp only [cfgB, Bool.and_eq_true, decide_eq_true_eq] at this
    omega
theorem idle_ok {x : Nd} (h : NdOk x) : NdOk x.idle := ⟨h.cfg, h.rise, h.len, h.keys, h.sends, h.self, h.evs, h.rels, ⟨h.pass.len, h.pass.ids, .inl rfl⟩⟩
theorem idle_b {B : Int} {x : Nd} (h : NdB B x) : NdB B x.idle := ⟨h.clock, h.num, h.dropped, h.lost, ⟨⟨Int.le_refl 0, by have := h.clock; show (0 : Int) ≤ B; omega⟩, h.tk.2⟩⟩
theorem sus_key {x : Nd} (h : NdOk x) {i : Int} (hs : (atM i x.tab).k.st = 1) : isKeyB ⟨(atM i x.tab).k.id, (atM i x.tab).k.inc, 2⟩ = true := by
  unfold atM at *
  rcases hf : findM i x.tab with _ | m
  · rw [hf] at hs; simp [zeroM] at hs
  · have hk := h.keys m (findM_in hf).1
    simp only [isKeyB, Bool.and_eq_true, Option.getD_some] at *
    exact ⟨hk.1, hk.2.1, rfl⟩
theorem endProbe_ok {x : Nd} (h : NdOk x) : NdOk x.endProbe := by
  unfold Nd.endProbe; split
  · exact idle_ok h
  · rename_i hc
    refine hear_ok (idle_ok h) _ (sus_key h ?_)
    simp at hc
    exact hc.2
theorem endProbe_b {B : Int} {x : Nd} (hB : NdB B x) : NdB (B + 1) x.endProbe := by
  unfold Nd.endProbe; split
  · exact (idle_b hB).mono (by omega)
  · exact hear_b (idle_b hB) _
theorem goOn_ok {x : Nd} (h : NdOk x) : NdOk x.goOn.2 := by
  unfold Nd.goOn; split
  · exact h
  · split
    · exact askOthers_ok h
    · split
      · exact endProbe_ok h
      · exact h
theorem goOn_b {B : Int} {x : Nd} (h : NdOk x) (hB : NdB B x) : NdB (B + 3) x.goOn.2 := by
  unfold Nd.goOn; split
  · exact hB.mono (by omega)
  · split
    · exact askOthers_b h hB
    · split
      · exact (endProbe_b hB).mono (by omega)
      · exact hB.mono (by omega)
theorem renew_ok {x : Nd} (h : NdOk x) : NdOk x.renew := by
  unfold Nd.renew; split
  · have hp := mixed_perm x x.present
    obtain ⟨m, e, _⟩ := mixed_ex x x.present
    rw [e]
    refine ⟨h.cfg, h.rise, h.len, h.keys, h.sends, h.self, h.evs, h.rels, ⟨?_, fun i hi => ?_, h.pass.tgt⟩⟩
    · show (x.mixed x.present).1.length ≤ 8
      rw [hp.length_eq]; exact present_len h
    · exact present_ids h i (hp.mem_iff.1 hi)
  · exact h
theorem renew_b {B : Int} {x : Nd} (h : NdOk x) (hB : NdB B x) : NdB (B + 8) x.renew := by
  unfold Nd.renew; split
  · obtain ⟨m, e, _, hd⟩ := mixed_ex x x.present
    rw [e]
    have := present_len h
    have hB' := hB.mono (C := B + 8) (by omega)
    refine ⟨hB'.clock, hB'.num, hB'.dropped, hB'.lost, ⟨hB'.tk.1, ?_⟩⟩
    show (m : Int) ≤ B + 8
    have := hB.tk.2
    omega
  · exact hB.mono (by omega)
theorem begin_ok {x : Nd} (h : NdOk x) {t : Int} {r : List Int} (hp : x.pass = t :: r) : NdOk (x.begin t r) := by
  have h1 := h.pass
  rw [hp] at h1
  exact ⟨h.cfg, h.rise, h.len, h.keys, h.sends, h.self, h.evs, h.rels, ⟨by have := h1.len; simp at this; show r.length ≤ 8; omega, fun i hi => h1.ids i (List.mem_cons_of_mem _ hi), .inr (h1.ids t (List.mem_cons_self ..))⟩⟩
theorem begin_b {B : Int} {x : Nd} (hB : NdB B x) (t : Int) (r : List Int) : NdB (B + 1) (x.begin t r) := by
  have hB' := hB.mono (C := B + 1) (by omega)
  exact ⟨hB'.clock, ⟨by have := hB.num; show 0 ≤ x.num + 1; omega, by have := hB.num; show x.num + 1 ≤ B + 1; omega⟩, hB'.dropped, hB'.lost, ⟨hB'.clock, hB'.tk.2⟩⟩
theorem probeOne_ok {x : Nd} (h : NdOk x) : NdOk x.probeOne.2 := by
  unfold Nd.probeOne; split
  · exact h
  · rename_i t r hp; exact along_ok (begin_ok h hp)
theorem probeOne_b {B : Int} {x : Nd} (hB : NdB B x) : NdB (B + 1) x.probeOne.2 := by
  unfold Nd.probeOne; split
  · exact hB.mono (by omega)
  · exact along_b (begin_b hB _ _)
theorem probeNext_ok {x : Nd} (h : NdOk x) : NdOk x.probeNext.2 := by
  unfold Nd.probeNext; split
  · exact h
  · exact probeOne_ok (renew_ok h)
theorem probeNext_b {B : Int} {x : Nd} (h : NdOk x) (hB : NdB B x) : NdB (B + 9) x.probeNext.2 := by
  unfold Nd.probeNext; split
  · exact hB.mono (by omega)
  · exact (probeOne_b (renew_b h hB)).mono (by omega)
theorem tick_ok {x : Nd} (h : NdOk x) : NdOk x.tick.2 := probeNext_ok (goOn_ok (endSuspects_ok (endRelays_ok (later_ok h))))
theorem tick_b {B : Int} {x : Nd} (h : NdOk x) (hB : NdB B x) : NdB (B + 21) x.tick.2 := by
  have h1 := endRelays_ok (later_ok h)
  have b1 := endSuspects_b h1 (endRelays_b (later_b hB))
  have h2 := endSuspects_ok h1
  exact (probeNext_b (goOn_ok h2) (goOn_b h2 b1)).mono (by omega)
/-- The list of draws is the same, whatever a node does. -/
theorem hear_dl (x : Nd) (k : K3) : (x.hear k).dl = x.dl := by
  unfold Nd.hear Nd.hearSelf Nd.hearOther Nd.heard
  repeat' split
  all_goals rfl
end Go.Proofs.YtnneljcbelgoeaaGreat.wire
