import Derived.Test.YtnneljcbelgoeaaGreatNFindA
import Derived.Test.YtnneljcbelgoeaaGreatNStayB
/- Finds: nodes in a row; a row of packets that is read. -/
namespace Go.Proofs.YtnneljcbelgoeaaGreat.wire
open Go.RowKit Go.Maps

/-- All in a row; node 1 is as L says. -/
structure Ring (n : Nat) (g u : Int) (B : Int) (L : Nd → Prop) (xs : List Nd) : Prop where
  len : xs.length = n
  lead : ∀ h : 0 < xs.length, L xs[0]
  side : ∀ (j : Nat) (h : j < xs.length), 1 ≤ j → (j : Int) + 1 ≠ g → Side n g u ((j : Int) + 1) xs[j]
  b : ∀ (j : Nat) (h : j < xs.length), NdB B xs[j]
theorem Ring.wide {n : Nat} {g u B B' : Int} {L : Nd → Prop} {xs : List Nd} (h : Ring n g u B L xs) (hB : B ≤ B') : Ring n g u B' L xs := ⟨h.len, h.lead, h.side, fun j hj => (h.b j hj).mono hB⟩
theorem Ring.set0 {n : Nat} {g u v B B' : Int} {L L' : Nd → Prop} {xs : List Nd} (h : Ring n g u B L xs) (huv : u ≤ v) (hB : B ≤ B') {y : Nd} (hy : L' y) (hb : NdB B' y) : Ring n g v B' L' (xs.set 0 y) := by
  refine ⟨by simpa using h.len, fun h0 => by rw [List.getElem_set_self]; exact hy, fun j hj h1 hg => ?_, fun j hj => ?_⟩
  · have hj' : j < xs.length := by simpa using hj
    rw [List.getElem_set_ne (by omega)]
    exact (h.side j hj' h1 hg).wide huv
  · have hj' : j < xs.length := by simpa using hj
    by_cases e : 0 = j
    · subst e; rw [List.getElem_set_self]; exact hb
    · rw [List.getElem_set_ne e]; exact (h.b j hj').mono hB
theorem Ring.setj {n : Nat} {g u B B' : Int} {L : Nd → Prop} {xs : List Nd} (h : Ring n g u B L xs) (hB : B ≤ B') {i : Nat} (hi : 1 ≤ i) {y : Nd} (hy : Side n g u ((i : Int) + 1) y) (hb : NdB B' y) : Ring n g u B' L (xs.set i y) := by
  refine ⟨by simpa using h.len, fun h0 => ?_, fun j hj h1 hg => ?_, fun j hj => ?_⟩
  · have h0' : 0 < xs.length := by simpa using h0
    rw [List.getElem_set_ne (by omega)]
    exact h.lead h0'
  · have hj' : j < xs.length := by simpa using hj
    by_cases e : i = j
    · subst e; rw [List.getElem_set_self]; exact hy
    · rw [List.getElem_set_ne e]; exact h.side j hj' h1 hg
  · have hj' : j < xs.length := by simpa using hj
    by_cases e : i = j
    · subst e; rw [List.getElem_set_self]; exact hb
    · rw [List.getElem_set_ne e]; exact (h.b j hj').mono hB
theorem Ring.ask {n : Nat} {g u B : Int} {L : Nd → Prop} {xs : List Nd} (h : Ring n g u B L xs) (hg : 2 ≤ g) (hn : 1 ≤ n) {p : Pk} (hp : AskG n g u p) (j : Nat) (hj : j < xs.length) (hd : p.dest = (j : Int) + 1) :
    ((xs[j].receive p.bytes).1.length ≤ 1 ∧ ∀ p' ∈ (xs[j].receive p.bytes).1, p'.dest = g) ∧ Ring n g u (B + 10) L (xs.set j (xs[j].receive p.bytes).2) := by
  have h1 := hp.1
  have h2 := hp.2.1
  have hs := h.side j hj (by omega) (by omega)
  obtain ⟨a, b⟩ := hs.ask hg hn (by omega) hp
  exact ⟨a, h.setj (by omega) (by omega) b ((receive_keeps hs.ok _).1.b _ (h.b j hj))⟩
theorem Ring.ping {n : Nat} {g u B : Int} {L : Nd → Prop} {xs : List Nd} (h : Ring n g u B L xs) (hg : 2 ≤ g) (hn : 1 ≤ n) {t q : Int} {p : Pk} (hp : PingG n g u t q p) (hq : 0 ≤ q ∧ q ≤ 4294967295) (ht : 2 ≤ t) (htg : t ≠ g) (j : Nat) (hj : j < xs.length) (hd : t = (j : Int) + 1) :
    ∃ p', (xs[j].receive p.bytes).1 = [p'] ∧ AckG n g u t q p' ∧ Ring n g u (B + 10) L (xs.set j (xs[j].receive p.bytes).2) := by
  have hs := h.side j hj (by omega) (by omega)
  subst hd
  obtain ⟨p', a, b, c⟩ := hs.ping hg hn (by omega) hq hp
  exact ⟨p', a, b, h.setj (by omega) (by omega) c ((receive_keeps hs.ok _).1.b _ (h.b j hj))⟩
theorem Ring.ack {n : Nat} {g u B P S T D t q : Int} {xs : List Nd} (h : Ring n g u B (AwaitG n g u P S T D t q) xs) {p : Pk} (hp : AckG n g u t q p) (hj : 0 < xs.length) :
    (xs[0].receive p.bytes).1 = [] ∧ Ring n g u (B + 10) (Still n g u P S T D) (xs.set 0 (xs[0].receive p.bytes).2) := by
  have hl := h.lead hj
  obtain ⟨a, b⟩ := hl.ack hp
  exact ⟨a, h.set0 (Int.le_refl _) (by omega) b ((receive_keeps hl.l.ok _).1.b _ (h.b 0 hj))⟩
/-- A tick of node 1. -/
theorem Ring.tick {n : Nat} {g u B P S T D : Int} {xs : List Nd} (h : Ring n g u B (Still n g u P S T D) xs) (hj : 0 < xs.length) (hT : 0 ≤ T) (hD : 1 + P * ((n : Int) - 1) ≤ D) (hB : B ≤ 4000000000) :
    ∃ v, u ≤ v ∧ ((xs[0].tick.1.length ≤ 3 ∧ (∀ p ∈ xs[0].tick.1, p.dest = g ∨ AskG n g v p) ∧ Ring n g v (B + 21) (Still n g v P S (T + 1) D) (xs.set 0 xs[0].tick.2)) ∨
      ∃ t q p, xs[0].tick.1 = [p] ∧ PingG n g v t q p ∧ (2 ≤ t ∧ t ≤ n) ∧ t ≠ g ∧ (0 ≤ q ∧ q ≤ 4294967295) ∧ Ring n g v (B + 21) (AwaitG n g v P S (T + 1) D t q) (xs.set 0 xs[0].tick.2)) := by
  have hl := h.lead hj
  have hb := h.b 0 hj
  have hnum := hb.num
  obtain ⟨v, huv, ht⟩ := hl.tick hT hD (by omega)
  have hb2 := tick_b hl.l.ok hb
  refine ⟨v, huv, ?_⟩
  cases ht with
  | still a b c => exact .inl ⟨b, c, h.set0 huv (by omega) a hb2⟩
  | @ping t q p a b c => exact .inr ⟨t, q, p, b, c, a.tn, a.tg, a.qb, h.set0 huv (by omega) a hb2⟩
/-- How they begin. -/
theorem Ring.start {W w : World} {lv : Value} {k : Nat} {c g D : Int} {xs : List Nd} (hl : xs.length = k) (hg : 2 ≤ g ∧ g ≤ k) (hak : AK c k k xs) (hmi : MI W w lv k 5000 xs) : Ring k g 1 5000 (Still k g 1 (4 + (pickI c 1073741824).tmod 8) (1 + pickI c 1073741824 / 64 % 40) 0 D) xs := by
  refine ⟨hl, fun h0 => ?_, fun j hj h1 hne => ?_, fun j hj => (hmi.nice j hj).2⟩
  · have hn := (hmi.nice 0 h0).1
    have hkn : ∀ i : Int, 1 ≤ i → i ≤ k → Knows i xs[0] := fun i h1 h2 => by
      by_cases es : i = 1
      · obtain ⟨m, hm⟩ := hn.ok.self
        have e1 : xs[0].c.self = 1 := hn.self
        unfold Knows
        rw [es, ← e1, hm]
        rfl
      · have := hak.all 0 (i - 1).toNat h0 (by omega) (by omega) (by omega)
        have e2 : (((i - 1).toNat : Nat) : Int) + 1 = i := by omega
        rwa [e2] at this
    refine ⟨⟨hn.ok, hn.self, by rw [hak.cfg 0 h0]; rfl, by rw [hak.cfg 0 h0]; rfl, fun m hm => ?_, hkn, hg, hn.fr.rels, hn.fr.dl, hn.fr.clock, fun i hi => by rw [hn.fr.pass] at hi; cases hi⟩, .new rfl hn.fr.ptgt hn.fr.pass, fun hh => absurd hn.fr.ptgt hh, fun hh => absurd hn.fr.ptgt hh, fun hh => ?_⟩
    · obtain ⟨a, b, c⟩ := hn.keys m hm
      exact ⟨⟨a, c⟩, fun _ => b, fun _ => b⟩
    · have := hn.fr.ptgt
      omega
  · have hn := (hmi.nice j hj).1
    refine ⟨hn.ok, hn.self, fun m hm => ?_, hne⟩
    obtain ⟨a, b, c⟩ := hn.keys m hm
    exact ⟨a, ⟨(key_bounds (hn.ok.keys m hm)).1.1, c⟩, fun _ => b, fun _ => by omega⟩
/-- What is seen in the end. -/
theorem Lead.seen {n : Nat} {g u P S T : Int} {x : Nd} (h : Lead n g u P S T x) : ∀ k ∈ x.others, (k.id = g → k.st = u) ∧ (k.id ≠ g → k.st = 1) := fun k hk => by
  unfold Nd.others at hk
  obtain ⟨m, hm, rfl⟩ := List.mem_map.1 hk
  obtain ⟨_, b, c⟩ := h.keys m (List.mem_filter.1 hm).1
  exact ⟨c, b⟩
/-- A row of packets. -/
structure PkS (w : World) (g : Nat) (l : List Pk) : Prop where
  ex : ∃ cs, w.heap[g]? = some (.cells cs 39 (0, 0)) ∧ ∀ (q : Nat) (h : q < l.length), cs[q * 2]? = some (.int .i64 l[q].dest) ∧ cs[q * 2 + 1]? = some (.string (bs l[q].bytes))
theorem PkS.kept {w w' : World} {g : Nat} {l : List Pk} (h : PkS w g l) (hk : Kept w w') : PkS w' g l := by
  obtain ⟨cs, a, b⟩ := h.ex
  exact ⟨cs, hk _ _ _ a (by decide) (by decide) (by decide) (by decide), b⟩
theorem PkS.at {w : World} {g : Nat} {l : List Pk} (h : PkS w g l) (q : Nat) (hq : q < l.length) : w.cell? ⟨g, q * 2, none⟩ = some (.int .i64 l[q].dest) ∧ w.cell? ⟨g, q * 2 + 1, none⟩ = some (.string (bs l[q].bytes)) ∧ g < w.heap.size := by
  obtain ⟨cs, a, b⟩ := h.ex
  exact ⟨(cell_at a _).trans (b q hq).1, (cell_at a _).trans (b q hq).2, lt_blk a⟩
theorem pks_len (l : List Pk) : (l.flatMap pkC).length = l.length * 2 := by
  induction l with
  | nil => rfl
  | cons a r ih => simp only [List.flatMap_cons, List.length_append, ih, List.length_cons, pkC, List.length_nil]; omega
theorem pks_get : ∀ (l : List Pk) (i : Nat) (h : i < l.length) (j : Nat), j < 2 → (l.flatMap pkC)[i * 2 + j]? = (pkC l[i])[j]? := by
  intro l
  induction l with
  | nil => intro i h; simp at h
  | cons a r ih =>
    intro i h j hj
    cases i with
    | zero => rw [List.flatMap_cons, List.getElem?_append_left (by simp [pkC]; omega)]; simp
    | succ i =>
      rw [List.flatMap_cons, List.getElem?_append_right (by simp [pkC]; omega)]
      have := ih i (by simpa using h) j hj
      simp only [List.getElem_cons_succ]
      rw [← this]
      congr 1
      simp [pkC]; omega
theorem outs_row {W w : World} {o : Value} {l : List Pk} (h : Outs W w o l) : ∃ ao cap, o = .slice ao l.length cap ∧ (0 < l.length → ∃ g, ao = some ⟨g, 0, none⟩ ∧ PkS w g l) := by
  rcases h.2 with ⟨rfl, e0⟩ | ⟨g, cap, cur, rfl, hgb, hg, h1, h2, h3, h4⟩
  · exact ⟨none, 0, by rw [e0], fun h0 => by omega⟩
  · refine ⟨some ⟨g, 0, none⟩, cap, rfl, fun _ => ⟨g, rfl, cur, hg, fun q hq => ?_⟩⟩
    have hc : ∀ j, j < 2 → cur[q * 2 + j]? = (pkC l[q])[j]? := fun j hj => by
      rw [← pks_get l q hq j hj, ← h4, List.getElem?_take, if_pos (by have : (q + 1) * 2 ≤ l.length * 2 := Nat.mul_le_mul_right _ hq; omega), Array.getElem?_toList]
    exact ⟨hc 0 (by omega), hc 1 (by omega)⟩
end Go.Proofs.YtnneljcbelgoeaaGreat.wire
