import Derived.Test.YtnneljcbelgoeaaGreatNCalm
import Derived.Test.YtnneljcbelgoeaaGreatNMade
import Derived.Test.YtnneljcbelgoeaaGreatNStayA
/- Stays: nodes in a row, one ticks, one answers. No Go here. -/
namespace Go.Proofs.YtnneljcbelgoeaaGreat.wire

/-- The clock of node j when i of them have ticked. -/
def clk (t i j : Nat) : Int := if j < i then (t : Int) + 1 else t
/-- All at rest. -/
structure Rest (k : Nat) (P : Int) (t i : Nat) (B : Int) (xs : List Nd) : Prop where
  len : xs.length = k
  calm : ∀ (j : Nat) (h : j < xs.length), Calm k ((j : Int) + 1) P (clk t i j) xs[j]
  b : ∀ (j : Nat) (h : j < xs.length), NdB B xs[j]
/-- All but node i, which waits for u under q. -/
structure Waits (k : Nat) (P : Int) (t i : Nat) (B : Int) (u q : Int) (xs : List Nd) : Prop where
  len : xs.length = k
  calm : ∀ (j : Nat) (h : j < xs.length), j ≠ i → Calm k ((j : Int) + 1) P (clk t (i + 1) j) xs[j]
  b : ∀ (j : Nat) (h : j < xs.length), NdB B xs[j]
  own : ∀ h : i < xs.length, Await k ((i : Int) + 1) P ((t : Int) + 1) u q xs[i]
  un : 1 ≤ u ∧ u ≤ k
  ne : u ≠ (i : Int) + 1
  qb : 0 ≤ q ∧ q ≤ 4294967295
def PingP (k i : Nat) (u q : Int) (p : Pk) : Prop := ∃ ups, p = ⟨u, bytesM ⟨1, (i : Int) + 1, 1, q, u, ups⟩⟩ ∧ wholeB ⟨1, (i : Int) + 1, 1, q, u, ups⟩ = true ∧ ∀ x ∈ ups, Plain1 k x
def AckP (k i : Nat) (u q : Int) (p : Pk) : Prop := ∃ ups, p = ⟨(i : Int) + 1, bytesM ⟨2, u, 1, q, u, ups⟩⟩ ∧ wholeB ⟨2, u, 1, q, u, ups⟩ = true ∧ ∀ x ∈ ups, Plain1 k x
theorem clk_ne {t i j : Nat} (h : j ≠ i) : clk t (i + 1) j = clk t i j := by
  unfold clk
  by_cases h1 : j < i
  · rw [if_pos (by omega), if_pos h1]
  · rw [if_neg (by omega), if_neg h1]
theorem clk_at (t i : Nat) : clk t i i = t := by simp [clk]
theorem clk_past (t i : Nat) : clk t (i + 1) i = (t : Int) + 1 := by simp [clk]
theorem Rest.tick {k : Nat} {P : Int} {t i : Nat} {B : Int} {xs : List Nd} (h : Rest k P t i B xs) (hi : i < xs.length) (hk : 2 ≤ k) (hB : B ≤ 4000000000) :
    (xs[i].tick.1 = [] ∧ Rest k P t (i + 1) (B + 21) (xs.set i xs[i].tick.2) ∧ t ≠ 0 ∧ (t : Int) ≠ P) ∨
    ∃ u q p, xs[i].tick.1 = [p] ∧ PingP k i u q p ∧ Waits k P t i (B + 21) u q (xs.set i xs[i].tick.2) := by
  have hc := h.calm i hi
  rw [clk_at] at hc
  have hb := h.b i hi
  have hnum := hb.num
  have hbb : ∀ (j : Nat) (hj : j < (xs.set i xs[i].tick.2).length), NdB (B + 21) (xs.set i xs[i].tick.2)[j] := fun j hj => by
    have hj' : j < xs.length := by simpa using hj
    by_cases e : i = j
    · subst e; rw [List.getElem_set_self]; exact tick_b hc.c0.ok hb
    · rw [List.getElem_set_ne e]; exact (h.b j hj').mono (by omega)
  have hcc : ∀ (j : Nat) (hj : j < (xs.set i xs[i].tick.2).length), j ≠ i → Calm k ((j : Int) + 1) P (clk t (i + 1) j) (xs.set i xs[i].tick.2)[j] := fun j hj e => by
    have hj' : j < xs.length := by simpa using hj
    rw [List.getElem_set_ne (Ne.symm e), clk_ne e]; exact h.calm j hj'
  rcases hc.tick hk (by omega) (by omega) with ⟨a, b, c, d⟩ | ⟨u, q, ups, a, b, c, d, e, f, g⟩
  · left
    refine ⟨a, ⟨by simpa using h.len, fun j hj => ?_, hbb⟩, by omega, d⟩
    by_cases e : j = i
    · subst e; rw [List.getElem_set_self, clk_past]; exact b
    · exact hcc j hj e
  · right
    exact ⟨u, q, _, a, ⟨ups, rfl, b, c⟩, by simpa using h.len, hcc, hbb, fun hi' => by rw [List.getElem_set_self]; exact g, d, e, f⟩
theorem Waits.ping {k : Nat} {P : Int} {t i : Nat} {B u q : Int} {xs : List Nd} (h : Waits k P t i B u q xs) (hi : i < xs.length) {p : Pk} (hp : PingP k i u q p) (j : Nat) (hj : j < xs.length) (hju : u = (j : Int) + 1) :
    ∃ p', (xs[j].receive p.bytes).1 = [p'] ∧ AckP k i u q p' ∧ Waits k P t i (B + 10) u q (xs.set j (xs[j].receive p.bytes).2) := by
  have hji : j ≠ i := by have := h.ne; omega
  have hl := h.len
  have hc := h.calm j hj hji
  obtain ⟨ups, rfl, hw, hu⟩ := hp
  have hbb : ∀ b : List UInt8, ∀ (q : Nat) (hq : q < (xs.set j (xs[j].receive b).2).length), NdB (B + 10) (xs.set j (xs[j].receive b).2)[q] := fun b q hq => by
    have hq' : q < xs.length := by simpa using hq
    by_cases e : j = q
    · subst e; rw [List.getElem_set_self]; exact (receive_keeps hc.c0.ok b).1.b _ (h.b j hj)
    · rw [List.getElem_set_ne e]; exact (h.b q hq').mono (by omega)
  subst hju
  obtain ⟨ups', a, b, c, d⟩ := hc.ping (f := (i : Int) + 1) (q := q) (ups := ups) (by omega) (by omega) h.qb hu hw
  refine ⟨_, a, ⟨ups', rfl, b, c⟩, by simpa using h.len, fun r hr hri => ?_, hbb _, fun hi' => ?_, h.un, h.ne, h.qb⟩
  · have hr' : r < xs.length := by simpa using hr
    by_cases e : j = r
    · subst e; rw [List.getElem_set_self]; exact d
    · rw [List.getElem_set_ne e]; exact h.calm r hr' hri
  · rw [List.getElem_set_ne hji]; exact h.own hi
theorem Waits.ack {k : Nat} {P : Int} {t i : Nat} {B u q : Int} {xs : List Nd} (h : Waits k P t i B u q xs) (hi : i < xs.length) (hP : 4 ≤ P) {p : Pk} (hp : AckP k i u q p) :
    (xs[i].receive p.bytes).1 = [] ∧ Rest k P t (i + 1) (B + 10) (xs.set i (xs[i].receive p.bytes).2) := by
  have hc := h.own hi
  obtain ⟨ups, rfl, hw, hu⟩ := hp
  have hbb : ∀ b : List UInt8, ∀ (q : Nat) (hq : q < (xs.set i (xs[i].receive b).2).length), NdB (B + 10) (xs.set i (xs[i].receive b).2)[q] := fun b q hq => by
    have hq' : q < xs.length := by simpa using hq
    by_cases e : i = q
    · subst e; rw [List.getElem_set_self]; exact (receive_keeps hc.c0.ok b).1.b _ (h.b i hi)
    · rw [List.getElem_set_ne e]; exact (h.b q hq').mono (by omega)
  obtain ⟨a, b⟩ := hc.ack hP h.un h.ne hu hw
  refine ⟨a, by simpa using h.len, fun r hr => ?_, hbb _⟩
  have hr' : r < xs.length := by simpa using hr
  by_cases e : r = i
  · subst e; rw [List.getElem_set_self, clk_past]; exact b
  · rw [List.getElem_set_ne (Ne.symm e)]; exact h.calm r hr' e
/-- How they begin. -/
theorem Rest.start {W w : World} {lv : Value} {k : Nat} {c : Int} {xs : List Nd} (hl : xs.length = k) (hak : AK c k k xs) (hmi : MI W w lv k 5000 xs) : Rest k (4 + (pickI c 1073741824).tmod 8) 0 0 5000 xs := by
  refine ⟨hl, fun j hj => ?_, fun j hj => (hmi.nice j hj).2⟩
  have hn := (hmi.nice j hj).1
  have e : clk 0 0 j = 0 := by simp [clk]
  rw [e]
  refine ⟨⟨hn.ok, hn.self, by rw [hak.cfg j hj]; rfl, hn.keys, fun i h1 h2 => ?_, by omega, hn.fr.rels, hn.fr.dropped, hn.fr.dl, hn.fr.clock, fun i hi => by rw [hn.fr.pass] at hi; cases hi⟩, fun _ => hn.fr.ptgt, fun h => absurd h (by decide)⟩
  by_cases es : i = (j : Int) + 1
  · obtain ⟨m, hm⟩ := hn.ok.self
    unfold Knows
    rw [es, ← hn.self, hm]
    rfl
  · have := hak.all j (i - 1).toNat hj (by omega) (by omega) (by omega)
    have e2 : (((i - 1).toNat : Nat) : Int) + 1 = i := by omega
    rwa [e2] at this
theorem Rest.turn {k : Nat} {P : Int} {t : Nat} {B : Int} {xs : List Nd} (h : Rest k P t k B xs) : Rest k P (t + 1) 0 B xs := by
  refine ⟨h.len, fun j hj => ?_, h.b⟩
  have := h.calm j hj
  have hl := h.len
  have e : clk t k j = clk (t + 1) 0 j := by
    unfold clk
    rw [if_pos (by omega), if_neg (by omega)]
    omega
  rwa [e] at this
/-- How many pings there were at least. -/
def need (k : Nat) (P : Int) (t i : Nat) : Nat := if t = 0 then i else if (t : Int) < P then k else if (t : Int) = P then k + i else 2 * k
theorem need_step (k : Nat) (P : Int) (t i : Nat) : need k P t (i + 1) ≤ need k P t i + 1 := by
  unfold need
  repeat' split
  all_goals omega
theorem need_same (k : Nat) (P : Int) (t i : Nat) (h0 : t ≠ 0) (hP : (t : Int) ≠ P) : need k P t (i + 1) = need k P t i := by
  unfold need
  rw [if_neg h0, if_neg h0, if_neg hP, if_neg hP]
theorem need_turn (k : Nat) (P : Int) (t : Nat) (hP : 4 ≤ P) : need k P (t + 1) 0 = need k P t k := by
  unfold need
  repeat' split
  all_goals omega
theorem need_end (k : Nat) (P : Int) (t : Nat) (hP : P ≤ 11) (ht : 40 ≤ t) : need k P t 0 = 2 * k := by
  unfold need
  rw [if_neg (by omega), if_neg (by omega), if_neg (by omega)]
/-- What is seen in the end. -/
theorem Calm0.others_eq {n : Nat} {s P T : Int} {x : Nd} (h : Calm0 n s P T x) (hs : 1 ≤ s) : x.others.length = n - 1 ∧ ∀ k ∈ x.others, k.inc = 1 ∧ k.st = 1 := by
  refine ⟨?_, fun k hk => ?_⟩
  · have hsn := h.sn
    have h1 : x.others.length ≤ n - 1 := by
      have := len_sub (x.others.map K3.id) (((List.range n).map (fun j : Nat => (j : Int) + 1)).erase s) ?_ ?_
      · rw [List.length_erase_of_mem (List.mem_map.2 ⟨(s - 1).toNat, by simp; omega, by omega⟩)] at this
        simpa using this
      · unfold Nd.others
        rw [List.map_map, List.Nodup, List.pairwise_map]
        exact (h.ok.rise.imp (fun {a b} hlt (e : a.k.id = b.k.id) => by omega)).filter _
      · intro a ha
        obtain ⟨k, hk, rfl⟩ := List.mem_map.1 ha
        unfold Nd.others at hk
        obtain ⟨m, hm, rfl⟩ := List.mem_map.1 hk
        obtain ⟨m1, m2⟩ := List.mem_filter.1 hm
        have hb := (key_bounds (h.ok.keys m m1)).1
        have hn := (h.keys m m1).2.2
        have hne : m.k.id ≠ s := by rw [← h.self]; simpa using m2
        exact (List.mem_erase_of_ne hne).2 (List.mem_map.2 ⟨(m.k.id - 1).toNat, by simp; omega, by omega⟩)
    have h2 : n - 1 ≤ x.others.length := by
      have := others_ge (x := x) (((List.range n).map (fun j : Nat => (j : Int) + 1)).erase s) ?_ ?_
      · rw [List.length_erase_of_mem (List.mem_map.2 ⟨(s - 1).toNat, by simp; omega, by omega⟩)] at this
        simpa using this
      · refine List.Nodup.erase _ ?_
        rw [List.Nodup, List.pairwise_map]
        exact (List.pairwise_lt_range (n := n)).imp (fun {a b} hlt e => by omega)
      · intro i hi
        have hnd : ((List.range n).map (fun j : Nat => (j : Int) + 1)).Nodup := by
          rw [List.Nodup, List.pairwise_map]
          exact (List.pairwise_lt_range (n := n)).imp (fun {a b} hlt e => by omega)
        obtain ⟨e1, e2⟩ := hnd.mem_erase_iff.1 hi
        obtain ⟨j, hj, rfl⟩ := List.mem_map.1 e2
        have hjn : j < n := by simpa using hj
        exact ⟨by rw [h.self]; exact e1, h.all _ (by omega) (by omega)⟩
    omega
  · unfold Nd.others at hk
    obtain ⟨m, hm, rfl⟩ := List.mem_map.1 hk
    have := h.keys m (List.mem_filter.1 hm).1
    exact ⟨this.1, this.2.1⟩
end Go.Proofs.YtnneljcbelgoeaaGreat.wire
/- Stays: calls on a node among others. -/
namespace Go.Proofs.YtnneljcbelgoeaaGreat.wire
open Go.RowKit Go.Maps

/-- Which cell holds node j. -/
theorem NI.at {W wr : World} {lv : Value} {xs : List Nd} (h : NI W wr lv xs) (j : Nat) (hj : j < xs.length) {g cap : Nat} (hlv : lv = .slice (some ⟨g, 0, none⟩) xs.length cap) :
    ∃ nb mb cb pv rv, wr.cell? ⟨g, j, none⟩ = some (.pointer (some ⟨nb, 0, none⟩)) ∧ NAt wr nb mb cb pv rv xs[j] ∧ ∀ (w' : World) (x' : Nd), NTo wr w' nb mb cb pv rv x' → NI W w' lv (xs.set j x') ∧ Kept wr w' := by
  obtain ⟨nb, mb, cb, pv, rv, g', cap', e, a, _, b, c⟩ := h.call j hj
  rw [hlv] at e
  cases e
  exact ⟨nb, mb, cb, pv, rv, a, b, c⟩
theorem NI.cell {W wr : World} {lv : Value} {xs : List Nd} (h : NI W wr lv xs) (j : Nat) (hj : j < xs.length) {g cap : Nat} (hlv : lv = .slice (some ⟨g, 0, none⟩) xs.length cap) : ∃ nb, wr.cell? ⟨g, j, none⟩ = some (.pointer (some ⟨nb, 0, none⟩)) := by
  obtain ⟨nb, _, _, _, _, a, _⟩ := h.at j hj hlv
  exact ⟨nb, a⟩
theorem NI.form {W wr : World} {lv : Value} {xs : List Nd} (h : NI W wr lv xs) (hj : 0 < xs.length) : ∃ g cap, lv = .slice (some ⟨g, 0, none⟩) xs.length cap := by
  obtain ⟨_, _, _, _, _, g, cap, e, _⟩ := h.call 0 hj
  exact ⟨g, cap, e⟩
theorem NI.row {W wr : World} {lv : Value} {xs : List Nd} (h : NI W wr lv xs) (hj : 0 < xs.length) {g cap : Nat} (hlv : lv = .slice (some ⟨g, 0, none⟩) xs.length cap) : ∃ cs, wr.heap[g]? = some (.cells cs 25 (0, 0)) := by
  obtain ⟨nb, mb, cb, pv, rv, g', cap', e, _, a, _⟩ := h.call 0 hj
  rw [hlv] at e
  cases e
  exact a
theorem NI.receive {W wr : World} {lv : Value} {xs : List Nd} (h : NI W wr lv xs) (j : Nat) (hj : j < xs.length) {g cap nb : Nat} (hlv : lv = .slice (some ⟨g, 0, none⟩) xs.length cap) (hcell : wr.cell? ⟨g, j, none⟩ = some (.pointer (some ⟨nb, 0, none⟩)))
    (hok : NdOk xs[j]) (hb : NdB Bg xs[j]) (l : List UInt8) (hl : l.length ≤ maxLen) :
    Calls Tryz.prog 11 #[.pointer (some ⟨nb, 0, none⟩), .string (bs l)] wr fun e w' => ∃ o, e = .returned o ∧ Outs wr w' o (xs[j].receive l).1 ∧ NI W w' lv (xs.set j (xs[j].receive l).2) ∧ Kept wr w' := by
  obtain ⟨nb', mb, cb, pv, rv, a, b, c⟩ := h.at j hj hlv
  rw [hcell] at a
  cases a
  refine (receive_any hok hb b l hl).mono ?_
  rintro e w' ⟨o, rfl, ho, ht⟩
  exact ⟨o, rfl, ho, c w' _ ht⟩
theorem NI.tick {W wr : World} {lv : Value} {xs : List Nd} (h : NI W wr lv xs) (j : Nat) (hj : j < xs.length) {g cap nb : Nat} (hlv : lv = .slice (some ⟨g, 0, none⟩) xs.length cap) (hcell : wr.cell? ⟨g, j, none⟩ = some (.pointer (some ⟨nb, 0, none⟩)))
    (hok : NdOk xs[j]) (hdl : DlOk xs[j].dl) (hb : NdB Bt xs[j]) :
    Calls Tryz.prog 15 #[.pointer (some ⟨nb, 0, none⟩)] wr fun e w' => ∃ o, e = .returned o ∧ Outs wr w' o xs[j].tick.1 ∧ NI W w' lv (xs.set j xs[j].tick.2) ∧ Kept wr w' := by
  obtain ⟨nb', mb, cb, pv, rv, a, b, c⟩ := h.at j hj hlv
  rw [hcell] at a
  cases a
  refine (tick_any hok hdl hb b).mono ?_
  rintro e w' ⟨o, rfl, ho, ht⟩
  exact ⟨o, rfl, ho, c w' _ ht⟩
theorem NI.see {W wr : World} {lv : Value} {xs : List Nd} (h : NI W wr lv xs) (j : Nat) (hj : j < xs.length) {g cap nb : Nat} (hlv : lv = .slice (some ⟨g, 0, none⟩) xs.length cap) (hcell : wr.cell? ⟨g, j, none⟩ = some (.pointer (some ⟨nb, 0, none⟩))) (hok : NdOk xs[j]) :
    Calls Tryz.prog 13 #[.pointer (some ⟨nb, 0, none⟩)] wr fun e w' => ∃ v, e = .returned (.agg #[.int .i64 xs[j].clock, .int .i64 xs[j].own.id, .int .i64 xs[j].own.inc, .int .i64 xs[j].own.st, v, .int .i64 xs[j].ptgt, .int .i64 xs[j].pending, .int .i64 xs[j].rels.length, .int .i64 xs[j].dropped, .int .i64 xs[j].lost]) ∧ w'.ownsRow wr.heap.size 31 3 v xs[j].others.length (xs[j].others.flatMap keyC) ∧ Below wr.heap.size wr w' := by
  obtain ⟨nb', mb, cb, pv, rv, a, b, c⟩ := h.at j hj hlv
  rw [hcell] at a
  cases a
  exact see_any hok b
theorem NoRow.kept {w w' : World} {v : Value} (h : NoRow w v) (hk : Kept w w') : NoRow w' v := by
  obtain ⟨g, off, c, cs, e, h2, hg, h3⟩ := h.ex
  exact ⟨g, off, c, cs, e, h2, hk _ _ _ hg (by decide) (by decide) (by decide) (by decide), h3⟩
/-- The length of a slice. -/
def slen : Value → Nat
  | .slice _ n _ => n
  | _ => 0
/-- Where a round of draining stands: pn pings counted, of them pn0 before. -/
inductive Dr (k : Nat) (P : Int) (t i : Nat) (B : Int) (pn0 : Nat) (W wr : World) (pn : Nat) (out : Value) (xs : List Nd) : Prop
  | done {ao : Option Addr} {c : Nat} (e : out = .slice ao 0 c) (h : Rest k P t (i + 1) (B + 50) xs) (hn : need k P t (i + 1) ≤ pn) (hp : pn ≤ pn0 + 1)
  | ping {u q : Int} {p : Pk} (hp : PingP k i u q p) (h : Waits k P t i (B + 21) u q xs) (hr : PkRow wr out p) (hf : ∀ b, out.ownBlock = some b → W.heap.size ≤ b) (hn : pn = pn0)
  | ack {u q : Int} {p : Pk} (hp : AckP k i u q p) (h : Waits k P t i (B + 31) u q xs) (hr : PkRow wr out p) (hn : pn = pn0 + 1)
theorem Rest.wide {k : Nat} {P : Int} {t i : Nat} {B B' : Int} {xs : List Nd} (h : Rest k P t i B xs) (hB : B ≤ B') : Rest k P t i B' xs := ⟨h.len, h.calm, fun j hj => (h.b j hj).mono hB⟩
/-- After a tick. -/
theorem Dr.start {k : Nat} {P : Int} {t i : Nat} {B : Int} {pn0 : Nat} {W w w' : World} {o : Value} {xs : List Nd} (h : Rest k P t i B xs) (hi : i < xs.length) (hk : 2 ≤ k) (hB : B ≤ 4000000000) (hn : need k P t i ≤ pn0) (hW : W.heap.size ≤ w.heap.size) (ho : Outs w w' o xs[i].tick.1) : Dr k P t i B pn0 W w' pn0 o (xs.set i xs[i].tick.2) := by
  rcases h.tick hi hk hB with ⟨a, b, c, d⟩ | ⟨u, q, p, a, b, c⟩
  · rw [a] at ho
    obtain ⟨ao, cap, rfl⟩ := own_form ho
    exact .done rfl (b.wide (by omega)) (by rw [need_same k P t i c d]; exact hn) (by omega)
  · rw [a] at ho
    refine .ping b c (.of_outs ho) (fun b hb => ?_) rfl
    have := (own_lt ho hb).1
    omega
theorem bytes_len {m : M6} (h : wholeB m = true) : (bytesM m).length ≤ maxLen := by
  have := flatK_len m.ups
  have hl := whole_len h
  have e : (bytesM m).length = 12 + m.ups.length * 6 := by
    simp only [bytesM, List.length_append, this]
    simp [putB_len]
  rw [e]; unfold maxLen; omega
end Go.Proofs.YtnneljcbelgoeaaGreat.wire
