import Derived.Test.YtnneljcbelgoeaaGreatNNodes
import Derived.Test.YtnneljcbelgoeaaGreatNNice
import Derived.Test.YtnneljcbelgoeaaGreatNMade0
/- Nodes that know each other: what stands in memory while they are made. -/
namespace Go.Proofs.YtnneljcbelgoeaaGreat.wire
open Go.RowKit Go.Maps

def ptrV (nb : Nat) : Value := .pointer (some ⟨nb, 0, none⟩)
/-- The nodes xs, their pointers in the slice lv. -/
structure MI (W wr : World) (lv : Value) (n : Nat) (B : Int) (xs : List Nd) : Prop where
  ex : ∃ L : List Nn, Nodes wr L ∧ L.map Nn.x = xs ∧ wr.ownsRow W.heap.size 25 1 lv xs.length (L.map fun a => ptrV a.nb) ∧ ∀ a ∈ L, ∀ k ∈ a.feet, W.heap.size ≤ k
  nice : ∀ (j : Nat) (h : j < xs.length), Nice n (j + 1) xs[j] ∧ NdB B xs[j]
  below : Below W.heap.size W wr
/-- It is configured as before, and knows whom it knew. -/
structure Grew (x x' : Nd) : Prop where
  c : x'.c = x.c
  kn : ∀ j, Knows j x → Knows j x'
theorem MI.mono {W wr w' : World} {lv : Value} {n : Nat} {B : Int} {xs : List Nd} (h : MI W wr lv n B xs) (hb : Below wr.heap.size wr w') : MI W w' lv n B xs := by
  obtain ⟨L, h1, h2, h3, h4⟩ := h.ex
  exact ⟨⟨L, h1.below hb, h2, own_below2 h3 hb, h4⟩, h.nice, h.below.trans (hb.mono h.below.size)⟩
theorem MI.wide {W wr : World} {lv : Value} {n : Nat} {B B' : Int} {xs : List Nd} (h : MI W wr lv n B xs) (hB : B ≤ B') : MI W wr lv n B' xs :=
  ⟨h.ex, fun j hj => ⟨(h.nice j hj).1, (h.nice j hj).2.mono hB⟩, h.below⟩
/-- Rows that are no node's are left alone. -/
def Kept (wr w' : World) : Prop := ∀ (b : Nat) (cs : Array Value) (t : TypeId), wr.heap[b]? = some (.cells cs t (0, 0)) → t ≠ 70 → t ≠ 3 → t ≠ 107 → t ≠ 22 → w'.heap[b]? = some (.cells cs t (0, 0))
/-- Whom they know: node 1 to i all of the k; how they are configured. -/
structure AK (c : Int) (k i : Nat) (xs : List Nd) : Prop where
  cfg : ∀ (j : Nat) (h : j < xs.length), xs[j].c = cfgZ ((j : Int) + 1) c
  all : ∀ (a p : Nat) (h : a < xs.length), a < i → p < k → p ≠ a → Knows ((p : Int) + 1) xs[a]
theorem AK.set {c : Int} {k i : Nat} {xs : List Nd} (h : AK c k i xs) (j : Nat) (hj : j < xs.length) {x' : Nd} (hg : Grew xs[j] x') : AK c k i (xs.set j x') := by
  refine ⟨fun a ha => ?_, fun a p ha hai hp hne => ?_⟩
  · have ha' : a < xs.length := by simpa using ha
    by_cases e : j = a
    · subst e; rw [List.getElem_set_self, hg.c]; exact h.cfg j hj
    · rw [List.getElem_set_ne e]; exact h.cfg a ha'
  · have ha' : a < xs.length := by simpa using ha
    by_cases e : j = a
    · subst e; rw [List.getElem_set_self]; exact hg.kn _ (h.all j p hj hai hp hne)
    · rw [List.getElem_set_ne e]; exact h.all a p ha' hai hp hne
theorem AK.more {c : Int} {k i : Nat} {xs : List Nd} (h : AK c k i xs) (hi : i < xs.length) (hk : ∀ p : Nat, p < k → p ≠ i → Knows ((p : Int) + 1) xs[i]) : AK c k (i + 1) xs := by
  refine ⟨h.cfg, fun a p ha hai hp hne => ?_⟩
  by_cases e : a = i
  · subst e; exact hk p hp hne
  · exact h.all a p ha (by omega) hp hne
theorem AK.push {c : Int} {k : Nat} {xs : List Nd} (h : AK c k 0 xs) {x : Nd} (hc : x.c = cfgZ ((xs.length : Int) + 1) c) : AK c k 0 (xs ++ [x]) := by
  refine ⟨fun j hj => ?_, fun a p _ hai => absurd hai (by omega)⟩
  by_cases hjl : j < xs.length
  · rw [List.getElem_append_left hjl]; exact h.cfg j hjl
  · have : j = xs.length := by simp at hj; omega
    subst this; simpa using hc
/-- A call on node j. -/
theorem MI.call {W wr : World} {lv : Value} {n : Nat} {B : Int} {xs : List Nd} (h : MI W wr lv n B xs) (j : Nat) (hj : j < xs.length) :
    ∃ nb mb cb pv rv g cap, lv = .slice (some ⟨g, 0, none⟩) xs.length cap ∧ wr.cell? ⟨g, j, none⟩ = some (.pointer (some ⟨nb, 0, none⟩)) ∧ (∃ cs, wr.heap[g]? = some (.cells cs 25 (0, 0))) ∧ NAt wr nb mb cb pv rv xs[j] ∧
      ∀ (w' : World) (x' : Nd), NTo wr w' nb mb cb pv rv x' → Nice n (j + 1) x' → NdB B x' → MI W w' lv n B (xs.set j x') ∧ Kept wr w' := by
  obtain ⟨L, hL, hx, hrow, hfr⟩ := h.ex
  have hll : L.length = xs.length := by rw [← hx]; simp
  have hjL : j < L.length := by omega
  have hxj : (L[j]).x = xs[j] := by simp [← hx]
  have hrow0 := hrow
  rcases hrow.2 with ⟨e, e0⟩ | ⟨g, cap, cur, rfl, hgb, hg, h1, h2, h3, h4⟩
  · omega
  have hcell : ∀ w' : World, w'.heap[g]? = some (.cells cur 25 (0, 0)) → w'.cell? ⟨g, j, none⟩ = some (.pointer (some ⟨(L[j]).nb, 0, none⟩)) := fun w' hg' => by
    rw [cell_at hg', ← Array.getElem?_toList]
    have e2 : cur.toList[j]? = (cur.toList.take (xs.length * 1))[j]? := by rw [List.getElem?_take_of_lt (by omega)]
    rw [e2, h4, List.getElem?_map, List.getElem?_eq_getElem hjL]; rfl
  refine ⟨(L[j]).nb, (L[j]).mb, (L[j]).cb, (L[j]).pv, (L[j]).rv, g, cap, rfl, hcell wr hg, ⟨cur, hg⟩, ?_, fun w' x' ht hni hnb => ?_⟩
  · have := hL.here j hjL
    unfold Nn.At at this
    rwa [hxj] at this
  · have hat : NAt wr (L[j]).nb (L[j]).mb (L[j]).cb (L[j]).pv (L[j]).rv (L[j]).x := hL.here j hjL
    have hnf := hat.not_feet hg (by decide) (by decide) (by decide) (by decide)
    obtain ⟨pv', rv', hnodes, hnew⟩ := hL.step j hjL ht
    obtain ⟨pv2, rv2, hn2, hf2, hs2⟩ := ht
    have hg' : w'.heap[g]? = some (.cells cur 25 (0, 0)) := (hf2.block g (lt_blk hg) hnf).trans hg
    refine ⟨⟨⟨L.set j ⟨(L[j]).nb, (L[j]).mb, (L[j]).cb, pv', rv', x'⟩, hnodes, ?_, ?_, ?_⟩, ?_, ?_⟩, fun b cs t hb t1 t2 t3 t4 => (hf2.block b (lt_blk hb) (hat.not_feet hb t1 t2 t3 t4)).trans hb⟩
    · rw [List.map_set, hx]
    · have e3 : (L.set j ⟨(L[j]).nb, (L[j]).mb, (L[j]).cb, pv', rv', x'⟩).map (fun a => ptrV a.nb) = L.map (fun a => ptrV a.nb) := by
        rw [List.map_set]
        have : ptrV (L[j]).nb = (L.map (fun a => ptrV a.nb))[j]'(by simpa using hjL) := by simp
        rw [this, List.set_getElem_self]
      rw [e3, List.length_set]
      exact own_frm hrow0 hf2 (fun k hk => by simp [Value.ownBlock] at hk; subst hk; exact hnf)
    · intro a ha k hk
      rcases List.mem_or_eq_of_mem_set ha with ha | ha
      · exact hfr a ha k hk
      · subst ha
        rcases hnew k hk with h1 | h1
        · exact hfr _ (List.getElem_mem hjL) k h1
        · exact Nat.le_trans h.below.size h1
    · intro q hq
      have hq' : q < xs.length := by simpa using hq
      by_cases e : j = q
      · subst e; rw [List.getElem_set_self]; exact ⟨hni, hnb⟩
      · rw [List.getElem_set_ne e]; exact h.nice q hq'
    · refine ⟨hf2.os.trans h.below.os, hf2.tape.trans h.below.tape, hf2.output.trans h.below.output, Nat.le_trans h.below.size hf2.size, fun k hk => ?_⟩
      have hk' : k < wr.heap.size := Nat.lt_of_lt_of_le hk h.below.size
      refine (hf2.block k hk' (fun hm => ?_)).trans (h.below.block k hk)
      have := hfr _ (List.getElem_mem hjL) k hm
      omega
theorem Nodes.drew {W : World} {L : List Nn} (h : Nodes W L) : Nodes W.drew L := ⟨fun i hi => (h.here i hi).drew, h.apart⟩
theorem MI.drew {W wr : World} {lv : Value} {n : Nat} {B : Int} {xs : List Nd} (h : MI W wr lv n B xs) : MI W wr.drew lv n B xs := by
  obtain ⟨L, h1, h2, h3, h4⟩ := h.ex
  exact ⟨⟨L, h1.drew, h2, h3, h4⟩, h.nice, h.below.drew⟩
theorem kept_drew {w w' : World} (h : Kept w.drew w') : Kept w w' := h
/-- One packet in a list of its own. -/
theorem outs_cells {W w : World} {o : Value} {p : Pk} (h : Outs W w o [p]) : ∃ g cap, o = .slice (some ⟨g, 0, none⟩) 1 cap ∧ W.heap.size ≤ g ∧ w.cell? ⟨g, 0, none⟩ = some (.int .i64 p.dest) ∧ w.cell? ⟨g, 1, none⟩ = some (.string (bs p.bytes)) ∧ ∃ cs, w.heap[g]? = some (.cells cs 39 (0, 0)) := by
  rcases h.2 with ⟨_, e0⟩ | ⟨g, cap, cur, rfl, hgb, hg, h1, h2, h3, h4⟩
  · simp at e0
  · have hc : ∀ j, j < 2 → w.cell? ⟨g, j, none⟩ = (pkC p)[j]? := fun j hj => by
      rw [cell_at hg, ← Array.getElem?_toList]
      have e2 : cur.toList[j]? = (cur.toList.take ([p].length * 2))[j]? := by rw [List.getElem?_take_of_lt (by simpa using hj)]
      rw [e2, h4]; simp
    exact ⟨g, cap, rfl, hgb, hc 0 (by omega), hc 1 (by omega), cur, hg⟩
theorem NTo.of_nb {W W1 : World} {nb mb : Nat} {cb : Dk} {pv rv : Value} {x1 : Nd} (h : NAt W1 nb mb cb pv rv x1) (hf : Frm [nb] W W1) : NTo W W1 nb mb cb pv rv x1 :=
  ⟨pv, rv, h, (Frm.refl _ W).trans hf (by simp [feet]), fun _ hk => .inl hk⟩
theorem dec_of_whole {m : M6} (h : wholeB m = true) : decB (bytesM m) = true ∧ readM (bytesM m) = m := by
  obtain ⟨h1, h2⟩ := read_bytes h
  exact ⟨by simp [decB, h1, h2, h], h2⟩
theorem join_b {B : Int} {x : Nd} (h : NdB B x) (i : Int) : NdB (B + 1) (x.join i).2 := by
  obtain ⟨h1, h2, h3, h4, h5⟩ := h
  refine ⟨⟨h1.1, by show x.clock ≤ _; omega⟩, ⟨by show 0 ≤ x.num + 1; omega, by show x.num + 1 ≤ B + 1; omega⟩, ⟨h3.1, by show x.dropped ≤ _; omega⟩, ⟨h4.1, by show x.lost ≤ _; omega⟩, ⟨⟨h5.1.1, by show x.pst ≤ _; omega⟩, by show (x.dat : Int) ≤ _; omega⟩⟩
/-- One of them joins. -/
theorem MI.join {W wr : World} {lv : Value} {n : Nat} {B : Int} {xs : List Nd} (h : MI W wr lv n B xs) (hB : B ≤ 10000) (i k : Nat) (hi : i < xs.length) (hk : k < 250) (hne : k ≠ i) {g cap : Nat} {nb : Nat} (hlv : lv = .slice (some ⟨g, 0, none⟩) xs.length cap) (hc : wr.cell? ⟨g, i, none⟩ = some (.pointer (some ⟨nb, 0, none⟩))) :
    Calls Tryz.prog 20 #[.pointer (some ⟨nb, 0, none⟩), .int .i64 ((k : Int) + 1)] wr fun e w' => ∃ o q x', e = .returned (.tuple #[o, .nilIface]) ∧ (0 ≤ q ∧ q ≤ 20000) ∧ Outs wr w' o [⟨(k : Int) + 1, bytesM (joinM ((i : Int) + 1) q)⟩] ∧ MI W w' lv n (B + 1) (xs.set i x') ∧ Grew xs[i] x' ∧ Kept wr w' := by
  obtain ⟨nb', mb, cb, pv, rv, g', cap', hlv', hc', _, hn, hgo⟩ := (h.wide (B' := B + 1) (by omega)).call i hi
  rw [hlv] at hlv'
  cases hlv'
  rw [hc] at hc'
  cases hc'
  obtain ⟨hni, hnb⟩ := h.nice i hi
  have he := hni.joinErr ((k : Int) + 1) (by omega) (by omega)
  refine (joins_yes hni.ok (hnb.mono (by unfold Big; omega)) hn _ he).mono ?_
  rintro e w' ⟨o, rfl, ho, hn', hf'⟩
  obtain ⟨j1, j2⟩ := hni.join ((k : Int) + 1) (hnb.mono (by omega))
  rw [j1] at ho
  have hnum := hnb.num
  obtain ⟨m1, m2⟩ := hgo w' _ (NTo.of_nb hn' hf') j2 (join_b hnb _)
  exact ⟨o, xs[i].num + 1, (xs[i].join ((k : Int) + 1)).2, rfl, by omega, ho, m1, ⟨rfl, fun j hj => hj⟩, m2⟩
/-- One of them gets another's Join. -/
theorem MI.gotJoin {W wr : World} {lv : Value} {n : Nat} {B : Int} {xs : List Nd} (h : MI W wr lv n B xs) (hB : B ≤ 10000) (i k : Nat) (hk : k < xs.length) (hin : i < n) (hi : i < 250) (hne : k ≠ i) {q : Int} (hq : 0 ≤ q ∧ q ≤ 20000) {g cap : Nat} {nb : Nat} (hlv : lv = .slice (some ⟨g, 0, none⟩) xs.length cap) (hc : wr.cell? ⟨g, k, none⟩ = some (.pointer (some ⟨nb, 0, none⟩))) :
    Calls Tryz.prog 11 #[.pointer (some ⟨nb, 0, none⟩), .string (bs (bytesM (joinM ((i : Int) + 1) q)))] wr fun e w' => ∃ o l x', e = .returned o ∧ Outs wr w' o [⟨(i : Int) + 1, bytesM (tableM ((k : Int) + 1) q l)⟩] ∧ wholeB (tableM ((k : Int) + 1) q l) = true ∧ (∀ a ∈ l, (a.inc = 1 ∧ a.st = 1) ∧ (1 ≤ a.id ∧ a.id ≤ 250) ∧ a.id ≤ n) ∧ MI W w' lv n (B + 1) (xs.set k x') ∧ Grew xs[k] x' ∧ Kept wr w' := by
  obtain ⟨nb', mb, cb, pv, rv, g', cap', hlv', hc', _, hn, hgo⟩ := (h.wide (B' := B + 1) (by omega)).call k hk
  rw [hlv] at hlv'
  cases hlv'
  rw [hc] at hc'
  cases hc'
  obtain ⟨hni, hnb⟩ := h.nice k hk
  have hw := join_whole (s := (i : Int) + 1) (q := q) (by omega) (by omega)
  obtain ⟨hd, hr⟩ := dec_of_whole hw
  obtain ⟨g1, g2, g3, g4⟩ := hni.got_join (t := (i : Int) + 1) (q := q) (by omega) (by omega) (by omega) (by omega) hd hr
  have hlen : (bytesM (joinM ((i : Int) + 1) q)).length ≤ maxLen := by
    have : (bytesM (joinM ((i : Int) + 1) q)).length = 12 := by simp [bytesM, joinM, putB_len]
    rw [this]; decide
  refine (receive_yes hni.ok (hnb.mono (by unfold Bg; omega)) hn _ hlen g1 ?_).mono ?_
  · rw [hr]
    have e : ((xs[k].hear ⟨(joinM ((i : Int) + 1) q).frm, (joinM ((i : Int) + 1) q).inc, 1⟩).hears (joinM ((i : Int) + 1) q).ups) = xs[k].hear ⟨(i : Int) + 1, 1, 1⟩ := rfl
    rw [e]
    exact no_deeds (fun h4 => join_any g4.ok _ h4) (fun h5 => absurd h5 (by show ¬ (4 : Int) = 5; decide)) (fun h1 => absurd h1 (by show ¬ (4 : Int) = 1; decide)) (.inr (.inl rfl))
  · rintro e w' ⟨o, rfl, ho, hto⟩
    rw [g3] at ho
    rw [g2] at hto
    obtain ⟨m1, m2⟩ := hgo w' _ hto g4 (hear_b hnb _)
    exact ⟨o, _, _, rfl, ho, table_whole g4 (by omega), tab_keys g4, m1, ⟨hear_c _ _, fun j hj => knows_hear hni _ ⟨rfl, rfl⟩ hj⟩, m2⟩
/-- One of them gets another's Table. -/
theorem MI.gotTable {W wr : World} {lv : Value} {n : Nat} {B : Int} {xs : List Nd} (h : MI W wr lv n B xs) (hB : B ≤ 10000) (hn7 : n ≤ 7) (i k : Nat) (hi : i < xs.length) (hkn : k < n) (hk : k < 250) (hne : k ≠ i) {q : Int} {l : List K3} (hw : wholeB (tableM ((k : Int) + 1) q l) = true) (hl : ∀ a ∈ l, (a.inc = 1 ∧ a.st = 1) ∧ (1 ≤ a.id ∧ a.id ≤ 250) ∧ a.id ≤ n) {g cap : Nat} {nb : Nat} (hlv : lv = .slice (some ⟨g, 0, none⟩) xs.length cap) (hc : wr.cell? ⟨g, i, none⟩ = some (.pointer (some ⟨nb, 0, none⟩))) :
    Calls Tryz.prog 11 #[.pointer (some ⟨nb, 0, none⟩), .string (bs (bytesM (tableM ((k : Int) + 1) q l)))] wr fun e w' => ∃ o x', e = .returned o ∧ MI W w' lv n (B + 9) (xs.set i x') ∧ Knows ((k : Int) + 1) x' ∧ Grew xs[i] x' ∧ Kept wr w' := by
  obtain ⟨nb', mb, cb, pv, rv, g', cap', hlv', hc', _, hn, hgo⟩ := (h.wide (B' := B + 9) (by omega)).call i hi
  rw [hlv] at hlv'
  cases hlv'
  rw [hc] at hc'
  cases hc'
  obtain ⟨hni, hnb⟩ := h.nice i hi
  obtain ⟨hd, hr⟩ := dec_of_whole hw
  obtain ⟨g1, g2, g3, g4, g5, g6⟩ := hni.got_table hn7 (t := (k : Int) + 1) (q := q) hl (by omega) (by omega) (by omega) hd hr
  have hl8 : l.length ≤ 8 := whole_len hw
  have hlen : (bytesM (tableM ((k : Int) + 1) q l)).length ≤ maxLen := by
    have : (bytesM (tableM ((k : Int) + 1) q l)).length = 12 + l.length * 6 := by
      have := flatK_len l
      simp only [bytesM, tableM, List.length_append, this]
      simp [putB_len]
    rw [this]; unfold maxLen; omega
  refine (receive_yes hni.ok (hnb.mono (by unfold Bg; omega)) hn _ hlen g1 ?_).mono ?_
  · rw [hr]
    exact no_deeds (fun h4 => absurd h4 (by show ¬ (5 : Int) = 4; decide)) (fun h5 => table_any _ h5) (fun h1 => absurd h1 (by show ¬ (5 : Int) = 1; decide)) (.inr (.inr rfl))
  · rintro e w' ⟨o, rfl, ho, hto⟩
    rw [g2] at hto
    obtain ⟨m1, m2⟩ := hgo w' _ hto g4 ((hears_b l (hear_b hnb _)).mono (by omega))
    exact ⟨o, _, rfl, m1, g5, ⟨(hears_c _ _).trans (hear_c _ _), g6⟩, m2⟩
end Go.Proofs.YtnneljcbelgoeaaGreat.wire
