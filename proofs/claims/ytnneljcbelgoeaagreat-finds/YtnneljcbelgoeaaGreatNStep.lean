import Derived.Test.YtnneljcbelgoeaaGreatNSelf
import Derived.Test.YtnneljcbelgoeaaGreatWire
/- A node in memory, step by step. -/
namespace Go.Proofs.YtnneljcbelgoeaaGreat.wire
open Go.RowKit Go.Maps Go.Conc

theorem lt_blk {w : World} {b : Nat} {o : Obj} (h : w.heap[b]? = some o) : b < w.heap.size := by
  rcases Nat.lt_or_ge b w.heap.size with h' | h'
  · exact h'
  · rw [Array.getElem?_eq_none h'] at h; cases h
theorem map_blk {w : World} {P : Program} {k : TypeId} {mb n : Nat} {D : DataW Value} (h : w.ownsMap P k RH mb n D) : ∃ es c, w.heap[mb]? = some (.map es c) := by
  obtain ⟨es, c, hb, _⟩ := h; exact ⟨es, c, hb⟩
theorem own_blk {w : World} {base : Nat} {e : TypeId} {size : Nat} {v : Value} {n : Nat} {xs : List Value} (h : w.ownsRow base e size v n xs) {k : Nat} (hk : v.ownBlock = some k) : ∃ cs, w.heap[k]? = some (.cells cs e (0, 0)) := by
  rcases h.2 with ⟨rfl, _⟩ | ⟨g, cap, cur, rfl, hb, hg, _⟩
  · simp [Value.ownBlock] at hk
  · simp [Value.ownBlock] at hk; subst hk; exact ⟨cur, hg⟩
section
variable {W : World} {nb mb : Nat} {cb : Dk} {pv rv : Value} {x : Nd}
theorem NAt.mb_nb (h : NAt W nb mb cb pv rv x) : mb ≠ nb := fun e => by
  obtain ⟨es, c, hm⟩ := map_blk h.map; rw [e, h.blk] at hm; cases hm
theorem NAt.cb_nb (h : NAt W nb mb cb pv rv x) : cb.c ≠ nb := fun e => by
  obtain ⟨s, r, hm⟩ := h.chan; rw [e, h.blk] at hm; cases hm
theorem NAt.mb_cb (h : NAt W nb mb cb pv rv x) : mb ≠ cb.c := fun e => by
  obtain ⟨es, c, hm⟩ := map_blk h.map; obtain ⟨s, r, hc⟩ := h.chan; rw [e, hc] at hm; cases hm
theorem NAt.pass_ne (h : NAt W nb mb cb pv rv x) {k : Nat} (hk : pv.ownBlock = some k) : k ≠ nb ∧ k ≠ mb ∧ k ≠ cb.c := by
  obtain ⟨cs, hb⟩ := h.pass.blk hk
  refine ⟨fun e => ?_, fun e => ?_, fun e => ?_⟩
  · rw [e, h.blk] at hb; cases hb
  · obtain ⟨es, c, hm⟩ := map_blk h.map; rw [e, hm] at hb; cases hb
  · obtain ⟨s, r, hm⟩ := h.chan; rw [e, hm] at hb; cases hb
theorem NAt.rel_ne (h : NAt W nb mb cb pv rv x) {k : Nat} (hk : rv.ownBlock = some k) : k ≠ nb ∧ k ≠ mb ∧ k ≠ cb.c := by
  obtain ⟨cs, hb⟩ := own_blk h.rel hk
  refine ⟨fun e => ?_, fun e => ?_, fun e => ?_⟩
  · rw [e, h.blk] at hb; cases hb
  · obtain ⟨es, c, hm⟩ := map_blk h.map; rw [e, hm] at hb; cases hb
  · obtain ⟨s, r, hm⟩ := h.chan; rw [e, hm] at hb; cases hb
theorem NAt.not_draw (h : NAt W nb mb cb pv rv x) : nb ∉ cb.all ∧ mb ∉ cb.all ∧ cb.c ∉ cb.all := by
  refine ⟨h.draw.not h.blk (fun cs e => by cases e) (fun cs e => by cases e), ?_, ?_⟩
  · obtain ⟨es, c, hm⟩ := map_blk h.map; exact h.draw.not hm (fun cs e => by cases e) (fun cs e => by cases e)
  · obtain ⟨s, r, hc⟩ := h.chan; exact h.draw.not hc (fun cs e => by cases e) (fun cs e => by cases e)
theorem NAt.rel_draw (h : NAt W nb mb cb pv rv x) {k : Nat} (hk : rv.ownBlock = some k) : k ∉ cb.all := by
  obtain ⟨cs, hb⟩ := own_blk h.rel hk
  exact h.draw.not hb (fun cs e => by cases e) (fun cs e => by cases e)
/-- The draws lie aside of what is turned. -/
theorem NAt.draw_frm {S : List Nat} {W' : World} (h : NAt W nb mb cb pv rv x) (hf : Frm S W W') (hs : ∀ k ∈ S, k = nb ∨ k = mb ∨ k = cb.c ∨ rv.ownBlock = some k) : DrawAt W' cb pv x.dl x.dat := by
  obtain ⟨n1, n2, n3⟩ := h.not_draw
  refine h.draw.frm hf (fun k hk hm => ?_)
  rcases hs k hm with rfl | rfl | rfl | e
  · exact n1 hk
  · exact n2 hk
  · exact n3 hk
  · exact h.rel_draw e hk
theorem NAt.lt_mb (h : NAt W nb mb cb pv rv x) : mb < W.heap.size := h.map.lt
theorem NAt.lt_cb (h : NAt W nb mb cb pv rv x) : cb.c < W.heap.size := by obtain ⟨s, r, hc⟩ := h.chan; exact lt_blk hc
theorem NAt.drew (h : NAt W nb mb cb pv rv x) : NAt W.drew nb mb cb pv rv x := ⟨h.blk, h.map, h.chan, h.pass, h.rel, ⟨h.draw.ob, h.draw.ab, h.draw.row, h.draw.sep, h.draw.sepp⟩⟩
theorem NAt.drewN (h : NAt W nb mb cb pv rv x) (n : Nat) : NAt (W.drewN n) nb mb cb pv rv x := ⟨h.blk, h.map, h.chan, h.pass, h.rel, ⟨h.draw.ob, h.draw.ab, h.draw.row, h.draw.sep, h.draw.sepp⟩⟩
/-- The table's block is written. -/
theorem NAt.put {w1 : World} (h : NAt W nb mb cb pv rv x) (hr : Rise x.tab) (m : Mem) {n : Nat} (hown : w1.ownsMap Tryz.prog 3 RH mb n ((tabD x.tab).put (.int .i64 m.k.id) (.held (memv m)))) (hg : W.grownBy w1 (some mb)) :
    NAt w1 nb mb cb pv rv { x with tab := putM m x.tab } := by
  have hf : Frm [mb] W w1 := Frm.of_grown hg (fun k hk => by simp at hk; simp [hk])
  rw [tabD_put m _ hr] at hown
  have hown := own_tight hown
  rw [tabD_size] at hown
  obtain ⟨s, r, hc⟩ := h.chan
  refine ⟨(hf.block nb h.lt (by simpa using h.mb_nb.symm)).trans h.blk, hown, ⟨s, r, (hf.block cb h.lt_cb (by simpa using h.mb_cb.symm)).trans hc⟩, h.pass.frm hf (fun k hk => by simpa using (h.pass_ne hk).2.1), own_frm h.rel hf (fun k hk => by simpa using (h.rel_ne hk).2.1), h.draw_frm hf (by simp)⟩
/-- A cell of the node is written. -/
theorem NAt.set (h : NAt W nb mb cb pv rv x) (i : Nat) (v : Value) {x' : Nd} (hc : (ndC x mb cb pv rv).setIfInBounds i v = ndC x' mb cb pv rv) (ht : x'.tab = x.tab) (he : x'.evs = x.evs) (hp : x'.pass = x.pass) (hr : x'.rels = x.rels) (hd : x'.dl = x.dl := by rfl) (ha : x'.dat = x.dat := by rfl) :
    NAt (W.setCell ⟨nb, i, none⟩ v) nb mb cb pv rv x' ∧ Frm [nb] W (W.setCell ⟨nb, i, none⟩ v) := by
  have hf : Frm [nb] W (W.setCell ⟨nb, i, none⟩ v) := by
    have hb := Below.refl 0 W
    refine ⟨?_, ?_, ?_, ?_, fun k _ hk => heap_setCell_other W ⟨nb, i, none⟩ k v (by simpa using hk)⟩
    · exact (hb.setCell (p := ⟨nb, i, none⟩) (Nat.zero_le _) v).os
    · exact (hb.setCell (p := ⟨nb, i, none⟩) (Nat.zero_le _) v).tape
    · exact (hb.setCell (p := ⟨nb, i, none⟩) (Nat.zero_le _) v).output
    · exact (hb.setCell (p := ⟨nb, i, none⟩) (Nat.zero_le _) v).size
  refine ⟨⟨?_, ?_, ?_, ?_, ?_, ?_⟩, hf⟩
  · rw [heap_setCell_same W nb i _ _ v h.blk, hc]
  · rw [ht]; exact map_frm h.map hf (by simpa using h.mb_nb)
  · obtain ⟨s, r, hc⟩ := h.chan
    rw [he]; exact ⟨s, r, (hf.block cb h.lt_cb (by simpa using h.cb_nb)).trans hc⟩
  · rw [hp]; exact h.pass.frm hf (fun k hk => by simpa using (h.pass_ne hk).1)
  · rw [hr]; exact own_frm h.rel hf (fun k hk => by simpa using (h.rel_ne hk).1)
  · rw [hd, ha]; exact h.draw_frm hf (by simp)
/-- An event lies in the channel. -/
theorem NAt.event (h : NAt W nb mb cb pv rv x) (l : List K3) {buf : Array Value} (hb : buf = (l.map kval).toArray) (s r : Nat) :
    NAt (W.setChan cb 8 buf false s r false) nb mb cb pv rv { x with evs := l } ∧ Frm [cb] W (W.setChan cb 8 buf false s r false) := by
  have hf : Frm [cb.c] W (W.setChan cb 8 buf false s r false) := by
    have hbl := below_setChan (Below.refl 0 W) (c := cb.c) (Nat.zero_le _) 8 buf false s r false
    refine ⟨hbl.os, hbl.tape, hbl.output, hbl.size, fun k _ hk => ?_⟩
    have : cb.c ≠ k := fun e => hk (by simp [e])
    simp only [World.setChan]; rw [Array.getElem?_setIfInBounds_ne this]
  refine ⟨⟨(hf.block nb h.lt (by simpa using h.cb_nb.symm)).trans h.blk, map_frm h.map hf (by simpa using h.mb_cb), ⟨s, r, ?_⟩, h.pass.frm hf (fun k hk => by simpa using (h.pass_ne hk).2.2), own_frm h.rel hf (fun k hk => by simpa using (h.rel_ne hk).2.2), h.draw_frm hf (by simp)⟩, hf⟩
  rw [heap_setChan W cb 8 buf false s r false h.lt_cb, hb]
end
end Go.Proofs.YtnneljcbelgoeaaGreat.wire
