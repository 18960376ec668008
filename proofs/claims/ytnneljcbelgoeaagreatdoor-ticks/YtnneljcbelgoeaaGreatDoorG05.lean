import Derived.Test.YtnneljcbelgoeaaGreatDoorG03
import Derived.Test.YtnneljcbelgoeaaGreatDoorG04
import Derived.BigRegion
import Derived.RegionTactic
import Derived.Test.YtnneljcbelgoeaaGreatDoorG01
/- The small functions of a node: self, hasLeft, isSelf, key, isPending. -/
namespace Go.Proofs.YtnneljcbelgoeaaGreatDoor.wire
open Go.RowKit Go.Maps

theorem bdrew {B : Nat} {a w : World} (h : Below B a w) : Below B a w.drew := ⟨h.os, h.tape, h.output, h.size, h.block⟩
theorem bdrewN {B : Nat} {a w : World} (h : Below B a w) (n : Nat) : Below B a (w.drewN n) := ⟨h.os, h.tape, h.output, h.size, h.block⟩
theorem law : Keyed Tryz.prog 3 := int_keyed Tryz.underlying3
theorem zeroE (w : World) : (zeroValue 150).run Tryz.prog w = .ok (memv zeroM) w := by kernel_rfl
theorem key_wf {n : Int} (a : -9223372036854775808 ≤ n) (b : n ≤ 9223372036854775807) : keyOf Tryz.prog 3 (.int .i64 n) = some (.int .i64 n) :=
  keyOf_int_mk Tryz.underlying3 (WalkArith.wf_i64 (by omega))
/-- What a look-up finds. -/
theorem look_at {W : World} {mb n : Nat} {t : List Mem} (h : W.ownsMap Tryz.prog 3 RH mb n (tabD t)) {i : Int} (a : -9223372036854775808 ≤ i) (b : i ≤ 9223372036854775807) :
    (Instr.lookup 117 (.map (some mb)) (.int .i64 i) false).run Tryz.prog W = .ok (memv (atM i t)) W := by
  obtain ⟨v, ps, hrun, hv⟩ := h.lookup law Tryz.underlying117 (zeroE W) (zd := .held (memv zeroM)) (zp := []) rfl (key_wf a b)
  rw [tabD_at] at hv
  simp only [RH, Option.some.injEq, Prod.mk.injEq, DataW.held.injEq] at hv
  rw [hrun, hv.1]
theorem look_ok_at {W : World} {mb n : Nat} {t : List Mem} (h : W.ownsMap Tryz.prog 3 RH mb n (tabD t)) {i : Int} (a : -9223372036854775808 ≤ i) (b : i ≤ 9223372036854775807) :
    (Instr.lookup 117 (.map (some mb)) (.int .i64 i) true).run Tryz.prog W = .ok (.tuple #[memv (atM i t), .bool (findM i t).isSome]) W := by
  obtain ⟨v, ps, hrun, hv⟩ := h.look_ok law Tryz.underlying117 (zeroE W) (zd := .held (memv zeroM)) (zp := []) rfl (key_wf a b)
  rw [tabD_at] at hv
  simp only [RH, Option.some.injEq, Prod.mk.injEq, DataW.held.injEq] at hv
  rw [hrun, hv.1, tabD_has]
theorem NAt.lt {W : World} {nb mb : Nat} {cb : Dk} {pv rv : Value} {x : Nd} (h : NAt W nb mb cb pv rv x) : nb < W.heap.size := by
  rcases Nat.lt_or_ge nb W.heap.size with h' | h'
  · exact h'
  · have := h.blk; rw [Array.getElem?_eq_none h'] at this; cases this
theorem NAt.cell {W : World} {nb mb : Nat} {cb : Dk} {pv rv : Value} {x : Nd} (h : NAt W nb mb cb pv rv x) (i : Nat) (v : Value) (hv : (ndC x mb cb pv rv)[i]? = some v) : W.cell? ⟨nb, i, none⟩ = some v := by
  simp [World.cell?, h.blk, hv]
section
variable {W : World} {nb mb : Nat} {cb : Dk} {pv rv : Value} {x : Nd}
theorem NAt.c_self (h : NAt W nb mb cb pv rv x) : W.cell? ⟨nb, 0, none⟩ = some (.int .i64 x.c.self) := h.cell 0 _ rfl
theorem NAt.c_period (h : NAt W nb mb cb pv rv x) : W.cell? ⟨nb, 1, none⟩ = some (.int .i64 x.c.period) := h.cell 1 _ rfl
theorem NAt.c_wait (h : NAt W nb mb cb pv rv x) : W.cell? ⟨nb, 2, none⟩ = some (.int .i64 x.c.wait) := h.cell 2 _ rfl
theorem NAt.c_proxies (h : NAt W nb mb cb pv rv x) : W.cell? ⟨nb, 4, none⟩ = some (.int .i64 x.c.proxies) := h.cell 4 _ rfl
theorem NAt.c_draw (h : NAt W nb mb cb pv rv x) : W.cell? ⟨nb, 6, none⟩ = some cb.fn := h.cell 6 _ rfl
theorem NAt.c_pst (h : NAt W nb mb cb pv rv x) : W.cell? ⟨nb, 12, none⟩ = some (.int .i64 x.pst) := h.cell 12 _ rfl
theorem NAt.c_suspect (h : NAt W nb mb cb pv rv x) : W.cell? ⟨nb, 3, none⟩ = some (.int .i64 x.c.suspect) := h.cell 3 _ rfl
theorem NAt.c_sends (h : NAt W nb mb cb pv rv x) : W.cell? ⟨nb, 5, none⟩ = some (.int .i64 x.c.sends) := h.cell 5 _ rfl
theorem NAt.c_clock (h : NAt W nb mb cb pv rv x) : W.cell? ⟨nb, 7, none⟩ = some (.int .i64 x.clock) := h.cell 7 _ rfl
theorem NAt.c_map (h : NAt W nb mb cb pv rv x) : W.cell? ⟨nb, 8, none⟩ = some (.map (some mb)) := h.cell 8 _ rfl
theorem NAt.c_pass (h : NAt W nb mb cb pv rv x) : W.cell? ⟨nb, 9, none⟩ = some (pv) := h.cell 9 _ rfl
theorem NAt.c_ptgt (h : NAt W nb mb cb pv rv x) : W.cell? ⟨nb, 10, none⟩ = some (.int .i64 x.ptgt) := h.cell 10 _ rfl
theorem NAt.c_pnum (h : NAt W nb mb cb pv rv x) : W.cell? ⟨nb, 11, none⟩ = some (.int .i64 x.pnum) := h.cell 11 _ rfl
theorem NAt.c_pack (h : NAt W nb mb cb pv rv x) : W.cell? ⟨nb, 13, none⟩ = some (.bool x.pack) := h.cell 13 _ rfl
theorem NAt.c_rels (h : NAt W nb mb cb pv rv x) : W.cell? ⟨nb, 14, none⟩ = some (rv) := h.cell 14 _ rfl
theorem NAt.c_num (h : NAt W nb mb cb pv rv x) : W.cell? ⟨nb, 15, none⟩ = some (.int .i64 x.num) := h.cell 15 _ rfl
theorem NAt.c_evs (h : NAt W nb mb cb pv rv x) : W.cell? ⟨nb, 16, none⟩ = some (.chan (some cb.c)) := h.cell 16 _ rfl
theorem NAt.c_dropped (h : NAt W nb mb cb pv rv x) : W.cell? ⟨nb, 17, none⟩ = some (.int .i64 x.dropped) := h.cell 17 _ rfl
theorem NAt.c_lost (h : NAt W nb mb cb pv rv x) : W.cell? ⟨nb, 18, none⟩ = some (.int .i64 x.lost) := h.cell 18 _ rfl
end
theorem NdOk.id {x : Nd} (h : NdOk x) : 1 ≤ x.c.self ∧ x.c.self ≤ 250 := by
  have := h.cfg
  simp only [cfgB, Bool.and_eq_true] at this
  exact isId_of this.1
theorem field_key (a b c d e : Int) (w : World) : (Instr.field 150 (.agg #[.int .i64 a, .int .i64 b, .int .i64 c, .int .i64 d, .int .i64 e]) 0).run Tryz.prog w = .ok (.agg #[.int .i64 a, .int .i64 b, .int .i64 c]) w := by kernel_rfl
theorem field_k0 (a b c : Int) (w : World) : (Instr.field 76 (.agg #[.int .i64 a, .int .i64 b, .int .i64 c]) 0).run Tryz.prog w = .ok (.int .i64 a) w := by kernel_rfl
theorem field_k1 (a b c : Int) (w : World) : (Instr.field 76 (.agg #[.int .i64 a, .int .i64 b, .int .i64 c]) 1).run Tryz.prog w = .ok (.int .i64 b) w := by kernel_rfl
theorem field_k2 (a b c : Int) (w : World) : (Instr.field 76 (.agg #[.int .i64 a, .int .i64 b, .int .i64 c]) 2).run Tryz.prog w = .ok (.int .i64 c) w := by kernel_rfl
set_option maxHeartbeats 1000000 in
theorem self_any {x : Nd} (hx : NdOk x) {nb mb : Nat} {cb : Dk} {pv rv : Value} {W : World} (hn : NAt W nb mb cb pv rv x) :
    Calls Tryz.prog 65 #[.pointer (some ⟨nb, 0, none⟩)] W fun e w' => e = .returned (.agg #[.int .i64 x.own.id, .int .i64 x.own.inc, .int .i64 x.own.st]) ∧ Below W.heap.size W w' := by
  obtain ⟨i1, i2⟩ := hx.id
  have c0 := hn.c_self
  have c7 := hn.c_map
  have hl := fun o => look_at (hn.alloc o).map.drew (i := x.c.self) (by omega) (by omega)
  simp only [memv] at hl
  have hlt := hn.lt
  clear hn
  have hf := field_key
  go_enter Tryz.func65, Tryz.ntmps65
  go_wp2
  go_region
  all_goals go_wp2
  all_goals refine bodyPost_ret (v := kval x.own) (by simp [results, Tryz.results65, go_sem, Nd.own]) rfl ⟨rfl, bdrew ((Below.refl _ _).alloc (Nat.le_refl _) _)⟩
theorem key_any (m : Mem) (W : World) : Calls Tryz.prog 143 #[memv m] W fun e w' => e = .returned (.agg #[.int .i64 m.k.id, .int .i64 m.k.inc, .int .i64 m.k.st]) ∧ Below W.heap.size W w' := by
  go_enter Tryz.func143, Tryz.ntmps143
  go_wp2
  refine bodyPost_ret (v := kval m.k) (by simp [results, Tryz.results143, go_sem]) rfl ⟨rfl, ((Below.refl _ _).alloc (Nat.le_refl _) _).alloc (Nat.le_trans (Nat.le_refl _) (by simp)) _⟩
theorem pend_any (m : Mem) (W : World) : Calls Tryz.prog 110 #[memv m] W fun e w' => e = .returned (.bool (pendB m)) ∧ Below W.heap.size W w' := by
  go_enter Tryz.func110, Tryz.ntmps110
  go_wp2
  go_ret
  exact ⟨rfl, (Below.refl _ _).alloc (Nat.le_refl _) _⟩
theorem left_any {x : Nd} (hx : NdOk x) {nb mb : Nat} {cb : Dk} {pv rv : Value} {W : World} (hn : NAt W nb mb cb pv rv x) :
    Calls Tryz.prog 57 #[.pointer (some ⟨nb, 0, none⟩)] W fun e w' => e = .returned (.bool x.left) ∧ Below W.heap.size W w' := by
  have HS := hide (self_any hx hn)
  clear hx hn
  have hle : x.left = (x.own.st == 4) := rfl
  rw [hle]
  clear hle
  generalize x.own = k at HS ⊢
  obtain ⟨a, b, c⟩ := k
  go_enter Tryz.func57, Tryz.ntmps57
  go_wp2_with fail
  refine (unhide HS).mono ?_
  rintro e w' ⟨rfl, hb⟩
  have HB := hide hb
  clear hb HS
  have hf := field_k2
  go_wp2
  go_ret
  exact ⟨rfl, unhide HB⟩
set_option maxHeartbeats 1000000 in
theorem isSelf_any {x : Nd} {nb mb : Nat} {cb : Dk} {pv rv : Value} {W : World} (hn : NAt W nb mb cb pv rv x) (m : Mem) :
    Calls Tryz.prog 142 #[.pointer (some ⟨nb, 0, none⟩), memv m] W fun e w' => e = .returned (.bool (m.k.id == x.c.self)) ∧ Below W.heap.size W w' := by
  have c0 := hn.c_self
  have hlt := hn.lt
  clear hn
  go_enter Tryz.func142, Tryz.ntmps142
  go_wp2
  go_quiet (fail)
  go_wp2
  go_ret
  exact ⟨rfl, bdrewN ((Below.refl _ _).alloc (Nat.le_refl _) _) _⟩
end Go.Proofs.YtnneljcbelgoeaaGreatDoor.wire
/- A node in memory, step by step. -/
namespace Go.Proofs.YtnneljcbelgoeaaGreatDoor.wire
open Go.RowKit Go.Maps Go.Conc

theorem lt_blk {w : World} {b : Nat} {o : Obj} (h : w.heap[b]? = some o) : b < w.heap.size := by
  rcases Nat.lt_or_ge b w.heap.size with h' | h'
  · exact h'
  · rw [Array.getElem?_eq_none h'] at h; cases h
theorem map_blk {w : World} {P : Program} {k : TypeId} {mb n : Nat} {D : DataW Value} (h : w.ownsMap P k RH mb n D) : ∃ es c, w.heap[mb]? = some (.map es c) := by
  obtain ⟨es, c, hb, _⟩ := h; exact ⟨es, c, hb⟩
theorem own_blk {w : World} {base : Nat} {e : TypeId} {size : Nat} {v : Value} {n : Nat} {xs : List Value} (h : w.ownsRow base e size v n xs) {k : Nat} (hk : v.ownBlock = some k) : ∃ cs, w.heap[k]? = some (.cells cs e (0, 0)) := by
  rcases h.2 with ⟨rfl, _⟩ | ⟨g, cap, cur, rfl, hb, hg, _⟩
  · simp [Value.ownBlock] at hk
  · simp [Value.ownBlock] at hk; subst hk; exact ⟨cur, hg⟩
section
variable {W : World} {nb mb : Nat} {cb : Dk} {pv rv : Value} {x : Nd}
theorem NAt.mb_nb (h : NAt W nb mb cb pv rv x) : mb ≠ nb := fun e => by
  obtain ⟨es, c, hm⟩ := map_blk h.map; rw [e, h.blk] at hm; cases hm
theorem NAt.cb_nb (h : NAt W nb mb cb pv rv x) : cb.c ≠ nb := fun e => by
  obtain ⟨s, r, hm⟩ := h.chan; rw [e, h.blk] at hm; cases hm
theorem NAt.mb_cb (h : NAt W nb mb cb pv rv x) : mb ≠ cb.c := fun e => by
  obtain ⟨es, c, hm⟩ := map_blk h.map; obtain ⟨s, r, hc⟩ := h.chan; rw [e, hc] at hm; cases hm
theorem NAt.pass_ne (h : NAt W nb mb cb pv rv x) {k : Nat} (hk : pv.ownBlock = some k) : k ≠ nb ∧ k ≠ mb ∧ k ≠ cb.c := by
  obtain ⟨cs, hb⟩ := h.pass.blk hk
  refine ⟨fun e => ?_, fun e => ?_, fun e => ?_⟩
  · rw [e, h.blk] at hb; cases hb
  · obtain ⟨es, c, hm⟩ := map_blk h.map; rw [e, hm] at hb; cases hb
  · obtain ⟨s, r, hm⟩ := h.chan; rw [e, hm] at hb; cases hb
theorem NAt.rel_ne (h : NAt W nb mb cb pv rv x) {k : Nat} (hk : rv.ownBlock = some k) : k ≠ nb ∧ k ≠ mb ∧ k ≠ cb.c := by
  obtain ⟨cs, hb⟩ := own_blk h.rel hk
  refine ⟨fun e => ?_, fun e => ?_, fun e => ?_⟩
  · rw [e, h.blk] at hb; cases hb
  · obtain ⟨es, c, hm⟩ := map_blk h.map; rw [e, hm] at hb; cases hb
  · obtain ⟨s, r, hm⟩ := h.chan; rw [e, hm] at hb; cases hb
theorem NAt.not_draw (h : NAt W nb mb cb pv rv x) : nb ∉ cb.all ∧ mb ∉ cb.all ∧ cb.c ∉ cb.all := by
  refine ⟨h.draw.not h.blk (fun cs e => by cases e) (fun cs e => by cases e), ?_, ?_⟩
  · obtain ⟨es, c, hm⟩ := map_blk h.map; exact h.draw.not hm (fun cs e => by cases e) (fun cs e => by cases e)
  · obtain ⟨s, r, hc⟩ := h.chan; exact h.draw.not hc (fun cs e => by cases e) (fun cs e => by cases e)
theorem NAt.rel_draw (h : NAt W nb mb cb pv rv x) {k : Nat} (hk : rv.ownBlock = some k) : k ∉ cb.all := by
  obtain ⟨cs, hb⟩ := own_blk h.rel hk
  exact h.draw.not hb (fun cs e => by cases e) (fun cs e => by cases e)
/-- The draws lie aside of what is turned. -/
theorem NAt.draw_frm {S : List Nat} {W' : World} (h : NAt W nb mb cb pv rv x) (hf : Frm S W W') (hs : ∀ k ∈ S, k = nb ∨ k = mb ∨ k = cb.c ∨ rv.ownBlock = some k) : DrawAt W' cb pv x.dl x.dat := by
  obtain ⟨n1, n2, n3⟩ := h.not_draw
  refine h.draw.frm hf (fun k hk hm => ?_)
  rcases hs k hm with rfl | rfl | rfl | e
  · exact n1 hk
  · exact n2 hk
  · exact n3 hk
  · exact h.rel_draw e hk
theorem NAt.lt_mb (h : NAt W nb mb cb pv rv x) : mb < W.heap.size := h.map.lt
theorem NAt.lt_cb (h : NAt W nb mb cb pv rv x) : cb.c < W.heap.size := by obtain ⟨s, r, hc⟩ := h.chan; exact lt_blk hc
theorem NAt.drew (h : NAt W nb mb cb pv rv x) : NAt W.drew nb mb cb pv rv x := ⟨h.blk, h.map, h.chan, h.pass, h.rel, ⟨h.draw.ob, h.draw.ab, h.draw.row, h.draw.sep, h.draw.sepp⟩⟩
theorem NAt.drewN (h : NAt W nb mb cb pv rv x) (n : Nat) : NAt (W.drewN n) nb mb cb pv rv x := ⟨h.blk, h.map, h.chan, h.pass, h.rel, ⟨h.draw.ob, h.draw.ab, h.draw.row, h.draw.sep, h.draw.sepp⟩⟩
/-- The table's block is written. -/
theorem NAt.put {w1 : World} (h : NAt W nb mb cb pv rv x) (hr : Rise x.tab) (m : Mem) {n : Nat} (hown : w1.ownsMap Tryz.prog 3 RH mb n ((tabD x.tab).put (.int .i64 m.k.id) (.held (memv m)))) (hg : W.grownBy w1 (some mb)) :
    NAt w1 nb mb cb pv rv { x with tab := putM m x.tab } := by
  have hf : Frm [mb] W w1 := Frm.of_grown hg (fun k hk => by simp at hk; simp [hk])
  rw [tabD_put m _ hr] at hown
  have hown := own_tight hown
  rw [tabD_size] at hown
  obtain ⟨s, r, hc⟩ := h.chan
  refine ⟨(hf.block nb h.lt (by simpa using h.mb_nb.symm)).trans h.blk, hown, ⟨s, r, (hf.block cb h.lt_cb (by simpa using h.mb_cb.symm)).trans hc⟩, h.pass.frm hf (fun k hk => by simpa using (h.pass_ne hk).2.1), own_frm h.rel hf (fun k hk => by simpa using (h.rel_ne hk).2.1), h.draw_frm hf (by simp)⟩
/-- A cell of the node is written. -/
theorem NAt.set (h : NAt W nb mb cb pv rv x) (i : Nat) (v : Value) {x' : Nd} (hc : (ndC x mb cb pv rv).setIfInBounds i v = ndC x' mb cb pv rv) (ht : x'.tab = x.tab) (he : x'.evs = x.evs) (hp : x'.pass = x.pass) (hr : x'.rels = x.rels) (hd : x'.dl = x.dl := by rfl) (ha : x'.dat = x.dat := by rfl) :
    NAt (W.setCell ⟨nb, i, none⟩ v) nb mb cb pv rv x' ∧ Frm [nb] W (W.setCell ⟨nb, i, none⟩ v) := by
  have hf : Frm [nb] W (W.setCell ⟨nb, i, none⟩ v) := by
    have hb := Below.refl 0 W
    refine ⟨?_, ?_, ?_, ?_, fun k _ hk => heap_setCell_other W ⟨nb, i, none⟩ k v (by simpa using hk)⟩
    · exact (hb.setCell (p := ⟨nb, i, none⟩) (Nat.zero_le _) v).os
    · exact (hb.setCell (p := ⟨nb, i, none⟩) (Nat.zero_le _) v).tape
    · exact (hb.setCell (p := ⟨nb, i, none⟩) (Nat.zero_le _) v).output
    · exact (hb.setCell (p := ⟨nb, i, none⟩) (Nat.zero_le _) v).size
  refine ⟨⟨?_, ?_, ?_, ?_, ?_, ?_⟩, hf⟩
  · rw [heap_setCell_same W nb i _ _ v h.blk, hc]
  · rw [ht]; exact map_frm h.map hf (by simpa using h.mb_nb)
  · obtain ⟨s, r, hc⟩ := h.chan
    rw [he]; exact ⟨s, r, (hf.block cb h.lt_cb (by simpa using h.cb_nb)).trans hc⟩
  · rw [hp]; exact h.pass.frm hf (fun k hk => by simpa using (h.pass_ne hk).1)
  · rw [hr]; exact own_frm h.rel hf (fun k hk => by simpa using (h.rel_ne hk).1)
  · rw [hd, ha]; exact h.draw_frm hf (by simp)
/-- An event lies in the channel. -/
theorem NAt.event (h : NAt W nb mb cb pv rv x) (l : List K3) {buf : Array Value} (hb : buf = (l.map kval).toArray) (s r : Nat) :
    NAt (W.setChan cb 8 buf false s r false) nb mb cb pv rv { x with evs := l } ∧ Frm [cb] W (W.setChan cb 8 buf false s r false) := by
  have hf : Frm [cb.c] W (W.setChan cb 8 buf false s r false) := by
    have hbl := below_setChan (Below.refl 0 W) (c := cb.c) (Nat.zero_le _) 8 buf false s r false
    refine ⟨hbl.os, hbl.tape, hbl.output, hbl.size, fun k _ hk => ?_⟩
    have : cb.c ≠ k := fun e => hk (by simp [e])
    simp only [World.setChan]; rw [Array.getElem?_setIfInBounds_ne this]
  refine ⟨⟨(hf.block nb h.lt (by simpa using h.cb_nb.symm)).trans h.blk, map_frm h.map hf (by simpa using h.mb_cb), ⟨s, r, ?_⟩, h.pass.frm hf (fun k hk => by simpa using (h.pass_ne hk).2.2), own_frm h.rel hf (fun k hk => by simpa using (h.rel_ne hk).2.2), h.draw_frm hf (by simp)⟩, hf⟩
  rw [heap_setChan W cb 8 buf false s r false h.lt_cb, hb]
end
end Go.Proofs.YtnneljcbelgoeaaGreatDoor.wire
