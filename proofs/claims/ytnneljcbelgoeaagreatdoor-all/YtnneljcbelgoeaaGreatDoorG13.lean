import Derived.Test.YtnneljcbelgoeaaGreatDoorG05
import Derived.Deep.RegionHeld3
import Derived.Deep.RegionLaw
import Derived.Deep.DrawnRows
import Derived.Deep.AppendLies
/- What a node does for an Ask (P7). -/
namespace Go.Proofs.YtnneljcbelgoeaaGreatDoor.wire
open Go.RowKit Go.Maps

theorem frm_drew {S : List Nat} {a b : World} (h : Frm S a.drew b) : Frm S a b := ⟨h.os, h.tape, h.output, h.size, h.block⟩
theorem set5 {w : World} {R : Nat} {a0 a1 a2 a3 a4 : Value} {t : TypeId} (h : w.heap[R]? = some (.cells #[a0, a1, a2, a3, a4] t (0, 0))) (b0 b1 b2 b3 b4 : Value) :
    (((((w.setCell ⟨R, 0, none⟩ b0).setCell ⟨R, 1, none⟩ b1).setCell ⟨R, 2, none⟩ b2).setCell ⟨R, 3, none⟩ b3).setCell ⟨R, 4, none⟩ b4).heap[R]? = some (.cells #[b0, b1, b2, b3, b4] t (0, 0)) ∧
    Frm [R] w (((((w.setCell ⟨R, 0, none⟩ b0).setCell ⟨R, 1, none⟩ b1).setCell ⟨R, 2, none⟩ b2).setCell ⟨R, 3, none⟩ b3).setCell ⟨R, 4, none⟩ b4) := by
  have one : ∀ (w : World) (i : Nat) (u : Value), Frm [R] w (w.setCell ⟨R, i, none⟩ u) := fun w i u => by
    have hbl := (Below.refl 0 w).setCell (p := ⟨R, i, none⟩) (Nat.zero_le _) u
    exact ⟨hbl.os, hbl.tape, hbl.output, hbl.size, fun k _ hk => heap_setCell_other w ⟨R, i, none⟩ k u (by simpa using hk)⟩
  refine ⟨?_, ((((one w 0 b0).trans (one _ 1 b1) (by simp)).trans (one _ 2 b2) (by simp)).trans (one _ 3 b3) (by simp)).trans (one _ 4 b4) (by simp)⟩
  have g0 := heap_setCell_same w R 0 _ _ b0 h
  have g1 := heap_setCell_same _ R 1 _ _ b1 g0
  have g2 := heap_setCell_same _ R 2 _ _ b2 g1
  have g3 := heap_setCell_same _ R 3 _ _ b3 g2
  have g4 := heap_setCell_same _ R 4 _ _ b4 g3
  rw [g4]
  simp
theorem NAt.pass_rel {W : World} {nb mb : Nat} {cb : Dk} {pv rv : Value} {x : Nd} (h : NAt W nb mb cb pv rv x) {k : Nat} (hk : pv.ownBlock = some k) : rv.ownBlock ≠ some k := fun e => by
  obtain ⟨cs, h1⟩ := h.pass.blk hk
  obtain ⟨cs', h2⟩ := own_blk h.rel e
  rw [h1] at h2
  cases h2
theorem grown_frm {o : Obj} {w w1 : World} {row : Option Nat} (h : (w.alloc o).drew.grownBy w1 row) : Frm row.toList w w1 := by
  have h1 : Frm row.toList (w.alloc o).drew w1 := Frm.of_grown h (fun k hk => .inl (by simp [hk]))
  exact (Frm.of_below (bdrew ((Below.refl _ w).alloc (Nat.le_refl _) o)) (Nat.le_refl _)).trans h1 (fun j hj => .inl hj)
/-- A relay more. -/
theorem NAt.addRel {W w3 : World} {nb mb : Nat} {cb : Dk} {pv rv : Value} {x : Nd} (h : NAt W nb mb cb pv rv x) (r : Rel) {o : Obj} {v' : Value} {n : Nat} {l : List Value} (hg : (W.alloc o).drew.grownBy w3 rv.ownBlock) (hown : w3.ownsRow 0 161 5 v' n (x.rels.flatMap relC ++ l)) (hl : l = relC r) (hn : n = x.rels.length + 1) :
    NAt (w3.setCell ⟨nb, 14, none⟩ v') nb mb cb pv v' { x with rels := x.rels ++ [r] } ∧ Frm (nb :: rv.ownBlock.toList) W (w3.setCell ⟨nb, 14, none⟩ v') := by
  have hf := grown_frm hg
  have hf2 : Frm [nb] w3 (w3.setCell ⟨nb, 14, none⟩ v') := by
    have hbl := (Below.refl 0 w3).setCell (p := ⟨nb, 14, none⟩) (Nat.zero_le _) v'
    exact ⟨hbl.os, hbl.tape, hbl.output, hbl.size, fun k _ hk => heap_setCell_other w3 ⟨nb, 14, none⟩ k v' (by simpa using hk)⟩
  have hb := (hf.block nb h.lt (by simp only [Option.mem_toList]; exact fun e => (h.rel_ne e).1 rfl)).trans h.blk
  have hm := map_frm h.map hf (by simp only [Option.mem_toList]; exact fun e => (h.rel_ne e).2.1 rfl)
  obtain ⟨s, q, hc⟩ := h.chan
  have hc2 := (hf.block cb h.lt_cb (by simp only [Option.mem_toList]; exact fun e => (h.rel_ne e).2.2 rfl)).trans hc
  have hp := h.pass.frm hf (fun k hk => by simp only [Option.mem_toList]; exact h.pass_rel hk)
  subst hl
  subst hn
  have hnb : ∀ k, v'.ownBlock = some k → k ∉ [nb] := fun k hk => by
    obtain ⟨cs, hb'⟩ := own_blk hown hk
    simp only [List.mem_singleton]
    intro e
    rw [e, hb] at hb'
    cases hb'
  refine ⟨⟨?_, map_frm hm hf2 (by simpa using h.mb_nb), ⟨s, q, (hf2.block cb (Nat.lt_of_lt_of_le h.lt_cb hf.size) (by simpa using h.cb_nb)).trans hc2⟩, hp.frm hf2 (fun k hk => by simpa using (h.pass_ne hk).1), ?_, ?_⟩, ?_⟩
  · rw [heap_setCell_same w3 nb 14 _ _ v' hb]; rfl
  · have h1 := own_frm hown hf2 hnb
    simpa using h1
  · refine h.draw_frm (((Frm.refl (nb :: rv.ownBlock.toList) W).trans hf (fun j hj => .inl (List.mem_cons_of_mem _ hj))).trans hf2 (by simp)) (fun k hk => ?_)
    rcases List.mem_cons.1 hk with h | h
    · exact .inl h
    · exact .inr (.inr (.inr (Option.mem_toList.1 h)))
  · exact ((Frm.refl _ W).trans hf (fun j hj => .inl (List.mem_cons_of_mem _ hj))).trans hf2 (by simp)
theorem ask_ok {x : Nd} (hx : NdOk x) (hr : x.rels.length < 4) (m : M6) : NdOk { x with num := x.num + 1, rels := x.rels ++ [⟨m.tgt, x.num + 1, m.frm, m.seq, x.clock + x.c.period⟩] } :=
  ⟨hx.cfg, hx.rise, hx.len, hx.keys, hx.sends, hx.self, hx.evs, by simp; omega, hx.pass⟩
theorem per_bd {x : Nd} (hx : NdOk x) : 0 ≤ x.c.period ∧ x.c.period ≤ 1000000 := by
  have := hx.cfg
  simp [cfgB] at this
  omega
set_option maxHeartbeats 1000000 in
set_option maxRecDepth 100000 in
theorem ask_new {x : Nd} (hx : NdOk x) (hB : NdB Big x) (m : M6) {nb mb : Nat} {cb : Dk} {pv rv v : Value} {W : World} (hn : NAt W nb mb cb pv rv x) (hv : KeysAt W v m.ups) (ht : m.tgt ≠ x.c.self) (hr : x.rels.length < 4) :
    Calls Tryz.prog 124 #[.pointer (some ⟨nb, 0, none⟩), .agg #[.int .i64 m.kind, .int .i64 m.frm, .int .i64 m.inc, .int .i64 m.seq, .int .i64 m.tgt, v]] W fun e w' => ∃ o, e = .returned o ∧ Outs W w' o (x.takeAsk m).1 ∧ NTo W w' nb mb cb pv rv (x.takeAsk m).2 := by
  obtain ⟨ao, cap, rfl⟩ := hv.form
  clear hv
  have c0 := hn.c_self
  have c1 := hn.c_period
  have c6 := hn.c_clock
  have c12 := hn.c_rels
  have hlt := hn.lt
  have ht' : (m.tgt == x.c.self) = false := by simp [ht]
  obtain ⟨rao, rcap, hrv⟩ := own_form hn.rel
  subst hrv
  obtain ⟨k0, k1⟩ := hB.clock
  obtain ⟨q0, q1⟩ := per_bd hx
  unfold Big at k1
  have hbox : ∀ q, ((W.alloc (.cells #[.int .i64 m.kind, .int .i64 m.frm, .int .i64 m.inc, .int .i64 m.seq, .int .i64 m.tgt, .slice ao m.ups.length cap] 68)).drewN q).heap[W.heap.size]? = some (.cells #[.int .i64 m.kind, .int .i64 m.frm, .int .i64 m.inc, .int .i64 m.seq, .int .i64 m.tgt, .slice ao m.ups.length cap] 68 (0, 0)) := fun q => heap_alloc_new W _
  have hn1 := fun q => (hn.alloc (.cells #[.int .i64 m.kind, .int .i64 m.frm, .int .i64 m.inc, .int .i64 m.seq, .int .i64 m.tgt, .slice ao m.ups.length cap] 68)).drewN q
  have hb1 : ∀ q, Below W.heap.size W ((W.alloc (.cells #[.int .i64 m.kind, .int .i64 m.frm, .int .i64 m.inc, .int .i64 m.seq, .int .i64 m.tgt, .slice ao m.ups.length cap] 68)).drewN q) := fun q => bdrewN ((Below.refl _ _).alloc (Nat.le_refl _) _) q
  have HN := hide hn
  have HX := hide hx
  have HB := hide hB
  have HN1 := hide hn1
  have HB1 := hide hb1
  have HX1 := hide hbox
  clear hn hx hB hn1 hb1 hbox
  go_enter Tryz.func124, Tryz.ntmps124
  go_wp2
  go_quiet (fail)
  go_wp2
  rename_i nq _ _ _
  have HN2 := hide (unhide HN1 nq)
  have HB2 := hide (unhide HB1 nq)
  have HX2 := hide (unhide HX1 nq)
  clear HN1 HB1 HX1
  have hsz : ((W.alloc (.cells #[.int .i64 m.kind, .int .i64 m.frm, .int .i64 m.inc, .int .i64 m.seq, .int .i64 m.tgt, .slice ao m.ups.length cap] 68)).drewN nq).heap.size = W.heap.size + 1 := by simp
  generalize (W.alloc (.cells #[.int .i64 m.kind, .int .i64 m.frm, .int .i64 m.inc, .int .i64 m.seq, .int .i64 m.tgt, .slice ao m.ups.length cap] 68)).drewN nq = W1 at HN2 HB2 HX2 hsz ⊢
  have hszl : W.heap.size < W1.heap.size := by omega
  clear hsz
  have ne1 : W.heap.size ≠ W1.heap.size := by omega
  have ne2 : nb ≠ W1.heap.size := by omega
  have ne3 : W1.heap.size ≠ W.heap.size := by omega
  have ne4 : W1.heap.size ≠ nb := by omega
  have m1 := cell_at (unhide HX2) 1
  have m3 := cell_at (unhide HX2) 3
  have m4 := cell_at (unhide HX2) 4
  have n1 := (unhide HN2).c_period
  have n6 := (unhide HN2).c_clock
  simp only [List.getElem?_toArray, List.getElem?_cons_zero, List.getElem?_cons_succ] at m1 m3 m4
  clear c0 c1 c6 c12
  have hwrap : IntKind.i64.wrap (x.clock + x.c.period) = x.clock + x.c.period := Go.IntWalk.i64_in _ (by omega)
  go_region_held3 (fun w' => w'.cell? ⟨W.heap.size, 1, none⟩ = some (.int .i64 m.frm) ∧ w'.cell? ⟨W.heap.size, 3, none⟩ = some (.int .i64 m.seq) ∧ w'.cell? ⟨W.heap.size, 4, none⟩ = some (.int .i64 m.tgt) ∧ w'.cell? ⟨nb, 1, none⟩ = some (.int .i64 x.c.period) ∧ w'.cell? ⟨nb, 7, none⟩ = some (.int .i64 x.clock)) (go_keep)
    (first
      | (go_at_call 60; refine (next_any (unhide HB) (unhide HN2).drew).mono ?_; rintro e w2 ⟨rfl, hn2, hf2⟩; have HN3 := hide hn2; have n1_2 := hn2.c_period; have n6_2 := hn2.c_clock; have HX3 := hide ((hf2.block W.heap.size (by simp; omega) (by simp; omega)).trans (unhide HX2)); have m1_2 := cell_at (unhide HX3) 1; have m3_2 := cell_at (unhide HX3) 3; have m4_2 := cell_at (unhide HX3) 4; simp only [List.getElem?_toArray, List.getElem?_cons_zero, List.getElem?_cons_succ] at m1_2 m3_2 m4_2; have HF3 := hide (frm_drew hf2); clear hn2 hf2)
      | (go_at_call 60; refine (next_any (unhide HB) ((unhide HN2).drew.alloc _)).mono ?_; rintro e w2 ⟨rfl, hn2, hf2⟩; have HN3 := hide hn2; have n1_2 := hn2.c_period; have n6_2 := hn2.c_clock; have HX3 := hide ((hf2.block W.heap.size (by simp; omega) (by simp; omega)).trans ((Below.heap_alloc _ _ _ (lt_blk (unhide HX2))).trans (unhide HX2))); have m1_2 := cell_at (unhide HX3) 1; have m3_2 := cell_at (unhide HX3) 3; have m4_2 := cell_at (unhide HX3) 4; simp only [List.getElem?_toArray, List.getElem?_cons_zero, List.getElem?_cons_succ] at m1_2 m3_2 m4_2; have HF3 := hide (frm_drew (((Frm.refl [nb] W1.drew).alloc _).trans hf2 (by simp))); have HR := hide ((hf2.block W1.heap.size (by simp) (by simp; omega)).trans (heap_alloc_new W1.drew _)); have r0 := cell_at (unhide HR) 0; have r1 := cell_at (unhide HR) 1; have r2 := cell_at (unhide HR) 2; have r3 := cell_at (unhide HR) 3; have r4 := cell_at (unhide HR) 4; have rf := free_at (unhide HR); simp only [List.getElem?_toArray, List.getElem?_cons_zero, List.getElem?_cons_succ] at r0 r1 r2 r3 r4; clear hn2 hf2))
  all_goals first
    | (
       have h5 := set5 (unhide HR) (.int .i64 m.tgt) (.int .i64 (x.num + 1)) (.int .i64 m.frm) (.int .i64 m.seq) (.int .i64 (x.clock + x.c.period))
       have HN4 := hide ((unhide HN3).frm h5.2 (fun k hk => by have := (unhide HN2).feet_lt k hk; simp; omega))
       have HF4 := hide ((unhide HF3).trans h5.2 (by simp))
       have HR4 := hide h5.1
       have hRW : W.heap.size < W1.heap.size := hszl
       clear h5
       generalize ((((w2.setCell ⟨W1.heap.size, 0, none⟩ (.int .i64 m.tgt)).setCell ⟨W1.heap.size, 1, none⟩ (.int .i64 (x.num + 1))).setCell ⟨W1.heap.size, 2, none⟩ (.int .i64 m.frm)).setCell ⟨W1.heap.size, 3, none⟩ (.int .i64 m.seq)).setCell ⟨W1.heap.size, 4, none⟩ (.int .i64 (x.clock + x.c.period)) = wN at HN4 HF4 HR4 ⊢
       generalize hRe : W1.heap.size = R at HR4 hRW ⊢)
    | (
       have HN4 := hide ((unhide HN3).alloc (.cells #[.int .i64 m.tgt, .int .i64 (x.num + 1), .int .i64 m.frm, .int .i64 m.seq, .int .i64 (x.clock + x.c.period)] 161))
       have HF4 := hide ((unhide HF3).alloc (.cells #[.int .i64 m.tgt, .int .i64 (x.num + 1), .int .i64 m.frm, .int .i64 m.seq, .int .i64 (x.clock + x.c.period)] 161))
       have HR4 := hide (heap_alloc_new w2 (.cells #[.int .i64 m.tgt, .int .i64 (x.num + 1), .int .i64 m.frm, .int .i64 m.seq, .int .i64 (x.clock + x.c.period)] 161))
       have hRW : W.heap.size < w2.heap.size := Nat.lt_of_lt_of_le hszl (unhide HF3).size
       generalize w2.alloc (.cells #[.int .i64 m.tgt, .int .i64 (x.num + 1), .int .i64 m.frm, .int .i64 m.seq, .int .i64 (x.clock + x.c.period)] 161) = wN at HN4 HF4 HR4 ⊢
       generalize w2.heap.size = R at HR4 hRW ⊢)
  all_goals
    have HF5 := hide ((Frm.of_below (S := [nb]) (unhide HB2) (Nat.le_refl _)).trans (unhide HF4) (fun j hj => .inl hj))
    have e12 := (unhide HN4).c_rels
    have f12 := free_at (unhide HN4).blk 14
    have s0 := cell_at (unhide HR4) 0
    have s1 := cell_at (unhide HR4) 1
    have s2 := cell_at (unhide HR4) 2
    have s3 := cell_at (unhide HR4) 3
    have s4 := cell_at (unhide HR4) 4
    simp only [List.getElem?_toArray, List.getElem?_cons_zero, List.getElem?_cons_succ] at s0 s1 s2 s3 s4
    have hRN := lt_blk (unhide HR4)
    have hnN := (unhide HN4).lt
    try clear HR r0 r1 r2 r3 r4 rf
    try clear hHeld
    clear m1_2 m3_2 m4_2 n1_2 n6_2 HN3 HF3 HX3 m1 m3 m4 n1 n6 HF4 HN2 HX2
    obtain ⟨ti, hti, hz0, hz1, hz2⟩ := info_parts Tryz.infoRL
    have hrel : wN.ownsRow 0 161 5 (.slice rao x.rels.length rcap) x.rels.length (x.rels.flatMap relC) := (unhide HN4).rel
    have HREL := hide hrel
    have hnb : some nb ≠ (Value.slice rao x.rels.length rcap).ownBlock := fun e => ((unhide HN4).rel_ne e.symm).1 rfl
    clear hrel
    go_wp2_with fail
    go_region_law
      ((refine step_append_lies _ (by rfl) _ _ _ (by rfl) 0 161 ti (.agg #[.int .i64 0, .int .i64 0, .int .i64 0, .int .i64 0, .int .i64 0]) 5 40 Tryz.underlying120 hti hz0 hz1 hz2 rfl (by omega) _ _ _ (by rfl) (((unhide HREL).alloc _).drew) ⟨wN.heap.size, 0, none⟩ 1 1 [.int .i64 m.tgt, .int .i64 (x.num + 1), .int .i64 m.frm, .int .i64 m.seq, .int .i64 (x.clock + x.c.period)] (by rfl) (by rfl) (World.news_of_block (cs := #[.int .i64 m.tgt, .int .i64 (x.num + 1), .int .i64 m.frm, .int .i64 m.seq, .int .i64 (x.clock + x.c.period)]) (t := 161) (fr := (0, 0)) (heap_alloc_new wN _)) (by simp [Value.oneCell']) (by omega) (by unfold maxLen; omega) (by omega) (Nat.zero_le _) (wN.heap.size + 1) (by simp) ?_; intro gg cap3 w3 hown3 hgrow hat hlt3; have hfz3 : w3.frozen? ⟨nb, 14, none⟩ = false := (hgrow.frozen_far _ (by simp; omega) hnb).trans ((World.frozen?_of_block (a := ⟨nb, 14, none⟩) (Below.heap_alloc wN _ nb hnN)).trans f12); have hc3 : w3.cell? ⟨nb, 14, none⟩ = some (.slice rao x.rels.length rcap) := (hgrow.cell_far _ (by simp; omega) hnb).trans ((World.cell?_of_block (a := ⟨nb, 14, none⟩) (Below.heap_alloc wN _ nb hnN)).trans e12)))
    all_goals
      have hadd := NAt.addRel (unhide HN4) ⟨m.tgt, x.num + 1, m.frm, m.seq, x.clock + x.c.period⟩ hgrow hown3 rfl rfl
      have HADD := hide hadd
      have hb4 := (hadd.2.block R hRN (by
        simp only [List.mem_cons, Option.mem_toList, not_or]
        exact ⟨by omega, fun e => by have := own_lt (unhide HN).rel e; omega⟩)).trans (unhide HR4)
      have HB4 := hide hb4
      have t0 := cell_at hb4 0
      have t1 := cell_at hb4 1
      simp only [List.getElem?_toArray, List.getElem?_cons_zero, List.getElem?_cons_succ] at t0 t1
      have HAT := hide hat
      clear hadd hb4 hown3 hgrow hfz3 hc3 s0 s1 s2 s3 s4 e12 f12 hti hz0 hz1 hz2 HREL hat
      generalize w3.setCell ⟨nb, 14, none⟩ (.slice (some ⟨gg, 0, none⟩) (x.rels.length + 1) cap3) = w4 at HADD HB4 t0 t1 ⊢
      go_wp2_with fail
      have HD := hide (direct_any (ask_ok (unhide HX) hr m) (unhide HADD).1 1 m.tgt (x.num + 1) m.tgt)
      have hRl := lt_blk (unhide HB4)
      refine (unhide HD).mono ?_
      obtain ⟨Y, hY⟩ : ∃ Y : Nd, Y = { x with num := x.num + 1, rels := x.rels ++ [⟨m.tgt, x.num + 1, m.frm, m.seq, x.clock + x.c.period⟩] } := ⟨_, rfl⟩
      rw [← hY]
      have HY := hide hY
      generalize hPK : Y.direct 1 m.tgt (x.num + 1) m.tgt = PK
      have HPK := hide hPK
      clear hPK hY HD
      rintro e w5 ⟨rfl, hn5, hf5⟩
      have HN5 := hide hn5
      have HF6 := hide hf5
      clear hn5 hf5 t0 t1
      go_wp2
      go_ret
      have he : x.takeAsk m = ([PK], Y.along) := by rw [← unhide HPK, unhide HY]; simp only [Nd.takeAsk, ht, if_false, if_neg (show ¬ 4 ≤ x.rels.length by omega)]
      rw [he]
      have hf : Frm (feet nb mb cb pv (.slice rao x.rels.length rcap)) W w5 := by
        refine (((Frm.refl _ W).trans (unhide HF5) (by simp [feet])).trans (unhide HADD).2 (fun j hj => ?_)).trans (unhide HF6) (by simp [feet])
        simp only [List.mem_cons] at hj
        rcases hj with rfl | hj
        · exact .inl (by simp [feet])
        · exact .inl (by simp only [feet, List.mem_cons, List.mem_append]; exact .inr (.inr (.inr (.inr (.inl hj)))))
      refine ⟨_, rfl, outs_one PK hf.size, pv, _, (unhide HN5).alloc _, hf.alloc _, fun k hk => ?_⟩
      simp only [feet, List.mem_cons, List.mem_append, Option.mem_toList] at hk ⊢
      rcases hk with h | h | h | h | h | h
      · exact .inl (.inl h)
      · exact .inl (.inr (.inl h))
      · exact .inl (.inr (.inr (.inl h)))
      · exact .inl (.inr (.inr (.inr (.inl h))))
      · simp only [Value.ownBlock, Option.some.injEq] at h
        subst h
        rcases unhide HAT with h | h
        · exact .inl (.inr (.inr (.inr (.inr (.inl h)))))
        · exact .inr (by omega)
      · exact .inl (.inr (.inr (.inr (.inr (.inr h)))))
set_option maxHeartbeats 1000000 in
set_option maxRecDepth 100000 in
theorem ask_self {x : Nd} (hx : NdOk x) (m : M6) {nb mb : Nat} {cb : Dk} {pv rv v : Value} {W : World} (hn : NAt W nb mb cb pv rv x) (hv : KeysAt W v m.ups) (ht : m.tgt = x.c.self) :
    Calls Tryz.prog 124 #[.pointer (some ⟨nb, 0, none⟩), .agg #[.int .i64 m.kind, .int .i64 m.frm, .int .i64 m.inc, .int .i64 m.seq, .int .i64 m.tgt, v]] W fun e w' => ∃ o, e = .returned o ∧ Outs W w' o (x.takeAsk m).1 ∧ NTo W w' nb mb cb pv rv (x.takeAsk m).2 := by
  obtain ⟨ao, cap, rfl⟩ := hv.form
  have c0 := hn.c_self
  have hlt := hn.lt
  have ht' : (m.tgt == x.c.self) = true := by simp [ht]
  have he : x.takeAsk m = x.takePing m := by simp only [Nd.takeAsk, ht, if_true]
  rw [he]
  have hb1 : ∀ q, Below W.heap.size W ((W.alloc (.cells #[.int .i64 m.kind, .int .i64 m.frm, .int .i64 m.inc, .int .i64 m.seq, .int .i64 m.tgt, .slice ao m.ups.length cap] 68)).drewN q) := fun q => bdrewN ((Below.refl _ _).alloc (Nat.le_refl _) _) q
  have HP := fun q => hide (ping_go hx m (hn.below (hb1 q)) (hv.below (hb1 q)))
  have HB1 := hide hb1
  clear hn hv hx hb1 he ht
  go_enter Tryz.func124, Tryz.ntmps124
  go_wp2
  go_quiet (fail)
  go_wp2_with fail
  refine (unhide (HP _)).mono ?_
  rintro e w2 ⟨o, rfl, ho, hn2, hf2⟩
  have HO := hide ho
  have HN2 := hide hn2
  have HF2 := hide hf2
  clear ho hn2 hf2 HP
  go_wp2
  go_ret
  exact ⟨o, rfl, own_mono (unhide HO) (unhide HB1 _).size, NTo.of_mb (unhide HN2) ((Frm.of_below (unhide HB1 _) (Nat.le_refl _)).trans (unhide HF2) (fun j hj => .inl hj))⟩
set_option maxHeartbeats 1000000 in
set_option maxRecDepth 100000 in
theorem ask_full {x : Nd} (m : M6) {nb mb : Nat} {cb : Dk} {pv rv v : Value} {W : World} (hn : NAt W nb mb cb pv rv x) (hv : KeysAt W v m.ups) (ht : m.tgt ≠ x.c.self) (hr : 4 ≤ x.rels.length) :
    Calls Tryz.prog 124 #[.pointer (some ⟨nb, 0, none⟩), .agg #[.int .i64 m.kind, .int .i64 m.frm, .int .i64 m.inc, .int .i64 m.seq, .int .i64 m.tgt, v]] W fun e w' => ∃ o, e = .returned o ∧ Outs W w' o (x.takeAsk m).1 ∧ NTo W w' nb mb cb pv rv (x.takeAsk m).2 := by
  obtain ⟨ao, cap, rfl⟩ := hv.form
  clear hv
  have c0 := hn.c_self
  have c12 := hn.c_rels
  have hlt := hn.lt
  have ht' : (m.tgt == x.c.self) = false := by simp [ht]
  obtain ⟨rao, rcap, hrv⟩ := own_form hn.rel
  subst hrv
  have he : x.takeAsk m = ([], x) := by simp only [Nd.takeAsk, ht, if_false, if_pos hr]
  rw [he]
  have hb1 : ∀ q, Below W.heap.size W ((W.alloc (.cells #[.int .i64 m.kind, .int .i64 m.frm, .int .i64 m.inc, .int .i64 m.seq, .int .i64 m.tgt, .slice ao m.ups.length cap] 68)).drewN q) := fun q => bdrewN ((Below.refl _ _).alloc (Nat.le_refl _) _) q
  have HN := hide hn
  have HB1 := hide hb1
  clear hn hb1 he ht
  go_enter Tryz.func124, Tryz.ntmps124
  go_wp2
  go_quiet (fail)
  go_wp2
  go_ret
  exact ⟨_, rfl, outs_nil _ _, NTo.here (unhide HN) (unhide HB1 _)⟩
theorem ask_any {x : Nd} (hx : NdOk x) (hB : NdB Big x) (m : M6) (hk : m.kind = 3) : DeedOk 124 x m := by
  intro nb mb cb pv rv v W hn hv
  have e1 : x.deed m = x.takeAsk m := by simp [Nd.deed, hk]
  rw [e1]
  by_cases ht : m.tgt = x.c.self
  · exact ask_self hx m hn hv ht
  · by_cases hr : 4 ≤ x.rels.length
    · exact ask_full m hn hv ht hr
    · exact ask_new hx hB m hn hv ht (by omega)
end Go.Proofs.YtnneljcbelgoeaaGreatDoor.wire
