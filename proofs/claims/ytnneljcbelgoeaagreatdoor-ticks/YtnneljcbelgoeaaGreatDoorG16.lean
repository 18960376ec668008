import Derived.Test.YtnneljcbelgoeaaGreatDoorG10
import Derived.Deep.RegionHeld3
import Derived.Deep.RegionLaw
import Derived.Deep.DrawnRows
import Derived.Deep.AppendLies
import Derived.StillTailTactics
/- What a node does for an Ask (P7). -/
namespace Go.Proofs.YtnneljcbelgoeaaGreatDoor.wire
open Go.RowKit Go.Maps

theorem frm_drew {S : List Nat} {a b : World} (h : Frm S a.drew b) : Frm S a b := ⟨h.os, h.tape, h.output, h.size, h.block⟩
theorem set5 {w : World} {R : Nat} {a0 a1 a2 a3 a4 : Value} {t : TypeId} (h : w.heap[R]? = some (.cells #[a0, a1, a2, a3, a4] t (0, 0))) (b0 b1 b2 b3 b4 : Value) :
    (((((w.setCell ⟨R, 0, none⟩ b0).setCell ⟨R, 1, none⟩ b1).setCell ⟨R, 2, none⟩ b2).setCell ⟨R, 3, none⟩ b3).setCell ⟨R, 4, none⟩ b4).heap[R]? = some (.cells #[b0, b1, b2, b3, b4] t (0, 0)) ∧
    Frm [R] w (((((w.setCell ⟨R, 0, none⟩ b0).setCell ⟨R, 1, none⟩ b1).setCell ⟨R, 2, none⟩ b2).setCell ⟨R, 3, none⟩ b3).setCell ⟨R, 4, none⟩ b4) := by
  have one : ∀ (w : World) (i : Nat) (u : Value), Frm [R] w (w.setCell ⟨R, i, none⟩ u) := fun w i u => by
    have hbl := (Below.refl 0 w).setCell (p := ⟨R, i, none⟩) (Nat.zero_le _) u
    exact ⟨hbl.os, hbl.tape, hbl.output, hbl.size, fun k _ hk => heap_setCell_other w ⟨R, i, none⟩ k u (by simpa using hk)⟩
  refine ⟨?_, ((((one w 0 b0).trans (one _ 1 b1) (by simp)).trans (one _ 2 b2) (by simp)).trans (one _ 3 b3) (by simp)).trans (one _ 4 b4) (by simp)⟩
  have g0 := heap_setCell_same w R 0 _ _ b0 h
  have g1 := heap_setCell_same _ R 1 _ _ b1 g0
  have g2 := heap_setCell_same _ R 2 _ _ b2 g1
  have g3 := heap_setCell_same _ R 3 _ _ b3 g2
  have g4 := heap_setCell_same _ R 4 _ _ b4 g3
  rw [g4]
  simp
theorem NAt.pass_rel {W : World} {nb mb : Nat} {cb : Dk} {pv rv : Value} {x : Nd} (h : NAt W nb mb cb pv rv x) {k : Nat} (hk : pv.ownBlock = some k) : rv.ownBlock ≠ some k := fun e => by
  obtain ⟨cs, h1⟩ := h.pass.blk hk
  obtain ⟨cs', h2⟩ := own_blk h.rel e
  rw [h1] at h2
  cases h2
theorem grown_frm {o : Obj} {w w1 : World} {row : Option Nat} (h : (w.alloc o).drew.grownBy w1 row) : Frm row.toList w w1 := by
  have h1 : Frm row.toList (w.alloc o).drew w1 := Frm.of_grown h (fun k hk => .inl (by simp [hk]))
  exact (Frm.of_below (bdrew ((Below.refl _ w).alloc (Nat.le_refl _) o)) (Nat.le_refl _)).trans h1 (fun j hj => .inl hj)
/-- A relay more. -/
theorem NAt.addRel {W w3 : World} {nb mb : Nat} {cb : Dk} {pv rv : Value} {x : Nd} (h : NAt W nb mb cb pv rv x) (r : Rel) {o : Obj} {v' : Value} {n : Nat} {l : List Value} (hg : (W.alloc o).drew.grownBy w3 rv.ownBlock) (hown : w3.ownsRow 0 161 5 v' n (x.rels.flatMap relC ++ l)) (hl : l = relC r) (hn : n = x.rels.length + 1) :
    NAt (w3.setCell ⟨nb, 14, none⟩ v') nb mb cb pv v' { x with rels := x.rels ++ [r] } ∧ Frm (nb :: rv.ownBlock.toList) W (w3.setCell ⟨nb, 14, none⟩ v') := by
  have hf := grown_frm hg
  have hf2 : Frm [nb] w3 (w3.setCell ⟨nb, 14, none⟩ v') := by
    have hbl := (Below.refl 0 w3).setCell (p := ⟨nb, 14, none⟩) (Nat.zero_le _) v'
    exact ⟨hbl.os, hbl.tape, hbl.output, hbl.size, fun k _ hk => heap_setCell_other w3 ⟨nb, 14, none⟩ k v' (by simpa using hk)⟩
  have hb := (hf.block nb h.lt (by simp only [Option.mem_toList]; exact fun e => (h.rel_ne e).1 rfl)).trans h.blk
  have hm := map_frm h.map hf (by simp only [Option.mem_toList]; exact fun e => (h.rel_ne e).2.1 rfl)
  obtain ⟨s, q, hc⟩ := h.chan
  have hc2 := (hf.block cb h.lt_cb (by simp only [Option.mem_toList]; exact fun e => (h.rel_ne e).2.2 rfl)).trans hc
  have hp := h.pass.frm hf (fun k hk => by simp only [Option.mem_toList]; exact h.pass_rel hk)
  subst hl
  subst hn
  have hnb : ∀ k, v'.ownBlock = some k → k ∉ [nb] := fun k hk => by
    obtain ⟨cs, hb'⟩ := own_blk hown hk
    simp only [List.mem_singleton]
    intro e
    rw [e, hb] at hb'
    cases hb'
  refine ⟨⟨?_, map_frm hm hf2 (by simpa using h.mb_nb), ⟨s, q, (hf2.block cb (Nat.lt_of_lt_of_le h.lt_cb hf.size) (by simpa using h.cb_nb)).trans hc2⟩, hp.frm hf2 (fun k hk => by simpa using (h.pass_ne hk).1), ?_, ?_⟩, ?_⟩
  · rw [heap_setCell_same w3 nb 14 _ _ v' hb]; rfl
  · have h1 := own_frm hown hf2 hnb
    simpa using h1
  · refine h.draw_frm (((Frm.refl (nb :: rv.ownBlock.toList) W).trans hf (fun j hj => .inl (List.mem_cons_of_mem _ hj))).trans hf2 (by simp)) (fun k hk => ?_)
    rcases List.mem_cons.1 hk with h | h
    · exact .inl h
    · exact .inr (.inr (.inr (Option.mem_toList.1 h)))
  · exact ((Frm.refl _ W).trans hf (fun j hj => .inl (List.mem_cons_of_mem _ hj))).trans hf2 (by simp)
theorem ask_ok {x : Nd} (hx : NdOk x) (hr : x.rels.length < 4) (m : M6) : NdOk { x with num := x.num + 1, rels := x.rels ++ [⟨m.tgt, x.num + 1, m.frm, m.seq, x.clock + x.c.period⟩] } :=
  ⟨hx.cfg, hx.rise, hx.len, hx.keys, hx.sends, hx.self, hx.evs, by simp; omega, hx.pass⟩
theorem per_bd {x : Nd} (hx : NdOk x) : 0 ≤ x.c.period ∧ x.c.period ≤ 1000000 := by
  have := hx.cfg
  simp [cfgB] at this
  omega
set_option maxHeartbeats 1000000 in
set_option maxRecDepth 100000 in
theorem ask_new {x : Nd} (hx : NdOk x) (hB : NdB Big x) (m : M6) {nb mb : Nat} {cb : Dk} {pv rv v : Value} {W : World} (hn : NAt W nb mb cb pv rv x) (hv : KeysAt W v m.ups) (ht : m.tgt ≠ x.c.self) (hr : x.rels.length < 4) :
    Calls Tryz.prog 124 #[.pointer (some ⟨nb, 0, none⟩), .agg #[.int .i64 m.kind, .int .i64 m.frm, .int .i64 m.inc, .int .i64 m.seq, .int .i64 m.tgt, v]] W fun e w' => ∃ o, e = .returned o ∧ Outs W w' o (x.takeAsk m).1 ∧ NTo W w' nb mb cb pv rv (x.takeAsk m).2 := by
  obtain ⟨ao, cap, rfl⟩ := hv.form
  clear hv
  have c0 := hn.c_self
  have c1 := hn.c_period
  have c6 := hn.c_clock
  have c12 := hn.c_rels
  have hlt := hn.lt
  have ht' : (m.tgt == x.c.self) = false := by simp [ht]
  obtain ⟨rao, rcap, hrv⟩ := own_form hn.rel
  subst hrv
  obtain ⟨k0, k1⟩ := hB.clock
  obtain ⟨q0, q1⟩ := per_bd hx
  unfold Big at k1
  have hbox : ∀ q, ((W.alloc (.cells #[.int .i64 m.kind, .int .i64 m.frm, .int .i64 m.inc, .int .i64 m.seq, .int .i64 m.tgt, .slice ao m.ups.length cap] 68)).drewN q).heap[W.heap.size]? = some (.cells #[.int .i64 m.kind, .int .i64 m.frm, .int .i64 m.inc, .int .i64 m.seq, .int .i64 m.tgt, .slice ao m.ups.length cap] 68 (0, 0)) := fun q => heap_alloc_new W _
  have hn1 := fun q => (hn.alloc (.cells #[.int .i64 m.kind, .int .i64 m.frm, .int .i64 m.inc, .int .i64 m.seq, .int .i64 m.tgt, .slice ao m.ups.length cap] 68)).drewN q
  have hb1 : ∀ q, Below W.heap.size W ((W.alloc (.cells #[.int .i64 m.kind, .int .i64 m.frm, .int .i64 m.inc, .int .i64 m.seq, .int .i64 m.tgt, .slice ao m.ups.length cap] 68)).drewN q) := fun q => bdrewN ((Below.refl _ _).alloc (Nat.le_refl _) _) q
  have HN := hide hn
  have HX := hide hx
  have HB := hide hB
  have HN1 := hide hn1
  have HB1 := hide hb1
  have HX1 := hide hbox
  clear hn hx hB hn1 hb1 hbox
  go_enter Tryz.func124, Tryz.ntmps124
  go_wp2
  go_quiet (fail)
  go_wp2
  rename_i nq _ _ _
  have HN2 := hide (unhide HN1 nq)
  have HB2 := hide (unhide HB1 nq)
  have HX2 := hide (unhide HX1 nq)
  clear HN1 HB1 HX1
  have hsz : ((W.alloc (.cells #[.int .i64 m.kind, .int .i64 m.frm, .int .i64 m.inc, .int .i64 m.seq, .int .i64 m.tgt, .slice ao m.ups.length cap] 68)).drewN nq).heap.size = W.heap.size + 1 := by simp
  generalize (W.alloc (.cells #[.int .i64 m.kind, .int .i64 m.frm, .int .i64 m.inc, .int .i64 m.seq, .int .i64 m.tgt, .slice ao m.ups.length cap] 68)).drewN nq = W1 at HN2 HB2 HX2 hsz ⊢
  have hszl : W.heap.size < W1.heap.size := by omega
  clear hsz
  have ne1 : W.heap.size ≠ W1.heap.size := by omega
  have ne2 : nb ≠ W1.heap.size := by omega
  have ne3 : W1.heap.size ≠ W.heap.size := by omega
  have ne4 : W1.heap.size ≠ nb := by omega
  have m1 := cell_at (unhide HX2) 1
  have m3 := cell_at (unhide HX2) 3
  have m4 := cell_at (unhide HX2) 4
  have n1 := (unhide HN2).c_period
  have n6 := (unhide HN2).c_clock
  simp only [List.getElem?_toArray, List.getElem?_cons_zero, List.getElem?_cons_succ] at m1 m3 m4
  clear c0 c1 c6 c12
  have hwrap : IntKind.i64.wrap (x.clock + x.c.period) = x.clock + x.c.period := Go.IntWalk.i64_in _ (by omega)
  go_region_held3 (fun w' => w'.cell? ⟨W.heap.size, 1, none⟩ = some (.int .i64 m.frm) ∧ w'.cell? ⟨W.heap.size, 3, none⟩ = some (.int .i64 m.seq) ∧ w'.cell? ⟨W.heap.size, 4, none⟩ = some (.int .i64 m.tgt) ∧ w'.cell? ⟨nb, 1, none⟩ = some (.int .i64 x.c.period) ∧ w'.cell? ⟨nb, 7, none⟩ = some (.int .i64 x.clock)) (go_keep)
    (first
      | (go_at_call 60; refine (next_any (unhide HB) (unhide HN2).drew).mono ?_; rintro e w2 ⟨rfl, hn2, hf2⟩; have HN3 := hide hn2; have n1_2 := hn2.c_period; have n6_2 := hn2.c_clock; have HX3 := hide ((hf2.block W.heap.size (by simp; omega) (by simp; omega)).trans (unhide HX2)); have m1_2 := cell_at (unhide HX3) 1; have m3_2 := cell_at (unhide HX3) 3; have m4_2 := cell_at (unhide HX3) 4; simp only [List.getElem?_toArray, List.getElem?_cons_zero, List.getElem?_cons_succ] at m1_2 m3_2 m4_2; have HF3 := hide (frm_drew hf2); clear hn2 hf2)
      | (go_at_call 60; refine (next_any (unhide HB) ((unhide HN2).drew.alloc _)).mono ?_; rintro e w2 ⟨rfl, hn2, hf2⟩; have HN3 := hide hn2; have n1_2 := hn2.c_period; have n6_2 := hn2.c_clock; have HX3 := hide ((hf2.block W.heap.size (by simp; omega) (by simp; omega)).trans ((Below.heap_alloc _ _ _ (lt_blk (unhide HX2))).trans (unhide HX2))); have m1_2 := cell_at (unhide HX3) 1; have m3_2 := cell_at (unhide HX3) 3; have m4_2 := cell_at (unhide HX3) 4; simp only [List.getElem?_toArray, List.getElem?_cons_zero, List.getElem?_cons_succ] at m1_2 m3_2 m4_2; have HF3 := hide (frm_drew (((Frm.refl [nb] W1.drew).alloc _).trans hf2 (by simp))); have HR := hide ((hf2.block W1.heap.size (by simp) (by simp; omega)).trans (heap_alloc_new W1.drew _)); have r0 := cell_at (unhide HR) 0; have r1 := cell_at (unhide HR) 1; have r2 := cell_at (unhide HR) 2; have r3 := cell_at (unhide HR) 3; have r4 := cell_at (unhide HR) 4; have rf := free_at (unhide HR); simp only [List.getElem?_toArray, List.getElem?_cons_zero, List.getElem?_cons_succ] at r0 r1 r2 r3 r4; clear hn2 hf2))
  all_goals first
    | (
       have h5 := set5 (unhide HR) (.int .i64 m.tgt) (.int .i64 (x.num + 1)) (.int .i64 m.frm) (.int .i64 m.seq) (.int .i64 (x.clock + x.c.period))
       have HN4 := hide ((unhide HN3).frm h5.2 (fun k hk => by have := (unhide HN2).feet_lt k hk; simp; omega))
       have HF4 := hide ((unhide HF3).trans h5.2 (by simp))
       have HR4 := hide h5.1
       have hRW : W.heap.size < W1.heap.size := hszl
       clear h5
       generalize ((((w2.setCell ⟨W1.heap.size, 0, none⟩ (.int .i64 m.tgt)).setCell ⟨W1.heap.size, 1, none⟩ (.int .i64 (x.num + 1))).setCell ⟨W1.heap.size, 2, none⟩ (.int .i64 m.frm)).setCell ⟨W1.heap.size, 3, none⟩ (.int .i64 m.seq)).setCell ⟨W1.heap.size, 4, none⟩ (.int .i64 (x.clock + x.c.period)) = wN at HN4 HF4 HR4 ⊢
       generalize hRe : W1.heap.size = R at HR4 hRW ⊢)
    | (
       have HN4 := hide ((unhide HN3).alloc (.cells #[.int .i64 m.tgt, .int .i64 (x.num + 1), .int .i64 m.frm, .int .i64 m.seq, .int .i64 (x.clock + x.c.period)] 161))
       have HF4 := hide ((unhide HF3).alloc (.cells #[.int .i64 m.tgt, .int .i64 (x.num + 1), .int .i64 m.frm, .int .i64 m.seq, .int .i64 (x.clock + x.c.period)] 161))
       have HR4 := hide (heap_alloc_new w2 (.cells #[.int .i64 m.tgt, .int .i64 (x.num + 1), .int .i64 m.frm, .int .i64 m.seq, .int .i64 (x.clock + x.c.period)] 161))
       have hRW : W.heap.size < w2.heap.size := Nat.lt_of_lt_of_le hszl (unhide HF3).size
       generalize w2.alloc (.cells #[.int .i64 m.tgt, .int .i64 (x.num + 1), .int .i64 m.frm, .int .i64 m.seq, .int .i64 (x.clock + x.c.period)] 161) = wN at HN4 HF4 HR4 ⊢
       generalize w2.heap.size = R at HR4 hRW ⊢)
  all_goals
    have HF5 := hide ((Frm.of_below (S := [nb]) (unhide HB2) (Nat.le_refl _)).trans (unhide HF4) (fun j hj => .inl hj))
    have e12 := (unhide HN4).c_rels
    have f12 := free_at (unhide HN4).blk 14
    have s0 := cell_at (unhide HR4) 0
    have s1 := cell_at (unhide HR4) 1
    have s2 := cell_at (unhide HR4) 2
    have s3 := cell_at (unhide HR4) 3
    have s4 := cell_at (unhide HR4) 4
    simp only [List.getElem?_toArray, List.getElem?_cons_zero, List.getElem?_cons_succ] at s0 s1 s2 s3 s4
    have hRN := lt_blk (unhide HR4)
    have hnN := (unhide HN4).lt
    try clear HR r0 r1 r2 r3 r4 rf
    try clear hHeld
    clear m1_2 m3_2 m4_2 n1_2 n6_2 HN3 HF3 HX3 m1 m3 m4 n1 n6 HF4 HN2 HX2
    obtain ⟨ti, hti, hz0, hz1, hz2⟩ := info_parts Tryz.infoRL
    have hrel : wN.ownsRow 0 161 5 (.slice rao x.rels.length rcap) x.rels.length (x.rels.flatMap relC) := (unhide HN4).rel
    have HREL := hide hrel
    have hnb : some nb ≠ (Value.slice rao x.rels.length rcap).ownBlock := fun e => ((unhide HN4).rel_ne e.symm).1 rfl
    clear hrel
    go_wp2_with fail
    go_region_law
      ((refine step_append_lies _ (by rfl) _ _ _ (by rfl) 0 161 ti (.agg #[.int .i64 0, .int .i64 0, .int .i64 0, .int .i64 0, .int .i64 0]) 5 40 Tryz.underlying120 hti hz0 hz1 hz2 rfl (by omega) _ _ _ (by rfl) (((unhide HREL).alloc _).drew) ⟨wN.heap.size, 0, none⟩ 1 1 [.int .i64 m.tgt, .int .i64 (x.num + 1), .int .i64 m.frm, .int .i64 m.seq, .int .i64 (x.clock + x.c.period)] (by rfl) (by rfl) (World.news_of_block (cs := #[.int .i64 m.tgt, .int .i64 (x.num + 1), .int .i64 m.frm, .int .i64 m.seq, .int .i64 (x.clock + x.c.period)]) (t := 161) (fr := (0, 0)) (heap_alloc_new wN _)) (by simp [Value.oneCell']) (by omega) (by unfold maxLen; omega) (by omega) (Nat.zero_le _) (wN.heap.size + 1) (by simp) ?_; intro gg cap3 w3 hown3 hgrow hat hlt3; have hfz3 : w3.frozen? ⟨nb, 14, none⟩ = false := (hgrow.frozen_far _ (by simp; omega) hnb).trans ((World.frozen?_of_block (a := ⟨nb, 14, none⟩) (Below.heap_alloc wN _ nb hnN)).trans f12); have hc3 : w3.cell? ⟨nb, 14, none⟩ = some (.slice rao x.rels.length rcap) := (hgrow.cell_far _ (by simp; omega) hnb).trans ((World.cell?_of_block (a := ⟨nb, 14, none⟩) (Below.heap_alloc wN _ nb hnN)).trans e12)))
    all_goals
      have hadd := NAt.addRel (unhide HN4) ⟨m.tgt, x.num + 1, m.frm, m.seq, x.clock + x.c.period⟩ hgrow hown3 rfl rfl
      have HADD := hide hadd
      have hb4 := (hadd.2.block R hRN (by
        simp only [List.mem_cons, Option.mem_toList, not_or]
        exact ⟨by omega, fun e => by have := own_lt (unhide HN).rel e; omega⟩)).trans (unhide HR4)
      have HB4 := hide hb4
      have t0 := cell_at hb4 0
      have t1 := cell_at hb4 1
      simp only [List.getElem?_toArray, List.getElem?_cons_zero, List.getElem?_cons_succ] at t0 t1
      have HAT := hide hat
      clear hadd hb4 hown3 hgrow hfz3 hc3 s0 s1 s2 s3 s4 e12 f12 hti hz0 hz1 hz2 HREL hat
      generalize w3.setCell ⟨nb, 14, none⟩ (.slice (some ⟨gg, 0, none⟩) (x.rels.length + 1) cap3) = w4 at HADD HB4 t0 t1 ⊢
      go_wp2_with fail
      have HD := hide (direct_any (ask_ok (unhide HX) hr m) (unhide HADD).1 1 m.tgt (x.num + 1) m.tgt)
      have hRl := lt_blk (unhide HB4)
      refine (unhide HD).mono ?_
      obtain ⟨Y, hY⟩ : ∃ Y : Nd, Y = { x with num := x.num + 1, rels := x.rels ++ [⟨m.tgt, x.num + 1, m.frm, m.seq, x.clock + x.c.period⟩] } := ⟨_, rfl⟩
      rw [← hY]
      have HY := hide hY
      generalize hPK : Y.direct 1 m.tgt (x.num + 1) m.tgt = PK
      have HPK := hide hPK
      clear hPK hY HD
      rintro e w5 ⟨rfl, hn5, hf5⟩
      have HN5 := hide hn5
      have HF6 := hide hf5
      clear hn5 hf5 t0 t1
      go_wp2
      go_ret
      have he : x.takeAsk m = ([PK], Y.along) := by rw [← unhide HPK, unhide HY]; simp only [Nd.takeAsk, ht, if_false, if_neg (show ¬ 4 ≤ x.rels.length by omega)]
      rw [he]
      have hf : Frm (feet nb mb cb pv (.slice rao x.rels.length rcap)) W w5 := by
        refine (((Frm.refl _ W).trans (unhide HF5) (by simp [feet])).trans (unhide HADD).2 (fun j hj => ?_)).trans (unhide HF6) (by simp [feet])
        simp only [List.mem_cons] at hj
        rcases hj with rfl | hj
        · exact .inl (by simp [feet])
        · exact .inl (by simp only [feet, List.mem_cons, List.mem_append]; exact .inr (.inr (.inr (.inr (.inl hj)))))
      refine ⟨_, rfl, outs_one PK hf.size, pv, _, (unhide HN5).alloc _, hf.alloc _, fun k hk => ?_⟩
      simp only [feet, List.mem_cons, List.mem_append, Option.mem_toList] at hk ⊢
      rcases hk with h | h | h | h | h | h
      · exact .inl (.inl h)
      · exact .inl (.inr (.inl h))
      · exact .inl (.inr (.inr (.inl h)))
      · exact .inl (.inr (.inr (.inr (.inl h))))
      · simp only [Value.ownBlock, Option.some.injEq] at h
        subst h
        rcases unhide HAT with h | h
        · exact .inl (.inr (.inr (.inr (.inr (.inl h)))))
        · exact .inr (by omega)
      · exact .inl (.inr (.inr (.inr (.inr (.inr h)))))
set_option maxHeartbeats 1000000 in
set_option maxRecDepth 100000 in
theorem ask_self {x : Nd} (hx : NdOk x) (m : M6) {nb mb : Nat} {cb : Dk} {pv rv v : Value} {W : World} (hn : NAt W nb mb cb pv rv x) (hv : KeysAt W v m.ups) (ht : m.tgt = x.c.self) :
    Calls Tryz.prog 124 #[.pointer (some ⟨nb, 0, none⟩), .agg #[.int .i64 m.kind, .int .i64 m.frm, .int .i64 m.inc, .int .i64 m.seq, .int .i64 m.tgt, v]] W fun e w' => ∃ o, e = .returned o ∧ Outs W w' o (x.takeAsk m).1 ∧ NTo W w' nb mb cb pv rv (x.takeAsk m).2 := by
  obtain ⟨ao, cap, rfl⟩ := hv.form
  have c0 := hn.c_self
  have hlt := hn.lt
  have ht' : (m.tgt == x.c.self) = true := by simp [ht]
  have he : x.takeAsk m = x.takePing m := by simp only [Nd.takeAsk, ht, if_true]
  rw [he]
  have hb1 : ∀ q, Below W.heap.size W ((W.alloc (.cells #[.int .i64 m.kind, .int .i64 m.frm, .int .i64 m.inc, .int .i64 m.seq, .int .i64 m.tgt, .slice ao m.ups.length cap] 68)).drewN q) := fun q => bdrewN ((Below.refl _ _).alloc (Nat.le_refl _) _) q
  have HP := fun q => hide (ping_go hx m (hn.below (hb1 q)) (hv.below (hb1 q)))
  have HB1 := hide hb1
  clear hn hv hx hb1 he ht
  go_enter Tryz.func124, Tryz.ntmps124
  go_wp2
  go_quiet (fail)
  go_wp2_with fail
  refine (unhide (HP _)).mono ?_
  rintro e w2 ⟨o, rfl, ho, hn2, hf2⟩
  have HO := hide ho
  have HN2 := hide hn2
  have HF2 := hide hf2
  clear ho hn2 hf2 HP
  go_wp2
  go_ret
  exact ⟨o, rfl, own_mono (unhide HO) (unhide HB1 _).size, NTo.of_mb (unhide HN2) ((Frm.of_below (unhide HB1 _) (Nat.le_refl _)).trans (unhide HF2) (fun j hj => .inl hj))⟩
set_option maxHeartbeats 1000000 in
set_option maxRecDepth 100000 in
theorem ask_full {x : Nd} (m : M6) {nb mb : Nat} {cb : Dk} {pv rv v : Value} {W : World} (hn : NAt W nb mb cb pv rv x) (hv : KeysAt W v m.ups) (ht : m.tgt ≠ x.c.self) (hr : 4 ≤ x.rels.length) :
    Calls Tryz.prog 124 #[.pointer (some ⟨nb, 0, none⟩), .agg #[.int .i64 m.kind, .int .i64 m.frm, .int .i64 m.inc, .int .i64 m.seq, .int .i64 m.tgt, v]] W fun e w' => ∃ o, e = .returned o ∧ Outs W w' o (x.takeAsk m).1 ∧ NTo W w' nb mb cb pv rv (x.takeAsk m).2 := by
  obtain ⟨ao, cap, rfl⟩ := hv.form
  clear hv
  have c0 := hn.c_self
  have c12 := hn.c_rels
  have hlt := hn.lt
  have ht' : (m.tgt == x.c.self) = false := by simp [ht]
  obtain ⟨rao, rcap, hrv⟩ := own_form hn.rel
  subst hrv
  have he : x.takeAsk m = ([], x) := by simp only [Nd.takeAsk, ht, if_false, if_pos hr]
  rw [he]
  have hb1 : ∀ q, Below W.heap.size W ((W.alloc (.cells #[.int .i64 m.kind, .int .i64 m.frm, .int .i64 m.inc, .int .i64 m.seq, .int .i64 m.tgt, .slice ao m.ups.length cap] 68)).drewN q) := fun q => bdrewN ((Below.refl _ _).alloc (Nat.le_refl _) _) q
  have HN := hide hn
  have HB1 := hide hb1
  clear hn hb1 he ht
  go_enter Tryz.func124, Tryz.ntmps124
  go_wp2
  go_quiet (fail)
  go_wp2
  go_ret
  exact ⟨_, rfl, outs_nil _ _, NTo.here (unhide HN) (unhide HB1 _)⟩
theorem ask_any {x : Nd} (hx : NdOk x) (hB : NdB Big x) (m : M6) (hk : m.kind = 3) : DeedOk 124 x m := by
  intro nb mb cb pv rv v W hn hv
  have e1 : x.deed m = x.takeAsk m := by simp [Nd.deed, hk]
  rw [e1]
  by_cases ht : m.tgt = x.c.self
  · exact ask_self hx m hn hv ht
  · by_cases hr : 4 ≤ x.rels.length
    · exact ask_full m hn hv ht hr
    · exact ask_new hx hB m hn hv ht (by omega)
end Go.Proofs.YtnneljcbelgoeaaGreatDoor.wire
/- The relays that an Ack answers (P7). -/
namespace Go.Proofs.YtnneljcbelgoeaaGreatDoor.wire
open Go.RowKit Go.Maps

theorem relayed_snoc (l : List Rel) (r : Rel) : ∀ x : Nd, x.relayed (l ++ [r]) = ((x.relayed l).1 ++ [(x.relayed l).2.direct 2 r.asker r.under r.tgt], (x.relayed l).2.along) := by
  induction l with
  | nil => intro x; rfl
  | cons a t ih => intro x; simp only [List.cons_append, Nd.relayed, ih]
theorem relayed_ok : ∀ (l : List Rel) {x : Nd}, NdOk x → NdOk (x.relayed l).2
  | [], _, h => h
  | _ :: t, _, h => relayed_ok t (along_ok h)
theorem relayed_len : ∀ (l : List Rel) (x : Nd), (x.relayed l).1.length = l.length
  | [], _ => rfl
  | _ :: t, x => by simp only [Nd.relayed, List.length_cons, relayed_len t]
theorem grown_frm0 {o : Obj} {w w1 : World} {row : Option Nat} (h : (w.alloc o).grownBy w1 row) : Frm row.toList w w1 :=
  (Frm.of_below ((Below.refl _ w).alloc (Nat.le_refl _) o) (Nat.le_refl _)).trans (S' := row.toList) (Frm.of_grown h (fun k hk => .inl (by simp [hk]))) (fun j hj => .inl hj)
theorem Tryz.infoPL : (Tryz.prog.info? 78).map (fun i => (i.zero, i.size, i.bytes)) = some (some (.agg #[.int .i64 0, .string ⟨#[]⟩]), 2, 24) := by kernel_rfl
set_option maxHeartbeats 1000000 in
set_option maxRecDepth 100000 in
theorem back_any1 {x : Nd} (hx : NdOk x) (r : Rel) {nb mb : Nat} {cb : Dk} {xb : Nat} {pv rv : Value} {W : World} (hn : NAt W nb mb cb pv rv x) (hb : W.heap[xb]? = some (.cells #[.pointer (some ⟨nb, 0, none⟩)] 79 (0, 0))) :
    Calls Tryz.prog 151 #[.agg #[.int .i64 r.tgt, .int .i64 r.num, .int .i64 r.asker, .int .i64 r.under, .int .i64 r.till], .pointer (some ⟨xb, 0, none⟩)] W fun e w' => e = .returned (.agg #[.int .i64 (x.direct 2 r.asker r.under r.tgt).dest, .string (bs (x.direct 2 r.asker r.under r.tgt).bytes)]) ∧ NAt w' nb mb cb pv rv x.along ∧ Frm [mb] W w' := by
  have s0 := cell_at hb 0
  have hlt := lt_blk hb
  simp only [List.getElem?_toArray, List.getElem?_cons_zero] at s0
  have HN := hide hn
  have hd := direct_any hx ((hn.alloc (.cells #[.int .i64 r.tgt, .int .i64 r.num, .int .i64 r.asker, .int .i64 r.under, .int .i64 r.till] 161)).alloc (.cells #[.int .i64 0, .string ⟨#[]⟩] 78)) 2 r.asker r.under r.tgt
  generalize x.direct 2 r.asker r.under r.tgt = PK at hd ⊢
  have HD := hide hd
  clear hb hn hx hd
  go_enter Tryz.func151, Tryz.ntmps151
  go_wp2_with fail
  refine (unhide HD).mono ?_
  clear HD
  rintro e w2 ⟨rfl, hn2, hf2⟩
  have hmb := (unhide HN).lt_mb
  have hfeet := (unhide HN).feet_lt
  have br2 : w2.heap[W.heap.size + 1]? = some (.cells #[.int .i64 0, .string ⟨#[]⟩] 78 (0, 0)) := by
    have h1 := heap_alloc_new (W.alloc (.cells #[.int .i64 r.tgt, .int .i64 r.num, .int .i64 r.asker, .int .i64 r.under, .int .i64 r.till] 161)) (.cells #[.int .i64 0, .string ⟨#[]⟩] 78)
    have h2 := hf2.block (W.heap.size + 1) (by simp) (by simp; omega)
    simp only [World.size_alloc] at h1
    exact h2.trans h1
  have r0 := cell_at br2 0
  have r1 := cell_at br2 1
  have rf := free_at br2
  simp only [List.getElem?_toArray, List.getElem?_cons_zero, List.getElem?_cons_succ] at r0 r1
  have HN2 := hide hn2
  have HF2 := hide ((((Frm.refl [mb] W).alloc _).alloc _).trans hf2 (by simp))
  have HR2 := hide br2
  clear hn2 hf2 br2
  go_wp2
  refine bodyPost_ret (v := .agg #[.int .i64 PK.dest, .string (bs PK.bytes)]) (by simp [results, Tryz.results151, go_sem, r0, r1]) rfl ⟨rfl, ?_⟩
  have hW2 : W.heap.size < w2.heap.size := Nat.lt_of_le_of_lt (Nat.le_succ _) (lt_blk (unhide HR2))
  obtain ⟨g1, g2⟩ := low_cell (unhide HN2) (unhide HF2) hW2 0 (.int .i64 PK.dest) (Nat.le_succ _) (fun k hk => Nat.ne_of_lt (Nat.lt_succ_of_lt (hfeet k hk)))
  exact low_cell g1 g2 (by rw [World.size_setCell]; exact hW2) 1 (.string (bs PK.bytes)) (Nat.le_succ _) (fun k hk => Nat.ne_of_lt (Nat.lt_succ_of_lt (hfeet k hk)))
set_option maxHeartbeats 2000000 in
set_option maxRecDepth 100000 in
theorem relayed_at (l : List Rel) {x : Nd} (hx : NdOk x) {nb mb : Nat} {cb : Dk} {xb : Nat} {pv rv : Value} (b off cap : Nat) {w : World} (hn : NAt w nb mb cb pv rv x) (hxb : w.heap[xb]? = some (.cells #[.pointer (some ⟨nb, 0, none⟩)] 79 (0, 0))) (hb : b < w.heap.size) (hbm : b ≠ mb) (hl : l.length ≤ 1000) (hrow : rowsR w b off l) :
    Calls Tryz.prog 150 #[.slice (some ⟨b, off, none⟩) l.length cap, .func (.func 151) #[] #[.pointer (some ⟨xb, 0, none⟩)]] w fun e w' => ∃ o, e = .returned o ∧ Outs w w' o (x.relayed l).1 ∧ NAt w' nb mb cb pv rv (x.relayed l).2 ∧ Frm [mb] w w' := by
  obtain ⟨ti, hti, hz0, hz1, hz2⟩ := info_parts Tryz.infoPL
  have eg := enters_of Tryz.func151 (by kernel_rfl) rfl
  have hxm : xb ≠ mb := fun e => by
    obtain ⟨es, c, hm⟩ := map_blk hn.map
    rw [e, hm] at hxb; cases hxb
  have hmlt := hn.lt_mb
  have hxlt := lt_blk hxb
  have HX := hide hx
  have HN := hide hn
  have HXB := hide hxb
  clear hx hn hxb
  go_enter Tryz.func150, Tryz.ntmps150
  go_wp2
  go_loopw [5, 10] (fun o i wr => ∃ k : Nat, k ≤ l.length ∧ i = .int .i64 k ∧ Hid (wr.ownsRow w.heap.size 78 2 o k ((x.relayed (l.take k)).1.flatMap pkC)) ∧ Hid (NAt wr nb mb cb pv rv (x.relayed (l.take k)).2) ∧ Hid (Frm [mb] w wr)) (fun _ i _ => l.length - (Go.RowKit.intOf i).toNat)
  case atStart => exact ⟨0, Nat.zero_le _, rfl, ⟨rfl, .inl ⟨rfl, rfl⟩⟩, HN, Frm.refl _ _⟩
  case round =>
    rename_i o i
    obtain ⟨k, hk, rfl, HO, HN1, HF1⟩ := hrel
    by_cases hlt : k < l.length
    · have hrk := hrow k hlt
      have hsz := (unhide HF1).size
      have hft : x.relayed (l.take (k + 1)) = ((x.relayed (l.take k)).1 ++ [(x.relayed (l.take k)).2.direct 2 l[k].asker l[k].under l[k].tgt], (x.relayed (l.take k)).2.along) := by
        rw [List.take_succ_eq_append_getElem hlt, relayed_snoc]
      have HFT := hide hft
      clear hft
      have hok := relayed_ok (l.take k) (unhide HX)
      generalize (x.relayed (l.take k)).1 = PS at HO HFT
      generalize (x.relayed (l.take k)).2 = Y at HN1 HFT hok
      generalize l[k] = K at hrk HFT
      obtain ⟨c0, c1, c2, c3, c4⟩ := hrk
      have hcell : ∀ j, wr.cell? ⟨b, j, none⟩ = w.cell? ⟨b, j, none⟩ := fun j => World.cell?_of_block ((unhide HF1).block b hb (by simpa using hbm))
      have d0 := (hcell _).trans c0
      have d1 := (hcell _).trans c1
      have d2 := (hcell _).trans c2
      have d3 := (hcell _).trans c3
      have d4 := (hcell _).trans c4
      clear c0 c1 c2 c3 c4 hcell
      have hxb1 := ((unhide HF1).block xb hxlt (by simpa using hxm)).trans (unhide HXB)
      have HC := hide (back_any1 hok K ((unhide HN1).alloc (.cells #[.int .i64 K.tgt, .int .i64 K.num, .int .i64 K.asker, .int .i64 K.under, .int .i64 K.till] 161)) ((Below.heap_alloc _ _ _ (by omega)).trans hxb1))
      clear hxb1 hok
      go_wp2_with fail
      refine (unhide HC).mono ?_
      generalize Y.direct 2 K.asker K.under K.tgt = PK at HFT ⊢
      clear HC
      rintro e w1 ⟨rfl, hn1, hf1⟩
      have hf01 : Frm [mb] w w1 := ((unhide HF1).alloc _).trans hf1 (by simp)
      have HO1 := hide (own_frm (HO.out.alloc _) hf1 (fun j hj => by have := own_lt (unhide HO) hj; simp; omega))
      have HN2 := hide hn1
      have HF2 := hide hf01
      have hs1 := hf01.size
      clear hn1 hf1 hf01 d0 d1 d2 d3 d4 HO HN1 HF1
      go_wp2_with (at_builtin; refine wpList_append_own _ rfl _ _ 77 rfl w.heap.size 78 ti (.agg #[.int .i64 0, .string ⟨#[]⟩]) 2 24 Tryz.underlying77 hti hz0 hz1 hz2 rfl (by decide) _ _ _ rfl ((unhide HO1).alloc _) ⟨w1.heap.size, 0, none⟩ 1 1 [.int .i64 PK.dest, .string (bs PK.bytes)] rfl rfl ?c1 ?c2 ?c3 ?c4 ?c5 ?_)
      case c1 => exact World.news_of_block (heap_alloc_new w1 _)
      case c2 => intro u hu; simp at hu; rcases hu with rfl | rfl <;> rfl
      case c3 => unfold maxLen; omega
      case c4 => omega
      case c5 => simp; omega
      intro v' w2 hown' hgrow _
      have hg2 := grown_frm0 hgrow
      have HO2 := hide hown'
      have HG2 := hide hg2
      clear hown' hgrow hg2
      go_wp2
      go_roundw
      case rel =>
        refine ⟨k + 1, by omega, by go_num, ?_, ?_, ?_⟩
        · rw [unhide HFT]
          exact hide (by simpa [pkC] using unhide HO2)
        · rw [unhide HFT]
          exact hide ((unhide HN2).frm (unhide HG2) (fun j hj => by have := (unhide HN).feet_lt j hj; simp only [Option.mem_toList]; intro e; have := (own_lt (unhide HO1) e).1; omega))
        · exact hide ((unhide HF2).trans (unhide HG2) (fun j hj => .inr (own_lt (unhide HO1) (by simpa using hj)).1))
      case measure => simp [Go.RowKit.intOf]; omega
    · have e : k = l.length := by omega
      rw [e, List.take_length] at HO HN1
      go_wp2
      go_ret
      exact ⟨_, rfl, by rw [Outs, relayed_len]; exact HO.out, unhide HN1, unhide HF1⟩
theorem relayed_nil {x : Nd} {nb mb : Nat} {cb : Dk} {pv rv fv : Value} {w : World} (hn : NAt w nb mb cb pv rv x) :
    Calls Tryz.prog 150 #[.slice none 0 0, fv] w fun e w' => ∃ o, e = .returned o ∧ Outs w w' o (x.relayed []).1 ∧ NAt w' nb mb cb pv rv (x.relayed []).2 ∧ Frm [mb] w w' := by
  have HN := hide hn
  clear hn
  go_enter Tryz.func150, Tryz.ntmps150
  go_wp2
  refine wp_loop_rounds 1 ?_
  rw [rounds_succ]
  go_wp2
  go_ret
  exact ⟨_, rfl, outs_nil _ _, unhide HN, Frm.refl _ _⟩
theorem relayed_any (l : List Rel) {x : Nd} (hx : NdOk x) {nb mb : Nat} {cb : Dk} {xb : Nat} {pv rv v : Value} {w : World} {base : Nat} (hn : NAt w nb mb cb pv rv x) (hxb : w.heap[xb]? = some (.cells #[.pointer (some ⟨nb, 0, none⟩)] 79 (0, 0))) (hv : w.ownsRow base 161 5 v l.length (l.flatMap relC)) (hl : l.length ≤ 1000) :
    Calls Tryz.prog 150 #[v, .func (.func 151) #[] #[.pointer (some ⟨xb, 0, none⟩)]] w fun e w' => ∃ o, e = .returned o ∧ Outs w w' o (x.relayed l).1 ∧ NAt w' nb mb cb pv rv (x.relayed l).2 ∧ Frm [mb] w w' := by
  have hv0 := hv
  rcases hv.2 with ⟨rfl, h0⟩ | ⟨b, cap, cur, rfl, hb, hg, _⟩
  · obtain rfl : l = [] := List.length_eq_zero_iff.1 h0
    exact relayed_nil hn
  · refine relayed_at l hx b 0 cap hn hxb (lt_blk hg) (fun e => ?_) hl (rowR hv0)
    obtain ⟨es, c, hm⟩ := map_blk hn.map
    rw [e, hm] at hg; cases hg
end Go.Proofs.YtnneljcbelgoeaaGreatDoor.wire
/- What a node does for an Ack (P7). -/
namespace Go.Proofs.YtnneljcbelgoeaaGreatDoor.wire
open Go.RowKit Go.Maps

theorem itsB_eq (m : M6) (r : Rel) : itsB m r = ((r.tgt == m.tgt) && (r.num == m.seq)) := by
  unfold itsB
  cases h1 : (r.tgt == m.tgt) <;> cases h2 : (r.num == m.seq) <;> simp_all
set_option maxHeartbeats 1000000 in
set_option maxRecDepth 100000 in
theorem its_any (m : M6) (r : Rel) {W : World} {b : Nat} {u0 u1 u2 u5 : Value} (hb : W.heap[b]? = some (.cells #[u0, u1, u2, .int .i64 m.seq, .int .i64 m.tgt, u5] 68 (0, 0))) :
    Calls Tryz.prog 149 (#[] ++ #[.agg #[.int .i64 r.tgt, .int .i64 r.num, .int .i64 r.asker, .int .i64 r.under, .int .i64 r.till]] ++ #[.pointer (some ⟨b, 0, none⟩)]) W fun e w' => e = .returned (.bool (itsB m r)) ∧ Below W.heap.size W w' := by
  have s3 := cell_at hb 3
  have s4 := cell_at hb 4
  have hlt := lt_blk hb
  simp only [List.getElem?_toArray, List.getElem?_cons_zero, List.getElem?_cons_succ] at s3 s4
  rw [itsB_eq]
  show Calls Tryz.prog 149 #[.agg #[.int .i64 r.tgt, .int .i64 r.num, .int .i64 r.asker, .int .i64 r.under, .int .i64 r.till], .pointer (some ⟨b, 0, none⟩)] W _
  clear hb
  cases h1 : (r.tgt == m.tgt)
  all_goals cases h2 : (r.num == m.seq)
  all_goals
    go_enter Tryz.func149, Tryz.ntmps149
    go_wp2
    go_ret
    exact ⟨rfl, (Below.refl _ _).alloc (Nat.le_refl _) _⟩
def ackB (x : Nd) (m : M6) : Nd := { x with pack := if x.ptgt = m.tgt ∧ x.pnum = m.seq then true else x.pack }
/-- The relays are another list. -/
theorem NAt.setRels {W : World} {nb mb : Nat} {cb : Dk} {pv rv : Value} {x : Nd} (h : NAt W nb mb cb pv rv x) {rv' : Value} {l : List Rel} (hp : W.ownsRow 0 161 5 rv' l.length (l.flatMap relC)) :
    NAt (W.setCell ⟨nb, 14, none⟩ rv') nb mb cb pv rv' { x with rels := l } ∧ Frm [nb] W (W.setCell ⟨nb, 14, none⟩ rv') := by
  have hf : Frm [nb] W (W.setCell ⟨nb, 14, none⟩ rv') := by
    have hb := (Below.refl 0 W).setCell (p := ⟨nb, 14, none⟩) (Nat.zero_le _) rv'
    exact ⟨hb.os, hb.tape, hb.output, hb.size, fun k _ hk => heap_setCell_other W ⟨nb, 14, none⟩ k rv' (by simpa using hk)⟩
  refine ⟨⟨?_, map_frm h.map hf (by simpa using h.mb_nb), ?_, h.pass.frm hf (fun k hk => by simpa using (h.pass_ne hk).1), ?_, h.draw_frm hf (by simp)⟩, hf⟩
  · rw [heap_setCell_same W nb 14 _ _ rv' h.blk]; rfl
  · obtain ⟨s, r, hc⟩ := h.chan
    exact ⟨s, r, (hf.block cb h.lt_cb (by simpa using h.cb_nb)).trans hc⟩
  · refine own_frm hp hf (fun k hk => ?_)
    obtain ⟨cs, hb⟩ := own_blk hp hk
    simp only [List.mem_cons, List.not_mem_nil, or_false]
    intro e
    rw [e, h.blk] at hb; cases hb
theorem relay_ok {x : Nd} (hx : NdOk x) (b : Bool) {l : List Rel} (hl : l.length ≤ 4) : NdOk { x with pack := b, rels := l } :=
  ⟨hx.cfg, hx.rise, hx.len, hx.keys, hx.sends, hx.self, hx.evs, hl, hx.pass⟩
set_option maxHeartbeats 1000000 in
set_option maxRecDepth 100000 in
theorem ack_any {x : Nd} (hx : NdOk x) (m : M6) (hk : m.kind = 2) : DeedOk 123 x m := by
  intro nb mb cb pv rv v W hn hv
  obtain ⟨ao, cap, rfl⟩ := hv.form
  clear hv
  have e1 : x.deed m = x.takeAck m := by simp [Nd.deed, hk]
  rw [e1]
  clear e1 hk
  obtain ⟨rao, rcap, hrv⟩ := own_form hn.rel
  subst hrv
  have hb1 : Below W.heap.size W ((W.alloc (.cells #[.pointer (some ⟨nb, 0, none⟩)] 79)).alloc (.cells #[.int .i64 m.kind, .int .i64 m.frm, .int .i64 m.inc, .int .i64 m.seq, .int .i64 m.tgt, .slice ao m.ups.length cap] 68)) := ((Below.refl _ _).alloc (Nat.le_refl _) _).alloc (by simp) _
  have hn1 := hn.below hb1
  have HB1 := hide hb1
  have HN := hide hn
  have HX := hide hx
  have bx : ((W.alloc (.cells #[.pointer (some ⟨nb, 0, none⟩)] 79)).alloc (.cells #[.int .i64 m.kind, .int .i64 m.frm, .int .i64 m.inc, .int .i64 m.seq, .int .i64 m.tgt, .slice ao m.ups.length cap] 68)).heap[W.heap.size]? = some (.cells #[.pointer (some ⟨nb, 0, none⟩)] 79 (0, 0)) := (Below.heap_alloc _ _ _ (by simp)).trans (heap_alloc_new W _)
  have bm : ((W.alloc (.cells #[.pointer (some ⟨nb, 0, none⟩)] 79)).alloc (.cells #[.int .i64 m.kind, .int .i64 m.frm, .int .i64 m.inc, .int .i64 m.seq, .int .i64 m.tgt, .slice ao m.ups.length cap] 68)).heap[W.heap.size + 1]? = some (.cells #[.int .i64 m.kind, .int .i64 m.frm, .int .i64 m.inc, .int .i64 m.seq, .int .i64 m.tgt, .slice ao m.ups.length cap] 68 (0, 0)) := by
    have := heap_alloc_new (W.alloc (.cells #[.pointer (some ⟨nb, 0, none⟩)] 79)) (.cells #[.int .i64 m.kind, .int .i64 m.frm, .int .i64 m.inc, .int .i64 m.seq, .int .i64 m.tgt, .slice ao m.ups.length cap] 68)
    simpa using this
  have HBX := hide bx
  have HBM := hide bm
  have c9 := hn.c_ptgt
  have c10 := hn.c_pnum
  have f11 := free_at hn.blk 13
  have c11 := hn.c_pack
  have c12 := hn.c_rels
  have HN1 := hide hn1
  have hlt := hn.lt
  clear hn hx hb1 hn1 bx bm
  have hne : W.heap.size ≠ nb := by omega
  have hne' : nb ≠ W.heap.size := by omega
  have hcase : ((x.ptgt == m.tgt) = true ∧ (x.pnum == m.seq) = true) ∨ (x.ptgt == m.tgt) = false ∨ ((x.ptgt == m.tgt) = true ∧ (x.pnum == m.seq) = false) := by
    cases (x.ptgt == m.tgt) <;> cases (x.pnum == m.seq) <;> simp
  rcases hcase with h1 | h1 | h1
  all_goals
    have H12 := hide h1
    try obtain ⟨h1, h2⟩ := h1
    go_enter Tryz.func123, Tryz.ntmps123
    go_wp2
    go_quiet (fail)
    go_wp2_with fail
    first
      | (
        have hs := (unhide HN1).drewN nq |>.set 13 (.bool true) (x' := { x with pack := true }) rfl rfl rfl rfl rfl
        have hy : ackB x m = { x with pack := true } := by simp only [ackB]; rw [if_pos (by have := unhide H12; simpa using this)]
        have HNA : Hid (NAt _ nb mb cb pv (.slice rao x.rels.length rcap) (ackB x m)) := hide (by rw [hy]; exact hs.1)
        have HFA := hide ((Frm.of_below (S := [nb]) (bdrewN (unhide HB1) nq) (Nat.le_refl _)).trans hs.2 (by simp))
        have HXA := hide ((hs.2.block W.heap.size (by simp; omega) (by simp; omega)).trans (unhide HBX))
        have HMA := hide ((hs.2.block (W.heap.size + 1) (by simp) (by simp; omega)).trans (unhide HBM))
        clear hs hy
        generalize ((((W.alloc (.cells #[.pointer (some ⟨nb, 0, none⟩)] 79)).alloc (.cells #[.int .i64 m.kind, .int .i64 m.frm, .int .i64 m.inc, .int .i64 m.seq, .int .i64 m.tgt, .slice ao m.ups.length cap] 68))).drewN nq).setCell ⟨nb, 13, none⟩ (.bool true) = wA at HNA HFA HXA HMA ⊢)
      | (
        have hy : ackB x m = x := by simp only [ackB]; rw [if_neg (by intro h; have := unhide H12; simp_all)]
        have HNA : Hid (NAt _ nb mb cb pv (.slice rao x.rels.length rcap) (ackB x m)) := hide (by rw [hy]; exact (unhide HN1).drewN nq)
        have HFA := hide (Frm.of_below (S := [nb]) (bdrewN (unhide HB1) nq) (Nat.le_refl _))
        have HXA : Hid (((((W.alloc (.cells #[.pointer (some ⟨nb, 0, none⟩)] 79)).alloc (.cells #[.int .i64 m.kind, .int .i64 m.frm, .int .i64 m.inc, .int .i64 m.seq, .int .i64 m.tgt, .slice ao m.ups.length cap] 68))).drewN nq).heap[W.heap.size]? = _) := HBX
        have HMA : Hid (((((W.alloc (.cells #[.pointer (some ⟨nb, 0, none⟩)] 79)).alloc (.cells #[.int .i64 m.kind, .int .i64 m.frm, .int .i64 m.inc, .int .i64 m.seq, .int .i64 m.tgt, .slice ao m.ups.length cap] 68))).drewN nq).heap[W.heap.size + 1]? = _) := HBM
        clear hy
        generalize ((((W.alloc (.cells #[.pointer (some ⟨nb, 0, none⟩)] 79)).alloc (.cells #[.int .i64 m.kind, .int .i64 m.frm, .int .i64 m.inc, .int .i64 m.seq, .int .i64 m.tgt, .slice ao m.ups.length cap] 68))).drewN nq) = wA at HNA HFA HXA HMA ⊢)
    have hlA : W.heap.size + 1 < wA.heap.size := lt_blk (unhide HMA)
    clear c9 c10 f11 c11 c12 HN1 HB1 HBX HBM h1 H12
    try clear h2
    have hK := keepR_any x.rels (itsB m) 149 #[] #[.pointer (some ⟨W.heap.size + 1, 0, none⟩)] (unhide HNA).rel (by have := (unhide HX).rels; omega) (enters_of Tryz.func149 (by kernel_rfl) rfl) (fun r W' hb => its_any m r ((hb.block _ hlA).trans (unhide HMA)))
    refine hK.mono ?_
    clear hK
    rintro e w2 ⟨v2, rfl, ho2, hb2⟩
    have HO2 := hide ho2
    have hn2 := (unhide HNA).below hb2
    have HN2 := hide hn2
    have HF2 := hide ((unhide HFA).step hb2)
    have HX2 := hide ((hb2.block W.heap.size (by omega)).trans (unhide HXA))
    have HM2 := hide ((hb2.block (W.heap.size + 1) hlA).trans (unhide HMA))
    have hs2 : W.heap.size + 1 < w2.heap.size := Nat.lt_of_lt_of_le hlA hb2.size
    have hA2 := hb2.size
    have p0 := cell_at (unhide HX2) 0
    have p12 := hn2.c_rels
    have pf := free_at hn2.blk 14
    have HD := hide (dropR_any x.rels (itsB m) 149 #[] #[.pointer (some ⟨W.heap.size + 1, 0, none⟩)] (w := w2.drew) hn2.rel.drew (by have := (unhide HX).rels; omega) (enters_of Tryz.func149 (by kernel_rfl) rfl) (fun r W' hb => its_any m r ((hb.block _ hs2).trans (unhide HM2))))
    simp only [List.getElem?_toArray, List.getElem?_cons_zero] at p0
    clear ho2 hb2 hn2
    go_wp2_with fail
    go_region_with
      (refine (unhide HD).mono ?_; rintro e w3 ⟨v3, rfl, ho3, hb30⟩; obtain ⟨ao3, cap3, rfl⟩ := own_form ho3; have hb3 : Below w2.heap.size w2 w3 := ⟨hb30.os, hb30.tape, hb30.output, hb30.size, hb30.block⟩; have p0_3 := (hb3.cell (p := ⟨W.heap.size, 0, none⟩) (show W.heap.size < w2.heap.size by omega)).trans p0; have p12_3 := (hb3.cell (p := ⟨nb, 14, none⟩) (show nb < w2.heap.size by omega)).trans p12; have pf_3 := (hb3.frozen (p := ⟨nb, 14, none⟩) (show nb < w2.heap.size by omega)).trans pf; clear hb30)
    all_goals
     clear HD p0_3 p12_3 pf_3
     have hn3 := (unhide HN2).below (W' := w3) hb3
     have HS3 := hide (hn3.setRels (own_mono ho3 (Nat.zero_le _)))
     have HO3 := hide ho3
     have HF3 := hide ((unhide HF2).step hb3)
     have HX3 := hide ((hb3.block W.heap.size (show W.heap.size < w2.heap.size by omega)).trans (unhide HX2))
     have HO23 := hide (own_below2 (unhide HO2) (w' := w3) hb3)
     have hs3 : w2.heap.size ≤ w3.heap.size := hb3.size
     clear hn3 ho3 hb3 p0 p12 pf HN2 HF2 HX2 HM2 HO2
     go_wp2_with fail
     obtain ⟨Y, hY⟩ : ∃ Y : Nd, Y = { ackB x m with rels := x.rels.filter (fun r => !(itsB m r)) } := ⟨_, rfl⟩
     have hYok : NdOk Y := by rw [hY]; exact relay_ok (unhide HX) _ (Nat.le_trans (List.length_filter_le _ _) (unhide HX).rels)
     have hE : x.takeAck m = Y.relayed (x.rels.filter (itsB m)) := by rw [hY]; rfl
     have HE := hide hE
     have hs4 := unhide HS3
     rw [← hY] at hs4
     have HF4 := hide ((unhide HF3).trans hs4.2 (by simp))
     have hx4 := (hs4.2.block W.heap.size (by omega) (by simpa using hne)).trans (unhide HX3)
     have ho4 := own_frm (unhide HO23) hs4.2 (fun k hk => by
       obtain ⟨cs, hb'⟩ := own_blk (unhide HO23) hk
       simp only [List.mem_singleton]
       intro e
       subst e
       have := (unhide HNA).lt
       have := own_lt (unhide HO23) hk
       omega)
     have hR := relayed_any (x.rels.filter (itsB m)) hYok hs4.1 hx4 ho4 (Nat.le_trans (List.length_filter_le _ _) (by have := (unhide HX).rels; omega))
     refine hR.mono ?_
     clear hR ho4 hx4 hs4 hE
     rintro e w5 ⟨o, rfl, ho5, hn5, hf5⟩
     have HO5 := hide ho5
     have HN5 := hide hn5
     have HF5 := hide hf5
     clear ho5 hn5 hf5
     go_wp2
     go_ret
     rw [unhide HE]
     refine ⟨o, rfl, own_mono (unhide HO5) (unhide HF4).size, pv, _, unhide HN5, ?_, fun k hk => ?_⟩
     · exact ((Frm.refl _ W).trans (unhide HF4) (by simp [feet])).trans (unhide HF5) (by simp [feet])
     · simp only [feet, List.mem_cons, List.mem_append, Option.mem_toList] at hk ⊢
       rcases hk with h | h | h | h | h | h
       · exact .inl (.inl h)
       · exact .inl (.inr (.inl h))
       · exact .inl (.inr (.inr (.inl h)))
       · exact .inl (.inr (.inr (.inr (.inl h))))
       · exact .inr (Nat.le_trans (show W.heap.size ≤ w2.heap.size by omega) (own_lt (unhide HO3) h).1)
       · exact .inl (.inr (.inr (.inr (.inr (.inr h)))))
end Go.Proofs.YtnneljcbelgoeaaGreatDoor.wire
/- A tick: relays whose time is up (P9). -/
namespace Go.Proofs.YtnneljcbelgoeaaGreatDoor.wire
open Go.RowKit Go.Maps

set_option maxHeartbeats 1000000 in
set_option maxRecDepth 100000 in
theorem late_any {x : Nd} {nb mb : Nat} {cb : Dk} {pv rv : Value} {W : World} (hn : NAt W nb mb cb pv rv x) {p : Nat} (hp : W.heap[p]? = some (.cells #[.pointer (some ⟨nb, 0, none⟩)] 79 (0, 0))) (r : Rel) :
    Calls Tryz.prog 93 (#[] ++ #[.agg #[.int .i64 r.tgt, .int .i64 r.num, .int .i64 r.asker, .int .i64 r.under, .int .i64 r.till]] ++ #[.pointer (some ⟨p, 0, none⟩)]) W fun e w' => e = .returned (.bool (decide (r.till ≤ x.clock))) ∧ Below W.heap.size W w' := by
  have c0 := cell_at hp 0
  have c1 := hn.c_clock
  have l1 := hn.lt
  have l2 := lt_blk hp
  simp only [List.getElem?_toArray, List.getElem?_cons_zero] at c0
  show Calls Tryz.prog 93 #[.agg #[.int .i64 r.tgt, .int .i64 r.num, .int .i64 r.asker, .int .i64 r.under, .int .i64 r.till], .pointer (some ⟨p, 0, none⟩)] W _
  clear hn hp
  go_enter Tryz.func93, Tryz.ntmps93
  go_wp2
  go_quiet (fail)
  go_wp2
  go_ret
  exact ⟨rfl, bdrewN ((Below.refl _ _).alloc (Nat.le_refl _) _) _⟩
set_option maxHeartbeats 1000000 in
set_option maxRecDepth 100000 in
theorem endRelays_any {x : Nd} (hx : NdOk x) {nb mb : Nat} {cb : Dk} {pv rv : Value} {W : World} (hn : NAt W nb mb cb pv rv x) :
    Calls Tryz.prog 68 #[.pointer (some ⟨nb, 0, none⟩)] W fun e w' => e = .returned (.tuple #[]) ∧ NTo W w' nb mb cb pv rv x.endRelays := by
  obtain ⟨rao, rcap, hrv⟩ := own_form hn.rel
  subst hrv
  have hb1 : Below W.heap.size W (W.alloc (.cells #[.pointer (some ⟨nb, 0, none⟩)] 79)) := (Below.refl _ _).alloc (Nat.le_refl _) _
  have hn1 := hn.below hb1
  have bx : (W.alloc (.cells #[.pointer (some ⟨nb, 0, none⟩)] 79)).heap[W.heap.size]? = some (.cells #[.pointer (some ⟨nb, 0, none⟩)] 79 (0, 0)) := heap_alloc_new W _
  have hlt := hn.lt
  have HN1 := hide hn1
  have HB1 := hide hb1
  have p0 := cell_at bx 0
  have p12 := hn1.c_rels
  have pf := free_at hn1.blk 14
  have hrl := hx.rels
  have l1 := hn1.lt
  have l0 := lt_blk bx
  simp only [List.getElem?_toArray, List.getElem?_cons_zero] at p0
  have HD := hide (dropR_any x.rels (fun r => decide (r.till ≤ x.clock)) 93 #[] #[.pointer (some ⟨W.heap.size, 0, none⟩)] (w := (W.alloc (.cells #[.pointer (some ⟨nb, 0, none⟩)] 79)).drew) hn1.rel.drew (by omega) (enters_of Tryz.func93 (by kernel_rfl) rfl) (fun r W' hb => late_any (hn1.drew.below hb) ((hb.block _ (by simp)).trans bx) r))
  clear hn hx hb1 hn1 bx
  generalize hw1 : W.alloc (.cells #[.pointer (some ⟨nb, 0, none⟩)] 79) = w1 at HN1 HB1 p0 p12 pf l1 l0 HD
  go_enter Tryz.func68, Tryz.ntmps68
  go_wp2_with fail
  clear hw1
  go_region_with
    (refine (unhide HD).mono ?_; rintro e w3 ⟨v3, rfl, ho3, hb30⟩; obtain ⟨ao3, cap3, rfl⟩ := own_form ho3; have hb3 : Below w1.heap.size w1 w3 := ⟨hb30.os, hb30.tape, hb30.output, hb30.size, hb30.block⟩; have p0_3 := (hb3.cell (p := ⟨W.heap.size, 0, none⟩) l0).trans p0; have p12_3 := (hb3.cell (p := ⟨nb, 14, none⟩) l1).trans p12; have pf_3 := (hb3.frozen (p := ⟨nb, 14, none⟩) l1).trans pf; clear hb30)
  all_goals
    have hn3 := (unhide HN1).below (W' := w3) hb3
    have HS3 := hide (hn3.setRels (own_mono ho3 (Nat.zero_le _)))
    have HO3 := hide ho3
    have HB3 := hide ((unhide HB1).trans (hb3.mono (unhide HB1).size))
    have hz1 := (unhide HB1).size
    clear hn3 ho3 hb3 HD p0_3 p12_3 pf_3
    go_wp2
    go_end0
    obtain ⟨g1, g2⟩ := unhide HS3
    refine ⟨rfl, pv, _, g1, (Frm.of_below (S := feet nb mb cb pv (.slice rao x.rels.length rcap)) (unhide HB3) (Nat.le_refl _)).trans g2 (by simp [feet]), fun j hj => ?_⟩
    simp only [feet, List.mem_cons, List.mem_append, Option.mem_toList] at hj ⊢
    rcases hj with h | h | h | h | h | h
    · exact .inl (.inl h)
    · exact .inl (.inr (.inl h))
    · exact .inl (.inr (.inr (.inl h)))
    · exact .inl (.inr (.inr (.inr (.inl h))))
    · exact .inr (Nat.le_trans hz1 (own_lt (unhide HO3) h).1)
    · exact .inl (.inr (.inr (.inr (.inr (.inr h)))))
end Go.Proofs.YtnneljcbelgoeaaGreatDoor.wire
