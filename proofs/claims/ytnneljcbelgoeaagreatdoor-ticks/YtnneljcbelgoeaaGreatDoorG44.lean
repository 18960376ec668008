import Derived.Test.YtnneljcbelgoeaaGreatDoorG13
import Derived.Test.YtnneljcbelgoeaaGreatDoorG06
import Derived.Test.YtnneljcbelgoeaaGreatDoorG17
/- plain.Drain: events are received as long as there are any (P6). -/
namespace Go.Proofs.YtnneljcbelgoeaaGreatDoor.wire
open Go.RowKit Go.Maps Go.Conc
section
variable {P : Program} {b : Frame} {a : Act} {k : List Item} {cs : List Frame} {w : World}
/-- A part that returns, whatever stands behind it. -/
theorem lone_ret {fn : Func} {f : FuncId} {x : Code} {R : Ending → World → Prop} (hf : P.funcs[f]? = some fn) (hbf : b.fn = f) (hbk : b.kind = .normal) (h : x.wp P (fun e a' w' => e = .ret ∧ bodyPost P fn R e a' w') a w) :
    LoneTo P (fun g' w' => ∃ e fr, g' = G fr cs ∧ R e w' ∧ fr.fn = f ∧ fr.leaving P w' e) (G (b.at a (.code x :: k)) cs) w := by
  obtain ⟨e, a', w', ⟨rfl, hq⟩, harr⟩ := h b k cs
  obtain ⟨hd, v, hr, hR⟩ := hq
  obtain ⟨todo, hs⟩ := harr
  exact ⟨_, w', hs, .returned v, _, rfl, hR, hbf, rfl, hd, hbk, fn, hbf ▸ hf, hr⟩
end
theorem infoAKey : (Tryz.prog.info? 76).map (fun i => (i.zero, i.size, i.bytes)) = some (some (.agg #[.int .i64 0, .int .i64 0, .int .i64 0]), 3, 24) := by kernel_rfl
theorem etyAK : Ety Tryz.prog 46 76 3 24 := ety_of Tryz.underlying46 infoAKey rfl (by omega) (by omega)
theorem oneAK (a : K3) : ∀ u ∈ keyC a, u.oneCell' = true := by intro u hu; simp [keyC] at hu; rcases hu with rfl | rfl | rfl <;> rfl
theorem events_any {x : Nd} {nb mb : Nat} {cb : Dk} {pv rv : Value} {W : World} (hn : NAt W nb mb cb pv rv x) :
    Calls Tryz.prog 108 #[.pointer (some ⟨nb, 0, none⟩)] W fun e w' => e = .returned (.chan (some cb.c)) ∧ w' = W := by
  have c16 := hn.c_evs
  clear hn
  go_enter Tryz.func108, Tryz.ntmps108
  go_wp2
  go_ret
  exact ⟨rfl, rfl⟩
section
variable {P : Program} {R : Goroutine → World → Prop} {b : Frame} {a : Act} {k : List Item} {cs : List Frame} {w : World}
theorem lone_as {x y : Code} (h : x = y) (h' : LoneTo P R (G (b.at a (.code y :: k)) cs) w) : LoneTo P R (G (b.at a (.code x :: k)) cs) w := h ▸ h'
theorem lone_inLoop {c : Code} (h : LoneTo P R (G (b.at a (.code c :: .inLoop c :: k)) cs) w) : LoneTo P R (G (b.at a (.inLoop c :: k)) cs) w := LoneTo.step step_inLoop h
theorem lone_loop {c : Code} (h : LoneTo P R (G (b.at a (.code c :: .inLoop c :: k)) cs) w) : LoneTo P R (G (b.at a (.code (.loop c) :: k)) cs) w := LoneTo.step step_loop h
theorem lone_block {id : Nat} {c : Code} (h : LoneTo P R (G (b.at a (.code c :: .inBlock id :: k)) cs) w) : LoneTo P R (G (b.at a (.code (.block id c) :: k)) cs) w := LoneTo.step step_block h
theorem lone_inBlock {id : Nat} (h : LoneTo P R (G (b.at a k) cs) w) : LoneTo P R (G (b.at a (.inBlock id :: k)) cs) w := LoneTo.step step_inBlock h
theorem lone_skip (h : LoneTo P R (G (b.at a k) cs) w) : LoneTo P R (G (b.at a (.code .skip :: k)) cs) w := LoneTo.step step_skip h
theorem lone_cond {c : Operand} {x y : Code} (t : Bool) (ht : a.eval c = .bool t) (h : LoneTo P R (G (b.at a (.code (if t then x else y) :: k)) cs) w) : LoneTo P R (G (b.at a (.code (.cond c x y) :: k)) cs) w := LoneTo.step (step_cond ht) h
theorem lone_exit {id : Nat} {k' : List Item} (hk : exitTo id k = some k') (h : LoneTo P R (G (b.at a k') cs) w) : LoneTo P R (G (b.at a (.code (.exit id) :: k)) cs) w := LoneTo.step (step_exit hk) h
end
/-- What stands between two rounds: what was received, what is left. -/
structure DI (W wr : World) (nb mb : Nat) (cb : Dk) (pv rv : Value) (x : Nd) (v : Value) (L E : List K3) : Prop where
  at_ : NAt wr nb mb cb pv rv { x with evs := E }
  row : wr.ownsRow W.heap.size 76 3 v L.length (L.flatMap keyC)
  frm : Frm [cb.c] W wr
theorem DI.push {W w1 w2 wr : World} {nb mb : Nat} {cb : Dk} {pv rv : Value} {x : Nd} {v v' : Value} {L E : List K3} (h : DI W wr nb mb cb pv rv x v L E) (hb : Below wr.heap.size wr w1) (hg : w1.grownBy w2 v.ownBlock) (k : K3) (hown : w2.ownsRow W.heap.size 76 3 v' (L.length + 1) (L.flatMap keyC ++ keyC k)) : DI W w2 nb mb cb pv rv x v' (L ++ [k]) E := by
  have hf1 : Frm [] wr w1 := Frm.of_below hb (Nat.le_refl _)
  have hr1 : w1.ownsRow W.heap.size 76 3 v L.length (L.flatMap keyC) := own_below h.row hb
  have hn1 := h.at_.below hb
  have hf2 : Frm v.ownBlock.toList w1 w2 := Frm.of_grown hg (fun q e => .inl (by simp [e]))
  refine ⟨hn1.frm hf2 (fun q hq hm => ?_), by simpa using hown, ?_⟩
  · rw [Option.mem_toList] at hm
    obtain ⟨cs, hc⟩ := own_blk hr1 hm
    exact hn1.not_feet hc (by decide) (by decide) (by decide) (by decide) hq
  · refine (h.frm.trans (S' := []) hf1 (by simp)).trans hf2 (fun q hq => ?_)
    rw [Option.mem_toList] at hq
    exact .inr (own_lt h.row hq).1
/-- Behind it all. -/
def DEnd (W : World) (nb mb : Nat) (cb : Dk) (pv rv : Value) (x : Nd) (K E : List K3) (e : Ending) (w' : World) : Prop := ∃ o, e = .returned o ∧ DI W w' nb mb cb pv rv x o K E
set_option maxRecDepth 100000 in
set_option maxHeartbeats 2000000 in
theorem drain_loop {W : World} {nb mb : Nat} {cb : Dk} {pv rv : Value} {x : Nd} (most : Int) {b : Frame} (hbf : b.fn = 75) (hbk : b.kind = .normal) (cs : List Frame) (r0 r1 C D : Code) (hC : Tryz.f75.body = some (.seq r0 (.seq r1 (.seq (.block 0 (.loop C)) D)))) : ∀ (E L : List K3) (wr : World) (v a2 a3 a4 a6 a7 a8 a9 a10 a11 a12 a13 a14 a15 a16 a17 a18 a19 a20 a21 a22 : Value), L.length + E.length ≤ 8 → DI W wr nb mb cb pv rv x v L E →
    LoneTo Tryz.prog (fun g' w' => ∃ e fr, g' = G fr cs ∧ DEnd W nb mb cb pv rv x (L ++ E.take (most.toNat - L.length)) (E.drop (most.toNat - L.length)) e w' ∧ fr.fn = 75 ∧ fr.leaving Tryz.prog w' e) (G (b.at { tmps := #[.pointer (some ⟨nb, 0, none⟩), .int .i64 most, a2, a3, a4, v, a6, a7, a8, a9, a10, a11, a12, a13, a14, a15, a16, a17, a18, a19, a20, a21, a22], defers := [] } [.code C, .inLoop C, .inBlock 0, .code D]) cs) wr := by
  simp only [Tryz.f75, Option.some.injEq, Code.seq.injEq, Code.block.injEq, Code.loop.injEq] at hC
  obtain ⟨_, _, ⟨_, hC⟩, hD⟩ := hC
  have HCC := hide hC
  have HDD := hide hD
  clear hC hD
  intro E
  induction E with
  | nil =>
    intro L wr v a2 a3 a4 a6 a7 a8 a9 a10 a11 a12 a13 a14 a15 a16 a17 a18 a19 a20 a21 a22 hlen hDI
    obtain ⟨vo, vc, rfl, _⟩ := row_form hDI.row
    obtain ⟨s, r, hch⟩ := hDI.at_.chan
    have HI := hide hDI
    have HCH := hide hch
    clear hDI hch
    refine lone_as (unhide HCC).symm ?_
    refine lone_split (lone_seq ?_)
    go_wp2
    by_cases hlt : (L.length : Int) < most
    · refine lone_cond true (by simp [Act.eval, hlt]) ?_
      rw [if_pos rfl]
      refine lone_skip (lone_block (lone_seq ?_))
      go_wp2_with fail
      refine (events_any (unhide HI).at_).mono ?_
      rintro e w1 ⟨rfl, rfl⟩
      go_wp2
      refine lone_split ?_
      refine lone_recv_none (z := .agg #[.int .i64 0, .int .i64 0, .int .i64 0]) (by rw [hbk]; decide) rfl rfl (by simp [go_sem, execOp, rcase, Act.eval]) (unhide HCH) ?_
      go_wp2
      refine lone_block (lone_cond false (by simp [Act.eval]) ?_)
      rw [if_neg (by decide)]
      refine lone_ret Tryz.func75 hbf hbk ?_
      go_wp2
      go_ret
      exact ⟨_, rfl, unhide HI⟩
    · refine lone_cond false (by simp [Act.eval, hlt]) ?_
      rw [if_neg (by decide)]
      refine lone_exit (k' := [.code D]) rfl (lone_as (unhide HDD).symm ?_)
      refine lone_last Tryz.func75 hbf hbk (by rintro _ ⟨_, h, _⟩; cases h) ?_
      go_wp2
      go_ret
      exact ⟨_, rfl, unhide HI⟩
  | cons k E ih =>
    intro L wr v a2 a3 a4 a6 a7 a8 a9 a10 a11 a12 a13 a14 a15 a16 a17 a18 a19 a20 a21 a22 hlen hDI
    obtain ⟨vo, vc, rfl, _⟩ := row_form hDI.row
    obtain ⟨s, r, hch⟩ := hDI.at_.chan
    have HI := hide hDI
    have HCH := hide hch
    have HIH := hide ih
    have hwz := hDI.frm.size
    clear hDI hch ih
    simp only [List.length_cons] at hlen
    refine lone_as (unhide HCC).symm ?_
    refine lone_split (lone_seq ?_)
    go_wp2_with fail
    by_cases hlt : (L.length : Int) < most
    · refine lone_cond true (by simp [Act.eval, hlt]) ?_
      rw [if_pos rfl]
      refine lone_skip (lone_block (lone_seq ?_))
      go_wp2_with fail
      refine (events_any (unhide HI).at_).mono ?_
      rintro e w1 ⟨rfl, rfl⟩
      go_wp2_with fail
      refine lone_split ?_
      obtain ⟨n1, n2⟩ := (unhide HI).at_.event E (buf := (E.map kval).toArray) rfl s (r + 1)
      have e0 : ((List.map kval (k :: E)).toArray).getD 0 undef = kval k := by simp
      have e1 : ((List.map kval (k :: E)).toArray).extract 1 ((List.map kval (k :: E)).toArray).size = (E.map kval).toArray := by simp; exact List.take_of_length_le (by simp)
      refine lone_recv_some (z := .agg #[.int .i64 0, .int .i64 0, .int .i64 0]) (by rw [hbk]; decide) rfl rfl (by simp [go_sem, execOp, rcase, Act.eval]) (unhide HCH) (by simp) ?_
      rw [e0, e1]
      have hD2 : DI W (w1.setChan cb.c 8 (E.map kval).toArray false s (r + 1) false) nb mb cb pv rv x (.slice vo L.length vc) L E :=
        ⟨n1, own_frm (unhide HI).row n2 (fun q hq hm => by
          simp at hm
          subst hm
          obtain ⟨cs', hb'⟩ := own_blk (unhide HI).row hq
          rw [unhide HCH] at hb'
          cases hb'), (unhide HI).frm.trans n2 (fun j hj => .inl hj)⟩
      generalize w1.setChan cb.c 8 (E.map kval).toArray false s (r + 1) false = w2 at hD2 ⊢
      have H2 := hide hD2
      have hz2 := hD2.frm.size
      clear n1 n2 hD2 HI HCH e0 e1
      go_wp2
      refine lone_block (lone_cond true (by simp [Act.eval]) ?_)
      rw [if_pos rfl]
      refine lone_part ?_
      have hh1 := heap_alloc_new w2 (.cells #[.int .i64 k.id, .int .i64 k.inc, .int .i64 k.st] 76)
      go_wp2_with (at_builtin; refine wpList_app rfl _ _ rfl etyAK W.heap.size rfl rfl (own_below (unhide H2).row (((Below.refl _ _).alloc (Nat.le_refl _) _).alloc (by simp) _)) (Src.box (cs := keyC k) 3 1 1 (by have hh := heap_alloc_new (w2.alloc (.cells #[.int .i64 k.id, .int .i64 k.inc, .int .i64 k.st] 76)) (.cells #[.int .i64 k.id, .int .i64 k.inc, .int .i64 k.st] 76); rw [World.size_alloc] at hh; exact hh) (by rfl)) (oneAK k) (by omega) (by simp; omega) ?_)
      intro v3 w3 hown3 hgr3 hat3
      have hb3 : Below w2.heap.size w2 ((w2.alloc (.cells #[.int .i64 k.id, .int .i64 k.inc, .int .i64 k.st] 76)).alloc (.cells #[.int .i64 k.id, .int .i64 k.inc, .int .i64 k.st] 76)) := ((Below.refl _ _).alloc (Nat.le_refl _) _).alloc (by simp) _
      have hD3 := (unhide H2).push hb3 hgr3 k hown3
      obtain ⟨vo3, vc3, hv3, _⟩ := row_form hD3.row
      subst hv3
      have hgo := unhide HIH (L ++ [k]) w3 _ a2 a3 a4 (.pointer (some ⟨w2.heap.size, 0, none⟩)) (.slice vo L.length vc) (.int .i64 L.length) (.int .i64 most) (.bool true) (.pointer (some ⟨nb, 0, none⟩)) (.chan (some cb.c)) (.tuple #[.int .i64 0, .bool true, kval k]) (.int .i64 0) (.bool true) a16 (kval k) (.slice vo L.length vc) (kval k) (.slice (some ⟨w2.heap.size + 1, 0, none⟩) 1 1) (.slice vo3 (L ++ [k]).length vc3) a22 (by simp; omega) hD3
      have HGO := hide hgo
      clear hgo hD3 hown3 hgr3 hat3 hh1 H2
      go_wp2
      refine lone_inBlock (lone_inBlock (lone_inLoop ?_))
      have e2 : most.toNat - L.length = (most.toNat - (L.length + 1)) + 1 := by omega
      have hgo := unhide HGO
      simp only [List.length_append, List.length_cons, List.length_nil, Nat.zero_add, List.append_assoc, List.cons_append, List.nil_append] at hgo
      rw [e2]
      simp only [List.take_succ_cons, List.drop_succ_cons]
      exact hgo
    · refine lone_cond false (by simp [Act.eval, hlt]) ?_
      rw [if_neg (by decide)]
      refine lone_exit (k' := [.code D]) rfl (lone_as (unhide HDD).symm ?_)
      refine lone_last Tryz.func75 hbf hbk (by rintro _ ⟨_, h, _⟩; cases h) ?_
      have hm0 : most.toNat - L.length = 0 := by omega
      rw [hm0]
      simp only [List.take_zero, List.append_nil, List.drop_zero]
      go_wp2
      go_ret
      exact ⟨_, rfl, unhide HI⟩
set_option maxRecDepth 100000 in
set_option maxHeartbeats 1000000 in
/-- Drain (P6). -/
theorem drain_any {x : Nd} (hx : x.evs.length ≤ 8) {nb mb : Nat} {cb : Dk} {pv rv : Value} {W : World} (hn : NAt W nb mb cb pv rv x) (most : Int) :
    Calls Tryz.prog 75 #[.pointer (some ⟨nb, 0, none⟩), .int .i64 most] W fun e w' => ∃ o, e = .returned o ∧ w'.ownsRow W.heap.size 76 3 o (x.evs.take most.toNat).length ((x.evs.take most.toNat).flatMap keyC) ∧ NTo W w' nb mb cb pv rv { x with evs := x.evs.drop most.toNat } := by
  have hD : DI W W nb mb cb pv rv x (.slice none 0 0) [] x.evs := ⟨hn, World.ownsRow_nil _ _ _ _, Frm.refl _ _⟩
  refine Calls.mono (R := fun e w' => DEnd W nb mb cb pv rv x ([] ++ x.evs.take (most.toNat - ([] : List K3).length)) (x.evs.drop (most.toNat - ([] : List K3).length)) e w') ?_ ?_
  · refine calls_lone Tryz.func75 rfl (by rintro _ ⟨_, h, _⟩; cases h) (fun cs b hbf hbk => ?_)
    simp only [Tryz.ntmps75, List.size_toArray, List.length_cons, List.length_nil, Nat.reduceAdd, Nat.reduceSub, Array.replicate_succ, Array.replicate_zero, List.push_toArray, List.append_toArray, List.nil_append, List.cons_append]
    have HL := hide (fun v a2 a3 a4 a6 a7 a8 a9 a10 a11 a12 a13 a14 a15 a16 a17 a18 a19 a20 a21 a22 h => drain_loop (W := W) (nb := nb) (mb := mb) (cb := cb) (pv := pv) (rv := rv) (x := x) most hbf hbk cs _ _ _ _ rfl x.evs [] W v a2 a3 a4 a6 a7 a8 a9 a10 a11 a12 a13 a14 a15 a16 a17 a18 a19 a20 a21 a22 (by simpa using hx) h)
    refine lone_seq ?_
    go_wp2_with fail
    refine lone_seq ?_
    go_wp2_with fail
    refine lone_split (lone_block (lone_loop ?_))
    exact unhide HL (.slice none 0 0) undef undef _ undef undef undef undef undef undef undef undef undef undef undef undef undef undef undef undef undef hD
  · rintro e w' ⟨o, rfl, hd⟩
    simp only [List.length_nil, Nat.sub_zero, List.nil_append] at hd
    exact ⟨o, rfl, hd.row, pv, rv, hd.at_, ⟨hd.frm.os, hd.frm.tape, hd.frm.output, hd.frm.size, fun k hk hnm => hd.frm.block k hk (fun hm => hnm (by simp at hm; subst hm; simp [feet]))⟩, fun k hk => .inl hk⟩
end Go.Proofs.YtnneljcbelgoeaaGreatDoor.wire
