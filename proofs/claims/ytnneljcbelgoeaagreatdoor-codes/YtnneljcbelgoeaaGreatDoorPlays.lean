/- gossiplaw's plays and Codes. -/
import Derived.Test.YtnneljcbelgoeaaGreatDoorOps
import Derived.BigQuiet
import Derived.Deep.QuietTactic
namespace Go.Proofs.YtnneljcbelgoeaaGreatDoor.wire
open Go.RowKit
theorem infoOp : (Tryz.prog.info? 28).map (fun i => (i.zero, i.size, i.bytes)) = some (some (.agg #[.int .i64 0, .int .i64 0, .int .i64 0, .int .i64 0, .int .i64 0, .int .i64 0, .int .i64 0, .string (bs [])]), 8, 72) := by kernel_rfl
/-- Is a step of this kind played by Codes? -/
def inK (k : Int) : Bool := decide (k < 5) || decide (k = 7) || decide (k = 8) || decide (k = 12) || decide (k = 5) || decide (k = 6)
theorem inK_played {k : Int} (h : inK k = true) : playedK k := by
  simp [inK] at h
  unfold playedK Op8.own
  omega
/-- What stands between two rounds of plays: the kinds' block kb, the list that was made so far. -/
structure PI (w wr : World) (v : Value) (L : List Op8) : Prop where
  own : wr.ownsRow w.heap.size 28 8 v L.length (ocells L)
  below : Below w.heap.size w wr
theorem PI.push {w wr W1 W2 : World} {v v' : Value} {L : List Op8} (h : PI w wr v L) (hb : Below wr.heap.size wr W1) (hg : W1.grownBy W2 v.ownBlock) (o : Op8) (hown : W2.ownsRow w.heap.size 28 8 v' (L.length + 1) (ocells L ++ ocells [o])) : PI w W2 v' (L ++ [o]) := by
  refine ⟨by rw [ocells_append, List.length_append]; exact hown, ?_⟩
  have h1 := h.below.trans (hb.mono h.below.size)
  exact h1.grown hg h1.size (fun k e => (own_lt h.own e).1)
set_option maxRecDepth 100000 in
set_option maxHeartbeats 1000000 in
theorem plays_any (l : List Op8) (v : Value) (w : World) (kb : Nat) (hv : OpsAt w v l) (hl : l.length ≤ 9223372036854775807) (hs : ∀ o ∈ l, o.s.length ≤ 4611686018427387904) (ha : ∀ o ∈ l, (-9223372036854775808 ≤ o.a ∧ o.a ≤ 9223372036854775807) ∧ -9223372036854775808 ≤ o.b ∧ o.b ≤ 9223372036854775807) (hkb : kb < w.heap.size) (hk0 : w.cell? ⟨kb, 0, none⟩ = some (.int .i64 5)) (hk1 : w.cell? ⟨kb, 1, none⟩ = some (.int .i64 6)) (hg : w.cell? ⟨0, 0, none⟩ = some (.iface 207 (.agg #[.pointer (some ⟨1, 64, none⟩)]))) (hlt : 0 < w.heap.size) :
    Calls Tryz.prog 7 #[v, .slice (some ⟨kb, 0, none⟩) 2 2] w fun e w' => e = .returned (.bool true) ∧ Below w.heap.size w w' := by
  obtain ⟨ao, cap, rfl⟩ := hv.form
  obtain ⟨ti, hti, hz0, hz1, hz2⟩ := info_parts infoOp
  have HV := hide hv
  have HG := hide hg
  have HS := hide (small_any l _ w hv hl hs)
  clear hv hg
  go_enter Tryz.func7, Tryz.ntmps7
  go_wp2_with fail
  refine (unhide HS).mono ?_
  rintro e w1 ⟨rfl, hb1⟩
  have HB1 := hide hb1
  clear hb1 HS
  cases hsm : smallB l
  · go_wp2
    go_ret
    exact ⟨rfl, unhide HB1⟩
  · have hsm' : l.length + bytesS l ≤ 16384 := by simpa [smallB] using hsm
    have hbs := hide (bytesS_le l)
    go_wp2
    go_loopw [6, 7] (fun lv i wr => ∃ (j : Nat) (L : List Op8), j ≤ l.length ∧ L.length ≤ j ∧ i = .int .i64 j ∧ PI w wr lv L ∧ ∀ o ∈ L, o ∈ l ∧ playedK o.kind) (fun _ i _ => l.length - (intOf i).toNat)
    case atStart => exact ⟨0, [], Nat.zero_le _, Nat.le_refl _, rfl, ⟨World.ownsRow_nil _ _ _ _, unhide HB1⟩, fun o ho => by cases ho⟩
    case round =>
      obtain ⟨j, L, hj, hLj, rfl, hP, hL⟩ := hrel
      obtain ⟨xo, xc, hxf⟩ := own_form hP.own
      subst hxf
      by_cases hjl : j < l.length
      · have hji : (j : Int) < (l.length : Int) := by omega
        obtain ⟨b, off, rfl, hbl, hcs⟩ := ((unhide HV).below hP.below).elem (by omega)
        obtain ⟨c0, c1, c2, c3, c4, c5, c6, c7⟩ := hcs j hjl
        have k0 : wr.cell? ⟨kb, 0, none⟩ = some (.int .i64 5) := (hP.below.cell (p := ⟨kb, 0, none⟩) hkb).trans hk0
        have k1 : wr.cell? ⟨kb, 1, none⟩ = some (.int .i64 6) := (hP.below.cell (p := ⟨kb, 1, none⟩) hkb).trans hk1
        have hmem := List.getElem_mem hjl
        have HP := hide hP
        have HL := hide hL
        generalize l[j] = o at c0 c1 c2 c3 c4 c5 c6 c7 hmem
        clear hcs hbl hP hL
        obtain ⟨kind, a, bb, c, d, e, x, S⟩ := o
        simp only at c0 c1 c2 c3 c4 c5 c6 c7
        have hcase : kind < 5 ∨ kind = 7 ∨ kind = 8 ∨ kind = 12 ∨ kind = 5 ∨ kind = 6 ∨ ¬ playedK kind := by unfold playedK Op8.own; omega
        rcases hcase with h5 | rfl | rfl | rfl | rfl | rfl | hno
        · go_wp2
          refine wp_loop_rounds 3 ?_
          rw [rounds_succ]
          go_wp2
          rw [rounds_succ]
          go_wp2
          rw [rounds_succ]
          go_wp2_with (at_builtin; refine wpList_append_lies _ rfl _ _ 22 rfl w.heap.size 28 ti (.agg #[.int .i64 0, .int .i64 0, .int .i64 0, .int .i64 0, .int .i64 0, .int .i64 0, .int .i64 0, .string (bs [])]) 8 72 Tryz.underlying22 hti hz0 hz1 hz2 rfl (by decide) (.slice xo L.length xc) L.length (ocells L) rfl ((unhide HP).own.alloc _) ⟨wr.heap.size, 0, none⟩ 1 1 (ocells [⟨kind, a, bb, c, d, e, x, S⟩]) rfl rfl (World.news_of_block (heap_alloc_new wr (.cells (ocells [⟨kind, a, bb, c, d, e, x, S⟩]).toArray 28))) (ocells_one _) (by omega) (by unfold maxLen; omega) (by omega) (by have := (unhide HP).below.size; simp; omega) (wr.heap.size + 1) (by simp) ?_)
          intro gg cp w3 hown3 hgrow3 _ _
          have HP3 := hide ((unhide HP).push ((Below.refl _ _).alloc (Nat.le_refl _) _) hgrow3 ⟨kind, a, bb, c, d, e, x, S⟩ hown3)
          clear hown3 hgrow3 c0 c1 c2 c3 c4 c5 c6 c7 HP
          go_wp2
          go_roundw
          case rel =>
            refine ⟨j + 1, L ++ [⟨kind, a, bb, c, d, e, x, S⟩], by omega, by simp; omega, by go_num, by simpa using unhide HP3, fun o ho => ?_⟩
            simp only [List.mem_append, List.mem_singleton] at ho
            rcases ho with ho | rfl
            · exact unhide HL o ho
            · exact ⟨hmem, by unfold playedK Op8.own; simp only; omega⟩
          case measure => simp [intOf]; omega
        · go_wp2
          refine wp_loop_rounds 3 ?_
          rw [rounds_succ]
          go_wp2
          rw [rounds_succ]
          go_wp2
          rw [rounds_succ]
          go_wp2_with (at_builtin; refine wpList_append_lies _ rfl _ _ 22 rfl w.heap.size 28 ti (.agg #[.int .i64 0, .int .i64 0, .int .i64 0, .int .i64 0, .int .i64 0, .int .i64 0, .int .i64 0, .string (bs [])]) 8 72 Tryz.underlying22 hti hz0 hz1 hz2 rfl (by decide) (.slice xo L.length xc) L.length (ocells L) rfl ((unhide HP).own.alloc _) ⟨wr.heap.size, 0, none⟩ 1 1 (ocells [⟨7, a, bb, c, d, e, x, S⟩]) rfl rfl (World.news_of_block (heap_alloc_new wr (.cells (ocells [⟨7, a, bb, c, d, e, x, S⟩]).toArray 28))) (ocells_one _) (by omega) (by unfold maxLen; omega) (by omega) (by have := (unhide HP).below.size; simp; omega) (wr.heap.size + 1) (by simp) ?_)
          intro gg cp w3 hown3 hgrow3 _ _
          have HP3 := hide ((unhide HP).push ((Below.refl _ _).alloc (Nat.le_refl _) _) hgrow3 ⟨7, a, bb, c, d, e, x, S⟩ hown3)
          clear hown3 hgrow3 c0 c1 c2 c3 c4 c5 c6 c7 HP
          go_wp2
          go_roundw
          case rel =>
            refine ⟨j + 1, L ++ [⟨7, a, bb, c, d, e, x, S⟩], by omega, by simp; omega, by go_num, by simpa using unhide HP3, fun o ho => ?_⟩
            simp only [List.mem_append, List.mem_singleton] at ho
            rcases ho with ho | rfl
            · exact unhide HL o ho
            · exact ⟨hmem, by simp [playedK, Op8.own]⟩
          case measure => simp [intOf]; omega
        · go_wp2
          refine wp_loop_rounds 3 ?_
          rw [rounds_succ]
          go_wp2
          rw [rounds_succ]
          go_wp2
          rw [rounds_succ]
          go_wp2_with (at_builtin; refine wpList_append_lies _ rfl _ _ 22 rfl w.heap.size 28 ti (.agg #[.int .i64 0, .int .i64 0, .int .i64 0, .int .i64 0, .int .i64 0, .int .i64 0, .int .i64 0, .string (bs [])]) 8 72 Tryz.underlying22 hti hz0 hz1 hz2 rfl (by decide) (.slice xo L.length xc) L.length (ocells L) rfl ((unhide HP).own.alloc _) ⟨wr.heap.size, 0, none⟩ 1 1 (ocells [⟨8, a, bb, c, d, e, x, S⟩]) rfl rfl (World.news_of_block (heap_alloc_new wr (.cells (ocells [⟨8, a, bb, c, d, e, x, S⟩]).toArray 28))) (ocells_one _) (by omega) (by unfold maxLen; omega) (by omega) (by have := (unhide HP).below.size; simp; omega) (wr.heap.size + 1) (by simp) ?_)
          intro gg cp w3 hown3 hgrow3 _ _
          have HP3 := hide ((unhide HP).push ((Below.refl _ _).alloc (Nat.le_refl _) _) hgrow3 ⟨8, a, bb, c, d, e, x, S⟩ hown3)
          clear hown3 hgrow3 c0 c1 c2 c3 c4 c5 c6 c7 HP
          go_wp2
          go_roundw
          case rel =>
            refine ⟨j + 1, L ++ [⟨8, a, bb, c, d, e, x, S⟩], by omega, by simp; omega, by go_num, by simpa using unhide HP3, fun o ho => ?_⟩
            simp only [List.mem_append, List.mem_singleton] at ho
            rcases ho with ho | rfl
            · exact unhide HL o ho
            · exact ⟨hmem, by simp [playedK, Op8.own]⟩
          case measure => simp [intOf]; omega
        · go_wp2
          refine wp_loop_rounds 3 ?_
          rw [rounds_succ]
          go_wp2
          rw [rounds_succ]
          go_wp2
          rw [rounds_succ]
          go_wp2_with (at_builtin; refine wpList_append_lies _ rfl _ _ 22 rfl w.heap.size 28 ti (.agg #[.int .i64 0, .int .i64 0, .int .i64 0, .int .i64 0, .int .i64 0, .int .i64 0, .int .i64 0, .string (bs [])]) 8 72 Tryz.underlying22 hti hz0 hz1 hz2 rfl (by decide) (.slice xo L.length xc) L.length (ocells L) rfl ((unhide HP).own.alloc _) ⟨wr.heap.size, 0, none⟩ 1 1 (ocells [⟨12, a, bb, c, d, e, x, S⟩]) rfl rfl (World.news_of_block (heap_alloc_new wr (.cells (ocells [⟨12, a, bb, c, d, e, x, S⟩]).toArray 28))) (ocells_one _) (by omega) (by unfold maxLen; omega) (by omega) (by have := (unhide HP).below.size; simp; omega) (wr.heap.size + 1) (by simp) ?_)
          intro gg cp w3 hown3 hgrow3 _ _
          have HP3 := hide ((unhide HP).push ((Below.refl _ _).alloc (Nat.le_refl _) _) hgrow3 ⟨12, a, bb, c, d, e, x, S⟩ hown3)
          clear hown3 hgrow3 c0 c1 c2 c3 c4 c5 c6 c7 HP
          go_wp2
          go_roundw
          case rel =>
            refine ⟨j + 1, L ++ [⟨12, a, bb, c, d, e, x, S⟩], by omega, by simp; omega, by go_num, by simpa using unhide HP3, fun o ho => ?_⟩
            simp only [List.mem_append, List.mem_singleton] at ho
            rcases ho with ho | rfl
            · exact unhide HL o ho
            · exact ⟨hmem, by simp [playedK, Op8.own]⟩
          case measure => simp [intOf]; omega
        · go_wp2
          refine wp_loop_rounds 3 ?_
          rw [rounds_succ]
          go_wp2
          rw [rounds_succ]
          go_wp2
          rw [rounds_succ]
          go_wp2_with (at_builtin; refine wpList_append_lies _ rfl _ _ 22 rfl w.heap.size 28 ti (.agg #[.int .i64 0, .int .i64 0, .int .i64 0, .int .i64 0, .int .i64 0, .int .i64 0, .int .i64 0, .string (bs [])]) 8 72 Tryz.underlying22 hti hz0 hz1 hz2 rfl (by decide) (.slice xo L.length xc) L.length (ocells L) rfl ((unhide HP).own.alloc _) ⟨wr.heap.size, 0, none⟩ 1 1 (ocells [⟨5, a, bb, c, d, e, x, S⟩]) rfl rfl (World.news_of_block (heap_alloc_new wr (.cells (ocells [⟨5, a, bb, c, d, e, x, S⟩]).toArray 28))) (ocells_one _) (by omega) (by unfold maxLen; omega) (by omega) (by have := (unhide HP).below.size; simp; omega) (wr.heap.size + 1) (by simp) ?_)
          intro gg cp w3 hown3 hgrow3 _ _
          have HP3 := hide ((unhide HP).push ((Below.refl _ _).alloc (Nat.le_refl _) _) hgrow3 ⟨5, a, bb, c, d, e, x, S⟩ hown3)
          clear hown3 hgrow3 c0 c1 c2 c3 c4 c5 c6 c7 HP
          go_wp2
          go_roundw
          case rel =>
            refine ⟨j + 1, L ++ [⟨5, a, bb, c, d, e, x, S⟩], by omega, by simp; omega, by go_num, by simpa using unhide HP3, fun o ho => ?_⟩
            simp only [List.mem_append, List.mem_singleton] at ho
            rcases ho with ho | rfl
            · exact unhide HL o ho
            · exact ⟨hmem, by simp [playedK, Op8.own]⟩
          case measure => simp [intOf]; omega
        · go_wp2
          refine wp_loop_rounds 3 ?_
          rw [rounds_succ]
          go_wp2
          rw [rounds_succ]
          go_wp2
          rw [rounds_succ]
          go_wp2_with (at_builtin; refine wpList_append_lies _ rfl _ _ 22 rfl w.heap.size 28 ti (.agg #[.int .i64 0, .int .i64 0, .int .i64 0, .int .i64 0, .int .i64 0, .int .i64 0, .int .i64 0, .string (bs [])]) 8 72 Tryz.underlying22 hti hz0 hz1 hz2 rfl (by decide) (.slice xo L.length xc) L.length (ocells L) rfl ((unhide HP).own.alloc _) ⟨wr.heap.size, 0, none⟩ 1 1 (ocells [⟨6, a, bb, c, d, e, x, S⟩]) rfl rfl (World.news_of_block (heap_alloc_new wr (.cells (ocells [⟨6, a, bb, c, d, e, x, S⟩]).toArray 28))) (ocells_one _) (by omega) (by unfold maxLen; omega) (by omega) (by have := (unhide HP).below.size; simp; omega) (wr.heap.size + 1) (by simp) ?_)
          intro gg cp w3 hown3 hgrow3 _ _
          have HP3 := hide ((unhide HP).push ((Below.refl _ _).alloc (Nat.le_refl _) _) hgrow3 ⟨6, a, bb, c, d, e, x, S⟩ hown3)
          clear hown3 hgrow3 c0 c1 c2 c3 c4 c5 c6 c7 HP
          go_wp2
          go_roundw
          case rel =>
            refine ⟨j + 1, L ++ [⟨6, a, bb, c, d, e, x, S⟩], by omega, by simp; omega, by go_num, by simpa using unhide HP3, fun o ho => ?_⟩
            simp only [List.mem_append, List.mem_singleton] at ho
            rcases ho with ho | rfl
            · exact unhide HL o ho
            · exact ⟨hmem, by simp [playedK, Op8.own]⟩
          case measure => simp [intOf]; omega
        · have hno' : ¬ kind < 5 ∧ ¬ kind = 7 ∧ ¬ kind = 8 ∧ ¬ kind = 12 ∧ ¬ kind = 5 ∧ ¬ kind = 6 := by unfold playedK Op8.own at hno; omega
          obtain ⟨n5, n7, n8, n12, m5, m6⟩ := hno'
          clear hno
          have e7 : (kind == 7) = false := beq_eq_false_iff_ne.2 n7
          have e8 : (kind == 8) = false := beq_eq_false_iff_ne.2 n8
          have e12 : (kind == 12) = false := beq_eq_false_iff_ne.2 n12
          have e5 : (kind == 5) = false := beq_eq_false_iff_ne.2 m5
          have e6 : (kind == 6) = false := beq_eq_false_iff_ne.2 m6
          go_wp2
          refine wp_loop_rounds 3 ?_
          rw [rounds_succ]
          go_wp2
          rw [rounds_succ]
          go_wp2
          rw [rounds_succ]
          go_wp2
          go_roundw
          case rel => exact ⟨j + 1, L, by omega, by omega, by go_num, unhide HP, unhide HL⟩
          case measure => simp [intOf]; omega
      · have HP := hide hP
        have HU := hide (upTo_any L (.slice xo L.length xc) wr (opsAt_of_own hP.own) (by omega) (fun o ho => ⟨⟨(ha o (hL o ho).1).1.1, (ha o (hL o ho).1).1.2, (ha o (hL o ho).1).2.1, (ha o (hL o ho).1).2.2, by have := unhide hbs o (hL o ho).1; omega⟩, (hL o ho).2⟩) ((hP.below.cell (p := ⟨0, 0, none⟩) hlt).trans (unhide HG)) (by have := hP.below.size; omega))
        clear hP hL
        go_wp2_with fail
        refine (unhide HU).mono ?_
        rintro e w2 ⟨rfl, hb2⟩
        have HB2 := hide ((unhide HP).below.trans (hb2.mono (unhide HP).below.size))
        clear hb2 HU HP
        go_wp2
        go_ret
        exact ⟨rfl, unhide HB2⟩
set_option maxRecDepth 100000 in
set_option maxHeartbeats 1000000 in
theorem codes_any (l : List Op8) (v : Value) (w : World) (hv : OpsAt w v l) (hl : l.length ≤ 9223372036854775807) (hs : ∀ o ∈ l, o.s.length ≤ 4611686018427387904) (ha : ∀ o ∈ l, (-9223372036854775808 ≤ o.a ∧ o.a ≤ 9223372036854775807) ∧ -9223372036854775808 ≤ o.b ∧ o.b ≤ 9223372036854775807) (hg : w.cell? ⟨0, 0, none⟩ = some (.iface 207 (.agg #[.pointer (some ⟨1, 64, none⟩)]))) :
    Calls Tryz.prog 3 #[v] w fun e w' => e = .returned (.bool true) ∧ Below w.heap.size w w' := by
  have hlt : 0 < w.heap.size := by
    rcases Nat.eq_zero_or_pos w.heap.size with h0 | h
    · simp [World.cell?, h0] at hg
    · exact h
  have hB := (Below.refl w.heap.size w).alloc (Nat.le_refl _) (.cells #[.int .i64 5, .int .i64 6] 3)
  have hbx := heap_alloc_new w (.cells #[.int .i64 5, .int .i64 6] 3)
  have HP := hide (plays_any l v (w.alloc (.cells #[.int .i64 5, .int .i64 6] 3)) w.heap.size (hv.below hB) hl hs ha (lt_of_block hbx) (cell_at hbx 0) (cell_at hbx 1) ((hB.cell (p := ⟨0, 0, none⟩) hlt).trans hg) (by have := hB.size; omega))
  have HB := hide hB
  clear hv hg hB hbx hs ha
  go_enter Tryz.func3, Tryz.ntmps3
  go_wp2_with fail
  refine (unhide HP).mono ?_
  rintro e w1 ⟨rfl, hb1⟩
  have HB1 := hide ((unhide HB).trans (hb1.mono (unhide HB).size))
  clear hb1 HP
  go_wp2
  go_ret
  exact ⟨rfl, unhide HB1⟩
end Go.Proofs.YtnneljcbelgoeaaGreatDoor.wire
