import Derived.Test.YtnneljcbelgoeaaGreatDoorG47
import Derived.BigQuiet
import Derived.Deep.QuietTactic
/- gossiplaw's plays over nodes, whatever the kinds; Hears, Ticks. -/
namespace Go.Proofs.YtnneljcbelgoeaaGreatDoor.wire
open Go.RowKit Go.Maps
theorem infoOpV : (Tryz.prog.info? 28).map (fun i => (i.zero, i.size, i.bytes)) = some (some (.agg #[.int .i64 0, .int .i64 0, .int .i64 0, .int .i64 0, .int .i64 0, .int .i64 0, .int .i64 0, .string (bs [])]), 8, 72) := by kernel_rfl
theorem etyOp : Ety Tryz.prog 22 28 8 72 := ety_of Tryz.underlying22 infoOpV rfl (by omega) (by omega)
/-- What stands between two rounds of plays: the list that was made so far. -/
structure PG (w wr : World) (v : Value) (L : List Op8) : Prop where
  own : wr.ownsRow w.heap.size 28 8 v L.length (ocells L)
  below : Below w.heap.size w wr
theorem PG.push {w wr W1 W2 : World} {v v' : Value} {L : List Op8} (h : PG w wr v L) (hb : Below wr.heap.size wr W1) (hg : W1.grownBy W2 v.ownBlock) (o : Op8) (hown : W2.ownsRow w.heap.size 28 8 v' (L.length + 1) (ocells L ++ ocells [o])) : PG w W2 v' (L ++ [o]) := by
  refine ⟨by rw [ocells_append, List.length_append]; exact hown, ?_⟩
  have h1 := h.below.trans (hb.mono h.below.size)
  exact h1.grown hg h1.size (fun k e => (own_lt h.own e).1)
set_option maxRecDepth 100000 in
set_option maxHeartbeats 1000000 in
theorem vplays_any (l : List Op8) (v : Value) (w : World) (kb : Nat) (ks : List Int) (hks : ks.length ≤ 100) (hv : OpsAt w v l) (hl : l.length ≤ 9223372036854775807) (hs : ∀ o ∈ l, o.s.length ≤ 4611686018427387904) (ha : ∀ o ∈ l, (-9223372036854775808 ≤ o.a ∧ o.a ≤ 9223372036854775807) ∧ (-9223372036854775808 ≤ o.b ∧ o.b ≤ 9223372036854775807) ∧ -9223372036854775808 ≤ o.x ∧ o.x ≤ 9223372036854775807) (hkb : kb < w.heap.size) (hk : ∀ (i : Nat) (h : i < ks.length), w.cell? ⟨kb, i, none⟩ = some (.int .i64 ks[i])) (hg : w.cell? ⟨0, 0, none⟩ = some (.iface 207 (.agg #[.pointer (some ⟨1, 64, none⟩)]))) (hlt : 0 < w.heap.size) :
    Calls Tryz.prog 7 #[v, .slice (some ⟨kb, 0, none⟩) ks.length ks.length] w fun e w' => e = .returned (.bool true) ∧ Below w.heap.size w w' := by
  obtain ⟨ao, cap, rfl⟩ := hv.form
  have HV := hide hv
  have HG := hide hg
  have HK := hide hk
  have HS := hide (small_any l _ w hv hl hs)
  clear hv hg hk
  go_enter Tryz.func7, Tryz.ntmps7
  go_wp2_with fail
  refine (unhide HS).mono ?_
  rintro e w1 ⟨rfl, hb1⟩
  have HB1 := hide hb1
  clear hb1 HS
  cases hsm : smallB l
  · go_wp2
    go_ret
    exact ⟨rfl, unhide HB1⟩
  · have hsm' : l.length + bytesW l ≤ 16384 := by simpa [smallB] using hsm
    have hbs := hide (bytesW_le l)
    go_wp2
    go_loopw [6, 7] (fun lv i wr => ∃ (j : Nat) (L : List Op8), j ≤ l.length ∧ L.length ≤ j ∧ i = .int .i64 j ∧ PG w wr lv L ∧ ∀ o ∈ L, o ∈ l) (fun _ i _ => l.length - (intOf i).toNat)
    case atStart => exact ⟨0, [], Nat.zero_le _, Nat.le_refl _, rfl, ⟨World.ownsRow_nil _ _ _ _, unhide HB1⟩, fun o ho => by cases ho⟩
    case round =>
      obtain ⟨j, L, hj, hLj, rfl, hP, hL⟩ := hrel
      obtain ⟨xo, xc, hxf⟩ := own_form hP.own
      subst hxf
      by_cases hjl : j < l.length
      · have hji : (j : Int) < (l.length : Int) := by omega
        obtain ⟨b, off, rfl, hbl, hcs⟩ := ((unhide HV).below hP.below).elem (by omega)
        obtain ⟨c0, c1, c2, c3, c4, c5, c6, c7⟩ := hcs j hjl
        have hmem := List.getElem_mem hjl
        have HP := hide hP
        have HL := hide hL
        have HKR := hide (fun (i : Nat) (h : i < ks.length) => (hP.below.cell (p := ⟨kb, i, none⟩) hkb).trans (unhide HK i h))
        have hwz := hP.below.size
        have hkbr : kb < wr.heap.size := by omega
        generalize l[j] = o at c0 c1 c2 c3 c4 c5 c6 c7 hmem
        clear hcs hbl hP hL
        obtain ⟨kind, a, bb, c, d, e, x, S⟩ := o
        simp only at c0 c1 c2 c3 c4 c5 c6 c7
        rcases (show kind < 5 ∨ (¬ kind < 5 ∧ (kind == 7) = true) ∨ (¬ kind < 5 ∧ (kind == 7) = false ∧ (kind == 8) = true) ∨ (¬ kind < 5 ∧ (kind == 7) = false ∧ (kind == 8) = false ∧ (kind == 12) = true) ∨ (¬ kind < 5 ∧ (kind == 7) = false ∧ (kind == 8) = false ∧ (kind == 12) = false) by
          simp only [beq_iff_eq, beq_eq_false_iff_ne, ne_eq]
          omega) with n5 | ⟨n5, n7⟩ | ⟨n5, n7, n8⟩ | ⟨n5, n7, n8, n12⟩ | ⟨n5, n7, n8, n12⟩
        all_goals
          go_wp2
          go_loopw [9, 10] (fun inv jv wx => ∃ (β : Bool) (q : Nat), inv = .bool β ∧ q ≤ ks.length ∧ jv = .int .i64 q ∧ wx = wr) (fun _ jv _ => ks.length - (intOf jv).toNat)
          case atStart => exact ⟨_, 0, rfl, Nat.zero_le _, rfl, rfl⟩
          case round =>
            obtain ⟨β, q, rfl, hq, rfl, rfl⟩ := hrel
            by_cases hql : q < ks.length
            · have hqi : (q : Int) < (ks.length : Int) := by omega
              have kq := unhide HKR q hql
              generalize ks[q] = K at kq
              cases β
              all_goals
                go_wp2
                go_roundw
                case rel => exact ⟨_, q + 1, rfl, by omega, by go_num, by first | rfl | trivial⟩
                case measure => simp [intOf]; omega
            · cases β
              · go_wp2
                go_roundw
                case rel => exact ⟨j + 1, L, by omega, by omega, by go_num, unhide HP, unhide HL⟩
                case measure => simp [intOf]; omega
              · go_wp2_with (at_builtin; refine wpList_app rfl _ _ rfl etyOp w.heap.size rfl rfl ((unhide HP).own.alloc _) (Src.box (cs := ocells [⟨kind, a, bb, c, d, e, x, S⟩]) 8 1 1 (by exact heap_alloc_new _ _) (by rfl)) (ocells_one _) (by omega) (by simp; omega) ?_)
                intro v3 w3 hown3 hgrow3 _
                have hP3 := (unhide HP).push ((Below.refl _ _).alloc (Nat.le_refl _) _) hgrow3 ⟨kind, a, bb, c, d, e, x, S⟩ hown3
                obtain ⟨xo3, xc3, hxf3⟩ := own_form hP3.own
                have hlen3 : (L ++ [(⟨kind, a, bb, c, d, e, x, S⟩ : Op8)]).length = L.length + 1 := by simp
                rw [hlen3] at hxf3
                subst hxf3
                have HP3 := hide hP3
                clear hown3 hgrow3 hP3 hlen3 c0 c1 c2 c3 c4 c5 c6 c7
                go_wp2
                go_roundw
                case rel =>
                  refine ⟨j + 1, L ++ [⟨kind, a, bb, c, d, e, x, S⟩], by omega, by simp; omega, by go_num, unhide HP3, fun o ho => ?_⟩
                  simp only [List.mem_append, List.mem_singleton] at ho
                  rcases ho with ho | rfl
                  · exact unhide HL o ho
                  · exact hmem
                case measure => simp [intOf]; omega
      · have hPb := hP.below
        have HU := hide (vupTo_any L _ wr (opsAt_of_own hP.own) (by omega) (fun o ho => ⟨⟨(ha o (hL o ho)).1.1, (ha o (hL o ho)).1.2, (ha o (hL o ho)).2.1.1, (ha o (hL o ho)).2.1.2, by have := unhide hbs o (hL o ho); omega⟩, (ha o (hL o ho)).2.2.1, (ha o (hL o ho)).2.2.2⟩) ((hPb.cell (p := ⟨0, 0, none⟩) hlt).trans (unhide HG)) (by have := hPb.size; omega))
        have HPB := hide hPb
        clear hP hL hPb
        go_wp2_with fail
        refine (unhide HU).mono ?_
        rintro e w2 ⟨rfl, hb2⟩
        have HB2 := hide ((unhide HPB).trans (hb2.mono (unhide HPB).size))
        clear hb2 HU HPB
        go_wp2
        go_ret
        exact ⟨rfl, unhide HB2⟩
set_option maxRecDepth 100000 in
set_option maxHeartbeats 1000000 in
theorem hears_any (l : List Op8) (v : Value) (w : World) (hv : OpsAt w v l) (hl : l.length ≤ 9223372036854775807) (hs : ∀ o ∈ l, o.s.length ≤ 4611686018427387904) (ha : ∀ o ∈ l, (-9223372036854775808 ≤ o.a ∧ o.a ≤ 9223372036854775807) ∧ (-9223372036854775808 ≤ o.b ∧ o.b ≤ 9223372036854775807) ∧ -9223372036854775808 ≤ o.x ∧ o.x ≤ 9223372036854775807) (hg : w.cell? ⟨0, 0, none⟩ = some (.iface 207 (.agg #[.pointer (some ⟨1, 64, none⟩)]))) :
    Calls Tryz.prog 4 #[v] w fun e w' => e = .returned (.bool true) ∧ Below w.heap.size w w' := by
  have hlt : 0 < w.heap.size := by
    rcases Nat.eq_zero_or_pos w.heap.size with h0 | h
    · simp [World.cell?, h0] at hg
    · exact h
  have hB := (Below.refl w.heap.size w).alloc (Nat.le_refl _) (.cells #[.int .i64 5, .int .i64 9, .int .i64 10, .int .i64 11, .int .i64 13, .int .i64 14, .int .i64 16, .int .i64 17, .int .i64 18] 3)
  have hbx := heap_alloc_new w (.cells #[.int .i64 5, .int .i64 9, .int .i64 10, .int .i64 11, .int .i64 13, .int .i64 14, .int .i64 16, .int .i64 17, .int .i64 18] 3)
  have HP := hide (vplays_any l v (w.alloc (.cells #[.int .i64 5, .int .i64 9, .int .i64 10, .int .i64 11, .int .i64 13, .int .i64 14, .int .i64 16, .int .i64 17, .int .i64 18] 3)) w.heap.size [5, 9, 10, 11, 13, 14, 16, 17, 18] (by decide) (hv.below hB) hl hs ha (lt_of_block hbx) (fun i hi => by
    rw [cell_at hbx i]
    have : i < 9 := hi
    match i with
    | 0 | 1 | 2 | 3 | 4 | 5 | 6 | 7 | 8 => rfl) ((hB.cell (p := ⟨0, 0, none⟩) hlt).trans hg) (by have := hB.size; omega))
  have HB := hide hB
  clear hv hg hB hbx hs ha
  go_enter Tryz.func4, Tryz.ntmps4
  go_wp2_with fail
  refine (unhide HP).mono ?_
  rintro e w1 ⟨rfl, hb1⟩
  have HB1 := hide ((unhide HB).trans (hb1.mono (unhide HB).size))
  clear hb1 HP
  go_wp2
  go_ret
  exact ⟨rfl, unhide HB1⟩
set_option maxRecDepth 100000 in
set_option maxHeartbeats 1000000 in
theorem ticks_any (l : List Op8) (v : Value) (w : World) (hv : OpsAt w v l) (hl : l.length ≤ 9223372036854775807) (hs : ∀ o ∈ l, o.s.length ≤ 4611686018427387904) (ha : ∀ o ∈ l, (-9223372036854775808 ≤ o.a ∧ o.a ≤ 9223372036854775807) ∧ (-9223372036854775808 ≤ o.b ∧ o.b ≤ 9223372036854775807) ∧ -9223372036854775808 ≤ o.x ∧ o.x ≤ 9223372036854775807) (hg : w.cell? ⟨0, 0, none⟩ = some (.iface 207 (.agg #[.pointer (some ⟨1, 64, none⟩)]))) :
    Calls Tryz.prog 5 #[v] w fun e w' => e = .returned (.bool true) ∧ Below w.heap.size w w' := by
  have hlt : 0 < w.heap.size := by
    rcases Nat.eq_zero_or_pos w.heap.size with h0 | h
    · simp [World.cell?, h0] at hg
    · exact h
  have hB := (Below.refl w.heap.size w).alloc (Nat.le_refl _) (.cells #[.int .i64 9, .int .i64 11, .int .i64 13, .int .i64 14, .int .i64 15, .int .i64 16, .int .i64 17, .int .i64 18] 3)
  have hbx := heap_alloc_new w (.cells #[.int .i64 9, .int .i64 11, .int .i64 13, .int .i64 14, .int .i64 15, .int .i64 16, .int .i64 17, .int .i64 18] 3)
  have HP := hide (vplays_any l v (w.alloc (.cells #[.int .i64 9, .int .i64 11, .int .i64 13, .int .i64 14, .int .i64 15, .int .i64 16, .int .i64 17, .int .i64 18] 3)) w.heap.size [9, 11, 13, 14, 15, 16, 17, 18] (by decide) (hv.below hB) hl hs ha (lt_of_block hbx) (fun i hi => by
    rw [cell_at hbx i]
    have : i < 8 := hi
    match i with
    | 0 | 1 | 2 | 3 | 4 | 5 | 6 | 7 => rfl) ((hB.cell (p := ⟨0, 0, none⟩) hlt).trans hg) (by have := hB.size; omega))
  have HB := hide hB
  clear hv hg hB hbx hs ha
  go_enter Tryz.func5, Tryz.ntmps5
  go_wp2_with fail
  refine (unhide HP).mono ?_
  rintro e w1 ⟨rfl, hb1⟩
  have HB1 := hide ((unhide HB).trans (hb1.mono (unhide HB).size))
  clear hb1 HP
  go_wp2
  go_ret
  exact ⟨rfl, unhide HB1⟩
end Go.Proofs.YtnneljcbelgoeaaGreatDoor.wire
