import Derived.Test.YtnneljcbelgoeaaGreatDoorG15
import Derived.Test.YtnneljcbelgoeaaGreatDoorG01
import Derived.Test.YtnneljcbelgoeaaGreatDoorG31
import Derived.BigRegion
import Derived.Deep.DrawnRows
/- gossiplaw's decoded. -/
namespace Go.Proofs.YtnneljcbelgoeaaGreatDoor.wire
open Go.RowKit
attribute [local go_sem ↓] Go.wp_at_zero Go.wp_at_succ
set_option maxRecDepth 100000 in
set_option maxHeartbeats 2000000 in
theorem decoded_yes (l : List UInt8) (w : World) (hl : l.length ≤ 20000) (hd : decB l = true) :
    Calls Tryz.prog 14 #[.string (bs l)] w fun e w' => ∃ vr va, e = .returned (.tuple #[mval (readM l) vr, va, .bool true]) ∧ w'.ownsRow w.heap.size 58 3 vr (readM l).ups.length (kcells (readM l).ups) ∧ w'.ownsRow w.heap.size 76 3 va (readM l).ups.length (kcells (readM l).ups) ∧ (readM l).ups.length ≤ 8 ∧ Below w.heap.size w w' := by
  have hlen8 : (readM l).ups.length ≤ 8 := by
    simp only [decB, Bool.and_eq_true] at hd
    exact whole_len hd.2
  have HD := hide hd
  clear hd
  go_enter Tryz.func14, Tryz.ntmps14
  go_wp2_with fail
  refine (gdecode_yes l _ (by unfold maxLen; omega) (unhide HD)).mono ?_
  rintro e w1 ⟨va, rfl, hown1, hb1⟩
  generalize hm : readM l = m at hlen8 hown1 ⊢
  have HM := hide hm
  clear hm
  obtain ⟨aa, ca, rfl⟩ := own_form hown1
  have hb0 : w1.heap[w.heap.size]? = some (.cells #[.int .i64 0, .int .i64 0, .int .i64 0, .int .i64 0, .int .i64 0, .slice none 0 0] 33 (0, 0)) := by rw [hb1.block _ (by simp)]; exact heap_alloc_new _ _
  have hB1 : Below w.heap.size w w1 := ((Below.refl _ _).alloc (Nat.le_refl _) _).trans (hb1.mono (by simp))
  have hz1 : w.heap.size < w1.heap.size := by have := hb1.size; simp at this; omega
  rw [World.size_alloc] at hown1
  have HO1 := hide hown1
  have HB0 := hide hb0
  have HB1 := hide hB1
  clear hown1 hb1 hb0 hB1
  simp only [mval]
  go_wp2_with fail
  refine (rdecode_yes l _ (unhide HD)).mono ?_
  rw [unhide HM]
  rintro e w2 ⟨vr, rfl, hown2, hb2⟩
  obtain ⟨ar, cr, rfl⟩ := own_form hown2
  have hA : w2.heap[w1.heap.size]? = some (.cells #[.int .i64 m.kind, .int .i64 m.frm, .int .i64 m.inc, .int .i64 m.seq, .int .i64 m.tgt, .slice aa m.ups.length ca] 68 (0, 0)) := by rw [hb2.block _ (by simp)]; exact heap_alloc_new _ _
  have hR0 : w2.heap[w.heap.size]? = some (.cells #[.int .i64 0, .int .i64 0, .int .i64 0, .int .i64 0, .int .i64 0, .slice none 0 0] 33 (0, 0)) := by rw [hb2.block _ (by simp; omega), Below.heap_alloc _ _ _ hz1]; exact unhide HB0
  have hown1' := own_below ((unhide HO1).alloc (.cells #[.int .i64 m.kind, .int .i64 m.frm, .int .i64 m.inc, .int .i64 m.seq, .int .i64 m.tgt, .slice aa m.ups.length ca] 68)) hb2
  have hB2 : Below w.heap.size w w2 := (unhide HB1).trans (((Below.refl _ _).alloc (unhide HB1).size _).trans (hb2.mono (by simp; omega)))
  have hz2 : w1.heap.size < w2.heap.size := by have := hb2.size; simp at this; omega
  rw [World.size_alloc] at hown2
  have hown2' := own_mono hown2 (show w.heap.size + 1 ≤ w1.heap.size + 1 by omega)
  generalize w1.heap.size = A at hA hz1 hz2 ⊢
  have HA := hide hA
  have HR0 := hide hR0
  have HO1' := hide hown1'
  have HO2' := hide hown2'
  have HB2 := hide hB2
  clear hA hR0 hown1' hown2 hown2' hB2 hb2 HO1 HB0 HB1
  simp only [mval]
  go_wp2_with fail
  refine (ltold_nil _).mono ?_
  rintro e w3 ⟨rfl, rfl⟩
  have a5 : (w2.alloc (.cells #[.int .i64 m.kind, .int .i64 m.frm, .int .i64 m.inc, .int .i64 m.seq, .int .i64 m.tgt, .slice ar m.ups.length cr] 33)).cell? ⟨A, 5, none⟩ = some (.slice aa m.ups.length ca) := by rw [World.cell?_alloc_lt _ _ _ (by simpa using hz2)]; exact cell_at (unhide HA) 5
  go_wp2_with fail
  clear a5
  have hka : KeysAt (w2.alloc (.cells #[.int .i64 m.kind, .int .i64 m.frm, .int .i64 m.inc, .int .i64 m.seq, .int .i64 m.tgt, .slice ar m.ups.length cr] 33)) (.slice aa m.ups.length ca) m.ups := (keysAt_of_own (unhide HO1')).below ((Below.refl _ _).alloc (Nat.le_refl _) _)
  have hkr : KeysAt (w2.alloc (.cells #[.int .i64 m.kind, .int .i64 m.frm, .int .i64 m.inc, .int .i64 m.seq, .int .i64 m.tgt, .slice ar m.ups.length cr] 33)) (.slice ar m.ups.length cr) m.ups := (rkeysAt_of_own (unhide HO2')).below ((Below.refl _ _).alloc (Nat.le_refl _) _)
  refine (lkeys_any m.ups _ _ _ hka hkr (by omega)).mono ?_
  clear hka hkr
  rintro e w4 ⟨rfl, nq, hw4⟩
  have hA4 : w4.heap[A]? = some (.cells #[.int .i64 m.kind, .int .i64 m.frm, .int .i64 m.inc, .int .i64 m.seq, .int .i64 m.tgt, .slice aa m.ups.length ca] 68 (0, 0)) := by
    rw [hw4]; show (w2.alloc _).heap[A]? = _; rw [Below.heap_alloc _ _ _ hz2]; exact unhide HA
  have hM4 : w4.heap[w2.heap.size]? = some (.cells #[.int .i64 m.kind, .int .i64 m.frm, .int .i64 m.inc, .int .i64 m.seq, .int .i64 m.tgt, .slice ar m.ups.length cr] 33 (0, 0)) := by
    rw [hw4]; exact heap_alloc_new _ _
  have hR4 : w4.heap[w.heap.size]? = some (.cells #[.int .i64 0, .int .i64 0, .int .i64 0, .int .i64 0, .int .i64 0, .slice none 0 0] 33 (0, 0)) := by
    rw [hw4]; show (w2.alloc _).heap[w.heap.size]? = _; rw [Below.heap_alloc _ _ _ (by omega)]; exact unhide HR0
  have hB4 : Below w.heap.size w w4 := by
    rw [hw4]; exact below_draws ((unhide HB2).alloc (by omega) _) _
  have hBB : Below w2.heap.size w2 w4 := by
    rw [hw4]; exact below_draws ((Below.refl _ _).alloc (Nat.le_refl _) _) _
  have hoa := own_below (unhide HO1') hBB
  have hor := own_below (unhide HO2') hBB
  generalize w2.heap.size = B at hM4 ⊢
  clear hw4 hBB
  have a0 : w4.cell? ⟨A, 0, none⟩ = some (.int .i64 m.kind) := cell_at hA4 0
  have a1 : w4.cell? ⟨A, 1, none⟩ = some (.int .i64 m.frm) := cell_at hA4 1
  have a2 : w4.cell? ⟨A, 2, none⟩ = some (.int .i64 m.inc) := cell_at hA4 2
  have a3 : w4.cell? ⟨A, 3, none⟩ = some (.int .i64 m.seq) := cell_at hA4 3
  have a4 : w4.cell? ⟨A, 4, none⟩ = some (.int .i64 m.tgt) := cell_at hA4 4
  have a5 : w4.cell? ⟨A, 5, none⟩ = some (.slice aa m.ups.length ca) := cell_at hA4 5
  have r0 : w4.cell? ⟨B, 0, none⟩ = some (.int .i64 m.kind) := cell_at hM4 0
  have r1 : w4.cell? ⟨B, 1, none⟩ = some (.int .i64 m.frm) := cell_at hM4 1
  have r2 : w4.cell? ⟨B, 2, none⟩ = some (.int .i64 m.inc) := cell_at hM4 2
  have r3 : w4.cell? ⟨B, 3, none⟩ = some (.int .i64 m.seq) := cell_at hM4 3
  have r4 : w4.cell? ⟨B, 4, none⟩ = some (.int .i64 m.tgt) := cell_at hM4 4
  have r5 : w4.cell? ⟨B, 5, none⟩ = some (.slice ar m.ups.length cr) := cell_at hM4 5
  have f0 : w4.cell? ⟨w.heap.size, 0, none⟩ = some (.int .i64 0) := cell_at hR4 0
  have f1 : w4.cell? ⟨w.heap.size, 1, none⟩ = some (.int .i64 0) := cell_at hR4 1
  have f2 : w4.cell? ⟨w.heap.size, 2, none⟩ = some (.int .i64 0) := cell_at hR4 2
  have f3 : w4.cell? ⟨w.heap.size, 3, none⟩ = some (.int .i64 0) := cell_at hR4 3
  have f4 : w4.cell? ⟨w.heap.size, 4, none⟩ = some (.int .i64 0) := cell_at hR4 4
  have f5 : w4.cell? ⟨w.heap.size, 5, none⟩ = some (.slice none 0 0) := cell_at hR4 5
  have fz : ∀ j, w4.frozen? ⟨w.heap.size, j, none⟩ = false := free_at hR4
  have e0 : (m.kind == m.kind) = true := by simp
  have e1 : (m.frm == m.frm) = true := by simp
  have e2 : (m.inc == m.inc) = true := by simp
  have e3 : (m.seq == m.seq) = true := by simp
  have e4 : (m.tgt == m.tgt) = true := by simp
  have HOA := hide hoa
  have HOR := hide hor
  have HB4 := hide hB4
  clear hA4 hM4 hR4 hoa hor hB4 HA HR0 HO1' HO2' HB2
  go_wp2_with fail
  go_region
  all_goals go_wp2
  all_goals
    refine bodyPost_ret (v := .tuple #[mval m (.slice ar m.ups.length cr), .slice aa m.ups.length ca, .bool true]) (by simp [results, Tryz.results14, go_sem, f0, f1, f2, f3, f4, f5, mval]) rfl ⟨.slice ar m.ups.length cr, .slice aa m.ups.length ca, by rw [unhide HM], ?_, ?_, ?_, ?_⟩
    · rw [unhide HM]
      exact own_mono (ownsRow_setCell_below (ownsRow_setCell_below (ownsRow_setCell_below (ownsRow_setCell_below (ownsRow_setCell_below (ownsRow_setCell_below (unhide HOR) (by simp) _) (by simp) _) (by simp) _) (by simp) _) (by simp) _) (by simp) _).drew (by omega)
    · rw [unhide HM]
      exact own_mono (ownsRow_setCell_below (ownsRow_setCell_below (ownsRow_setCell_below (ownsRow_setCell_below (ownsRow_setCell_below (ownsRow_setCell_below (unhide HOA) (by simp) _) (by simp) _) (by simp) _) (by simp) _) (by simp) _) (by simp) _).drew (by omega)
    · rw [unhide HM]; exact hlen8
    · exact (((((((unhide HB4).setCell (Nat.le_refl _) _).setCell (Nat.le_refl _) _).setCell (Nat.le_refl _) _).setCell (Nat.le_refl _) _).setCell (Nat.le_refl _) _).setCell (Nat.le_refl _) _).drew
set_option maxRecDepth 100000 in
set_option maxHeartbeats 2000000 in
theorem decoded_no (l : List UInt8) (w : World) (hl : l.length ≤ 20000) (hd : decB l = false) (hg : w.cell? ⟨0, 0, none⟩ = some (.iface 207 (.agg #[.pointer (some ⟨1, 64, none⟩)]))) :
    Calls Tryz.prog 14 #[.string (bs l)] w fun e w' => e = .returned (.tuple #[mval M6.zero (.slice none 0 0), .slice none 0 0, .bool true]) ∧ Below w.heap.size w w' := by
  have hlt : 0 < w.heap.size := by
    rcases Nat.eq_zero_or_pos w.heap.size with h0 | h
    · simp [World.cell?, h0] at hg
    · exact h
  have HG := hide hg
  have HD := hide hd
  clear hd hg
  go_enter Tryz.func14, Tryz.ntmps14
  go_wp2_with fail
  refine (gdecode_no l _ (by unfold maxLen; omega) (unhide HD)).mono ?_
  rintro e w1 ⟨rfl, hb1⟩
  have hb0 : w1.heap[w.heap.size]? = some (.cells #[.int .i64 0, .int .i64 0, .int .i64 0, .int .i64 0, .int .i64 0, .slice none 0 0] 33 (0, 0)) := by rw [hb1.block _ (by simp)]; exact heap_alloc_new _ _
  have hB1 : Below w.heap.size w w1 := ((Below.refl _ _).alloc (Nat.le_refl _) _).trans (hb1.mono (by simp))
  have hz1 : w.heap.size < w1.heap.size := by have := hb1.size; simp at this; omega
  have HB0 := hide hb0
  have HB1 := hide hB1
  clear hb1 hb0 hB1
  simp only [mval, M6.zero]
  go_wp2_with fail
  refine (rdecode_no l _ (by unfold maxLen; omega) (unhide HD)).mono ?_
  rintro e w2 ⟨rfl, hb2⟩
  have hA : w2.heap[w1.heap.size]? = some (.cells #[.int .i64 0, .int .i64 0, .int .i64 0, .int .i64 0, .int .i64 0, .slice none 0 0] 68 (0, 0)) := by rw [hb2.block _ (by simp)]; exact heap_alloc_new _ _
  have hR0 : w2.heap[w.heap.size]? = some (.cells #[.int .i64 0, .int .i64 0, .int .i64 0, .int .i64 0, .int .i64 0, .slice none 0 0] 33 (0, 0)) := by rw [hb2.block _ (by simp; omega), Below.heap_alloc _ _ _ hz1]; exact unhide HB0
  have hB2 : Below w.heap.size w w2 := (unhide HB1).trans (((Below.refl _ _).alloc (unhide HB1).size _).trans (hb2.mono (by simp; omega)))
  have hz2 : w1.heap.size < w2.heap.size := by have := hb2.size; simp at this; omega
  generalize w1.heap.size = A at hA hz1 hz2 ⊢
  have HA := hide hA
  have HR0 := hide hR0
  have HB2 := hide hB2
  clear hA hR0 hB2 hb2 HB0 HB1
  simp only [mval, M6.zero]
  go_wp2_with fail
  refine (ltold_two _ (by rw [World.cell?_alloc_lt _ _ ⟨0, 0, none⟩ (by simp; omega), (unhide HB2).cell (p := ⟨0, 0, none⟩) hlt]; exact unhide HG)).mono ?_
  rintro e w3 ⟨rfl, hb3⟩
  have hA3 : w3.heap[A]? = some (.cells #[.int .i64 0, .int .i64 0, .int .i64 0, .int .i64 0, .int .i64 0, .slice none 0 0] 68 (0, 0)) := by rw [hb3.block _ (by simp; omega), Below.heap_alloc _ _ _ hz2]; exact unhide HA
  have hM3 : w3.heap[w2.heap.size]? = some (.cells #[.int .i64 0, .int .i64 0, .int .i64 0, .int .i64 0, .int .i64 0, .slice none 0 0] 33 (0, 0)) := by rw [hb3.block _ (by simp)]; exact heap_alloc_new _ _
  have hR3 : w3.heap[w.heap.size]? = some (.cells #[.int .i64 0, .int .i64 0, .int .i64 0, .int .i64 0, .int .i64 0, .slice none 0 0] 33 (0, 0)) := by rw [hb3.block _ (by simp; omega), Below.heap_alloc _ _ _ (by omega)]; exact unhide HR0
  have hB3 : Below w.heap.size w w3 := (unhide HB2).trans (((Below.refl _ _).alloc (unhide HB2).size _).trans (hb3.mono (by simp; omega)))
  generalize w2.heap.size = B at hM3 ⊢
  have a5 : w3.cell? ⟨A, 5, none⟩ = some (.slice none 0 0) := cell_at hA3 5
  have r5 : w3.cell? ⟨B, 5, none⟩ = some (.slice none 0 0) := cell_at hM3 5
  have HA3 := hide hA3
  have HM3 := hide hM3
  have HR3 := hide hR3
  have HB3 := hide hB3
  clear hA3 hM3 hR3 hB3 hb3 HA HR0 HB2
  go_wp2_with fail
  clear a5 r5
  have hnil : KeysAt w3 (.slice none 0 0) [] := .inl ⟨rfl, rfl⟩
  refine (lkeys_any [] _ _ _ hnil hnil (by simp)).mono ?_
  clear hnil
  rintro e w4 ⟨rfl, nq, hw4⟩
  have hA4 : w4.heap[A]? = some (.cells #[.int .i64 0, .int .i64 0, .int .i64 0, .int .i64 0, .int .i64 0, .slice none 0 0] 68 (0, 0)) := by rw [hw4]; exact unhide HA3
  have hM4 : w4.heap[B]? = some (.cells #[.int .i64 0, .int .i64 0, .int .i64 0, .int .i64 0, .int .i64 0, .slice none 0 0] 33 (0, 0)) := by rw [hw4]; exact unhide HM3
  have hR4 : w4.heap[w.heap.size]? = some (.cells #[.int .i64 0, .int .i64 0, .int .i64 0, .int .i64 0, .int .i64 0, .slice none 0 0] 33 (0, 0)) := by rw [hw4]; exact unhide HR3
  have hB4 : Below w.heap.size w w4 := by rw [hw4]; exact below_draws (unhide HB3) _
  clear hw4
  have a0 : w4.cell? ⟨A, 0, none⟩ = some (.int .i64 0) := cell_at hA4 0
  have a1 : w4.cell? ⟨A, 1, none⟩ = some (.int .i64 0) := cell_at hA4 1
  have a2 : w4.cell? ⟨A, 2, none⟩ = some (.int .i64 0) := cell_at hA4 2
  have a3 : w4.cell? ⟨A, 3, none⟩ = some (.int .i64 0) := cell_at hA4 3
  have a4 : w4.cell? ⟨A, 4, none⟩ = some (.int .i64 0) := cell_at hA4 4
  have a5 : w4.cell? ⟨A, 5, none⟩ = some (.slice none 0 0) := cell_at hA4 5
  have r0 : w4.cell? ⟨B, 0, none⟩ = some (.int .i64 0) := cell_at hM4 0
  have r1 : w4.cell? ⟨B, 1, none⟩ = some (.int .i64 0) := cell_at hM4 1
  have r2 : w4.cell? ⟨B, 2, none⟩ = some (.int .i64 0) := cell_at hM4 2
  have r3 : w4.cell? ⟨B, 3, none⟩ = some (.int .i64 0) := cell_at hM4 3
  have r4 : w4.cell? ⟨B, 4, none⟩ = some (.int .i64 0) := cell_at hM4 4
  have r5 : w4.cell? ⟨B, 5, none⟩ = some (.slice none 0 0) := cell_at hM4 5
  have f0 : w4.cell? ⟨w.heap.size, 0, none⟩ = some (.int .i64 0) := cell_at hR4 0
  have f1 : w4.cell? ⟨w.heap.size, 1, none⟩ = some (.int .i64 0) := cell_at hR4 1
  have f2 : w4.cell? ⟨w.heap.size, 2, none⟩ = some (.int .i64 0) := cell_at hR4 2
  have f3 : w4.cell? ⟨w.heap.size, 3, none⟩ = some (.int .i64 0) := cell_at hR4 3
  have f4 : w4.cell? ⟨w.heap.size, 4, none⟩ = some (.int .i64 0) := cell_at hR4 4
  have f5 : w4.cell? ⟨w.heap.size, 5, none⟩ = some (.slice none 0 0) := cell_at hR4 5
  have fz : ∀ j, w4.frozen? ⟨w.heap.size, j, none⟩ = false := free_at hR4
  have HB4 := hide hB4
  clear hA4 hM4 hR4 hB4 HA3 HM3 HR3 HB3
  go_wp2_with fail
  go_region
  all_goals go_wp2
  all_goals
    refine bodyPost_ret (v := .tuple #[mval M6.zero (.slice none 0 0), .slice none 0 0, .bool true]) (by simp [results, Tryz.results14, go_sem, f0, f1, f2, f3, f4, f5, mval, M6.zero]) rfl ⟨rfl, ?_⟩
    exact (((((((unhide HB4).setCell (Nat.le_refl _) _).setCell (Nat.le_refl _) _).setCell (Nat.le_refl _) _).setCell (Nat.le_refl _) _).setCell (Nat.le_refl _) _).setCell (Nat.le_refl _) _).drew
end Go.Proofs.YtnneljcbelgoeaaGreatDoor.wire
