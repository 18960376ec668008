import Derived.Test.YtnneljcbelgoeaaGreatDoorDecode
import Derived.Test.YtnneljcbelgoeaaGreatDoorEncode
namespace Go.Proofs.YtnneljcbelgoeaaGreatDoor.wire
open Go.RowKit

set_option maxHeartbeats 2000000 in
theorem gdecode_no (l : List UInt8) (w : World) (hl : l.length ≤ maxLen) (hd : decB l = false) :
    Calls Tryz.prog 28 #[.string (bs l)] w fun e w' => e = .returned (.tuple #[mval M6.zero (.slice none 0 0), .iface 108 (.int .i64 2)]) ∧ Below w.heap.size w w' := by
  have HD := hide hd
  clear hd
  go_enter Tryz.func28, Tryz.ntmps28
  go_wp2_with fail
  refine (decode_no l _ hl (unhide HD)).mono ?_
  rintro e w1 ⟨rfl, hb⟩
  have hblk : w1.heap[w.heap.size]? = some (.cells #[.int .i64 0, .int .i64 0, .int .i64 0, .int .i64 0, .int .i64 0, .slice none 0 0] 68 (0, 0)) := by
    rw [hb.block _ (by simp)]; exact heap_alloc_new _ _
  have f0 : w1.cell? ⟨w.heap.size, 0, none⟩ = some (.int .i64 0) := cell_at hblk 0
  have f1 : w1.cell? ⟨w.heap.size, 1, none⟩ = some (.int .i64 0) := cell_at hblk 1
  have f2 : w1.cell? ⟨w.heap.size, 2, none⟩ = some (.int .i64 0) := cell_at hblk 2
  have f3 : w1.cell? ⟨w.heap.size, 3, none⟩ = some (.int .i64 0) := cell_at hblk 3
  have f4 : w1.cell? ⟨w.heap.size, 4, none⟩ = some (.int .i64 0) := cell_at hblk 4
  have f5 : w1.cell? ⟨w.heap.size, 5, none⟩ = some (.slice none 0 0) := cell_at hblk 5
  have fz : ∀ j, w1.frozen? ⟨w.heap.size, j, none⟩ = false := free_at hblk
  have HB := hide hb
  clear hb hblk
  simp only [mval, M6.zero]
  go_wp2
  refine bodyPost_ret (v := .tuple #[mval M6.zero (.slice none 0 0), .iface 108 (.int .i64 2)]) (by simp [results, Tryz.results28, go_sem, f0, f1, f2, f3, f4, f5, mval, M6.zero]) rfl ⟨rfl, ?_⟩
  exact (((((((((Below.refl _ _).alloc (Nat.le_refl _) _).trans ((unhide HB).mono (by simp))).setCell (Nat.le_refl _) _).setCell (Nat.le_refl _) _).setCell (Nat.le_refl _) _).setCell (Nat.le_refl _) _).setCell (Nat.le_refl _) _).setCell (Nat.le_refl _) _)
set_option maxHeartbeats 2000000 in
theorem gdecode_yes (l : List UInt8) (w : World) (hl : l.length ≤ maxLen) (hd : decB l = true) :
    Calls Tryz.prog 28 #[.string (bs l)] w fun e w' => ∃ v, e = .returned (.tuple #[mval (readM l) v, .nilIface]) ∧ w'.ownsRow w.heap.size 76 3 v (readM l).ups.length (kcells (readM l).ups) ∧ Below w.heap.size w w' := by
  have HD := hide hd
  clear hd
  go_enter Tryz.func28, Tryz.ntmps28
  go_wp2_with fail
  refine (decode_yes l _ hl (unhide HD)).mono ?_
  generalize hm : readM l = m
  have HM := hide hm
  clear hm
  rintro e w1 ⟨v, rfl, hown, hb⟩
  obtain ⟨ao, cap, rfl⟩ := own_form hown
  have hblk : w1.heap[w.heap.size]? = some (.cells #[.int .i64 0, .int .i64 0, .int .i64 0, .int .i64 0, .int .i64 0, .slice none 0 0] 68 (0, 0)) := by
    rw [hb.block _ (by simp)]; exact heap_alloc_new _ _
  have f0 : w1.cell? ⟨w.heap.size, 0, none⟩ = some (.int .i64 0) := cell_at hblk 0
  have f1 : w1.cell? ⟨w.heap.size, 1, none⟩ = some (.int .i64 0) := cell_at hblk 1
  have f2 : w1.cell? ⟨w.heap.size, 2, none⟩ = some (.int .i64 0) := cell_at hblk 2
  have f3 : w1.cell? ⟨w.heap.size, 3, none⟩ = some (.int .i64 0) := cell_at hblk 3
  have f4 : w1.cell? ⟨w.heap.size, 4, none⟩ = some (.int .i64 0) := cell_at hblk 4
  have f5 : w1.cell? ⟨w.heap.size, 5, none⟩ = some (.slice none 0 0) := cell_at hblk 5
  have fz : ∀ j, w1.frozen? ⟨w.heap.size, j, none⟩ = false := free_at hblk
  have HB := hide hb
  have HO := hide hown
  clear hb hblk hown
  simp only [mval]
  go_wp2
  refine bodyPost_ret (v := .tuple #[mval m (.slice ao m.ups.length cap), .nilIface]) (by simp [results, Tryz.results28, go_sem, f0, f1, f2, f3, f4, f5, mval]) rfl ⟨.slice ao m.ups.length cap, by rw [unhide HM], ?_, ?_⟩
  · rw [unhide HM]
    have h := unhide HO
    rw [World.size_alloc] at h
    exact own_mono (ownsRow_setCell_below (ownsRow_setCell_below (ownsRow_setCell_below (ownsRow_setCell_below (ownsRow_setCell_below (ownsRow_setCell_below h (by simp) _) (by simp) _) (by simp) _) (by simp) _) (by simp) _) (by simp) _) (by omega)
  · exact (((((((((Below.refl _ _).alloc (Nat.le_refl _) _).trans ((unhide HB).mono (by simp))).setCell (Nat.le_refl _) _).setCell (Nat.le_refl _) _).setCell (Nat.le_refl _) _).setCell (Nat.le_refl _) _).setCell (Nat.le_refl _) _).setCell (Nat.le_refl _) _)
set_option maxHeartbeats 2000000 in
theorem gencode_yes (m : M6) (v : Value) (w : World) (hv : KeysAt w v m.ups) (hm : wholeB m = true) :
    Calls Tryz.prog 23 #[mval m v] w fun e w' => e = .returned (.tuple #[.string (bs (bytesM m)), .nilIface]) ∧ Below w.heap.size w w' := by
  obtain ⟨ao, cap, rfl⟩ := hv.form
  have HM := hide hm
  have HV := hide hv
  clear hm hv
  go_enter Tryz.func23, Tryz.ntmps23
  go_wp2_with fail
  refine (encode_yes m _ _ ((unhide HV).below ((Below.refl _ _).alloc (Nat.le_refl _) _)) (unhide HM)).mono ?_
  rintro e w1 ⟨rfl, hb⟩
  have HB := hide hb
  clear hb
  go_wp2
  go_ret2
  exact ⟨rfl, ((Below.refl _ _).alloc (Nat.le_refl _) _).trans ((unhide HB).mono (by simp))⟩
set_option maxHeartbeats 2000000 in
theorem gencode_no (m : M6) (v : Value) (w : World) (hv : KeysAt w v m.ups) (hl : m.ups.length ≤ 1000000) (hm : wholeB m = false) :
    Calls Tryz.prog 23 #[mval m v] w fun e w' => e = .returned (.tuple #[.string ⟨#[]⟩, .iface 108 (.int .i64 2)]) ∧ Below w.heap.size w w' := by
  obtain ⟨ao, cap, rfl⟩ := hv.form
  have HM := hide hm
  have HV := hide hv
  clear hm hv
  go_enter Tryz.func23, Tryz.ntmps23
  go_wp2_with fail
  refine (encode_no m _ _ ((unhide HV).below ((Below.refl _ _).alloc (Nat.le_refl _) _)) hl (unhide HM)).mono ?_
  rintro e w1 ⟨rfl, hb⟩
  have HB := hide hb
  clear hb
  go_wp2
  go_ret2
  exact ⟨rfl, ((Below.refl _ _).alloc (Nat.le_refl _) _).trans ((unhide HB).mono (by simp))⟩
end Go.Proofs.YtnneljcbelgoeaaGreatDoor.wire
