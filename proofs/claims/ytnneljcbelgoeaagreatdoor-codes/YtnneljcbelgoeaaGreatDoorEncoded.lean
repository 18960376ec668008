/- gossiplaw's encoded. -/
import Derived.Test.YtnneljcbelgoeaaGreatDoorSpare
import Derived.Test.YtnneljcbelgoeaaGreatDoorGate
import Derived.Test.YtnneljcbelgoeaaGreatDoorRefWhole
import Derived.Test.YtnneljcbelgoeaaGreatDoorRefBytes
namespace Go.Proofs.YtnneljcbelgoeaaGreatDoor.wire
open Go.RowKit
/-- What Encode must answer. -/
def encB (m : M6) : List UInt8 := if wholeB m then bytesM m else []
/-- What stands in 'encoded': the message's box, its list, the spare list. -/
structure EN (H g : Nat) (m : M6) (v : Value) (w W : World) : Prop where
  box : W.heap[H]? = some (.cells #[.int .i64 m.kind, .int .i64 m.frm, .int .i64 m.inc, .int .i64 m.seq, .int .i64 m.tgt, v] 33 (0, 0))
  keys : KeysAt W v m.ups
  below : Below w.heap.size w W
  lt : H < g
  hw : w.heap.size ≤ H
theorem EN.mono {H g : Nat} {m : M6} {v : Value} {w W W' : World} (h : EN H g m v w W) (hk : KeysAt w v m.ups) (hb : Below g W W') : EN H g m v w W' := by
  have := h.lt
  have := h.hw
  have hB : Below w.heap.size w W' := h.below.trans (hb.mono (by omega))
  exact ⟨(hb.block H h.lt).trans h.box, hk.below hB, hB, h.lt, h.hw⟩
theorem EN.gate {H g : Nat} {m : M6} {v : Value} {w W : World} (h : EN H g m v w W) {x : Value} (hlt : 0 < w.heap.size) (hg : w.cell? ⟨0, 0, none⟩ = some x) : W.cell? ⟨0, 0, none⟩ = some x := (h.below.cell (p := ⟨0, 0, none⟩) hlt).trans hg
theorem EN.cells {H g : Nat} {m : M6} {v : Value} {w W : World} (h : EN H g m v w W) : W.cell? ⟨H, 0, none⟩ = some (.int .i64 m.kind) ∧ W.cell? ⟨H, 1, none⟩ = some (.int .i64 m.frm) ∧ W.cell? ⟨H, 2, none⟩ = some (.int .i64 m.inc) ∧ W.cell? ⟨H, 3, none⟩ = some (.int .i64 m.seq) ∧ W.cell? ⟨H, 4, none⟩ = some (.int .i64 m.tgt) ∧ W.cell? ⟨H, 5, none⟩ = some v :=
  ⟨cell_at h.box 0, cell_at h.box 1, cell_at h.box 2, cell_at h.box 3, cell_at h.box 4, cell_at h.box 5⟩
set_option maxRecDepth 100000 in
set_option maxHeartbeats 2000000 in
theorem encoded_any (m : M6) (v : Value) (w : World) (hv : KeysAt w v m.ups) (hl : m.ups.length ≤ 20000) (hg : w.cell? ⟨0, 0, none⟩ = some (.iface 207 (.agg #[.pointer (some ⟨1, 64, none⟩)]))) :
    Calls Tryz.prog 12 #[mval m v] w fun e w' => e = .returned (.tuple #[.string (bs (encB m)), .bool true]) ∧ Below w.heap.size w w' := by
  have hlt : 0 < w.heap.size := by
    rcases Nat.eq_zero_or_pos w.heap.size with h0 | h
    · simp [World.cell?, h0] at hg
    · exact h
  obtain ⟨ao, cap, rfl⟩ := hv.form
  have HG := hide hg
  have HV := hide hv
  clear hg hv
  go_enter Tryz.func12, Tryz.ntmps12
  go_wp2_with fail
  refine (spare_any m.ups _ _ ((unhide HV).below ((Below.refl _ _).alloc (Nat.le_refl _) _)) hl).mono ?_
  rintro e w1 ⟨rfl, hblk, hb1⟩
  have E1 : EN w.heap.size (w.heap.size + 1) m (.slice ao m.ups.length cap) w w1 := by
    have hB : Below w.heap.size w w1 := ((Below.refl _ _).alloc (Nat.le_refl _) _).trans (hb1.mono (by simp))
    exact ⟨(hb1.block _ (by simp)).trans (heap_alloc_new _ _), (unhide HV).below hB, hB, by omega, Nat.le_refl _⟩
  rw [World.size_alloc] at hblk
  simp only [World.size_alloc]
  have HK1 := hide hblk
  have HE1 := hide E1
  clear hblk hb1 E1
  obtain ⟨a0, a1, a2, a3, a4, a5⟩ := (unhide HE1).cells
  cases hw : wholeB m
  · have HW := hide hw
    clear hw
    go_wp2_with fail
    clear a0 a1 a2 a3 a4 a5
    refine (gencode_no m (.slice (some ⟨w.heap.size + 1, 0, none⟩) m.ups.length (m.ups.length + 2)) _ (keysAt_blk (unhide HK1) _) (by omega) (unhide HW)).mono ?_
    rintro e w2 ⟨rfl, hb2⟩
    have hgl := lt_of_block (unhide HK1)
    have HK2 := hide ((hb2.block _ hgl).trans (unhide HK1))
    have HE2 := hide ((unhide HE1).mono (unhide HV) (hb2.mono (by omega)))
    clear hb2 hgl HK1 HE1
    have a5 := (unhide HE2).cells.2.2.2.2.2
    go_wp2_with fail
    clear a5
    refine (still_any m.ups _ _ _ (unhide HE2).keys (unhide HK2) hl).mono ?_
    rintro e w3 ⟨rfl, hb3⟩
    have HE3 := hide ((unhide HE2).mono (unhide HV) hb3)
    clear hb3 HE2 HK2
    obtain ⟨a0, a1, a2, a3, a4, a5⟩ := (unhide HE3).cells
    go_wp2_with fail
    clear a0 a1 a2 a3 a4 a5
    refine (rwhole_any m _ _ (unhide HE3).keys (by omega)).mono ?_
    rw [unhide HW]
    rintro e w4 ⟨rfl, hb4⟩
    have HE4 : Hid (EN w.heap.size (w.heap.size + 1) m (.slice ao m.ups.length cap) w w4) := hide ((unhide HE3).mono (unhide HV) (hb4.mono (by have := lt_of_block (unhide HE3).box; omega)))
    clear hb4 HE3
    go_wp2_with fail
    refine (ltold_two _ ((unhide HE4).gate hlt (unhide HG))).mono ?_
    rintro e w5 ⟨rfl, hb5⟩
    have HB5 := hide ((unhide HE4).below.trans (hb5.mono (unhide HE4).below.size))
    clear hb5 HE4
    go_wp2
    go_ret2
    exact ⟨by simp [encB, unhide HW, bs], unhide HB5⟩
  · have HW := hide hw
    clear hw
    go_wp2_with fail
    clear a0 a1 a2 a3 a4 a5
    refine (gencode_yes m (.slice (some ⟨w.heap.size + 1, 0, none⟩) m.ups.length (m.ups.length + 2)) _ (keysAt_blk (unhide HK1) _) (unhide HW)).mono ?_
    rintro e w2 ⟨rfl, hb2⟩
    have hgl := lt_of_block (unhide HK1)
    have HK2 := hide ((hb2.block _ hgl).trans (unhide HK1))
    have HE2 := hide ((unhide HE1).mono (unhide HV) (hb2.mono (by omega)))
    clear hb2 hgl HK1 HE1
    have a5 := (unhide HE2).cells.2.2.2.2.2
    go_wp2_with fail
    clear a5
    refine (still_any m.ups _ _ _ (unhide HE2).keys (unhide HK2) hl).mono ?_
    rintro e w3 ⟨rfl, hb3⟩
    have HE3 := hide ((unhide HE2).mono (unhide HV) hb3)
    clear hb3 HE2 HK2
    obtain ⟨a0, a1, a2, a3, a4, a5⟩ := (unhide HE3).cells
    go_wp2_with fail
    clear a0 a1 a2 a3 a4 a5
    refine (rwhole_any m _ _ (unhide HE3).keys (by omega)).mono ?_
    rw [unhide HW]
    rintro e w4 ⟨rfl, hb4⟩
    have HE4 : Hid (EN w.heap.size (w.heap.size + 1) m (.slice ao m.ups.length cap) w w4) := hide ((unhide HE3).mono (unhide HV) (hb4.mono (by have := lt_of_block (unhide HE3).box; omega)))
    clear hb4 HE3
    obtain ⟨a0, a1, a2, a3, a4, a5⟩ := (unhide HE4).cells
    go_wp2_with fail
    clear a0 a1 a2 a3 a4 a5
    refine (rbytes_any m _ _ (unhide HE4).keys (unhide HW)).mono ?_
    rintro e w5 ⟨rfl, hb5⟩
    have HB5 := hide ((unhide HE4).below.trans (hb5.mono (unhide HE4).below.size))
    clear hb5 HE4
    go_wp2
    go_ret2
    exact ⟨by simp [encB, unhide HW], unhide HB5⟩
end Go.Proofs.YtnneljcbelgoeaaGreatDoor.wire
