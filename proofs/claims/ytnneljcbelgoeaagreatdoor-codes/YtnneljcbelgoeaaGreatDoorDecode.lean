import Derived.Test.YtnneljcbelgoeaaGreatDoorRead
namespace Go.Proofs.YtnneljcbelgoeaaGreatDoor.wire
open Go.RowKit

def M6.zero : M6 := ⟨0, 0, 0, 0, 0, []⟩
/-- The message that bytes of the right length hold. -/
def readM : List UInt8 → M6
  | c0 :: c1 :: i0 :: i1 :: i2 :: i3 :: s0 :: s1 :: s2 :: s3 :: t :: n :: l => ⟨(c0.toNat : Int), (c1.toNat : Int), n4 i0 i1 i2 i3, n4 s0 s1 s2 s3, (t.toNat : Int), readKs n.toNat l⟩
  | _ => M6.zero
/-- Decode's answer. -/
def decB (l : List UInt8) : Bool := rightB l && wholeB (readM l)
theorem right_form {l : List UInt8} (h : rightB l = true) : ∃ c0 c1 i0 i1 i2 i3 s0 s1 s2 s3 t n r, l = c0 :: c1 :: i0 :: i1 :: i2 :: i3 :: s0 :: s1 :: s2 :: s3 :: t :: n :: r ∧ r.length = n.toNat * 6 := by
  simp [rightB] at h
  obtain ⟨h12, he⟩ := h
  match l, h12, he with
  | c0 :: c1 :: i0 :: i1 :: i2 :: i3 :: s0 :: s1 :: s2 :: s3 :: t :: n :: r, _, he =>
    refine ⟨c0, c1, i0, i1, i2, i3, s0, s1, s2, s3, t, n, r, rfl, ?_⟩
    simp at he
    omega
theorem right_anyL (l : List UInt8) (w : World) (hl : l.length ≤ maxLen) : Calls Tryz.prog 80 #[.string (bs l)] w fun e w' => e = .returned (.bool (rightB l)) ∧ w' = w := by
  have := right_any (bs l) w (by rw [bs_size]; exact hl)
  rwa [bs_list] at this
theorem read_anyL (l : List UInt8) (w : World) (h : rightB l = true) :
    Calls Tryz.prog 81 #[.string (bs l)] w fun e w' => ∃ v, e = .returned (mval (readM l) v) ∧ w'.ownsRow w.heap.size 76 3 v (readM l).ups.length (kcells (readM l).ups) ∧ (readM l).ups.length ≤ 1000000 ∧ Below w.heap.size w w' := by
  obtain ⟨c0, c1, i0, i1, i2, i3, s0, s1, s2, s3, t, n, r, rfl, hr⟩ := right_form h
  refine (read_any c0 c1 i0 i1 i2 i3 s0 s1 s2 s3 t n r w hr).mono ?_
  rintro e w' ⟨v, he, hk, hb⟩
  have := n.toNat_lt
  exact ⟨v, he, hk, by show (readKs n.toNat r).length ≤ _; rw [readKs_len _ _ hr]; omega, hb⟩
set_option maxHeartbeats 2000000 in
theorem decode_no (l : List UInt8) (w : World) (hl : l.length ≤ maxLen) (hd : decB l = false) :
    Calls Tryz.prog 51 #[.string (bs l)] w fun e w' => e = .returned (.tuple #[mval M6.zero (.slice none 0 0), .iface 108 (.int .i64 2)]) ∧ Below w.heap.size w w' := by
  cases hr : rightB l
  · have HR := hide hr
    clear hr hd
    go_enter Tryz.func51, Tryz.ntmps51
    go_wp2_with fail
    refine (right_anyL l _ hl).mono ?_
    rw [unhide HR]
    rintro e w1 ⟨rfl, rfl⟩
    go_wp2
    exact bodyPost_ret (v := .tuple #[mval M6.zero (.slice none 0 0), .iface 108 (.int .i64 2)]) (by simp [results, Tryz.results51, go_sem, mval, M6.zero]) rfl ⟨rfl, (Below.refl _ _).alloc (Nat.le_refl _) _⟩
  · have hw : wholeB (readM l) = false := by simpa [decB, hr] using hd
    have HR := hide hr
    have HW := hide hw
    clear hr hd hw
    go_enter Tryz.func51, Tryz.ntmps51
    go_wp2_with fail
    refine (right_anyL l _ hl).mono ?_
    rw [unhide HR]
    rintro e w1 ⟨rfl, rfl⟩
    go_wp2_with fail
    refine (read_anyL l _ (unhide HR)).mono ?_
    generalize readM l = m at HW ⊢
    rintro e w1 ⟨v, rfl, hk, hlen, hb⟩
    obtain ⟨ao, cap, rfl⟩ := own_form hk
    have HK := hide hk
    have HB := hide hb
    clear hk hb
    go_wp2_with fail
    refine (whole_any m _ _ ((keysAt_of_own (unhide HK)).below ((Below.refl _ _).alloc (Nat.le_refl _) _)) hlen).mono ?_
    rw [unhide HW]
    rintro e w2 ⟨rfl, hb2⟩
    have hz1 := (unhide HB).size
    have hz2 := hb2.size
    simp at hz1 hz2
    have hblk : w2.heap[w.heap.size]? = some (.cells #[.int .i64 0, .int .i64 0, .int .i64 0, .int .i64 0, .int .i64 0, .slice none 0 0] 68 (0, 0)) := by
      rw [hb2.block _ (by simp; omega), Below.heap_alloc _ _ _ (by omega), (unhide HB).block _ (by simp)]
      exact heap_alloc_new _ _
    have hblm : w2.heap[w1.heap.size]? = some (.cells #[.int .i64 m.kind, .int .i64 m.frm, .int .i64 m.inc, .int .i64 m.seq, .int .i64 m.tgt, .slice ao m.ups.length cap] 68 (0, 0)) := by
      rw [hb2.block _ (by simp)]
      exact heap_alloc_new _ _
    have hbel : Below w.heap.size w w2 := (((Below.refl w.heap.size w).alloc (Nat.le_refl _) _).trans ((unhide HB).mono (by simp))).trans (((Below.refl w.heap.size w1).alloc (by omega) _).trans (hb2.mono (by simp; omega)))
    have hkeys := own_below (own_below (unhide HK) ((Below.refl _ _).alloc (Nat.le_refl _) _)) hb2
    rw [World.size_alloc] at hkeys
    have f0 : w2.cell? ⟨w.heap.size, 0, none⟩ = some (.int .i64 0) := cell_at hblk 0
    have f1 : w2.cell? ⟨w.heap.size, 1, none⟩ = some (.int .i64 0) := cell_at hblk 1
    have f2 : w2.cell? ⟨w.heap.size, 2, none⟩ = some (.int .i64 0) := cell_at hblk 2
    have f3 : w2.cell? ⟨w.heap.size, 3, none⟩ = some (.int .i64 0) := cell_at hblk 3
    have f4 : w2.cell? ⟨w.heap.size, 4, none⟩ = some (.int .i64 0) := cell_at hblk 4
    have f5 : w2.cell? ⟨w.heap.size, 5, none⟩ = some (.slice none 0 0) := cell_at hblk 5
    have fz : ∀ j, w2.frozen? ⟨w.heap.size, j, none⟩ = false := free_at hblk
    have m0 : w2.cell? ⟨w1.heap.size, 0, none⟩ = some (.int .i64 m.kind) := cell_at hblm 0
    have m1 : w2.cell? ⟨w1.heap.size, 1, none⟩ = some (.int .i64 m.frm) := cell_at hblm 1
    have m2 : w2.cell? ⟨w1.heap.size, 2, none⟩ = some (.int .i64 m.inc) := cell_at hblm 2
    have m3 : w2.cell? ⟨w1.heap.size, 3, none⟩ = some (.int .i64 m.seq) := cell_at hblm 3
    have m4 : w2.cell? ⟨w1.heap.size, 4, none⟩ = some (.int .i64 m.tgt) := cell_at hblm 4
    have m5 : w2.cell? ⟨w1.heap.size, 5, none⟩ = some (.slice ao m.ups.length cap) := cell_at hblm 5
    have HBEL := hide hbel
    have HKEY := hide hkeys
    clear hblk hblm hb2 hbel hkeys HB HK HW
    go_wp2
    refine bodyPost_ret (v := .tuple #[mval M6.zero (.slice none 0 0), .iface 108 (.int .i64 2)]) (by simp [results, Tryz.results51, go_sem, f0, f1, f2, f3, f4, f5, mval, M6.zero]) rfl ⟨rfl, ?_⟩
    exact ((((((unhide HBEL).setCell (Nat.le_refl _) _).setCell (Nat.le_refl _) _).setCell (Nat.le_refl _) _).setCell (Nat.le_refl _) _).setCell (Nat.le_refl _) _).setCell (Nat.le_refl _) _
set_option maxHeartbeats 2000000 in
theorem decode_yes (l : List UInt8) (w : World) (hl : l.length ≤ maxLen) (hd : decB l = true) :
    Calls Tryz.prog 51 #[.string (bs l)] w fun e w' => ∃ v, e = .returned (.tuple #[mval (readM l) v, .nilIface]) ∧ w'.ownsRow w.heap.size 76 3 v (readM l).ups.length (kcells (readM l).ups) ∧ Below w.heap.size w w' := by
    have hr : rightB l = true := by simp [decB] at hd; exact hd.1
    have hw : wholeB (readM l) = true := by simp [decB] at hd; exact hd.2
    have HR := hide hr
    have HW := hide hw
    clear hr hd hw
    go_enter Tryz.func51, Tryz.ntmps51
    go_wp2_with fail
    refine (right_anyL l _ hl).mono ?_
    rw [unhide HR]
    rintro e w1 ⟨rfl, rfl⟩
    go_wp2_with fail
    refine (read_anyL l _ (unhide HR)).mono ?_
    generalize hm : readM l = m at HW ⊢
    have HM := hide hm
    clear hm
    rintro e w1 ⟨v, rfl, hk, hlen, hb⟩
    obtain ⟨ao, cap, rfl⟩ := own_form hk
    have HK := hide hk
    have HB := hide hb
    clear hk hb
    go_wp2_with fail
    refine (whole_any m _ _ ((keysAt_of_own (unhide HK)).below ((Below.refl _ _).alloc (Nat.le_refl _) _)) hlen).mono ?_
    rw [unhide HW]
    rintro e w2 ⟨rfl, hb2⟩
    have hz1 := (unhide HB).size
    have hz2 := hb2.size
    simp at hz1 hz2
    have hblk : w2.heap[w.heap.size]? = some (.cells #[.int .i64 0, .int .i64 0, .int .i64 0, .int .i64 0, .int .i64 0, .slice none 0 0] 68 (0, 0)) := by
      rw [hb2.block _ (by simp; omega), Below.heap_alloc _ _ _ (by omega), (unhide HB).block _ (by simp)]
      exact heap_alloc_new _ _
    have hblm : w2.heap[w1.heap.size]? = some (.cells #[.int .i64 m.kind, .int .i64 m.frm, .int .i64 m.inc, .int .i64 m.seq, .int .i64 m.tgt, .slice ao m.ups.length cap] 68 (0, 0)) := by
      rw [hb2.block _ (by simp)]
      exact heap_alloc_new _ _
    have hbel : Below w.heap.size w w2 := (((Below.refl w.heap.size w).alloc (Nat.le_refl _) _).trans ((unhide HB).mono (by simp))).trans (((Below.refl w.heap.size w1).alloc (by omega) _).trans (hb2.mono (by simp; omega)))
    have hkeys := own_below (own_below (unhide HK) ((Below.refl _ _).alloc (Nat.le_refl _) _)) hb2
    rw [World.size_alloc] at hkeys
    have f0 : w2.cell? ⟨w.heap.size, 0, none⟩ = some (.int .i64 0) := cell_at hblk 0
    have f1 : w2.cell? ⟨w.heap.size, 1, none⟩ = some (.int .i64 0) := cell_at hblk 1
    have f2 : w2.cell? ⟨w.heap.size, 2, none⟩ = some (.int .i64 0) := cell_at hblk 2
    have f3 : w2.cell? ⟨w.heap.size, 3, none⟩ = some (.int .i64 0) := cell_at hblk 3
    have f4 : w2.cell? ⟨w.heap.size, 4, none⟩ = some (.int .i64 0) := cell_at hblk 4
    have f5 : w2.cell? ⟨w.heap.size, 5, none⟩ = some (.slice none 0 0) := cell_at hblk 5
    have fz : ∀ j, w2.frozen? ⟨w.heap.size, j, none⟩ = false := free_at hblk
    have m0 : w2.cell? ⟨w1.heap.size, 0, none⟩ = some (.int .i64 m.kind) := cell_at hblm 0
    have m1 : w2.cell? ⟨w1.heap.size, 1, none⟩ = some (.int .i64 m.frm) := cell_at hblm 1
    have m2 : w2.cell? ⟨w1.heap.size, 2, none⟩ = some (.int .i64 m.inc) := cell_at hblm 2
    have m3 : w2.cell? ⟨w1.heap.size, 3, none⟩ = some (.int .i64 m.seq) := cell_at hblm 3
    have m4 : w2.cell? ⟨w1.heap.size, 4, none⟩ = some (.int .i64 m.tgt) := cell_at hblm 4
    have m5 : w2.cell? ⟨w1.heap.size, 5, none⟩ = some (.slice ao m.ups.length cap) := cell_at hblm 5
    have HBEL := hide hbel
    have HKEY := hide hkeys
    clear hblk hblm hb2 hbel hkeys HB HK HW
    go_wp2
    refine bodyPost_ret (v := .tuple #[mval m (.slice ao m.ups.length cap), .nilIface]) (by simp [results, Tryz.results51, go_sem, f0, f1, f2, f3, f4, f5, mval]) rfl ⟨.slice ao m.ups.length cap, by rw [unhide HM], ?_, ?_⟩
    · rw [unhide HM]
      exact own_mono (ownsRow_setCell_below (ownsRow_setCell_below (ownsRow_setCell_below (ownsRow_setCell_below (ownsRow_setCell_below (ownsRow_setCell_below (unhide HKEY) (by simp) _) (by simp) _) (by simp) _) (by simp) _) (by simp) _) (by simp) _) (by omega)
    · exact ((((((unhide HBEL).setCell (Nat.le_refl _) _).setCell (Nat.le_refl _) _).setCell (Nat.le_refl _) _).setCell (Nat.le_refl _) _).setCell (Nat.le_refl _) _).setCell (Nat.le_refl _) _
end Go.Proofs.YtnneljcbelgoeaaGreatDoor.wire
