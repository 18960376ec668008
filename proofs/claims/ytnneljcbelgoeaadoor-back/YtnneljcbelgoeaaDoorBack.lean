import Derived.Test.YtnneljcbelgoeaaDoorBackMath
import Derived.Test.YtnneljcbelgoeaaDoorSame
import Derived.Test.YtnneljcbelgoeaaDoorGate
import Derived.Test.YtnneljcbelgoeaaDoorTold
namespace Go.Proofs.YtnneljcbelgoeaaDoor.wire
open Go.RowKit
theorem bs_add (l : List UInt8) : bs l ++ ⟨#[120]⟩ = bs (l ++ [120]) := by
  apply ByteArray.ext
  simp [bs]
/-- What Back keeps: its two messages, in blocks A and C. -/
structure BI (A C : Nat) (m : M6) (va vc : Value) (w W : World) : Prop where
  a : W.heap[A]? = some (.cells #[.int .i64 m.kind, .int .i64 m.frm, .int .i64 m.inc, .int .i64 m.seq, .int .i64 m.tgt, va] 25 (0, 0))
  c : W.heap[C]? = some (.cells #[.int .i64 m.kind, .int .i64 m.frm, .int .i64 m.inc, .int .i64 m.seq, .int .i64 m.tgt, vc] 25 (0, 0))
  below : Below w.heap.size w W
  ka : KeysAt W va m.ups
  kc : KeysAt W vc m.ups
theorem BI.mono {A C : Nat} {m : M6} {va vc : Value} {w W W' : World} (h : BI A C m va vc w W) (hb : Below W.heap.size W W') : BI A C m va vc w W' :=
  ⟨(hb.block A (lt_of_block h.a)).trans h.a, (hb.block C (lt_of_block h.c)).trans h.c, h.below.trans (hb.mono h.below.size), h.ka.below hb, h.kc.below hb⟩
theorem BI.alloc {A C : Nat} {m : M6} {va vc : Value} {w W : World} (h : BI A C m va vc w W) (o : Obj) : BI A C m va vc w (W.alloc o) := h.mono ((Below.refl _ _).alloc (Nat.le_refl _) _)
theorem BI.gate {A C : Nat} {m : M6} {va vc : Value} {w W : World} (h : BI A C m va vc w W) {x : Value} (hlt : 0 < w.heap.size) (hg : w.cell? ⟨0, 0, none⟩ = some x) : W.cell? ⟨0, 0, none⟩ = some x := (h.below.cell (p := ⟨0, 0, none⟩) hlt).trans hg
set_option maxRecDepth 100000 in
set_option maxHeartbeats 2000000 in
theorem back_any (k f i s t : Int) (ao : Option Addr) (l : List K3) (cap : Nat) (w : World) (hk : isI64 k) (hf : isI64 f) (hi : isI64 i) (hs : isI64 s) (ht : isI64 t)
    (hl : l.length ≤ maxLen) (hr : RawAt w ao l) (hks : ∀ x ∈ l, isI64 x.id ∧ isI64 x.inc ∧ isI64 x.st) (hg : w.cell? ⟨0, 0, none⟩ = some (.iface 70 (.agg #[.pointer (some ⟨1, 28, none⟩)]))) :
    Calls Tryd.prog 3 #[.agg #[.int .i64 k, .int .i64 f, .int .i64 i, .int .i64 s, .int .i64 t, .slice ao l.length cap]] w fun e w' => e = .returned (.bool true) ∧ Below w.heap.size w w' := by
  have hlt : 0 < w.heap.size := by
    rcases Nat.eq_zero_or_pos w.heap.size with h0 | h
    · simp [World.cell?, h0] at hg
    · exact h
  have hraw : RawAt (w.alloc (.cells #[.int .i64 k, .int .i64 f, .int .i64 i, .int .i64 s, .int .i64 t, .slice ao l.length cap] 24)) ao l := by
    intro h0
    obtain ⟨b, off, e, hb, hc⟩ := hr h0
    refine ⟨b, off, e, by simp; omega, fun i hi => ?_⟩
    obtain ⟨x0, x1, x2⟩ := hc i hi
    rw [World.cell?_alloc_lt _ _ _ hb, World.cell?_alloc_lt _ _ _ hb, World.cell?_alloc_lt _ _ _ hb]
    exact ⟨x0, x1, x2⟩
  have HM := hide (message_any k f i s t ao l cap _ hk hf hi hs ht hl hraw hks)
  have HG := hide hg
  clear hk hf hi hs ht hl hr hks hg hraw
  go_enter Tryd.func3, Tryd.ntmps3
  go_wp2_with fail
  refine (unhide HM).mono ?_
  have hwh := msg_whole k f i s t l
  generalize msgOf k f i s t l = m at hwh
  clear HM
  have hlen := whole_len hwh
  obtain ⟨hdec, hread⟩ := dec_same hwh
  have hless := dec_less m
  have hmore := dec_more m
  have hbl := bytesM_len m
  rintro e w1 ⟨v, rfl, hown, hb1⟩
  obtain ⟨ao1, cap1, rfl⟩ := own_form hown
  have hB1 : Below w.heap.size w w1 := ((Below.refl _ _).alloc (Nat.le_refl _) _).trans (hb1.mono (by simp))
  have HO := hide (keysAt_of_own hown)
  have HWH := hide hwh
  have HDEC := hide hdec
  have HREAD := hide hread
  have HLESS := hide hless
  have HMORE := hide hmore
  have HBL := hide hbl
  have HB1 := hide hB1
  clear hown hb1 hwh hdec hread hless hmore hbl hB1
  simp only [mval]
  go_wp2_with fail
  refine (gencode_yes m (.slice ao1 m.ups.length cap1) _ ((unhide HO).below ((Below.refl _ _).alloc (Nat.le_refl _) _)) (unhide HWH)).mono ?_
  rintro e w2 ⟨rfl, hb2⟩
  have hA2 : w2.heap[w1.heap.size]? = some (.cells #[.int .i64 m.kind, .int .i64 m.frm, .int .i64 m.inc, .int .i64 m.seq, .int .i64 m.tgt, .slice ao1 m.ups.length cap1] 25 (0, 0)) := by
    rw [hb2.block _ (by simp)]; exact heap_alloc_new _ _
  have hB2 : Below w.heap.size w w2 := (unhide HB1).trans (((Below.refl _ _).alloc (unhide HB1).size _).trans (hb2.mono (by have := (unhide HB1).size; simp; omega)))
  have hO2 : KeysAt w2 (.slice ao1 m.ups.length cap1) m.ups := ((unhide HO).below ((Below.refl _ _).alloc (Nat.le_refl _) _)).below hb2
  have a5 : w2.cell? ⟨w1.heap.size, 5, none⟩ = some (.slice ao1 m.ups.length cap1) := cell_at hA2 5
  have hz12 : w1.heap.size < w2.heap.size := by have := hb2.size; simp at this; omega
  generalize w1.heap.size = A at hA2 a5 hz12 ⊢
  have hsz : ((bs (bytesM m)).size : Int) = 12 + 6 * (m.ups.length : Int) := by rw [bs_size, unhide HBL]; omega
  have HA := hide hA2
  have HB2 := hide hB2
  have HO2 := hide hO2
  clear hA2 hB2 hO2 hb2 HO HB1
  go_wp2_with fail
  refine (gdecode_yes (bytesM m) _ (by rw [unhide HBL]; unfold maxLen; omega) (unhide HDEC)).mono ?_
  rw [unhide HREAD]
  rintro e w3 ⟨v2, rfl, hown3, hb3⟩
  obtain ⟨ao2, cap2, rfl⟩ := own_form hown3
  have hA3 := (hb3.block A hz12).trans (unhide HA)
  have hB3 := (unhide HB2).trans (hb3.mono (unhide HB2).size)
  have hO3 := (unhide HO2).below hb3
  have hP3 := keysAt_of_own hown3
  have hz23 : A < w3.heap.size := by have := hb3.size; omega
  have HA3 := hide hA3
  have HB3 := hide hB3
  have HO3 := hide hO3
  have HP3 := hide hP3
  clear hA3 hB3 hO3 hP3 hown3 hb3 HA HB2 HO2 a5 hz12
  simp only [mval]
  go_wp2_with fail
  rw [bs_extract]
  refine (gdecode_no ((bytesM m).drop 1) _ (by rw [List.length_drop, unhide HBL]; unfold maxLen; omega) (unhide HLESS)).mono ?_
  rintro e w4 ⟨rfl, hb4⟩
  have hA4 : w4.heap[A]? = some (.cells #[.int .i64 m.kind, .int .i64 m.frm, .int .i64 m.inc, .int .i64 m.seq, .int .i64 m.tgt, .slice ao1 m.ups.length cap1] 25 (0, 0)) := by
    rw [hb4.block A (by simp; omega), Below.heap_alloc _ _ _ hz23]; exact unhide HA3
  have hC4 : w4.heap[w3.heap.size]? = some (.cells #[.int .i64 m.kind, .int .i64 m.frm, .int .i64 m.inc, .int .i64 m.seq, .int .i64 m.tgt, .slice ao2 m.ups.length cap2] 25 (0, 0)) := by
    rw [hb4.block _ (by simp)]; exact heap_alloc_new _ _
  have hB4 := (unhide HB3).trans (((Below.refl _ _).alloc (unhide HB3).size _).trans (hb4.mono (by have := (unhide HB3).size; simp; omega)))
  have hO4 := ((unhide HO3).below ((Below.refl _ _).alloc (Nat.le_refl _) _)).below hb4
  have hP4 := ((unhide HP3).below ((Below.refl _ _).alloc (Nat.le_refl _) _)).below hb4
  have hz34 : w3.heap.size < w4.heap.size := by have := hb4.size; simp at this; omega
  generalize w3.heap.size = C at hC4 hz34 hz23 ⊢
  have HI4 := hide (BI.mk hA4 hC4 hB4 hO4 hP4)
  clear hA4 hC4 hB4 hO4 hP4 hb4 HA3 HB3 HO3 HP3
  simp only [mval, M6.zero]
  go_wp2_with fail
  rw [bs_add]
  refine (gdecode_no (bytesM m ++ [120]) _ (by rw [List.length_append, unhide HBL]; unfold maxLen; simp; omega) (unhide HMORE)).mono ?_
  rintro e w5 ⟨rfl, hb5⟩
  have HI5 := hide (((unhide HI4).alloc _).mono hb5)
  clear hb5 HI4
  simp only [mval, M6.zero]
  go_wp2_with fail
  refine (told_any 2 _ (((unhide HI5).alloc _).gate hlt (unhide HG))).mono ?_
  rintro e w6 ⟨rfl, hb6⟩
  have HI6 := hide (((unhide HI5).alloc _).mono hb6)
  clear hb6 HI5
  go_wp2_with fail
  refine (told_any 2 _ ((unhide HI6).gate hlt (unhide HG))).mono ?_
  rintro e w7 ⟨rfl, hb7⟩
  have HI7 := hide ((unhide HI6).mono hb7)
  clear hb7 HI6
  have a0 : w7.cell? ⟨A, 0, none⟩ = some (.int .i64 m.kind) := cell_at (unhide HI7).a 0
  have a1 : w7.cell? ⟨A, 1, none⟩ = some (.int .i64 m.frm) := cell_at (unhide HI7).a 1
  have a2 : w7.cell? ⟨A, 2, none⟩ = some (.int .i64 m.inc) := cell_at (unhide HI7).a 2
  have a3 : w7.cell? ⟨A, 3, none⟩ = some (.int .i64 m.seq) := cell_at (unhide HI7).a 3
  have a4 : w7.cell? ⟨A, 4, none⟩ = some (.int .i64 m.tgt) := cell_at (unhide HI7).a 4
  have a5 : w7.cell? ⟨A, 5, none⟩ = some (.slice ao1 m.ups.length cap1) := cell_at (unhide HI7).a 5
  have c0 : w7.cell? ⟨C, 0, none⟩ = some (.int .i64 m.kind) := cell_at (unhide HI7).c 0
  have c1 : w7.cell? ⟨C, 1, none⟩ = some (.int .i64 m.frm) := cell_at (unhide HI7).c 1
  have c2 : w7.cell? ⟨C, 2, none⟩ = some (.int .i64 m.inc) := cell_at (unhide HI7).c 2
  have c3 : w7.cell? ⟨C, 3, none⟩ = some (.int .i64 m.seq) := cell_at (unhide HI7).c 3
  have c4 : w7.cell? ⟨C, 4, none⟩ = some (.int .i64 m.tgt) := cell_at (unhide HI7).c 4
  have c5 : w7.cell? ⟨C, 5, none⟩ = some (.slice ao2 m.ups.length cap2) := cell_at (unhide HI7).c 5
  go_wp2_with fail
  refine (same_any m _ _ _ (unhide HI7).ka (unhide HI7).kc (by omega)).mono ?_
  rintro e w8 ⟨rfl, hb8⟩
  have HI8 := hide ((unhide HI7).mono hb8)
  clear hb8 a0 a1 a2 a3 a4 a5 c0 c1 c2 c3 c4 c5
  go_wp2
  go_ret
  exact ⟨rfl, (unhide HI8).below⟩
end Go.Proofs.YtnneljcbelgoeaaDoor.wire
