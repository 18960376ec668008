import Derived.Test.YtnneljcbelgoeaaGreatDoorG01
/- gossipref's four, Bytes. -/
namespace Go.Proofs.YtnneljcbelgoeaaGreatDoor.wire
open Go.RowKit
theorem wraps_i64' (n : Int) (h₀ : 0 ≤ n) (h₁ : n < 2 ^ 63) : IntKind.i64.wrap n = n := by rw [IntKind.wrap_i64]; omega
theorem mask8 (x : Int) (h0 : 0 ≤ x) (h1 : x < 9223372036854775808) : bits .and .i64 x 255 = x % 256 :=
  bits_mask .i64 63 (by decide) wraps_i64' 8 (by decide) x h0 h1
theorem byte3 (n : Int) (h0 : 0 ≤ n) (h1 : n < 4294967296) : bits .and .i64 (n / 16777216) 255 % 256 = ((byteAt n 3).toNat : Int) := by
  rw [mask8 _ (by omega) (by omega), byteAt_int]; simp only [Nat.reduceMul, Int.reducePow]; omega
theorem byte2 (n : Int) (h0 : 0 ≤ n) (h1 : n < 4294967296) : bits .and .i64 (n / 65536) 255 % 256 = ((byteAt n 2).toNat : Int) := by
  rw [mask8 _ (by omega) (by omega), byteAt_int]; simp only [Nat.reduceMul, Int.reducePow]; omega
theorem byte1 (n : Int) (h0 : 0 ≤ n) (h1 : n < 4294967296) : bits .and .i64 (n / 256) 255 % 256 = ((byteAt n 1).toNat : Int) := by
  rw [mask8 _ (by omega) (by omega), byteAt_int]; simp only [Nat.reduceMul, Int.reducePow]; omega
theorem byte0 (n : Int) (h0 : 0 ≤ n) (h1 : n < 4294967296) : bits .and .i64 n 255 % 256 = ((byteAt n 0).toNat : Int) := by
  rw [mask8 _ (by omega) (by omega), byteAt_int]; simp
theorem byteLow (n : Int) : n % 256 = ((byteAt n 0).toNat : Int) := by rw [byteAt_int]; simp
theorem conv_new (W : World) (g : Nat) (hg : W.heap.size = g) (l : List UInt8) (c : Nat) :
    (convert 56 9 (.slice (some ⟨g, 0, none⟩) l.length c)).run Tryz.prog (W.alloc (.cells (ucells l).toArray 5)) = .ok (.string (bs l)) (W.alloc (.cells (ucells l).toArray 5)) := by
  subst hg
  refine run_convert_bytes_back _ 56 9 5 ⟨W.heap.size, 0, none⟩ c l Tryz.underlying56 Tryz.underlying5 Tryz.underlying9 fun j hj => ?_
  have hadd : (⟨W.heap.size, 0, none⟩ : Addr).add j = ⟨W.heap.size, j, none⟩ := by unfold Addr.add; split <;> simp_all
  rw [hadd, cell_at (heap_alloc_new _ _)]
  simp [ucells, List.getElem?_eq_getElem hj]
theorem conv4 (W : World) (g : Nat) (hg : W.heap.size = g) (a b c d : UInt8) : (convert 56 9 (.slice (some ⟨g, 0, none⟩) 4 4)).run Tryz.prog (W.alloc (.cells #[.int .u8 (a.toNat : Int), .int .u8 (b.toNat : Int), .int .u8 (c.toNat : Int), .int .u8 (d.toNat : Int)] 5)) = .ok (.string (bs [a, b, c, d])) (W.alloc (.cells #[.int .u8 (a.toNat : Int), .int .u8 (b.toNat : Int), .int .u8 (c.toNat : Int), .int .u8 (d.toNat : Int)] 5)) := conv_new W g hg [a, b, c, d] 4
theorem conv2 (W : World) (g : Nat) (hg : W.heap.size = g) (a b : UInt8) : (convert 56 9 (.slice (some ⟨g, 0, none⟩) 2 2)).run Tryz.prog (W.alloc (.cells #[.int .u8 (a.toNat : Int), .int .u8 (b.toNat : Int)] 5)) = .ok (.string (bs [a, b])) (W.alloc (.cells #[.int .u8 (a.toNat : Int), .int .u8 (b.toNat : Int)] 5)) := conv_new W g hg [a, b] 2
theorem conv1 (W : World) (g : Nat) (hg : W.heap.size = g) (a : UInt8) : (convert 56 9 (.slice (some ⟨g, 0, none⟩) 1 1)).run Tryz.prog (W.alloc (.cells #[.int .u8 (a.toNat : Int)] 5)) = .ok (.string (bs [a])) (W.alloc (.cells #[.int .u8 (a.toNat : Int)] 5)) := conv_new W g hg [a] 1
set_option maxRecDepth 20000 in
set_option maxHeartbeats 400000 in
theorem four_any (n : Int) (w : World) (h0 : 0 ≤ n) (h1 : n < 4294967296) :
    Calls Tryz.prog 50 #[.int .i64 n] w fun e w' => e = .returned (.string (bs (putB 4 n))) ∧ Below w.heap.size w w' := by
  have g3 := byte3 n h0 h1
  have g2 := byte2 n h0 h1
  have g1 := byte1 n h0 h1
  have g0 := byte0 n h0 h1
  have hc := conv4 w w.heap.size rfl (byteAt n 3) (byteAt n 2) (byteAt n 1) (byteAt n 0)
  go_enter Tryz.func50, Tryz.ntmps50
  go_wp2
  go_ret
  exact ⟨rfl, (Below.refl _ _).alloc (Nat.le_refl _) _⟩
theorem ret_str {a b : ByteArray} (h : a = b) : Ending.returned (.string a) = .returned (.string b) := by rw [h]
theorem bs_app (x y : List UInt8) : bs x ++ bs y = bs (x ++ y) := by
  apply ByteArray.ext
  simp [bs]
theorem whole_nums {m : M6} (h : wholeB m = true) : (0 ≤ m.inc ∧ m.inc < 4294967296) ∧ (0 ≤ m.seq ∧ m.seq < 4294967296) ∧ m.ups.length ≤ 8 ∧ ∀ k ∈ m.ups, 0 ≤ k.inc ∧ k.inc < 4294967296 := by
  have hl := whole_len h
  simp only [wholeB, Bool.and_eq_true] at h
  obtain ⟨_, hi, hs, _, ha⟩ := h
  have hi := isInc_of hi
  have hs := isSeq_of hs
  refine ⟨by omega, by omega, hl, fun k hk => ?_⟩
  have := List.all_eq_true.1 ha k hk
  simp only [isKeyB, Bool.and_eq_true] at this
  have := isInc_of this.2.1
  omega
set_option maxRecDepth 20000 in
set_option maxHeartbeats 2000000 in
theorem rbytes_any (m : M6) (v : Value) (w : World) (hv : KeysAt w v m.ups) (hm : wholeB m = true) :
    Calls Tryz.prog 27 #[mval m v] w fun e w' => e = .returned (.string (bs (bytesM m))) ∧ Below w.heap.size w w' := by
  obtain ⟨ao, cap, rfl⟩ := hv.form
  obtain ⟨⟨hi0, hi1⟩, ⟨hs0, hs1⟩, hl, hks⟩ := whole_nums hm
  have HV := hide hv
  have HKS := hide hks
  clear hv hm hks
  have happ := bs_app
  have hsize := bs_size
  have hplen := putB_len
  have l0 := byteLow m.kind
  have l1 := byteLow m.frm
  have l2 := byteLow m.tgt
  have hc := conv2 (w.alloc (.cells #[.int .i64 m.kind, .int .i64 m.frm, .int .i64 m.inc, .int .i64 m.seq, .int .i64 m.tgt, .slice ao m.ups.length cap] 33)) (w.heap.size + 1) (by simp) (byteAt m.kind 0) (byteAt m.frm 0)
  go_enter Tryz.func27, Tryz.ntmps27
  go_wp2_with fail
  refine (four_any m.inc _ hi0 hi1).mono ?_
  rintro e w1 ⟨rfl, hb1⟩
  have hB1 : Below (w.heap.size + 1) (w.alloc (.cells #[.int .i64 m.kind, .int .i64 m.frm, .int .i64 m.inc, .int .i64 m.seq, .int .i64 m.tgt, .slice ao m.ups.length cap] 33)) w1 := ((Below.refl _ _).alloc (by simp) _).trans (hb1.mono (by simp))
  clear hb1 hc l0 l1
  generalize hbox : w.alloc (.cells #[.int .i64 m.kind, .int .i64 m.frm, .int .i64 m.inc, .int .i64 m.seq, .int .i64 m.tgt, .slice ao m.ups.length cap] 33) = wb at hB1
  have hblk : wb.heap[w.heap.size]? = some (.cells #[.int .i64 m.kind, .int .i64 m.frm, .int .i64 m.inc, .int .i64 m.seq, .int .i64 m.tgt, .slice ao m.ups.length cap] 33 (0, 0)) := by rw [← hbox]; exact heap_alloc_new _ _
  have hbz : wb.heap.size = w.heap.size + 1 := by rw [← hbox]; simp
  have hbw : Below w.heap.size w wb := by rw [← hbox]; exact (Below.refl _ _).alloc (Nat.le_refl _) _
  have HBLK := hide hblk
  have HBZ := hide hbz
  have HBW := hide hbw
  clear hbox hblk hbz hbw
  have cell : ∀ (W : World), Below (w.heap.size + 1) wb W → ∀ j, W.cell? ⟨w.heap.size, j, none⟩ = #[Value.int .i64 m.kind, .int .i64 m.frm, .int .i64 m.inc, .int .i64 m.seq, .int .i64 m.tgt, .slice ao m.ups.length cap][j]? := fun _ h j => cell_at ((h.block _ (by omega)).trans (unhide HBLK)) j
  have CELL := hide cell
  clear cell
  have a3 : w1.cell? ⟨w.heap.size, 3, none⟩ = some (.int .i64 m.seq) := unhide CELL _ hB1 3
  have HB1 := hide hB1
  clear hB1
  go_wp2_with fail
  clear a3
  refine (four_any m.seq _ hs0 hs1).mono ?_
  rintro e w2 ⟨rfl, hb2⟩
  have hB2 := (unhide HB1).trans (hb2.mono (by have := (unhide HB1).size; have := unhide HBZ; omega))
  clear hb2 HB1
  have a4 : w2.cell? ⟨w.heap.size, 4, none⟩ = some (.int .i64 m.tgt) := unhide CELL _ hB2 4
  have a5 : w2.cell? ⟨w.heap.size, 5, none⟩ = some (.slice ao m.ups.length cap) := unhide CELL _ hB2 5
  have hc := conv2 w2 w2.heap.size rfl (byteAt m.tgt 0) (byteAt (m.ups.length : Int) 0)
  have e8 : ((byteAt (m.ups.length : Int) 0).toNat : Int) = (m.ups.length : Int) := by rw [← byteLow]; omega
  rw [e8] at hc
  clear e8
  have hz2 : w.heap.size < w2.heap.size := by have := hB2.size; have := unhide HBZ; omega
  have HB2 := hide (hB2.alloc (by omega) (.cells #[.int .u8 ((byteAt m.tgt 0).toNat : Int), .int .u8 (m.ups.length : Int)] 5))
  clear hB2
  go_wp2_with fail
  clear a4 a5 hc
  generalize hL : byteAt m.kind 0 :: byteAt m.frm 0 :: (putB 4 m.inc ++ (putB 4 m.seq ++ [byteAt m.tgt 0, byteAt (m.ups.length : Int) 0])) = L
  have hLl : L.length = 12 := by rw [← hL]; simp [putB_len]
  have HL : Hid (L ++ m.ups.flatMap keyBs = bytesM m) := hide (by rw [← hL]; simp [bytesM, putB_one])
  clear hL hz2 l2
  go_loopw [3, 6] (fun sv i wr => ∃ k : Nat, k ≤ m.ups.length ∧ i = .int .i64 k ∧ sv = .string (bs (L ++ (m.ups.take k).flatMap keyBs)) ∧ Below (w.heap.size + 1) wb wr) (fun _ i _ => m.ups.length - (intOf i).toNat)
  case atStart => exact ⟨0, Nat.zero_le _, rfl, by simp, unhide HB2⟩
  case round =>
    obtain ⟨k, hk, rfl, rfl, hbel⟩ := hrel
    clear HB2
    have c5 : wr.cell? ⟨w.heap.size, 5, none⟩ = some (.slice ao m.ups.length cap) := unhide CELL _ hbel 5
    have hzr : w.heap.size + 1 ≤ wr.heap.size := by have := hbel.size; have := unhide HBZ; omega
    by_cases hlt : k < m.ups.length
    · obtain ⟨b, off, rfl, hb, hc⟩ := (unhide HV).elem (by omega)
      obtain ⟨x0, x1, x2⟩ := hc k hlt
      have hold : ∀ a : Addr, a.block < w.heap.size → wr.cell? a = w.cell? a := fun a ha => by
        rw [hbel.cell (p := a) (by omega), (unhide HBW).cell (p := a) ha]
      have p0 := (hold ⟨b, off + k * 3, none⟩ hb).trans x0
      have p1 := (hold ⟨b, off + k * 3 + 1, none⟩ hb).trans x1
      have p2 := (hold ⟨b, off + k * 3 + 2, none⟩ hb).trans x2
      clear hold x0 x1 x2 hc
      obtain ⟨ki0, ki1⟩ := (unhide HKS) m.ups[k] (List.getElem_mem hlt)
      have HSN := hide (flatK_snoc m.ups k hlt)
      generalize hK : m.ups[k] = K at p0 p1 p2 ki0 ki1 HSN
      clear hK
      have hXl : (L ++ (m.ups.take k).flatMap keyBs).length ≤ 60 := by rw [List.length_append, flatK_len, hLl]; simp; omega
      generalize hX : L ++ (m.ups.take k).flatMap keyBs = X at hXl
      have HX := hide hX
      have HBEL := hide hbel
      clear hX hbel
      go_wp2_with fail
      refine (four_any K.inc _ ki0 ki1).mono ?_
      rintro e w3 ⟨rfl, hb3⟩
      have u0 : w3.cell? ⟨wr.heap.size, 0, none⟩ = some (.int .i64 K.id) := (hb3.cell (p := ⟨wr.heap.size, 0, none⟩) (by simp)).trans (by simp)
      have u2 : w3.cell? ⟨wr.heap.size, 2, none⟩ = some (.int .i64 K.st) := (hb3.cell (p := ⟨wr.heap.size, 2, none⟩) (by simp)).trans (by simp)
      have l4 := byteLow K.id
      have l5 := byteLow K.st
      have d1 := conv1 w3 w3.heap.size rfl (byteAt K.id 0)
      have d2 := conv1 (w3.alloc (.cells #[.int .u8 ((byteAt K.id 0).toNat : Int)] 5)) (w3.heap.size + 1) (by simp) (byteAt K.st 0)
      have hz3 : wr.heap.size < w3.heap.size := by have := hb3.size; simp at this; omega
      have hB3 := ((unhide HBEL).alloc (by omega) (.cells #[.int .i64 K.id, .int .i64 K.inc, .int .i64 K.st] 58)).trans (hb3.mono (by simp; omega))
      have HB3 := hide ((hB3.alloc (by omega) (.cells #[.int .u8 ((byteAt K.id 0).toNat : Int)] 5)).alloc (by simp; omega) (.cells #[.int .u8 ((byteAt K.st 0).toNat : Int)] 5))
      clear hb3 hB3 HBEL p0 p1 p2 c5
      go_wp2
      go_roundw
      case rel =>
        refine ⟨k + 1, by omega, by go_num, ?_, unhide HB3⟩
        rw [unhide HSN, ← List.append_assoc, unhide HX]
        simp [keyBs, putB_one]
      case measure => simp [intOf]; omega
    · have e : k = m.ups.length := by omega
      have HR := hide ((unhide HBW).trans (hbel.mono (by omega)))
      have HLL : Hid (L ++ (m.ups.take k).flatMap keyBs = bytesM m) := hide (by rw [e, List.take_length]; exact unhide HL)
      clear hbel e
      go_wp2
      go_ret
      exact ⟨ret_str (congrArg bs (unhide HLL)), unhide HR⟩
end Go.Proofs.YtnneljcbelgoeaaGreatDoor.wire
/- gossipref's Whole. -/
namespace Go.Proofs.YtnneljcbelgoeaaGreatDoor.wire
open Go.RowKit

theorem rid_any (n : Int) (w : World) : Calls Tryz.prog 46 #[.int .i64 n] w fun e w' => e = .returned (.bool (isIdB n)) ∧ w' = w := by
  by_cases h1 : 1 ≤ n
  · go_enter Tryz.func46, Tryz.ntmps46
    go_wp2
    all_goals go_ret
    all_goals exact ⟨by simp [isIdB, h1], rfl⟩
  · go_enter Tryz.func46, Tryz.ntmps46
    go_wp2
    all_goals go_ret
    all_goals exact ⟨by simp [isIdB]; omega, rfl⟩
theorem rinc_any (n : Int) (w : World) : Calls Tryz.prog 47 #[.int .i64 n] w fun e w' => e = .returned (.bool (isIncB n)) ∧ w' = w := by
  by_cases h1 : 1 ≤ n
  · go_enter Tryz.func47, Tryz.ntmps47
    go_wp2
    all_goals go_ret
    all_goals exact ⟨by simp [isIncB, h1], rfl⟩
  · go_enter Tryz.func47, Tryz.ntmps47
    go_wp2
    all_goals go_ret
    all_goals exact ⟨by simp [isIncB]; omega, rfl⟩
theorem whole_kind {m : M6} (h : m.kind < 1 ∨ 5 < m.kind) : wholeB m = false := by
  have h1 : lowB m.kind = false := by simp [lowB]; omega
  have h2 : highB m.kind = false := by simp [highB]; omega
  simp [wholeB, suits_no h1 h2]
theorem whole_seq {m : M6} (h : m.seq < 0 ∨ 4294967295 < m.seq) : wholeB m = false := by
  have h1 : isSeqB m.seq = false := by simp [isSeqB]; omega
  simp [wholeB, h1]
theorem whole_suit {m : M6} (h : suitsB m.kind m.tgt m.ups.length = false) : wholeB m = false := by simp [wholeB, h]
theorem whole_good {m : M6} (h1 : isIdB m.frm = true) (h2 : isIncB m.inc = true) (h3 : 0 ≤ m.seq) (h4 : m.seq ≤ 4294967295) (h5 : suitsB m.kind m.tgt m.ups.length = true) : wholeB m = allB m.ups := by
  simp [wholeB, h1, h2, isSeq_mk h3 h4, h5]
set_option maxRecDepth 100000 in
set_option maxHeartbeats 2000000 in
theorem rwhole_no (m : M6) (v : Value) (w : World) (hv : KeysAt w v m.ups) (_hl : m.ups.length ≤ 1000000) (h : m.kind < 1 ∨ 5 < m.kind ∨ isIdB m.frm = false ∨ isIncB m.inc = false ∨ m.seq < 0 ∨ 4294967295 < m.seq) :
    Calls Tryz.prog 25 #[mval m v] w fun e w' => e = .returned (.bool (wholeB m)) ∧ Below w.heap.size w w' := by
  obtain ⟨ao, cap, rfl⟩ := hv.form
  clear hv
  by_cases hk1 : m.kind < 1
  · clear h
    go_enter Tryz.func25, Tryz.ntmps25
    go_wp2_with (first
      | (go_at_call 46; refine (rid_any _ _).mono ?_; rintro e w' ⟨rfl, rfl⟩)
      | (go_at_call 47; refine (rinc_any _ _).mono ?_; rintro e w' ⟨rfl, rfl⟩))
    go_ret
    exact ⟨ret_bool (whole_kind (.inl hk1)).symm, (Below.refl _ _).alloc (Nat.le_refl _) _⟩
  by_cases hk5 : 5 < m.kind
  · clear h
    go_enter Tryz.func25, Tryz.ntmps25
    go_wp2_with (first
      | (go_at_call 46; refine (rid_any _ _).mono ?_; rintro e w' ⟨rfl, rfl⟩)
      | (go_at_call 47; refine (rinc_any _ _).mono ?_; rintro e w' ⟨rfl, rfl⟩))
    go_ret
    exact ⟨ret_bool (whole_kind (.inr hk5)).symm, (Below.refl _ _).alloc (Nat.le_refl _) _⟩
  cases hf : isIdB m.frm
  · clear h
    go_enter Tryz.func25, Tryz.ntmps25
    go_wp2_with (first
      | (go_at_call 46; refine (rid_any _ _).mono ?_; rintro e w' ⟨rfl, rfl⟩)
      | (go_at_call 47; refine (rinc_any _ _).mono ?_; rintro e w' ⟨rfl, rfl⟩))
    go_ret
    exact ⟨ret_bool (by simp [wholeB, hf]), (Below.refl _ _).alloc (Nat.le_refl _) _⟩
  cases hi : isIncB m.inc
  · clear h
    go_enter Tryz.func25, Tryz.ntmps25
    go_wp2_with (first
      | (go_at_call 46; refine (rid_any _ _).mono ?_; rintro e w' ⟨rfl, rfl⟩)
      | (go_at_call 47; refine (rinc_any _ _).mono ?_; rintro e w' ⟨rfl, rfl⟩))
    go_ret
    exact ⟨ret_bool (by simp [wholeB, hi]), (Below.refl _ _).alloc (Nat.le_refl _) _⟩
  by_cases hs0 : m.seq < 0
  · clear h
    go_enter Tryz.func25, Tryz.ntmps25
    go_wp2_with (first
      | (go_at_call 46; refine (rid_any _ _).mono ?_; rintro e w' ⟨rfl, rfl⟩)
      | (go_at_call 47; refine (rinc_any _ _).mono ?_; rintro e w' ⟨rfl, rfl⟩))
    go_ret
    exact ⟨ret_bool (whole_seq (.inl hs0)).symm, (Below.refl _ _).alloc (Nat.le_refl _) _⟩
  by_cases hs1 : 4294967295 < m.seq
  · clear h
    go_enter Tryz.func25, Tryz.ntmps25
    go_wp2_with (first
      | (go_at_call 46; refine (rid_any _ _).mono ?_; rintro e w' ⟨rfl, rfl⟩)
      | (go_at_call 47; refine (rinc_any _ _).mono ?_; rintro e w' ⟨rfl, rfl⟩))
    go_ret
    exact ⟨ret_bool (whole_seq (.inr hs1)).symm, (Below.refl _ _).alloc (Nat.le_refl _) _⟩
  simp [hf, hi] at h
  omega
set_option maxRecDepth 100000 in
set_option maxHeartbeats 2000000 in
theorem rwhole_low (m : M6) (v : Value) (w : World) (hv : KeysAt w v m.ups) (hl : m.ups.length ≤ 1000000) (hf : isIdB m.frm = true) (hi : isIncB m.inc = true) (hs0 : 0 ≤ m.seq) (hs1 : m.seq ≤ 4294967295) (hk1 : 1 ≤ m.kind) (hk3 : m.kind ≤ 3) :
    Calls Tryz.prog 25 #[mval m v] w fun e w' => e = .returned (.bool (wholeB m)) ∧ Below w.heap.size w w' := by
  obtain ⟨ao, cap, rfl⟩ := hv.form
  have HV := hide hv
  clear hv
  have hsu : suitsB m.kind m.tgt m.ups.length = (isIdB m.tgt && decide (m.ups.length ≤ 4)) := suits_low (by simp [lowB]; omega)
  have n4' : (m.kind == 4) = false := by simp; omega
  have n5' : (m.kind == 5) = false := by simp; omega
  have HSU := hide hsu
  clear hsu
  cases ht : isIdB m.tgt
  · have hno : wholeB m = false := whole_suit (by rw [unhide HSU, ht]; rfl)
    have HNO := hide hno
    clear hno
    go_enter Tryz.func25, Tryz.ntmps25
    go_wp2_with (first
      | (go_at_call 46; refine (rid_any _ _).mono ?_; rintro e w' ⟨rfl, rfl⟩)
      | (go_at_call 47; refine (rinc_any _ _).mono ?_; rintro e w' ⟨rfl, rfl⟩))
    go_ret
    exact ⟨ret_bool (unhide HNO).symm, (Below.refl _ _).alloc (Nat.le_refl _) _⟩
  by_cases hlen : 4 < m.ups.length
  · have hno : wholeB m = false := whole_suit (by rw [unhide HSU, ht]; simp; omega)
    have HNO := hide hno
    clear hno
    go_enter Tryz.func25, Tryz.ntmps25
    go_wp2_with (first
      | (go_at_call 46; refine (rid_any _ _).mono ?_; rintro e w' ⟨rfl, rfl⟩)
      | (go_at_call 47; refine (rinc_any _ _).mono ?_; rintro e w' ⟨rfl, rfl⟩))
    go_ret
    exact ⟨ret_bool (unhide HNO).symm, (Below.refl _ _).alloc (Nat.le_refl _) _⟩
  have HG : Hid (wholeB m = allB m.ups) := hide (whole_good hf hi hs0 hs1 (by rw [unhide HSU, ht]; simp; omega))
  go_enter Tryz.func25, Tryz.ntmps25
  go_wp2_with (first
    | (go_at_call 46; refine (rid_any _ _).mono ?_; rintro e w' ⟨rfl, rfl⟩)
    | (go_at_call 47; refine (rinc_any _ _).mono ?_; rintro e w' ⟨rfl, rfl⟩))
  go_loopw [7] (fun i wr => ∃ k : Nat, k ≤ m.ups.length ∧ i = .int .i64 k ∧ allB (m.ups.take k) = true ∧ Below (w.heap.size + 1) (w.alloc (.cells #[.int .i64 m.kind, .int .i64 m.frm, .int .i64 m.inc, .int .i64 m.seq, .int .i64 m.tgt, .slice ao m.ups.length cap] 33)) wr) (fun i _ => m.ups.length - (intOf i).toNat)
  case atStart => exact ⟨0, Nat.zero_le _, rfl, rfl, Below.refl _ _⟩
  case round =>
    obtain ⟨k, hk, rfl, ha, hbel⟩ := hrel
    have HA := hide ha
    clear ha
    have c5 : wr.cell? ⟨w.heap.size, 5, none⟩ = some (.slice ao m.ups.length cap) := by rw [hbel.cell (p := ⟨w.heap.size, 5, none⟩) (by simp)]; simp [go_sem]
    by_cases hlt : k < m.ups.length
    · obtain ⟨b, off, rfl, hb, hc⟩ := (unhide HV).elem (by omega)
      obtain ⟨x0, x1, x2⟩ := hc k hlt
      have hold : ∀ a : Addr, a.block < w.heap.size → wr.cell? a = w.cell? a := fun a ha => by
        rw [hbel.cell (p := a) (by omega), World.cell?_alloc_lt _ _ a ha]
      have p0 := (hold ⟨b, off + k * 3, none⟩ hb).trans x0
      have p1 := (hold ⟨b, off + k * 3 + 1, none⟩ hb).trans x1
      have p2 := (hold ⟨b, off + k * 3 + 2, none⟩ hb).trans x2
      clear hold x0 x1 x2 hc
      have hsz := hbel.size
      simp at hsz
      have hnew : Below (w.heap.size + 1) (w.alloc (.cells #[.int .i64 m.kind, .int .i64 m.frm, .int .i64 m.inc, .int .i64 m.seq, .int .i64 m.tgt, .slice (some ⟨b, off, none⟩) m.ups.length cap] 33)) (wr.alloc (.cells #[.int .i64 m.ups[k].id, .int .i64 m.ups[k].inc, .int .i64 m.ups[k].st] 58)) := hbel.alloc (by omega) _
      have hB : Below w.heap.size w (wr.alloc (.cells #[.int .i64 m.ups[k].id, .int .i64 m.ups[k].inc, .int .i64 m.ups[k].st] 58)) := ((Below.refl _ _).alloc (Nat.le_refl _) _).trans (hnew.mono (by omega))
      have HN := hide hnew
      have HB := hide hB
      clear hbel hnew hB
      generalize hK : m.ups[k] = K at p0 p1 p2 HN HB
      have HK := hide hK
      clear hK
      by_cases hq : isKeyB K = true
      · have HQ := hide hq
        simp only [isKeyB, Bool.and_eq_true] at hq
        obtain ⟨q1, q2, q3⟩ := hq
        obtain ⟨q4, q5⟩ := isSt_of q3
        clear q3
        go_wp2_with (first
          | (go_at_call 46; refine (rid_any _ _).mono ?_; rintro e w' ⟨rfl, rfl⟩)
          | (go_at_call 47; refine (rinc_any _ _).mono ?_; rintro e w' ⟨rfl, rfl⟩))
        go_roundw
        case rel => exact ⟨k + 1, by omega, by go_num, by rw [allB_snoc m.ups k hlt, unhide HK, unhide HA, unhide HQ]; rfl, unhide HN⟩
        case measure => simp [intOf]; omega
      · have hqf : isKeyB K = false := by simpa using hq
        have hbad : wholeB m = false := by rw [unhide HG]; exact allB_take_false m.ups k hlt (by rw [unhide HK]; exact hqf)
        have HBAD := hide hbad
        clear hbad hq
        cases q1 : isIdB K.id
        · go_wp2_with (first
            | (go_at_call 46; refine (rid_any _ _).mono ?_; rintro e w' ⟨rfl, rfl⟩)
            | (go_at_call 47; refine (rinc_any _ _).mono ?_; rintro e w' ⟨rfl, rfl⟩))
          go_ret
          exact ⟨ret_bool (unhide HBAD).symm, unhide HB⟩
        cases q2 : isIncB K.inc
        · go_wp2_with (first
            | (go_at_call 46; refine (rid_any _ _).mono ?_; rintro e w' ⟨rfl, rfl⟩)
            | (go_at_call 47; refine (rinc_any _ _).mono ?_; rintro e w' ⟨rfl, rfl⟩))
          go_ret
          exact ⟨ret_bool (unhide HBAD).symm, unhide HB⟩
        by_cases q3 : K.st < 1
        · go_wp2_with (first
            | (go_at_call 46; refine (rid_any _ _).mono ?_; rintro e w' ⟨rfl, rfl⟩)
            | (go_at_call 47; refine (rinc_any _ _).mono ?_; rintro e w' ⟨rfl, rfl⟩))
          go_ret
          exact ⟨ret_bool (unhide HBAD).symm, unhide HB⟩
        by_cases q4 : 4 < K.st
        · go_wp2_with (first
            | (go_at_call 46; refine (rid_any _ _).mono ?_; rintro e w' ⟨rfl, rfl⟩)
            | (go_at_call 47; refine (rinc_any _ _).mono ?_; rintro e w' ⟨rfl, rfl⟩))
          go_ret
          exact ⟨ret_bool (unhide HBAD).symm, unhide HB⟩
        simp [isKeyB, q1, q2, isStB] at hqf
        omega
    · have hz := hbel.size
      have hB : Below w.heap.size w wr := ((Below.refl _ _).alloc (Nat.le_refl _) _).trans (hbel.mono (by omega))
      have HB := hide hB
      clear hbel hB
      have e : k = m.ups.length := by omega
      have h2 := unhide HA
      rw [e, List.take_length] at h2
      have HR : Hid (wholeB m = true) := hide (by rw [unhide HG]; exact h2)
      clear h2 e
      go_wp2
      go_ret
      exact ⟨ret_bool (unhide HR).symm, unhide HB⟩
set_option maxRecDepth 100000 in
set_option maxHeartbeats 2000000 in
theorem rwhole_high (m : M6) (v : Value) (w : World) (hv : KeysAt w v m.ups) (hl : m.ups.length ≤ 1000000) (hf : isIdB m.frm = true) (hi : isIncB m.inc = true) (hs0 : 0 ≤ m.seq) (hs1 : m.seq ≤ 4294967295) (hk4 : m.kind = 4 ∨ m.kind = 5) :
    Calls Tryz.prog 25 #[mval m v] w fun e w' => e = .returned (.bool (wholeB m)) ∧ Below w.heap.size w w' := by
  obtain ⟨ao, cap, rfl⟩ := hv.form
  have HV := hide hv
  clear hv
  have hsu : suitsB m.kind m.tgt m.ups.length = (decide (m.tgt = 0) && decide (m.ups.length ≤ 8)) := suits_high (by simp [highB]; omega)
  have HSU := hide hsu
  have hk1 : 1 ≤ m.kind := by omega
  have hk5 : m.kind ≤ 5 := by omega
  have hkk : (m.kind == 4) = true ∨ (m.kind == 4) = false ∧ (m.kind == 5) = true := by simp; omega
  clear hsu hk4
  rcases hkk with n4' | ⟨n4', n5'⟩
  all_goals
    by_cases ht : m.tgt = 0
    case neg =>
      have ht' : (m.tgt == 0) = false := by simp [ht]
      have hno : wholeB m = false := whole_suit (by rw [unhide HSU]; simp [ht])
      have HNO := hide hno
      clear hno
      go_enter Tryz.func25, Tryz.ntmps25
      go_wp2_with (first
        | (go_at_call 46; refine (rid_any _ _).mono ?_; rintro e w' ⟨rfl, rfl⟩)
        | (go_at_call 47; refine (rinc_any _ _).mono ?_; rintro e w' ⟨rfl, rfl⟩))
      go_ret
      exact ⟨ret_bool (unhide HNO).symm, (Below.refl _ _).alloc (Nat.le_refl _) _⟩
    have ht' : (m.tgt == 0) = true := by simp [ht]
    by_cases hlen : 8 < m.ups.length
    case pos =>
      have hno : wholeB m = false := whole_suit (by rw [unhide HSU]; simp; omega)
      have HNO := hide hno
      clear hno ht
      go_enter Tryz.func25, Tryz.ntmps25
      go_wp2_with (first
        | (go_at_call 46; refine (rid_any _ _).mono ?_; rintro e w' ⟨rfl, rfl⟩)
        | (go_at_call 47; refine (rinc_any _ _).mono ?_; rintro e w' ⟨rfl, rfl⟩))
      go_ret
      exact ⟨ret_bool (unhide HNO).symm, (Below.refl _ _).alloc (Nat.le_refl _) _⟩
    have HG : Hid (wholeB m = allB m.ups) := hide (whole_good hf hi hs0 hs1 (by rw [unhide HSU]; simp [ht]; omega))
    clear ht
    go_enter Tryz.func25, Tryz.ntmps25
    go_wp2_with (first
      | (go_at_call 46; refine (rid_any _ _).mono ?_; rintro e w' ⟨rfl, rfl⟩)
      | (go_at_call 47; refine (rinc_any _ _).mono ?_; rintro e w' ⟨rfl, rfl⟩))
    go_loopw [7] (fun i wr => ∃ k : Nat, k ≤ m.ups.length ∧ i = .int .i64 k ∧ allB (m.ups.take k) = true ∧ Below (w.heap.size + 1) (w.alloc (.cells #[.int .i64 m.kind, .int .i64 m.frm, .int .i64 m.inc, .int .i64 m.seq, .int .i64 m.tgt, .slice ao m.ups.length cap] 33)) wr) (fun i _ => m.ups.length - (intOf i).toNat)
    case atStart => exact ⟨0, Nat.zero_le _, rfl, rfl, Below.refl _ _⟩
    case round =>
      obtain ⟨k, hk, rfl, ha, hbel⟩ := hrel
      have HA := hide ha
      clear ha
      have c5 : wr.cell? ⟨w.heap.size, 5, none⟩ = some (.slice ao m.ups.length cap) := by rw [hbel.cell (p := ⟨w.heap.size, 5, none⟩) (by simp)]; simp [go_sem]
      by_cases hlt : k < m.ups.length
      · obtain ⟨b, off, rfl, hb, hc⟩ := (unhide HV).elem (by omega)
        obtain ⟨x0, x1, x2⟩ := hc k hlt
        have hold : ∀ a : Addr, a.block < w.heap.size → wr.cell? a = w.cell? a := fun a ha => by
          rw [hbel.cell (p := a) (by omega), World.cell?_alloc_lt _ _ a ha]
        have p0 := (hold ⟨b, off + k * 3, none⟩ hb).trans x0
        have p1 := (hold ⟨b, off + k * 3 + 1, none⟩ hb).trans x1
        have p2 := (hold ⟨b, off + k * 3 + 2, none⟩ hb).trans x2
        clear hold x0 x1 x2 hc
        have hsz := hbel.size
        simp at hsz
        have hnew : Below (w.heap.size + 1) (w.alloc (.cells #[.int .i64 m.kind, .int .i64 m.frm, .int .i64 m.inc, .int .i64 m.seq, .int .i64 m.tgt, .slice (some ⟨b, off, none⟩) m.ups.length cap] 33)) (wr.alloc (.cells #[.int .i64 m.ups[k].id, .int .i64 m.ups[k].inc, .int .i64 m.ups[k].st] 58)) := hbel.alloc (by omega) _
        have hB : Below w.heap.size w (wr.alloc (.cells #[.int .i64 m.ups[k].id, .int .i64 m.ups[k].inc, .int .i64 m.ups[k].st] 58)) := ((Below.refl _ _).alloc (Nat.le_refl _) _).trans (hnew.mono (by omega))
        have HN := hide hnew
        have HB := hide hB
        clear hbel hnew hB
        generalize hK : m.ups[k] = K at p0 p1 p2 HN HB
        have HK := hide hK
        clear hK
        by_cases hq : isKeyB K = true
        · have HQ := hide hq
          simp only [isKeyB, Bool.and_eq_true] at hq
          obtain ⟨q1, q2, q3⟩ := hq
          obtain ⟨q4, q5⟩ := isSt_of q3
          clear q3
          go_wp2_with (first
            | (go_at_call 46; refine (rid_any _ _).mono ?_; rintro e w' ⟨rfl, rfl⟩)
            | (go_at_call 47; refine (rinc_any _ _).mono ?_; rintro e w' ⟨rfl, rfl⟩))
          go_roundw
          case rel => exact ⟨k + 1, by omega, by go_num, by rw [allB_snoc m.ups k hlt, unhide HK, unhide HA, unhide HQ]; rfl, unhide HN⟩
          case measure => simp [intOf]; omega
        · have hqf : isKeyB K = false := by simpa using hq
          have hbad : wholeB m = false := by rw [unhide HG]; exact allB_take_false m.ups k hlt (by rw [unhide HK]; exact hqf)
          have HBAD := hide hbad
          clear hbad hq
          cases q1 : isIdB K.id
          · go_wp2_with (first
              | (go_at_call 46; refine (rid_any _ _).mono ?_; rintro e w' ⟨rfl, rfl⟩)
              | (go_at_call 47; refine (rinc_any _ _).mono ?_; rintro e w' ⟨rfl, rfl⟩))
            go_ret
            exact ⟨ret_bool (unhide HBAD).symm, unhide HB⟩
          cases q2 : isIncB K.inc
          · go_wp2_with (first
              | (go_at_call 46; refine (rid_any _ _).mono ?_; rintro e w' ⟨rfl, rfl⟩)
              | (go_at_call 47; refine (rinc_any _ _).mono ?_; rintro e w' ⟨rfl, rfl⟩))
            go_ret
            exact ⟨ret_bool (unhide HBAD).symm, unhide HB⟩
          by_cases q3 : K.st < 1
          · go_wp2_with (first
              | (go_at_call 46; refine (rid_any _ _).mono ?_; rintro e w' ⟨rfl, rfl⟩)
              | (go_at_call 47; refine (rinc_any _ _).mono ?_; rintro e w' ⟨rfl, rfl⟩))
            go_ret
            exact ⟨ret_bool (unhide HBAD).symm, unhide HB⟩
          by_cases q4 : 4 < K.st
          · go_wp2_with (first
              | (go_at_call 46; refine (rid_any _ _).mono ?_; rintro e w' ⟨rfl, rfl⟩)
              | (go_at_call 47; refine (rinc_any _ _).mono ?_; rintro e w' ⟨rfl, rfl⟩))
            go_ret
            exact ⟨ret_bool (unhide HBAD).symm, unhide HB⟩
          simp [isKeyB, q1, q2, isStB] at hqf
          omega
      · have hz := hbel.size
        have hB : Below w.heap.size w wr := ((Below.refl _ _).alloc (Nat.le_refl _) _).trans (hbel.mono (by omega))
        have HB := hide hB
        clear hbel hB
        have e : k = m.ups.length := by omega
        have h2 := unhide HA
        rw [e, List.take_length] at h2
        have HR : Hid (wholeB m = true) := hide (by rw [unhide HG]; exact h2)
        clear h2 e
        go_wp2
        go_ret
        exact ⟨ret_bool (unhide HR).symm, unhide HB⟩
theorem rwhole_any (m : M6) (v : Value) (w : World) (hv : KeysAt w v m.ups) (hl : m.ups.length ≤ 1000000) :
    Calls Tryz.prog 25 #[mval m v] w fun e w' => e = .returned (.bool (wholeB m)) ∧ Below w.heap.size w w' := by
  by_cases h : m.kind < 1 ∨ 5 < m.kind ∨ isIdB m.frm = false ∨ isIncB m.inc = false ∨ m.seq < 0 ∨ 4294967295 < m.seq
  · exact rwhole_no m v w hv hl h
  · simp only [not_or, Bool.not_eq_false] at h
    obtain ⟨h1, h2, h3, h4, h5, h6⟩ := h
    by_cases hk : m.kind ≤ 3
    · exact rwhole_low m v w hv hl h3 h4 (by omega) (by omega) (by omega) hk
    · exact rwhole_high m v w hv hl h3 h4 (by omega) (by omega) (by omega)
end Go.Proofs.YtnneljcbelgoeaaGreatDoor.wire
