import Derived.Test.YtnneljcbelgoeaaGreatDoorG00
import Derived.Test.YtnneljcbelgoeaaGreatDoorG01
namespace Go.Proofs.YtnneljcbelgoeaaGreatDoor.wire

theorem putB_one (n : Int) : putB 1 n = [byteAt n 0] := rfl
theorem putB_four (n : Int) : putB 4 n = [byteAt n 3, byteAt n 2, byteAt n 1, byteAt n 0] := rfl
theorem byte_eq {c d : UInt8} (h : (c.toNat : Int) = (d.toNat : Int)) : c = d := by
  apply UInt8.toNat_inj.1; omega
theorem byteAt_self (c : UInt8) : byteAt (c.toNat : Int) 0 = c := by
  apply byte_eq; rw [byteAt_int]; have := c.toNat_lt; simp; omega
theorem put_n4 (c0 c1 c2 c3 : UInt8) : putB 4 (n4 c0 c1 c2 c3) = [c0, c1, c2, c3] := by
  have h0 := c0.toNat_lt
  have h1 := c1.toNat_lt
  have h2 := c2.toNat_lt
  have h3 := c3.toNat_lt
  rw [putB_four]
  congr 1
  · apply byte_eq; rw [byteAt_int]; unfold n4; simp only [Nat.reduceMul, Int.reducePow]; omega
  congr 1
  · apply byte_eq; rw [byteAt_int]; unfold n4; simp only [Nat.reduceMul, Int.reducePow]; omega
  congr 1
  · apply byte_eq; rw [byteAt_int]; unfold n4; simp only [Nat.reduceMul, Int.reducePow]; omega
  congr 1
  · apply byte_eq; rw [byteAt_int]; unfold n4; simp only [Nat.mul_zero, Int.pow_zero]; omega
theorem n4_put (n : Int) (h0 : 0 ≤ n) (h1 : n < 4294967296) : n4 (byteAt n 3) (byteAt n 2) (byteAt n 1) (byteAt n 0) = n := by
  unfold n4
  rw [byteAt_int, byteAt_int, byteAt_int, byteAt_int]
  simp only [Nat.reduceMul, Int.reducePow, Nat.mul_zero, Int.pow_zero]
  omega
theorem one_put (n : Int) (h0 : 0 ≤ n) (h1 : n < 256) : ((byteAt n 0).toNat : Int) = n := by
  rw [byteAt_int]; simp; omega
theorem keys_bytes : ∀ (n : Nat) (l : List UInt8), l.length = n * 6 → (readKs n l).flatMap keyBs = l
  | 0, l, h => by simp at h; simp [readKs, h]
  | n + 1, a :: b0 :: b1 :: b2 :: b3 :: c :: r, h => by
    have := keys_bytes n r (by simp at h; omega)
    simp only [readKs, List.flatMap_cons, this, keyBs, List.flatMap_nil, List.append_nil, put_n4, putB_one, byteAt_self]
    rfl
  | n + 1, [], h => by simp at h
  | n + 1, [_], h => by simp at h; omega
  | n + 1, [_, _], h => by simp at h; omega
  | n + 1, [_, _, _], h => by simp at h; omega
  | n + 1, [_, _, _, _], h => by simp at h; omega
  | n + 1, [_, _, _, _, _], h => by simp at h; omega
/-- What is decoded is encoded to the same bytes. -/
theorem bytes_read {l : List UInt8} (h : rightB l = true) : bytesM (readM l) = l := by
  obtain ⟨c0, c1, i0, i1, i2, i3, s0, s1, s2, s3, t, n, r, rfl, hr⟩ := right_form h
  simp only [readM, bytesM, keys_bytes _ _ hr, readKs_len _ _ hr, List.flatMap_cons, List.flatMap_nil, List.append_nil, put_n4, putB_one, byteAt_self]
  rfl
theorem keyB_of {k : K3} (h : isKeyB k = true) : (0 ≤ k.id ∧ k.id < 256) ∧ (0 ≤ k.inc ∧ k.inc < 4294967296) ∧ (0 ≤ k.st ∧ k.st < 256) := by
  simp only [isKeyB, Bool.and_eq_true] at h
  have h1 := isId_of h.1
  have h2 := isInc_of h.2.1
  have h3 := isSt_of h.2.2
  omega
theorem read_keys : ∀ (l : List K3), allB l = true → readKs l.length (l.flatMap keyBs) = l
  | [], _ => rfl
  | k :: r, h => by
    have hk : isKeyB k = true ∧ allB r = true := by simpa [allB] using h
    obtain ⟨h1, h2, h3⟩ := keyB_of hk.1
    have ih := read_keys r hk.2
    simp only [List.flatMap_cons, keyBs, List.flatMap_nil, List.append_nil, putB_one, putB_four, List.length_cons, List.cons_append, List.nil_append, readKs]
    rw [ih, one_put _ h1.1 h1.2, one_put _ h3.1 h3.2, n4_put _ h2.1 h2.2]
theorem suits_tgt {k t : Int} {n : Nat} (h : suitsB k t n = true) : (1 ≤ k ∧ k ≤ 5) ∧ (0 ≤ t ∧ t < 256) ∧ n ≤ 8 := by
  unfold suitsB at h
  split at h
  · rename_i hk
    simp [lowB] at hk
    simp at h
    have := isId_of h.1
    omega
  · split at h
    · rename_i _ hk
      simp [highB] at hk
      simp at h
      omega
    · simp at h
theorem bytesM_len (m : M6) : (bytesM m).length = 12 + m.ups.length * 6 := by
  simp only [bytesM, List.length_append, flatK_len, flat_len, List.length_cons, List.length_nil]
theorem bytesM_form (m : M6) (h : m.ups.length ≤ 8) : ∃ c0 c1 i0 i1 i2 i3 s0 s1 s2 s3 t n r, bytesM m = c0 :: c1 :: i0 :: i1 :: i2 :: i3 :: s0 :: s1 :: s2 :: s3 :: t :: n :: r ∧ n.toNat = m.ups.length ∧ r = m.ups.flatMap keyBs ∧ c0 = byteAt m.kind 0 ∧ c1 = byteAt m.frm 0 ∧ n4 i0 i1 i2 i3 = n4 (byteAt m.inc 3) (byteAt m.inc 2) (byteAt m.inc 1) (byteAt m.inc 0) ∧ n4 s0 s1 s2 s3 = n4 (byteAt m.seq 3) (byteAt m.seq 2) (byteAt m.seq 1) (byteAt m.seq 0) ∧ t = byteAt m.tgt 0 := by
  refine ⟨_, _, _, _, _, _, _, _, _, _, _, byteAt (m.ups.length : Int) 0, _, rfl, ?_, rfl, rfl, rfl, rfl, rfl, rfl⟩
  have := one_put (m.ups.length : Int) (by omega) (by omega)
  omega
/-- The bytes of a whole message are of the right length, and read as it. -/
theorem read_bytes {m : M6} (h : wholeB m = true) : rightB (bytesM m) = true ∧ readM (bytesM m) = m := by
  have h0 := h
  simp only [wholeB, Bool.and_eq_true] at h
  obtain ⟨hf, hi, hs, hk, ha⟩ := h
  have hf := isId_of hf
  have hi := isInc_of hi
  have hs := isSeq_of hs
  obtain ⟨hk, ht, hn⟩ := suits_tgt hk
  have hlen := bytesM_len m
  obtain ⟨c0, c1, i0, i1, i2, i3, s0, s1, s2, s3, t, n, r, e, en, er, e0, e1, ei, es, et⟩ := bytesM_form m hn
  constructor
  · rw [e] at hlen ⊢
    simp [rightB]
    simp at hlen
    omega
  · rw [e]
    simp only [readM]
    rw [er, en, read_keys _ ha, e0, e1, et, ei, es, n4_put _ (by omega) (by omega), n4_put _ (by omega) (by omega), one_put _ (by omega) (by omega), one_put _ (by omega) (by omega), one_put _ (by omega) (by omega)]
end Go.Proofs.YtnneljcbelgoeaaGreatDoor.wire
/- gossipref's four, Bytes. -/
namespace Go.Proofs.YtnneljcbelgoeaaGreatDoor.wire
open Go.RowKit
theorem wraps_i64' (n : Int) (h₀ : 0 ≤ n) (h₁ : n < 2 ^ 63) : IntKind.i64.wrap n = n := by rw [IntKind.wrap_i64]; omega
theorem mask8 (x : Int) (h0 : 0 ≤ x) (h1 : x < 9223372036854775808) : bits .and .i64 x 255 = x % 256 :=
  bits_mask .i64 63 (by decide) wraps_i64' 8 (by decide) x h0 h1
theorem byte3 (n : Int) (h0 : 0 ≤ n) (h1 : n < 4294967296) : bits .and .i64 (n / 16777216) 255 % 256 = ((byteAt n 3).toNat : Int) := by
  rw [mask8 _ (by omega) (by omega), byteAt_int]; simp only [Nat.reduceMul, Int.reducePow]; omega
theorem byte2 (n : Int) (h0 : 0 ≤ n) (h1 : n < 4294967296) : bits .and .i64 (n / 65536) 255 % 256 = ((byteAt n 2).toNat : Int) := by
  rw [mask8 _ (by omega) (by omega), byteAt_int]; simp only [Nat.reduceMul, Int.reducePow]; omega
theorem byte1 (n : Int) (h0 : 0 ≤ n) (h1 : n < 4294967296) : bits .and .i64 (n / 256) 255 % 256 = ((byteAt n 1).toNat : Int) := by
  rw [mask8 _ (by omega) (by omega), byteAt_int]; simp only [Nat.reduceMul, Int.reducePow]; omega
theorem byte0 (n : Int) (h0 : 0 ≤ n) (h1 : n < 4294967296) : bits .and .i64 n 255 % 256 = ((byteAt n 0).toNat : Int) := by
  rw [mask8 _ (by omega) (by omega), byteAt_int]; simp
theorem byteLow (n : Int) : n % 256 = ((byteAt n 0).toNat : Int) := by rw [byteAt_int]; simp
theorem conv_new (W : World) (g : Nat) (hg : W.heap.size = g) (l : List UInt8) (c : Nat) :
    (convert 56 9 (.slice (some ⟨g, 0, none⟩) l.length c)).run Tryz.prog (W.alloc (.cells (ucells l).toArray 5)) = .ok (.string (bs l)) (W.alloc (.cells (ucells l).toArray 5)) := by
  subst hg
  refine run_convert_bytes_back _ 56 9 5 ⟨W.heap.size, 0, none⟩ c l Tryz.underlying56 Tryz.underlying5 Tryz.underlying9 fun j hj => ?_
  have hadd : (⟨W.heap.size, 0, none⟩ : Addr).add j = ⟨W.heap.size, j, none⟩ := by unfold Addr.add; split <;> simp_all
  rw [hadd, cell_at (heap_alloc_new _ _)]
  simp [ucells, List.getElem?_eq_getElem hj]
theorem conv4 (W : World) (g : Nat) (hg : W.heap.size = g) (a b c d : UInt8) : (convert 56 9 (.slice (some ⟨g, 0, none⟩) 4 4)).run Tryz.prog (W.alloc (.cells #[.int .u8 (a.toNat : Int), .int .u8 (b.toNat : Int), .int .u8 (c.toNat : Int), .int .u8 (d.toNat : Int)] 5)) = .ok (.string (bs [a, b, c, d])) (W.alloc (.cells #[.int .u8 (a.toNat : Int), .int .u8 (b.toNat : Int), .int .u8 (c.toNat : Int), .int .u8 (d.toNat : Int)] 5)) := conv_new W g hg [a, b, c, d] 4
theorem conv2 (W : World) (g : Nat) (hg : W.heap.size = g) (a b : UInt8) : (convert 56 9 (.slice (some ⟨g, 0, none⟩) 2 2)).run Tryz.prog (W.alloc (.cells #[.int .u8 (a.toNat : Int), .int .u8 (b.toNat : Int)] 5)) = .ok (.string (bs [a, b])) (W.alloc (.cells #[.int .u8 (a.toNat : Int), .int .u8 (b.toNat : Int)] 5)) := conv_new W g hg [a, b] 2
theorem conv1 (W : World) (g : Nat) (hg : W.heap.size = g) (a : UInt8) : (convert 56 9 (.slice (some ⟨g, 0, none⟩) 1 1)).run Tryz.prog (W.alloc (.cells #[.int .u8 (a.toNat : Int)] 5)) = .ok (.string (bs [a])) (W.alloc (.cells #[.int .u8 (a.toNat : Int)] 5)) := conv_new W g hg [a] 1
set_option maxRecDepth 20000 in
set_option maxHeartbeats 400000 in
theorem four_any (n : Int) (w : World) (h0 : 0 ≤ n) (h1 : n < 4294967296) :
    Calls Tryz.prog 50 #[.int .i64 n] w fun e w' => e = .returned (.string (bs (putB 4 n))) ∧ Below w.heap.size w w' := by
  have g3 := byte3 n h0 h1
  have g2 := byte2 n h0 h1
  have g1 := byte1 n h0 h1
  have g0 := byte0 n h0 h1
  have hc := conv4 w w.heap.size rfl (byteAt n 3) (byteAt n 2) (byteAt n 1) (byteAt n 0)
  go_enter Tryz.func50, Tryz.ntmps50
  go_wp2
  go_ret
  exact ⟨rfl, (Below.refl _ _).alloc (Nat.le_refl _) _⟩
theorem ret_str {a b : ByteArray} (h : a = b) : Ending.returned (.string a) = .returned (.string b) := by rw [h]
theorem bs_app (x y : List UInt8) : bs x ++ bs y = bs (x ++ y) := by
  apply ByteArray.ext
  simp [bs]
theorem whole_nums {m : M6} (h : wholeB m = true) : (0 ≤ m.inc ∧ m.inc < 4294967296) ∧ (0 ≤ m.seq ∧ m.seq < 4294967296) ∧ m.ups.length ≤ 8 ∧ ∀ k ∈ m.ups, 0 ≤ k.inc ∧ k.inc < 4294967296 := by
  have hl := whole_len h
  simp only [wholeB, Bool.and_eq_true] at h
  obtain ⟨_, hi, hs, _, ha⟩ := h
  have hi := isInc_of hi
  have hs := isSeq_of hs
  refine ⟨by omega, by omega, hl, fun k hk => ?_⟩
  have := List.all_eq_true.1 ha k hk
  simp only [isKeyB, Bool.and_eq_true] at this
  have := isInc_of this.2.1
  omega
set_option maxRecDepth 20000 in
set_option maxHeartbeats 2000000 in
theorem rbytes_any (m : M6) (v : Value) (w : World) (hv : KeysAt w v m.ups) (hm : wholeB m = true) :
    Calls Tryz.prog 27 #[mval m v] w fun e w' => e = .returned (.string (bs (bytesM m))) ∧ Below w.heap.size w w' := by
  obtain ⟨ao, cap, rfl⟩ := hv.form
  obtain ⟨⟨hi0, hi1⟩, ⟨hs0, hs1⟩, hl, hks⟩ := whole_nums hm
  have HV := hide hv
  have HKS := hide hks
  clear hv hm hks
  have happ := bs_app
  have hsize := bs_size
  have hplen := putB_len
  have l0 := byteLow m.kind
  have l1 := byteLow m.frm
  have l2 := byteLow m.tgt
  have hc := conv2 (w.alloc (.cells #[.int .i64 m.kind, .int .i64 m.frm, .int .i64 m.inc, .int .i64 m.seq, .int .i64 m.tgt, .slice ao m.ups.length cap] 33)) (w.heap.size + 1) (by simp) (byteAt m.kind 0) (byteAt m.frm 0)
  go_enter Tryz.func27, Tryz.ntmps27
  go_wp2_with fail
  refine (four_any m.inc _ hi0 hi1).mono ?_
  rintro e w1 ⟨rfl, hb1⟩
  have hB1 : Below (w.heap.size + 1) (w.alloc (.cells #[.int .i64 m.kind, .int .i64 m.frm, .int .i64 m.inc, .int .i64 m.seq, .int .i64 m.tgt, .slice ao m.ups.length cap] 33)) w1 := ((Below.refl _ _).alloc (by simp) _).trans (hb1.mono (by simp))
  clear hb1 hc l0 l1
  generalize hbox : w.alloc (.cells #[.int .i64 m.kind, .int .i64 m.frm, .int .i64 m.inc, .int .i64 m.seq, .int .i64 m.tgt, .slice ao m.ups.length cap] 33) = wb at hB1
  have hblk : wb.heap[w.heap.size]? = some (.cells #[.int .i64 m.kind, .int .i64 m.frm, .int .i64 m.inc, .int .i64 m.seq, .int .i64 m.tgt, .slice ao m.ups.length cap] 33 (0, 0)) := by rw [← hbox]; exact heap_alloc_new _ _
  have hbz : wb.heap.size = w.heap.size + 1 := by rw [← hbox]; simp
  have hbw : Below w.heap.size w wb := by rw [← hbox]; exact (Below.refl _ _).alloc (Nat.le_refl _) _
  have HBLK := hide hblk
  have HBZ := hide hbz
  have HBW := hide hbw
  clear hbox hblk hbz hbw
  have cell : ∀ (W : World), Below (w.heap.size + 1) wb W → ∀ j, W.cell? ⟨w.heap.size, j, none⟩ = #[Value.int .i64 m.kind, .int .i64 m.frm, .int .i64 m.inc, .int .i64 m.seq, .int .i64 m.tgt, .slice ao m.ups.length cap][j]? := fun _ h j => cell_at ((h.block _ (by omega)).trans (unhide HBLK)) j
  have CELL := hide cell
  clear cell
  have a3 : w1.cell? ⟨w.heap.size, 3, none⟩ = some (.int .i64 m.seq) := unhide CELL _ hB1 3
  have HB1 := hide hB1
  clear hB1
  go_wp2_with fail
  clear a3
  refine (four_any m.seq _ hs0 hs1).mono ?_
  rintro e w2 ⟨rfl, hb2⟩
  have hB2 := (unhide HB1).trans (hb2.mono (by have := (unhide HB1).size; have := unhide HBZ; omega))
  clear hb2 HB1
  have a4 : w2.cell? ⟨w.heap.size, 4, none⟩ = some (.int .i64 m.tgt) := unhide CELL _ hB2 4
  have a5 : w2.cell? ⟨w.heap.size, 5, none⟩ = some (.slice ao m.ups.length cap) := unhide CELL _ hB2 5
  have hc := conv2 w2 w2.heap.size rfl (byteAt m.tgt 0) (byteAt (m.ups.length : Int) 0)
  have e8 : ((byteAt (m.ups.length : Int) 0).toNat : Int) = (m.ups.length : Int) := by rw [← byteLow]; omega
  rw [e8] at hc
  clear e8
  have hz2 : w.heap.size < w2.heap.size := by have := hB2.size; have := unhide HBZ; omega
  have HB2 := hide (hB2.alloc (by omega) (.cells #[.int .u8 ((byteAt m.tgt 0).toNat : Int), .int .u8 (m.ups.length : Int)] 5))
  clear hB2
  go_wp2_with fail
  clear a4 a5 hc
  generalize hL : byteAt m.kind 0 :: byteAt m.frm 0 :: (putB 4 m.inc ++ (putB 4 m.seq ++ [byteAt m.tgt 0, byteAt (m.ups.length : Int) 0])) = L
  have hLl : L.length = 12 := by rw [← hL]; simp [putB_len]
  have HL : Hid (L ++ m.ups.flatMap keyBs = bytesM m) := hide (by rw [← hL]; simp [bytesM, putB_one])
  clear hL hz2 l2
  go_loopw [3, 6] (fun sv i wr => ∃ k : Nat, k ≤ m.ups.length ∧ i = .int .i64 k ∧ sv = .string (bs (L ++ (m.ups.take k).flatMap keyBs)) ∧ Below (w.heap.size + 1) wb wr) (fun _ i _ => m.ups.length - (intOf i).toNat)
  case atStart => exact ⟨0, Nat.zero_le _, rfl, by simp, unhide HB2⟩
  case round =>
    obtain ⟨k, hk, rfl, rfl, hbel⟩ := hrel
    clear HB2
    have c5 : wr.cell? ⟨w.heap.size, 5, none⟩ = some (.slice ao m.ups.length cap) := unhide CELL _ hbel 5
    have hzr : w.heap.size + 1 ≤ wr.heap.size := by have := hbel.size; have := unhide HBZ; omega
    by_cases hlt : k < m.ups.length
    · obtain ⟨b, off, rfl, hb, hc⟩ := (unhide HV).elem (by omega)
      obtain ⟨x0, x1, x2⟩ := hc k hlt
      have hold : ∀ a : Addr, a.block < w.heap.size → wr.cell? a = w.cell? a := fun a ha => by
        rw [hbel.cell (p := a) (by omega), (unhide HBW).cell (p := a) ha]
      have p0 := (hold ⟨b, off + k * 3, none⟩ hb).trans x0
      have p1 := (hold ⟨b, off + k * 3 + 1, none⟩ hb).trans x1
      have p2 := (hold ⟨b, off + k * 3 + 2, none⟩ hb).trans x2
      clear hold x0 x1 x2 hc
      obtain ⟨ki0, ki1⟩ := (unhide HKS) m.ups[k] (List.getElem_mem hlt)
      have HSN := hide (flatK_snoc m.ups k hlt)
      generalize hK : m.ups[k] = K at p0 p1 p2 ki0 ki1 HSN
      clear hK
      have hXl : (L ++ (m.ups.take k).flatMap keyBs).length ≤ 60 := by rw [List.length_append, flatK_len, hLl]; simp; omega
      generalize hX : L ++ (m.ups.take k).flatMap keyBs = X at hXl
      have HX := hide hX
      have HBEL := hide hbel
      clear hX hbel
      go_wp2_with fail
      refine (four_any K.inc _ ki0 ki1).mono ?_
      rintro e w3 ⟨rfl, hb3⟩
      have u0 : w3.cell? ⟨wr.heap.size, 0, none⟩ = some (.int .i64 K.id) := (hb3.cell (p := ⟨wr.heap.size, 0, none⟩) (by simp)).trans (by simp)
      have u2 : w3.cell? ⟨wr.heap.size, 2, none⟩ = some (.int .i64 K.st) := (hb3.cell (p := ⟨wr.heap.size, 2, none⟩) (by simp)).trans (by simp)
      have l4 := byteLow K.id
      have l5 := byteLow K.st
      have d1 := conv1 w3 w3.heap.size rfl (byteAt K.id 0)
      have d2 := conv1 (w3.alloc (.cells #[.int .u8 ((byteAt K.id 0).toNat : Int)] 5)) (w3.heap.size + 1) (by simp) (byteAt K.st 0)
      have hz3 : wr.heap.size < w3.heap.size := by have := hb3.size; simp at this; omega
      have hB3 := ((unhide HBEL).alloc (by omega) (.cells #[.int .i64 K.id, .int .i64 K.inc, .int .i64 K.st] 58)).trans (hb3.mono (by simp; omega))
      have HB3 := hide ((hB3.alloc (by omega) (.cells #[.int .u8 ((byteAt K.id 0).toNat : Int)] 5)).alloc (by simp; omega) (.cells #[.int .u8 ((byteAt K.st 0).toNat : Int)] 5))
      clear hb3 hB3 HBEL p0 p1 p2 c5
      go_wp2
      go_roundw
      case rel =>
        refine ⟨k + 1, by omega, by go_num, ?_, unhide HB3⟩
        rw [unhide HSN, ← List.append_assoc, unhide HX]
        simp [keyBs, putB_one]
      case measure => simp [intOf]; omega
    · have e : k = m.ups.length := by omega
      have HR := hide ((unhide HBW).trans (hbel.mono (by omega)))
      have HLL : Hid (L ++ (m.ups.take k).flatMap keyBs = bytesM m) := hide (by rw [e, List.take_length]; exact unhide HL)
      clear hbel e
      go_wp2
      go_ret
      exact ⟨ret_str (congrArg bs (unhide HLL)), unhide HR⟩
end Go.Proofs.YtnneljcbelgoeaaGreatDoor.wire
