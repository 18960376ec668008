import Derived.Test.YtnneljcbelgoeaaGreatDoorG01
/- gossipref's Whole. -/
namespace Go.Proofs.YtnneljcbelgoeaaGreatDoor.wire
open Go.RowKit

theorem rid_any (n : Int) (w : World) : Calls Tryz.prog 46 #[.int .i64 n] w fun e w' => e = .returned (.bool (isIdB n)) ∧ w' = w := by
  by_cases h1 : 1 ≤ n
  · go_enter Tryz.func46, Tryz.ntmps46
    go_wp2
    all_goals go_ret
    all_goals exact ⟨by simp [isIdB, h1], rfl⟩
  · go_enter Tryz.func46, Tryz.ntmps46
    go_wp2
    all_goals go_ret
    all_goals exact ⟨by simp [isIdB]; omega, rfl⟩
theorem rinc_any (n : Int) (w : World) : Calls Tryz.prog 47 #[.int .i64 n] w fun e w' => e = .returned (.bool (isIncB n)) ∧ w' = w := by
  by_cases h1 : 1 ≤ n
  · go_enter Tryz.func47, Tryz.ntmps47
    go_wp2
    all_goals go_ret
    all_goals exact ⟨by simp [isIncB, h1], rfl⟩
  · go_enter Tryz.func47, Tryz.ntmps47
    go_wp2
    all_goals go_ret
    all_goals exact ⟨by simp [isIncB]; omega, rfl⟩
theorem whole_kind {m : M6} (h : m.kind < 1 ∨ 5 < m.kind) : wholeB m = false := by
  have h1 : lowB m.kind = false := by simp [lowB]; omega
  have h2 : highB m.kind = false := by simp [highB]; omega
  simp [wholeB, suits_no h1 h2]
theorem whole_seq {m : M6} (h : m.seq < 0 ∨ 4294967295 < m.seq) : wholeB m = false := by
  have h1 : isSeqB m.seq = false := by simp [isSeqB]; omega
  simp [wholeB, h1]
theorem whole_suit {m : M6} (h : suitsB m.kind m.tgt m.ups.length = false) : wholeB m = false := by simp [wholeB, h]
theorem whole_good {m : M6} (h1 : isIdB m.frm = true) (h2 : isIncB m.inc = true) (h3 : 0 ≤ m.seq) (h4 : m.seq ≤ 4294967295) (h5 : suitsB m.kind m.tgt m.ups.length = true) : wholeB m = allB m.ups := by
  simp [wholeB, h1, h2, isSeq_mk h3 h4, h5]
set_option maxRecDepth 100000 in
set_option maxHeartbeats 2000000 in
theorem rwhole_no (m : M6) (v : Value) (w : World) (hv : KeysAt w v m.ups) (_hl : m.ups.length ≤ 1000000) (h : m.kind < 1 ∨ 5 < m.kind ∨ isIdB m.frm = false ∨ isIncB m.inc = false ∨ m.seq < 0 ∨ 4294967295 < m.seq) :
    Calls Tryz.prog 25 #[mval m v] w fun e w' => e = .returned (.bool (wholeB m)) ∧ Below w.heap.size w w' := by
  obtain ⟨ao, cap, rfl⟩ := hv.form
  clear hv
  by_cases hk1 : m.kind < 1
  · clear h
    go_enter Tryz.func25, Tryz.ntmps25
    go_wp2_with (first
      | (go_at_call 46; refine (rid_any _ _).mono ?_; rintro e w' ⟨rfl, rfl⟩)
      | (go_at_call 47; refine (rinc_any _ _).mono ?_; rintro e w' ⟨rfl, rfl⟩))
    go_ret
    exact ⟨ret_bool (whole_kind (.inl hk1)).symm, (Below.refl _ _).alloc (Nat.le_refl _) _⟩
  by_cases hk5 : 5 < m.kind
  · clear h
    go_enter Tryz.func25, Tryz.ntmps25
    go_wp2_with (first
      | (go_at_call 46; refine (rid_any _ _).mono ?_; rintro e w' ⟨rfl, rfl⟩)
      | (go_at_call 47; refine (rinc_any _ _).mono ?_; rintro e w' ⟨rfl, rfl⟩))
    go_ret
    exact ⟨ret_bool (whole_kind (.inr hk5)).symm, (Below.refl _ _).alloc (Nat.le_refl _) _⟩
  cases hf : isIdB m.frm
  · clear h
    go_enter Tryz.func25, Tryz.ntmps25
    go_wp2_with (first
      | (go_at_call 46; refine (rid_any _ _).mono ?_; rintro e w' ⟨rfl, rfl⟩)
      | (go_at_call 47; refine (rinc_any _ _).mono ?_; rintro e w' ⟨rfl, rfl⟩))
    go_ret
    exact ⟨ret_bool (by simp [wholeB, hf]), (Below.refl _ _).alloc (Nat.le_refl _) _⟩
  cases hi : isIncB m.inc
  · clear h
    go_enter Tryz.func25, Tryz.ntmps25
    go_wp2_with (first
      | (go_at_call 46; refine (rid_any _ _).mono ?_; rintro e w' ⟨rfl, rfl⟩)
      | (go_at_call 47; refine (rinc_any _ _).mono ?_; rintro e w' ⟨rfl, rfl⟩))
    go_ret
    exact ⟨ret_bool (by simp [wholeB, hi]), (Below.refl _ _).alloc (Nat.le_refl _) _⟩
  by_cases hs0 : m.seq < 0
  · clear h
    go_enter Tryz.func25, Tryz.ntmps25
    go_wp2_with (first
      | (go_at_call 46; refine (rid_any _ _).mono ?_; rintro e w' ⟨rfl, rfl⟩)
      | (go_at_call 47; refine (rinc_any _ _).mono ?_; rintro e w' ⟨rfl, rfl⟩))
    go_ret
    exact ⟨ret_bool (whole_seq (.inl hs0)).symm, (Below.refl _ _).alloc (Nat.le_refl _) _⟩
  by_cases hs1 : 4294967295 < m.seq
  · clear h
    go_enter Tryz.func25, Tryz.ntmps25
    go_wp2_with (first
      | (go_at_call 46; refine (rid_any _ _).mono ?_; rintro e w' ⟨rfl, rfl⟩)
      | (go_at_call 47; refine (rinc_any _ _).mono ?_; rintro e w' ⟨rfl, rfl⟩))
    go_ret
    exact ⟨ret_bool (whole_seq (.inr hs1)).symm, (Below.refl _ _).alloc (Nat.le_refl _) _⟩
  simp [hf, hi] at h
  omega
set_option maxRecDepth 100000 in
set_option maxHeartbeats 2000000 in
theorem rwhole_low (m : M6) (v : Value) (w : World) (hv : KeysAt w v m.ups) (hl : m.ups.length ≤ 1000000) (hf : isIdB m.frm = true) (hi : isIncB m.inc = true) (hs0 : 0 ≤ m.seq) (hs1 : m.seq ≤ 4294967295) (hk1 : 1 ≤ m.kind) (hk3 : m.kind ≤ 3) :
    Calls Tryz.prog 25 #[mval m v] w fun e w' => e = .returned (.bool (wholeB m)) ∧ Below w.heap.size w w' := by
  obtain ⟨ao, cap, rfl⟩ := hv.form
  have HV := hide hv
  clear hv
  have hsu : suitsB m.kind m.tgt m.ups.length = (isIdB m.tgt && decide (m.ups.length ≤ 4)) := suits_low (by simp [lowB]; omega)
  have n4' : (m.kind == 4) = false := by simp; omega
  have n5' : (m.kind == 5) = false := by simp; omega
  have HSU := hide hsu
  clear hsu
  cases ht : isIdB m.tgt
  · have hno : wholeB m = false := whole_suit (by rw [unhide HSU, ht]; rfl)
    have HNO := hide hno
    clear hno
    go_enter Tryz.func25, Tryz.ntmps25
    go_wp2_with (first
      | (go_at_call 46; refine (rid_any _ _).mono ?_; rintro e w' ⟨rfl, rfl⟩)
      | (go_at_call 47; refine (rinc_any _ _).mono ?_; rintro e w' ⟨rfl, rfl⟩))
    go_ret
    exact ⟨ret_bool (unhide HNO).symm, (Below.refl _ _).alloc (Nat.le_refl _) _⟩
  by_cases hlen : 4 < m.ups.length
  · have hno : wholeB m = false := whole_suit (by rw [unhide HSU, ht]; simp; omega)
    have HNO := hide hno
    clear hno
    go_enter Tryz.func25, Tryz.ntmps25
    go_wp2_with (first
      | (go_at_call 46; refine (rid_any _ _).mono ?_; rintro e w' ⟨rfl, rfl⟩)
      | (go_at_call 47; refine (rinc_any _ _).mono ?_; rintro e w' ⟨rfl, rfl⟩))
    go_ret
    exact ⟨ret_bool (unhide HNO).symm, (Below.refl _ _).alloc (Nat.le_refl _) _⟩
  have HG : Hid (wholeB m = allB m.ups) := hide (whole_good hf hi hs0 hs1 (by rw [unhide HSU, ht]; simp; omega))
  go_enter Tryz.func25, Tryz.ntmps25
  go_wp2_with (first
    | (go_at_call 46; refine (rid_any _ _).mono ?_; rintro e w' ⟨rfl, rfl⟩)
    | (go_at_call 47; refine (rinc_any _ _).mono ?_; rintro e w' ⟨rfl, rfl⟩))
  go_loopw [7] (fun i wr => ∃ k : Nat, k ≤ m.ups.length ∧ i = .int .i64 k ∧ allB (m.ups.take k) = true ∧ Below (w.heap.size + 1) (w.alloc (.cells #[.int .i64 m.kind, .int .i64 m.frm, .int .i64 m.inc, .int .i64 m.seq, .int .i64 m.tgt, .slice ao m.ups.length cap] 33)) wr) (fun i _ => m.ups.length - (intOf i).toNat)
  case atStart => exact ⟨0, Nat.zero_le _, rfl, rfl, Below.refl _ _⟩
  case round =>
    obtain ⟨k, hk, rfl, ha, hbel⟩ := hrel
    have HA := hide ha
    clear ha
    have c5 : wr.cell? ⟨w.heap.size, 5, none⟩ = some (.slice ao m.ups.length cap) := by rw [hbel.cell (p := ⟨w.heap.size, 5, none⟩) (by simp)]; simp [go_sem]
    by_cases hlt : k < m.ups.length
    · obtain ⟨b, off, rfl, hb, hc⟩ := (unhide HV).elem (by omega)
      obtain ⟨x0, x1, x2⟩ := hc k hlt
      have hold : ∀ a : Addr, a.block < w.heap.size → wr.cell? a = w.cell? a := fun a ha => by
        rw [hbel.cell (p := a) (by omega), World.cell?_alloc_lt _ _ a ha]
      have p0 := (hold ⟨b, off + k * 3, none⟩ hb).trans x0
      have p1 := (hold ⟨b, off + k * 3 + 1, none⟩ hb).trans x1
      have p2 := (hold ⟨b, off + k * 3 + 2, none⟩ hb).trans x2
      clear hold x0 x1 x2 hc
      have hsz := hbel.size
      simp at hsz
      have hnew : Below (w.heap.size + 1) (w.alloc (.cells #[.int .i64 m.kind, .int .i64 m.frm, .int .i64 m.inc, .int .i64 m.seq, .int .i64 m.tgt, .slice (some ⟨b, off, none⟩) m.ups.length cap] 33)) (wr.alloc (.cells #[.int .i64 m.ups[k].id, .int .i64 m.ups[k].inc, .int .i64 m.ups[k].st] 58)) := hbel.alloc (by omega) _
      have hB : Below w.heap.size w (wr.alloc (.cells #[.int .i64 m.ups[k].id, .int .i64 m.ups[k].inc, .int .i64 m.ups[k].st] 58)) := ((Below.refl _ _).alloc (Nat.le_refl _) _).trans (hnew.mono (by omega))
      have HN := hide hnew
      have HB := hide hB
      clear hbel hnew hB
      generalize hK : m.ups[k] = K at p0 p1 p2 HN HB
      have HK := hide hK
      clear hK
      by_cases hq : isKeyB K = true
      · have HQ := hide hq
        simp only [isKeyB, Bool.and_eq_true] at hq
        obtain ⟨q1, q2, q3⟩ := hq
        obtain ⟨q4, q5⟩ := isSt_of q3
        clear q3
        go_wp2_with (first
          | (go_at_call 46; refine (rid_any _ _).mono ?_; rintro e w' ⟨rfl, rfl⟩)
          | (go_at_call 47; refine (rinc_any _ _).mono ?_; rintro e w' ⟨rfl, rfl⟩))
        go_roundw
        case rel => exact ⟨k + 1, by omega, by go_num, by rw [allB_snoc m.ups k hlt, unhide HK, unhide HA, unhide HQ]; rfl, unhide HN⟩
        case measure => simp [intOf]; omega
      · have hqf : isKeyB K = false := by simpa using hq
        have hbad : wholeB m = false := by rw [unhide HG]; exact allB_take_false m.ups k hlt (by rw [unhide HK]; exact hqf)
        have HBAD := hide hbad
        clear hbad hq
        cases q1 : isIdB K.id
        · go_wp2_with (first
            | (go_at_call 46; refine (rid_any _ _).mono ?_; rintro e w' ⟨rfl, rfl⟩)
            | (go_at_call 47; refine (rinc_any _ _).mono ?_; rintro e w' ⟨rfl, rfl⟩))
          go_ret
          exact ⟨ret_bool (unhide HBAD).symm, unhide HB⟩
        cases q2 : isIncB K.inc
        · go_wp2_with (first
            | (go_at_call 46; refine (rid_any _ _).mono ?_; rintro e w' ⟨rfl, rfl⟩)
            | (go_at_call 47; refine (rinc_any _ _).mono ?_; rintro e w' ⟨rfl, rfl⟩))
          go_ret
          exact ⟨ret_bool (unhide HBAD).symm, unhide HB⟩
        by_cases q3 : K.st < 1
        · go_wp2_with (first
            | (go_at_call 46; refine (rid_any _ _).mono ?_; rintro e w' ⟨rfl, rfl⟩)
            | (go_at_call 47; refine (rinc_any _ _).mono ?_; rintro e w' ⟨rfl, rfl⟩))
          go_ret
          exact ⟨ret_bool (unhide HBAD).symm, unhide HB⟩
        by_cases q4 : 4 < K.st
        · go_wp2_with (first
            | (go_at_call 46; refine (rid_any _ _).mono ?_; rintro e w' ⟨rfl, rfl⟩)
            | (go_at_call 47; refine (rinc_any _ _).mono ?_; rintro e w' ⟨rfl, rfl⟩))
          go_ret
          exact ⟨ret_bool (unhide HBAD).symm, unhide HB⟩
        simp [isKeyB, q1, q2, isStB] at hqf
        omega
    · have hz := hbel.size
      have hB : Below w.heap.size w wr := ((Below.refl _ _).alloc (Nat.le_refl _) _).trans (hbel.mono (by omega))
      have HB := hide hB
      clear hbel hB
      have e : k = m.ups.length := by omega
      have h2 := unhide HA
      rw [e, List.take_length] at h2
      have HR : Hid (wholeB m = true) := hide (by rw [unhide HG]; exact h2)
      clear h2 e
      go_wp2
      go_ret
      exact ⟨ret_bool (unhide HR).symm, unhide HB⟩
set_option maxRecDepth 100000 in
set_option maxHeartbeats 2000000 in
theorem rwhole_high (m : M6) (v : Value) (w : World) (hv : KeysAt w v m.ups) (hl : m.ups.length ≤ 1000000) (hf : isIdB m.frm = true) (hi : isIncB m.inc = true) (hs0 : 0 ≤ m.seq) (hs1 : m.seq ≤ 4294967295) (hk4 : m.kind = 4 ∨ m.kind = 5) :
    Calls Tryz.prog 25 #[mval m v] w fun e w' => e = .returned (.bool (wholeB m)) ∧ Below w.heap.size w w' := by
  obtain ⟨ao, cap, rfl⟩ := hv.form
  have HV := hide hv
  clear hv
  have hsu : suitsB m.kind m.tgt m.ups.length = (decide (m.tgt = 0) && decide (m.ups.length ≤ 8)) := suits_high (by simp [highB]; omega)
  have HSU := hide hsu
  have hk1 : 1 ≤ m.kind := by omega
  have hk5 : m.kind ≤ 5 := by omega
  have hkk : (m.kind == 4) = true ∨ (m.kind == 4) = false ∧ (m.kind == 5) = true := by simp; omega
  clear hsu hk4
  rcases hkk with n4' | ⟨n4', n5'⟩
  all_goals
    by_cases ht : m.tgt = 0
    case neg =>
      have ht' : (m.tgt == 0) = false := by simp [ht]
      have hno : wholeB m = false := whole_suit (by rw [unhide HSU]; simp [ht])
      have HNO := hide hno
      clear hno
      go_enter Tryz.func25, Tryz.ntmps25
      go_wp2_with (first
        | (go_at_call 46; refine (rid_any _ _).mono ?_; rintro e w' ⟨rfl, rfl⟩)
        | (go_at_call 47; refine (rinc_any _ _).mono ?_; rintro e w' ⟨rfl, rfl⟩))
      go_ret
      exact ⟨ret_bool (unhide HNO).symm, (Below.refl _ _).alloc (Nat.le_refl _) _⟩
    have ht' : (m.tgt == 0) = true := by simp [ht]
    by_cases hlen : 8 < m.ups.length
    case pos =>
      have hno : wholeB m = false := whole_suit (by rw [unhide HSU]; simp; omega)
      have HNO := hide hno
      clear hno ht
      go_enter Tryz.func25, Tryz.ntmps25
      go_wp2_with (first
        | (go_at_call 46; refine (rid_any _ _).mono ?_; rintro e w' ⟨rfl, rfl⟩)
        | (go_at_call 47; refine (rinc_any _ _).mono ?_; rintro e w' ⟨rfl, rfl⟩))
      go_ret
      exact ⟨ret_bool (unhide HNO).symm, (Below.refl _ _).alloc (Nat.le_refl _) _⟩
    have HG : Hid (wholeB m = allB m.ups) := hide (whole_good hf hi hs0 hs1 (by rw [unhide HSU]; simp [ht]; omega))
    clear ht
    go_enter Tryz.func25, Tryz.ntmps25
    go_wp2_with (first
      | (go_at_call 46; refine (rid_any _ _).mono ?_; rintro e w' ⟨rfl, rfl⟩)
      | (go_at_call 47; refine (rinc_any _ _).mono ?_; rintro e w' ⟨rfl, rfl⟩))
    go_loopw [7] (fun i wr => ∃ k : Nat, k ≤ m.ups.length ∧ i = .int .i64 k ∧ allB (m.ups.take k) = true ∧ Below (w.heap.size + 1) (w.alloc (.cells #[.int .i64 m.kind, .int .i64 m.frm, .int .i64 m.inc, .int .i64 m.seq, .int .i64 m.tgt, .slice ao m.ups.length cap] 33)) wr) (fun i _ => m.ups.length - (intOf i).toNat)
    case atStart => exact ⟨0, Nat.zero_le _, rfl, rfl, Below.refl _ _⟩
    case round =>
      obtain ⟨k, hk, rfl, ha, hbel⟩ := hrel
      have HA := hide ha
      clear ha
      have c5 : wr.cell? ⟨w.heap.size, 5, none⟩ = some (.slice ao m.ups.length cap) := by rw [hbel.cell (p := ⟨w.heap.size, 5, none⟩) (by simp)]; simp [go_sem]
      by_cases hlt : k < m.ups.length
      · obtain ⟨b, off, rfl, hb, hc⟩ := (unhide HV).elem (by omega)
        obtain ⟨x0, x1, x2⟩ := hc k hlt
        have hold : ∀ a : Addr, a.block < w.heap.size → wr.cell? a = w.cell? a := fun a ha => by
          rw [hbel.cell (p := a) (by omega), World.cell?_alloc_lt _ _ a ha]
        have p0 := (hold ⟨b, off + k * 3, none⟩ hb).trans x0
        have p1 := (hold ⟨b, off + k * 3 + 1, none⟩ hb).trans x1
        have p2 := (hold ⟨b, off + k * 3 + 2, none⟩ hb).trans x2
        clear hold x0 x1 x2 hc
        have hsz := hbel.size
        simp at hsz
        have hnew : Below (w.heap.size + 1) (w.alloc (.cells #[.int .i64 m.kind, .int .i64 m.frm, .int .i64 m.inc, .int .i64 m.seq, .int .i64 m.tgt, .slice (some ⟨b, off, none⟩) m.ups.length cap] 33)) (wr.alloc (.cells #[.int .i64 m.ups[k].id, .int .i64 m.ups[k].inc, .int .i64 m.ups[k].st] 58)) := hbel.alloc (by omega) _
        have hB : Below w.heap.size w (wr.alloc (.cells #[.int .i64 m.ups[k].id, .int .i64 m.ups[k].inc, .int .i64 m.ups[k].st] 58)) := ((Below.refl _ _).alloc (Nat.le_refl _) _).trans (hnew.mono (by omega))
        have HN := hide hnew
        have HB := hide hB
        clear hbel hnew hB
        generalize hK : m.ups[k] = K at p0 p1 p2 HN HB
        have HK := hide hK
        clear hK
        by_cases hq : isKeyB K = true
        · have HQ := hide hq
          simp only [isKeyB, Bool.and_eq_true] at hq
          obtain ⟨q1, q2, q3⟩ := hq
          obtain ⟨q4, q5⟩ := isSt_of q3
          clear q3
          go_wp2_with (first
            | (go_at_call 46; refine (rid_any _ _).mono ?_; rintro e w' ⟨rfl, rfl⟩)
            | (go_at_call 47; refine (rinc_any _ _).mono ?_; rintro e w' ⟨rfl, rfl⟩))
          go_roundw
          case rel => exact ⟨k + 1, by omega, by go_num, by rw [allB_snoc m.ups k hlt, unhide HK, unhide HA, unhide HQ]; rfl, unhide HN⟩
          case measure => simp [intOf]; omega
        · have hqf : isKeyB K = false := by simpa using hq
          have hbad : wholeB m = false := by rw [unhide HG]; exact allB_take_false m.ups k hlt (by rw [unhide HK]; exact hqf)
          have HBAD := hide hbad
          clear hbad hq
          cases q1 : isIdB K.id
          · go_wp2_with (first
              | (go_at_call 46; refine (rid_any _ _).mono ?_; rintro e w' ⟨rfl, rfl⟩)
              | (go_at_call 47; refine (rinc_any _ _).mono ?_; rintro e w' ⟨rfl, rfl⟩))
            go_ret
            exact ⟨ret_bool (unhide HBAD).symm, unhide HB⟩
          cases q2 : isIncB K.inc
          · go_wp2_with (first
              | (go_at_call 46; refine (rid_any _ _).mono ?_; rintro e w' ⟨rfl, rfl⟩)
              | (go_at_call 47; refine (rinc_any _ _).mono ?_; rintro e w' ⟨rfl, rfl⟩))
            go_ret
            exact ⟨ret_bool (unhide HBAD).symm, unhide HB⟩
          by_cases q3 : K.st < 1
          · go_wp2_with (first
              | (go_at_call 46; refine (rid_any _ _).mono ?_; rintro e w' ⟨rfl, rfl⟩)
              | (go_at_call 47; refine (rinc_any _ _).mono ?_; rintro e w' ⟨rfl, rfl⟩))
            go_ret
            exact ⟨ret_bool (unhide HBAD).symm, unhide HB⟩
          by_cases q4 : 4 < K.st
          · go_wp2_with (first
              | (go_at_call 46; refine (rid_any _ _).mono ?_; rintro e w' ⟨rfl, rfl⟩)
              | (go_at_call 47; refine (rinc_any _ _).mono ?_; rintro e w' ⟨rfl, rfl⟩))
            go_ret
            exact ⟨ret_bool (unhide HBAD).symm, unhide HB⟩
          simp [isKeyB, q1, q2, isStB] at hqf
          omega
      · have hz := hbel.size
        have hB : Below w.heap.size w wr := ((Below.refl _ _).alloc (Nat.le_refl _) _).trans (hbel.mono (by omega))
        have HB := hide hB
        clear hbel hB
        have e : k = m.ups.length := by omega
        have h2 := unhide HA
        rw [e, List.take_length] at h2
        have HR : Hid (wholeB m = true) := hide (by rw [unhide HG]; exact h2)
        clear h2 e
        go_wp2
        go_ret
        exact ⟨ret_bool (unhide HR).symm, unhide HB⟩
theorem rwhole_any (m : M6) (v : Value) (w : World) (hv : KeysAt w v m.ups) (hl : m.ups.length ≤ 1000000) :
    Calls Tryz.prog 25 #[mval m v] w fun e w' => e = .returned (.bool (wholeB m)) ∧ Below w.heap.size w w' := by
  by_cases h : m.kind < 1 ∨ 5 < m.kind ∨ isIdB m.frm = false ∨ isIncB m.inc = false ∨ m.seq < 0 ∨ 4294967295 < m.seq
  · exact rwhole_no m v w hv hl h
  · simp only [not_or, Bool.not_eq_false] at h
    obtain ⟨h1, h2, h3, h4, h5, h6⟩ := h
    by_cases hk : m.kind ≤ 3
    · exact rwhole_low m v w hv hl h3 h4 (by omega) (by omega) (by omega) hk
    · exact rwhole_high m v w hv hl h3 h4 (by omega) (by omega) (by omega)
end Go.Proofs.YtnneljcbelgoeaaGreatDoor.wire
