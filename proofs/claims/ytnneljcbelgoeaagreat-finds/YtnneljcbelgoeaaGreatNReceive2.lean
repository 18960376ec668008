import Derived.Test.YtnneljcbelgoeaaGreatNReceive
/- Receive of a message (P7). -/
namespace Go.Proofs.YtnneljcbelgoeaaGreat.wire
open Go.RowKit Go.Maps

theorem kcells_flat (l : List K3) : kcells l = l.flatMap keyC := by
  induction l with
  | nil => rfl
  | cons a r ih => simp [kcells, ih, keyC]
/-- What stands while a message's keys are heard: its box is block bx. -/
structure RvI (W wr : World) (nb mb : Nat) (cb : Dk) (bx : Nat) (pv rv : Value) (M : M6) (ao : Option Addr) (cap : Nat) (y : Nd) : Prop where
  nto : NTo W wr nb mb cb pv rv y
  box : wr.heap[bx]? = some (.cells #[.int .i64 M.kind, .int .i64 M.frm, .int .i64 M.inc, .int .i64 M.seq, .int .i64 M.tgt, .slice ao M.ups.length cap] 29 (0, 0))
  row : wr.ownsRow W.heap.size 31 3 (.slice ao M.ups.length cap) M.ups.length (M.ups.flatMap keyC)
theorem RvI.goes {W wr w' : World} {nb mb : Nat} {cb : Dk} {bx : Nat} {pv rv : Value} {M : M6} {ao : Option Addr} {cap : Nat} {y y' : Nd} (h : RvI W wr nb mb cb bx pv rv M ao cap y) (o : Obj)
    (hgo : ∀ pv1 rv1, NAt (wr.alloc o) nb mb cb pv1 rv1 y → NTo (wr.alloc o) w' nb mb cb pv1 rv1 y') : RvI W w' nb mb cb bx pv rv M ao cap y' := by
  obtain ⟨pv1, rv1, hn, hf, hs⟩ := h.nto
  have h1 := hgo pv1 rv1 (hn.alloc o)
  have hb := h.box
  have hr := h.row
  have hb1 : (wr.alloc o).heap[bx]? = _ := (Below.heap_alloc _ _ _ (lt_blk hb)).trans hb
  obtain ⟨pv2, rv2, hn2, hf2, hs2⟩ := h1
  refine ⟨NTo.trans (hf.alloc o) hs ⟨pv2, rv2, hn2, hf2, hs2⟩, (hf2.block bx (lt_blk hb1) ((hn.alloc o).not_feet hb1 (by decide) (by decide) (by decide) (by decide))).trans hb1, own_frm (hr.alloc o) hf2 (fun k hk => ?_)⟩
  obtain ⟨cs, hcs⟩ := own_blk (hr.alloc o) hk
  exact (hn.alloc o).not_feet hcs (by decide) (by decide) (by decide) (by decide)
/-- A key is heard, its box just laid. -/
theorem RvI.hear {W wr : World} {nb mb : Nat} {cb : Dk} {bx : Nat} {pv rv : Value} {M : M6} {ao : Option Addr} {cap : Nat} {y : Nd} (h : RvI W wr nb mb cb bx pv rv M ao cap y) (hy : NdOk y) (hB : NdB Big y) (k : K3) (hk : isKeyB k = true) (o : Obj) :
    Calls Tryz.prog 23 #[.pointer (some ⟨nb, 0, none⟩), .agg #[.int .i64 k.id, .int .i64 k.inc, .int .i64 k.st]] (wr.alloc o) fun e w' => e = .returned (.tuple #[]) ∧ RvI W w' nb mb cb bx pv rv M ao cap (y.hear k) := by
  obtain ⟨pv1, rv1, hn, hf, hs⟩ := h.nto
  refine (hear_any hy hB (hn.alloc o) k hk).mono ?_
  rintro e w' ⟨rfl, hto⟩
  refine ⟨rfl, ?_⟩
  have hb := h.box
  have hr := h.row
  have hb1 : (wr.alloc o).heap[bx]? = _ := (Below.heap_alloc _ _ _ (lt_blk hb)).trans hb
  obtain ⟨pv2, rv2, hn2, hf2, hs2⟩ := hto
  refine ⟨NTo.trans (hf.alloc o) hs ⟨pv2, rv2, hn2, hf2, hs2⟩, (hf2.block bx (lt_blk hb1) ((hn.alloc o).not_feet hb1 (by decide) (by decide) (by decide) (by decide))).trans hb1, own_frm (hr.alloc o) hf2 (fun k hk => ?_)⟩
  obtain ⟨cs, hcs⟩ := own_blk (hr.alloc o) hk
  exact (hn.alloc o).not_feet hcs (by decide) (by decide) (by decide) (by decide)
theorem RvI.hear0 {W wr : World} {nb mb : Nat} {cb : Dk} {bx : Nat} {pv rv : Value} {M : M6} {ao : Option Addr} {cap : Nat} {y : Nd} (h : RvI W wr nb mb cb bx pv rv M ao cap y) (hy : NdOk y) (hB : NdB Big y) (k : K3) (hk : isKeyB k = true) :
    Calls Tryz.prog 23 #[.pointer (some ⟨nb, 0, none⟩), .agg #[.int .i64 k.id, .int .i64 k.inc, .int .i64 k.st]] wr fun e w' => e = .returned (.tuple #[]) ∧ RvI W w' nb mb cb bx pv rv M ao cap (y.hear k) := by
  obtain ⟨pv1, rv1, hn, hf, hs⟩ := h.nto
  refine (hear_any hy hB hn k hk).mono ?_
  rintro e w' ⟨rfl, hto⟩
  refine ⟨rfl, ?_⟩
  have hb := h.box
  have hr := h.row
  obtain ⟨pv2, rv2, hn2, hf2, hs2⟩ := hto
  refine ⟨NTo.trans hf hs ⟨pv2, rv2, hn2, hf2, hs2⟩, (hf2.block bx (lt_blk hb) (hn.not_feet hb (by decide) (by decide) (by decide) (by decide))).trans hb, own_frm hr hf2 (fun k hk => ?_)⟩
  obtain ⟨cs, hcs⟩ := own_blk hr hk
  exact hn.not_feet hcs (by decide) (by decide) (by decide) (by decide)
theorem hears_snoc (x : Nd) (l : List K3) (k : Nat) (h : k < l.length) : x.hears (l.take (k + 1)) = (x.hears (l.take k)).hear l[k] := by
  unfold Nd.hears
  rw [List.take_succ_eq_append_getElem h, List.foldl_append]; rfl
theorem allB_take {l : List K3} (h : allB l = true) (k : Nat) : allB (l.take k) = true := by
  unfold allB at *
  rw [List.all_eq_true] at *
  exact fun x hx => h x (List.mem_of_mem_take hx)
theorem allB_get {l : List K3} (h : allB l = true) (k : Nat) (hk : k < l.length) : isKeyB l[k] = true := by
  unfold allB at h
  rw [List.all_eq_true] at h
  exact h _ (List.getElem_mem hk)
theorem undrew {w w' : World} (h : Below w.drew.heap.size w.drew w') : Below w.heap.size w w' := ⟨h.os, h.tape, h.output, h.size, h.block⟩
theorem index_1 (nb : Nat) (w : World) : (Instr.index 73 (.agg #[.nilFunc, .func (.func 46) #[.pointer (some ⟨nb, 0, none⟩)] #[], .func (.func 47) #[.pointer (some ⟨nb, 0, none⟩)] #[], .func (.func 48) #[.pointer (some ⟨nb, 0, none⟩)] #[], .func (.func 49) #[.pointer (some ⟨nb, 0, none⟩)] #[], .func (.func 50) #[.pointer (some ⟨nb, 0, none⟩)] #[]]) (.int .i64 1)).run Tryz.prog w = .ok (.func (.func 46) #[.pointer (some ⟨nb, 0, none⟩)] #[]) w := by kernel_rfl
theorem index_2 (nb : Nat) (w : World) : (Instr.index 73 (.agg #[.nilFunc, .func (.func 46) #[.pointer (some ⟨nb, 0, none⟩)] #[], .func (.func 47) #[.pointer (some ⟨nb, 0, none⟩)] #[], .func (.func 48) #[.pointer (some ⟨nb, 0, none⟩)] #[], .func (.func 49) #[.pointer (some ⟨nb, 0, none⟩)] #[], .func (.func 50) #[.pointer (some ⟨nb, 0, none⟩)] #[]]) (.int .i64 2)).run Tryz.prog w = .ok (.func (.func 47) #[.pointer (some ⟨nb, 0, none⟩)] #[]) w := by kernel_rfl
theorem index_3 (nb : Nat) (w : World) : (Instr.index 73 (.agg #[.nilFunc, .func (.func 46) #[.pointer (some ⟨nb, 0, none⟩)] #[], .func (.func 47) #[.pointer (some ⟨nb, 0, none⟩)] #[], .func (.func 48) #[.pointer (some ⟨nb, 0, none⟩)] #[], .func (.func 49) #[.pointer (some ⟨nb, 0, none⟩)] #[], .func (.func 50) #[.pointer (some ⟨nb, 0, none⟩)] #[]]) (.int .i64 3)).run Tryz.prog w = .ok (.func (.func 48) #[.pointer (some ⟨nb, 0, none⟩)] #[]) w := by kernel_rfl
theorem index_4 (nb : Nat) (w : World) : (Instr.index 73 (.agg #[.nilFunc, .func (.func 46) #[.pointer (some ⟨nb, 0, none⟩)] #[], .func (.func 47) #[.pointer (some ⟨nb, 0, none⟩)] #[], .func (.func 48) #[.pointer (some ⟨nb, 0, none⟩)] #[], .func (.func 49) #[.pointer (some ⟨nb, 0, none⟩)] #[], .func (.func 50) #[.pointer (some ⟨nb, 0, none⟩)] #[]]) (.int .i64 4)).run Tryz.prog w = .ok (.func (.func 49) #[.pointer (some ⟨nb, 0, none⟩)] #[]) w := by kernel_rfl
theorem index_5 (nb : Nat) (w : World) : (Instr.index 73 (.agg #[.nilFunc, .func (.func 46) #[.pointer (some ⟨nb, 0, none⟩)] #[], .func (.func 47) #[.pointer (some ⟨nb, 0, none⟩)] #[], .func (.func 48) #[.pointer (some ⟨nb, 0, none⟩)] #[], .func (.func 49) #[.pointer (some ⟨nb, 0, none⟩)] #[], .func (.func 50) #[.pointer (some ⟨nb, 0, none⟩)] #[]]) (.int .i64 5)).run Tryz.prog w = .ok (.func (.func 50) #[.pointer (some ⟨nb, 0, none⟩)] #[]) w := by kernel_rfl
set_option maxHeartbeats 2000000 in
set_option maxRecDepth 100000 in
theorem receive_yes {x : Nd} (hx : NdOk x) (hB : NdB Bg x) {nb mb : Nat} {cb : Dk} {pv rv : Value} {W : World} (hn : NAt W nb mb cb pv rv x) (l : List UInt8) (hl : l.length ≤ maxLen) (ht : takesB x.c.self l = true)
    (hdd : Deeds ((x.hear ⟨(readM l).frm, (readM l).inc, 1⟩).hears (readM l).ups) (readM l)) :
    Calls Tryz.prog 11 #[.pointer (some ⟨nb, 0, none⟩), .string (bs l)] W fun e w' => ∃ o, e = .returned o ∧ Outs W w' o (x.receive l).1 ∧ NTo W w' nb mb cb pv rv (x.receive l).2 := by
  have he : x.receive l = ((x.hear ⟨(readM l).frm, (readM l).inc, 1⟩).hears (readM l).ups).deed (readM l) := by simp [Nd.receive, ht]
  have HE := hide he
  have hd : decB l = true := by simp [takesB] at ht; exact ht.1
  have hfr : ¬ (readM l).frm = x.c.self := by simp [takesB, hd] at ht; exact ht
  have hw : wholeB (readM l) = true := by simp [decB] at hd; exact hd.2
  have HD := hide (decode_yes l W hl hd)
  have HFR := hide hfr
  have HW := hide hw
  have HX := hide hx
  have HB := hide hB
  have HN := hide hn
  have HDD := hide hdd
  clear he hd hfr hw hx hB hn hdd ht
  generalize readM l = M at HE HFR HW HD HDD
  have hul := whole_len (unhide HW)
  have hall : allB M.ups = true := by have := unhide HW; simp only [wholeB, Bool.and_eq_true] at this; exact this.2.2.2.2
  have hfk : isKeyB ⟨M.frm, M.inc, 1⟩ = true := by
    have := unhide HW
    simp only [wholeB, Bool.and_eq_true] at this
    simp only [isKeyB, Bool.and_eq_true]
    exact ⟨this.1, this.2.1, rfl⟩
  have HALL := hide hall
  have HFK := hide hfk
  clear hall hfk
  go_enter Tryz.func11, Tryz.ntmps11
  go_wp2_with fail
  refine (unhide HD).mono ?_
  rintro e w1 ⟨v, rfl, ho1, hb1⟩
  obtain ⟨ao, cap, rfl⟩ := own_form ho1
  rw [kcells_flat] at ho1
  have hfr := unhide HFR
  have hfr' : (M.frm == x.c.self) = false := by simp [hfr]
  have hlt := (unhide HN).lt
  have hri : ∀ q, RvI W ((w1.alloc (.cells #[.int .i64 M.kind, .int .i64 M.frm, .int .i64 M.inc, .int .i64 M.seq, .int .i64 M.tgt, .slice ao M.ups.length cap] 29)).drewN q) nb mb cb w1.heap.size pv rv M ao cap x := fun q =>
    ⟨NTo.here (unhide HN) (bdrewN (hb1.alloc hb1.size _) q), heap_alloc_new w1 _, ho1.alloc _⟩
  have c0 := fun o => (((unhide HN).below hb1).alloc o).c_self
  have HRI := hide hri
  simp only [mval]
  clear hb1 ho1 HD hri hfr
  go_wp2_with fail
  go_quiet (fail)
  generalize hw2 : World.drewN _ _ = w2
  have h2 : RvI W w2 nb mb cb w1.heap.size pv rv M ao cap x := by rw [← hw2]; exact unhide HRI _
  clear hw2 HRI c0
  have b1 := cell_at h2.box 1
  have b2 := cell_at h2.box 2
  simp only [List.getElem?_toArray, List.getElem?_cons_zero, List.getElem?_cons_succ] at b1 b2
  have HR2 := hide (h2.hear0 (unhide HX) ((unhide HB).mono (by decide)) ⟨M.frm, M.inc, 1⟩ (unhide HFK))
  clear h2
  go_wp2_with fail
  refine (unhide HR2).mono ?_
  rintro e w3 ⟨rfl, h3⟩
  have hx1 := hear_ok (unhide HX) ⟨M.frm, M.inc, 1⟩ (unhide HFK)
  have hB1 := hear_b (unhide HB) ⟨M.frm, M.inc, 1⟩
  generalize x.hear ⟨M.frm, M.inc, 1⟩ = x1 at h3 hx1 hB1 HE HDD
  have HX1 := hide hx1
  have HB1 := hide hB1
  clear hx1 hB1 HR2 b1 b2
  have b5 := cell_at h3.box 5
  simp only [List.getElem?_toArray, List.getElem?_cons_zero, List.getElem?_cons_succ] at b5
  have H3 := hide h3
  clear h3
  go_wp2
  clear b5
  go_loopw [43] (fun i wr => ∃ k : Nat, k ≤ M.ups.length ∧ i = .int .i64 k ∧ Hid (RvI W wr nb mb cb w1.heap.size pv rv M ao cap (x1.hears (M.ups.take k)))) (fun i _ => M.ups.length - (Go.RowKit.intOf i).toNat)
  case atStart => exact ⟨0, Nat.zero_le _, rfl, H3⟩
  case round =>
    obtain ⟨k, hk, rfl, HI⟩ := hrel
    by_cases hlt : k < M.ups.length
    · have hkeys := keys_of_row (unhide HI).row
      obtain ⟨g, goff, hao, hgl, hgk⟩ := hkeys.elem (by omega)
      subst hao
      obtain ⟨c0, c1, c2⟩ := hgk k hlt
      have hok := hears_ok (M.ups.take k) (unhide HX1) (allB_take (unhide HALL) k)
      have hbk := (hears_b (M.ups.take k) (unhide HB1)).mono (C := Big) (by simp only [Bg, Big, List.length_take]; omega)
      have HC := hide ((unhide HI).hear hok hbk M.ups[k] (allB_get (unhide HALL) k hlt) (.cells #[.int .i64 M.ups[k].id, .int .i64 M.ups[k].inc, .int .i64 M.ups[k].st] 31))
      have hsn := hears_snoc x1 M.ups k hlt
      rw [← hsn] at HC
      clear hsn hok hbk hkeys
      generalize M.ups[k] = K at c0 c1 c2 HC
      go_wp2_with fail
      refine (unhide HC).mono ?_
      rintro e w4 ⟨rfl, h4⟩
      have H4 := hide h4
      clear h4 HC c0 c1 c2
      go_wp2
      go_roundw
      case rel => exact ⟨k + 1, by omega, by go_num, H4⟩
      case measure => simp [Go.RowKit.intOf]; omega
    · have e : k = M.ups.length := by omega
      subst e
      rw [List.take_length] at HI
      go_wp2
      generalize x1.hears M.ups = y at HI HE HDD
      have hkind : M.kind = 1 ∨ M.kind = 2 ∨ M.kind = 3 ∨ M.kind = 4 ∨ M.kind = 5 := by
        have h := unhide HW
        simp only [wholeB, Bool.and_eq_true] at h
        have h2 := h.2.2.2.1
        unfold suitsB at h2
        split at h2
        · rename_i h3; simp only [lowB, Bool.and_eq_true, decide_eq_true_eq] at h3; omega
        · split at h2
          · rename_i h3; simp only [highB, Bool.and_eq_true, decide_eq_true_eq] at h3; omega
          · cases h2
      clear HX HB HFR HW hul HALL HFK HX1 HB1 H3 HN
      obtain ⟨kind, frm, inc, seq, tgt, ups⟩ := M
      dsimp only at HI HE HDD hkind
      have hI := unhide HI
      obtain ⟨pv1, rv1, hn1, hf1, hs1⟩ := hI.nto
      have hbx := lt_blk hI.box
      have b0 := cell_at hI.box 0
      have b1 := cell_at hI.box 1
      have b2 := cell_at hI.box 2
      have b3 := cell_at hI.box 3
      have b4 := cell_at hI.box 4
      have b5 := cell_at hI.box 5
      simp only [List.getElem?_toArray, List.getElem?_cons_zero, List.getElem?_cons_succ] at b0 b1 b2 b3 b4 b5
      have HROW := hide hI.row
      have HN1 := hide hn1
      have HF1 := hide hf1
      have HS1 := hide hs1
      have hfeet := hn1.not_feet hI.box (by decide) (by decide) (by decide) (by decide)
      have HFT := hide hfeet
      have hwr := hf1.size
      clear hI hn1 hf1 hs1 hfeet HI
      rcases hkind with rfl | rfl | rfl | rfl | rfl
      case inl =>
        have HC := fun w' (hb : Below wr.heap.size wr w') => hide ((unhide HDD).d1 rfl nb mb cb pv1 rv1 (.slice ao ups.length cap) w' ((unhide HN1).below hb) ((keys_of_row (unhide HROW)).below hb))
        dsimp only at HC
        have hix := index_1 nb
        go_region_held3 (fun w' => w'.cell? ⟨w1.heap.size, 0, none⟩ = some (.int .i64 1) ∧ w'.cell? ⟨w1.heap.size, 1, none⟩ = some (.int .i64 frm) ∧ w'.cell? ⟨w1.heap.size, 2, none⟩ = some (.int .i64 inc) ∧ w'.cell? ⟨w1.heap.size, 3, none⟩ = some (.int .i64 seq) ∧ w'.cell? ⟨w1.heap.size, 4, none⟩ = some (.int .i64 tgt) ∧ w'.cell? ⟨w1.heap.size, 5, none⟩ = some (.slice ao ups.length cap)) (go_keep)
          (first
            | (go_at_call 24; refine (deeds_any nb _).mono ?_; rintro e wd ⟨rfl, hbd'⟩; have hbd := undrew hbd'; have q0 := (hbd.cell (p := ⟨w1.heap.size, 0, none⟩) hbx).trans b0; have q1 := (hbd.cell (p := ⟨w1.heap.size, 1, none⟩) hbx).trans b1; have q2 := (hbd.cell (p := ⟨w1.heap.size, 2, none⟩) hbx).trans b2; have q3 := (hbd.cell (p := ⟨w1.heap.size, 3, none⟩) hbx).trans b3; have q4 := (hbd.cell (p := ⟨w1.heap.size, 4, none⟩) hbx).trans b4; have q5 := (hbd.cell (p := ⟨w1.heap.size, 5, none⟩) hbx).trans b5)
            | (go_at_call 46; refine (unhide (HC _ hbd)).mono ?_; rintro e w5 ⟨o, rfl, ho5, hn5⟩; have H5 := hide hn5; have hbk := Frm.block (Exists.choose_spec (Exists.choose_spec hn5)).2.1 w1.heap.size (Nat.lt_of_lt_of_le hbx hbd.size) (unhide HFT); have s0 := (World.cell?_of_block (a := ⟨w1.heap.size, 0, none⟩) hbk).trans q0; have s1 := (World.cell?_of_block (a := ⟨w1.heap.size, 1, none⟩) hbk).trans q1; have s2 := (World.cell?_of_block (a := ⟨w1.heap.size, 2, none⟩) hbk).trans q2; have s3 := (World.cell?_of_block (a := ⟨w1.heap.size, 3, none⟩) hbk).trans q3; have s4 := (World.cell?_of_block (a := ⟨w1.heap.size, 4, none⟩) hbk).trans q4; have s5 := (World.cell?_of_block (a := ⟨w1.heap.size, 5, none⟩) hbk).trans q5; have HO5 := hide ho5; clear hbk hn5 ho5))
        go_wp2
        go_ret
        rw [unhide HE]
        exact ⟨o, rfl, own_mono (unhide HO5) (Nat.le_trans hwr hbd.size), NTo.trans ((unhide HF1).step hbd) (unhide HS1) (unhide H5)⟩
      case inr.inl =>
        have HC := fun w' (hb : Below wr.heap.size wr w') => hide ((unhide HDD).d2 rfl nb mb cb pv1 rv1 (.slice ao ups.length cap) w' ((unhide HN1).below hb) ((keys_of_row (unhide HROW)).below hb))
        dsimp only at HC
        have hix := index_2 nb
        go_region_held3 (fun w' => w'.cell? ⟨w1.heap.size, 0, none⟩ = some (.int .i64 2) ∧ w'.cell? ⟨w1.heap.size, 1, none⟩ = some (.int .i64 frm) ∧ w'.cell? ⟨w1.heap.size, 2, none⟩ = some (.int .i64 inc) ∧ w'.cell? ⟨w1.heap.size, 3, none⟩ = some (.int .i64 seq) ∧ w'.cell? ⟨w1.heap.size, 4, none⟩ = some (.int .i64 tgt) ∧ w'.cell? ⟨w1.heap.size, 5, none⟩ = some (.slice ao ups.length cap)) (go_keep)
          (first
            | (go_at_call 24; refine (deeds_any nb _).mono ?_; rintro e wd ⟨rfl, hbd'⟩; have hbd := undrew hbd'; have q0 := (hbd.cell (p := ⟨w1.heap.size, 0, none⟩) hbx).trans b0; have q1 := (hbd.cell (p := ⟨w1.heap.size, 1, none⟩) hbx).trans b1; have q2 := (hbd.cell (p := ⟨w1.heap.size, 2, none⟩) hbx).trans b2; have q3 := (hbd.cell (p := ⟨w1.heap.size, 3, none⟩) hbx).trans b3; have q4 := (hbd.cell (p := ⟨w1.heap.size, 4, none⟩) hbx).trans b4; have q5 := (hbd.cell (p := ⟨w1.heap.size, 5, none⟩) hbx).trans b5)
            | (go_at_call 47; refine (unhide (HC _ hbd)).mono ?_; rintro e w5 ⟨o, rfl, ho5, hn5⟩; have H5 := hide hn5; have hbk := Frm.block (Exists.choose_spec (Exists.choose_spec hn5)).2.1 w1.heap.size (Nat.lt_of_lt_of_le hbx hbd.size) (unhide HFT); have s0 := (World.cell?_of_block (a := ⟨w1.heap.size, 0, none⟩) hbk).trans q0; have s1 := (World.cell?_of_block (a := ⟨w1.heap.size, 1, none⟩) hbk).trans q1; have s2 := (World.cell?_of_block (a := ⟨w1.heap.size, 2, none⟩) hbk).trans q2; have s3 := (World.cell?_of_block (a := ⟨w1.heap.size, 3, none⟩) hbk).trans q3; have s4 := (World.cell?_of_block (a := ⟨w1.heap.size, 4, none⟩) hbk).trans q4; have s5 := (World.cell?_of_block (a := ⟨w1.heap.size, 5, none⟩) hbk).trans q5; have HO5 := hide ho5; clear hbk hn5 ho5))
        go_wp2
        go_ret
        rw [unhide HE]
        exact ⟨o, rfl, own_mono (unhide HO5) (Nat.le_trans hwr hbd.size), NTo.trans ((unhide HF1).step hbd) (unhide HS1) (unhide H5)⟩
      case inr.inr.inl =>
        have HC := fun w' (hb : Below wr.heap.size wr w') => hide ((unhide HDD).d3 rfl nb mb cb pv1 rv1 (.slice ao ups.length cap) w' ((unhide HN1).below hb) ((keys_of_row (unhide HROW)).below hb))
        dsimp only at HC
        have hix := index_3 nb
        go_region_held3 (fun w' => w'.cell? ⟨w1.heap.size, 0, none⟩ = some (.int .i64 3) ∧ w'.cell? ⟨w1.heap.size, 1, none⟩ = some (.int .i64 frm) ∧ w'.cell? ⟨w1.heap.size, 2, none⟩ = some (.int .i64 inc) ∧ w'.cell? ⟨w1.heap.size, 3, none⟩ = some (.int .i64 seq) ∧ w'.cell? ⟨w1.heap.size, 4, none⟩ = some (.int .i64 tgt) ∧ w'.cell? ⟨w1.heap.size, 5, none⟩ = some (.slice ao ups.length cap)) (go_keep)
          (first
            | (go_at_call 24; refine (deeds_any nb _).mono ?_; rintro e wd ⟨rfl, hbd'⟩; have hbd := undrew hbd'; have q0 := (hbd.cell (p := ⟨w1.heap.size, 0, none⟩) hbx).trans b0; have q1 := (hbd.cell (p := ⟨w1.heap.size, 1, none⟩) hbx).trans b1; have q2 := (hbd.cell (p := ⟨w1.heap.size, 2, none⟩) hbx).trans b2; have q3 := (hbd.cell (p := ⟨w1.heap.size, 3, none⟩) hbx).trans b3; have q4 := (hbd.cell (p := ⟨w1.heap.size, 4, none⟩) hbx).trans b4; have q5 := (hbd.cell (p := ⟨w1.heap.size, 5, none⟩) hbx).trans b5)
            | (go_at_call 48; refine (unhide (HC _ hbd)).mono ?_; rintro e w5 ⟨o, rfl, ho5, hn5⟩; have H5 := hide hn5; have hbk := Frm.block (Exists.choose_spec (Exists.choose_spec hn5)).2.1 w1.heap.size (Nat.lt_of_lt_of_le hbx hbd.size) (unhide HFT); have s0 := (World.cell?_of_block (a := ⟨w1.heap.size, 0, none⟩) hbk).trans q0; have s1 := (World.cell?_of_block (a := ⟨w1.heap.size, 1, none⟩) hbk).trans q1; have s2 := (World.cell?_of_block (a := ⟨w1.heap.size, 2, none⟩) hbk).trans q2; have s3 := (World.cell?_of_block (a := ⟨w1.heap.size, 3, none⟩) hbk).trans q3; have s4 := (World.cell?_of_block (a := ⟨w1.heap.size, 4, none⟩) hbk).trans q4; have s5 := (World.cell?_of_block (a := ⟨w1.heap.size, 5, none⟩) hbk).trans q5; have HO5 := hide ho5; clear hbk hn5 ho5))
        go_wp2
        go_ret
        rw [unhide HE]
        exact ⟨o, rfl, own_mono (unhide HO5) (Nat.le_trans hwr hbd.size), NTo.trans ((unhide HF1).step hbd) (unhide HS1) (unhide H5)⟩
      case inr.inr.inr.inl =>
        have HC := fun w' (hb : Below wr.heap.size wr w') => hide ((unhide HDD).d4 rfl nb mb cb pv1 rv1 (.slice ao ups.length cap) w' ((unhide HN1).below hb) ((keys_of_row (unhide HROW)).below hb))
        dsimp only at HC
        have hix := index_4 nb
        go_region_held3 (fun w' => w'.cell? ⟨w1.heap.size, 0, none⟩ = some (.int .i64 4) ∧ w'.cell? ⟨w1.heap.size, 1, none⟩ = some (.int .i64 frm) ∧ w'.cell? ⟨w1.heap.size, 2, none⟩ = some (.int .i64 inc) ∧ w'.cell? ⟨w1.heap.size, 3, none⟩ = some (.int .i64 seq) ∧ w'.cell? ⟨w1.heap.size, 4, none⟩ = some (.int .i64 tgt) ∧ w'.cell? ⟨w1.heap.size, 5, none⟩ = some (.slice ao ups.length cap)) (go_keep)
          (first
            | (go_at_call 24; refine (deeds_any nb _).mono ?_; rintro e wd ⟨rfl, hbd'⟩; have hbd := undrew hbd'; have q0 := (hbd.cell (p := ⟨w1.heap.size, 0, none⟩) hbx).trans b0; have q1 := (hbd.cell (p := ⟨w1.heap.size, 1, none⟩) hbx).trans b1; have q2 := (hbd.cell (p := ⟨w1.heap.size, 2, none⟩) hbx).trans b2; have q3 := (hbd.cell (p := ⟨w1.heap.size, 3, none⟩) hbx).trans b3; have q4 := (hbd.cell (p := ⟨w1.heap.size, 4, none⟩) hbx).trans b4; have q5 := (hbd.cell (p := ⟨w1.heap.size, 5, none⟩) hbx).trans b5)
            | (go_at_call 49; refine (unhide (HC _ hbd)).mono ?_; rintro e w5 ⟨o, rfl, ho5, hn5⟩; have H5 := hide hn5; have hbk := Frm.block (Exists.choose_spec (Exists.choose_spec hn5)).2.1 w1.heap.size (Nat.lt_of_lt_of_le hbx hbd.size) (unhide HFT); have s0 := (World.cell?_of_block (a := ⟨w1.heap.size, 0, none⟩) hbk).trans q0; have s1 := (World.cell?_of_block (a := ⟨w1.heap.size, 1, none⟩) hbk).trans q1; have s2 := (World.cell?_of_block (a := ⟨w1.heap.size, 2, none⟩) hbk).trans q2; have s3 := (World.cell?_of_block (a := ⟨w1.heap.size, 3, none⟩) hbk).trans q3; have s4 := (World.cell?_of_block (a := ⟨w1.heap.size, 4, none⟩) hbk).trans q4; have s5 := (World.cell?_of_block (a := ⟨w1.heap.size, 5, none⟩) hbk).trans q5; have HO5 := hide ho5; clear hbk hn5 ho5))
        go_wp2
        go_ret
        rw [unhide HE]
        exact ⟨o, rfl, own_mono (unhide HO5) (Nat.le_trans hwr hbd.size), NTo.trans ((unhide HF1).step hbd) (unhide HS1) (unhide H5)⟩
      case inr.inr.inr.inr =>
        have HC := fun w' (hb : Below wr.heap.size wr w') => hide ((unhide HDD).d5 rfl nb mb cb pv1 rv1 (.slice ao ups.length cap) w' ((unhide HN1).below hb) ((keys_of_row (unhide HROW)).below hb))
        dsimp only at HC
        have hix := index_5 nb
        go_region_held3 (fun w' => w'.cell? ⟨w1.heap.size, 0, none⟩ = some (.int .i64 5) ∧ w'.cell? ⟨w1.heap.size, 1, none⟩ = some (.int .i64 frm) ∧ w'.cell? ⟨w1.heap.size, 2, none⟩ = some (.int .i64 inc) ∧ w'.cell? ⟨w1.heap.size, 3, none⟩ = some (.int .i64 seq) ∧ w'.cell? ⟨w1.heap.size, 4, none⟩ = some (.int .i64 tgt) ∧ w'.cell? ⟨w1.heap.size, 5, none⟩ = some (.slice ao ups.length cap)) (go_keep)
          (first
            | (go_at_call 24; refine (deeds_any nb _).mono ?_; rintro e wd ⟨rfl, hbd'⟩; have hbd := undrew hbd'; have q0 := (hbd.cell (p := ⟨w1.heap.size, 0, none⟩) hbx).trans b0; have q1 := (hbd.cell (p := ⟨w1.heap.size, 1, none⟩) hbx).trans b1; have q2 := (hbd.cell (p := ⟨w1.heap.size, 2, none⟩) hbx).trans b2; have q3 := (hbd.cell (p := ⟨w1.heap.size, 3, none⟩) hbx).trans b3; have q4 := (hbd.cell (p := ⟨w1.heap.size, 4, none⟩) hbx).trans b4; have q5 := (hbd.cell (p := ⟨w1.heap.size, 5, none⟩) hbx).trans b5)
            | (go_at_call 50; refine (unhide (HC _ hbd)).mono ?_; rintro e w5 ⟨o, rfl, ho5, hn5⟩; have H5 := hide hn5; have hbk := Frm.block (Exists.choose_spec (Exists.choose_spec hn5)).2.1 w1.heap.size (Nat.lt_of_lt_of_le hbx hbd.size) (unhide HFT); have s0 := (World.cell?_of_block (a := ⟨w1.heap.size, 0, none⟩) hbk).trans q0; have s1 := (World.cell?_of_block (a := ⟨w1.heap.size, 1, none⟩) hbk).trans q1; have s2 := (World.cell?_of_block (a := ⟨w1.heap.size, 2, none⟩) hbk).trans q2; have s3 := (World.cell?_of_block (a := ⟨w1.heap.size, 3, none⟩) hbk).trans q3; have s4 := (World.cell?_of_block (a := ⟨w1.heap.size, 4, none⟩) hbk).trans q4; have s5 := (World.cell?_of_block (a := ⟨w1.heap.size, 5, none⟩) hbk).trans q5; have HO5 := hide ho5; clear hbk hn5 ho5))
        go_wp2
        go_ret
        rw [unhide HE]
        exact ⟨o, rfl, own_mono (unhide HO5) (Nat.le_trans hwr hbd.size), NTo.trans ((unhide HF1).step hbd) (unhide HS1) (unhide H5)⟩
end Go.Proofs.YtnneljcbelgoeaaGreat.wire
