import Derived.Test.YtnneljcbelgoeaaGreatNMembers
/- To hear a key (P5). -/
namespace Go.Proofs.YtnneljcbelgoeaaGreat.wire
open Go.RowKit Go.Maps

theorem NTo.trans {W W1 W2 : World} {nb mb : Nat} {cb : Dk} {pv rv pv1 rv1 : Value} {x2 : Nd} (hf : Frm (feet nb mb cb pv rv) W W1) (hs : ∀ k ∈ feet nb mb cb pv1 rv1, k ∈ feet nb mb cb pv rv ∨ W.heap.size ≤ k) (h : NTo W1 W2 nb mb cb pv1 rv1 x2) : NTo W W2 nb mb cb pv rv x2 := by
  obtain ⟨pv2, rv2, hn, hf2, hs2⟩ := h
  refine ⟨pv2, rv2, hn, hf.trans hf2 hs, fun k hk => ?_⟩
  rcases hs2 k hk with h | h
  · exact hs k h
  · exact .inr (Nat.le_trans hf.size h)
theorem NTo.of {W W1 : World} {nb mb : Nat} {cb : Dk} {pv rv : Value} {x1 : Nd} (h : NAt W1 nb mb cb pv rv x1) (hf : Frm [nb, mb, cb] W W1) : NTo W W1 nb mb cb pv rv x1 :=
  ⟨pv, rv, h, (Frm.refl _ W).trans hf (by simp [feet]), fun _ hk => .inl hk⟩
theorem NTo.here {W W1 : World} {nb mb : Nat} {cb : Dk} {pv rv : Value} {x : Nd} (h : NAt W nb mb cb pv rv x) (hb : Below W.heap.size W W1) : NTo W W1 nb mb cb pv rv x :=
  ⟨pv, rv, h.below hb, Frm.of_below hb (Nat.le_refl _), fun _ hk => .inl hk⟩
/-- The pass is another list. -/
theorem NAt.setPass {W : World} {nb mb : Nat} {cb : Dk} {pv rv : Value} {x : Nd} (h : NAt W nb mb cb pv rv x) {pv' : Value} {l : List Int} (hp : PassAt W pv' l) (hs : pv'.ownBlock ≠ some cb.ab) :
    NAt (W.setCell ⟨nb, 9, none⟩ pv') nb mb cb pv' rv { x with pass := l } ∧ Frm [nb] W (W.setCell ⟨nb, 9, none⟩ pv') := by
  have hf : Frm [nb] W (W.setCell ⟨nb, 9, none⟩ pv') := (h.set 9 pv (x' := x) rfl rfl rfl rfl rfl).2 |> fun _ => by
    have hb := (Below.refl 0 W).setCell (p := ⟨nb, 9, none⟩) (Nat.zero_le _) pv'
    exact ⟨hb.os, hb.tape, hb.output, hb.size, fun k _ hk => heap_setCell_other W ⟨nb, 9, none⟩ k pv' (by simpa using hk)⟩
  refine ⟨⟨?_, map_frm h.map hf (by simpa using h.mb_nb), ?_, ?_, own_frm h.rel hf (fun k hk => by simpa using (h.rel_ne hk).1), (h.draw_frm hf (by simp)).pv hs⟩, hf⟩
  · rw [heap_setCell_same W nb 9 _ _ pv' h.blk]; rfl
  · obtain ⟨s, r, hc⟩ := h.chan
    exact ⟨s, r, (hf.block cb h.lt_cb (by simpa using h.cb_nb)).trans hc⟩
  · refine hp.frm hf (fun k hk => ?_)
    obtain ⟨cs, hb⟩ := hp.blk hk
    simp only [List.mem_cons, List.not_mem_nil, or_false]
    intro e
    rw [e, h.blk] at hb; cases hb
theorem greater_any (a b : K3) (w : World) : Calls Tryz.prog 77 #[.agg #[.int .i64 a.id, .int .i64 a.inc, .int .i64 a.st], .agg #[.int .i64 b.id, .int .i64 b.inc, .int .i64 b.st]] w fun e w' => e = .returned (.bool (greaterB a b)) ∧ Below w.heap.size w w' := by
  by_cases h : a.inc = b.inc
  · go_enter Tryz.func77, Tryz.ntmps77
    go_wp2
    go_ret
    exact ⟨by simp [greaterB, h], ((Below.refl _ _).alloc (Nat.le_refl _) _).alloc (by simp) _⟩
  · have h' : (a.inc == b.inc) = false := by simp [h]
    go_enter Tryz.func77, Tryz.ntmps77
    go_wp2
    go_ret
    exact ⟨by simp [greaterB, h], ((Below.refl _ _).alloc (Nat.le_refl _) _).alloc (by simp) _⟩
theorem there_any (k : K3) (w : World) : Calls Tryz.prog 78 #[.agg #[.int .i64 k.id, .int .i64 k.inc, .int .i64 k.st]] w fun e w' => e = .returned (.bool (thereB k)) ∧ Below w.heap.size w w' := by
  by_cases h : k.st = 1
  · have h1 : (k.st == 1) = true := by simp [h]
    go_enter Tryz.func78, Tryz.ntmps78
    go_wp2
    go_ret
    exact ⟨by simp [thereB, h], (Below.refl _ _).alloc (Nat.le_refl _) _⟩
  · have h1 : (k.st == 1) = false := by simp [h]
    go_enter Tryz.func78, Tryz.ntmps78
    go_wp2
    go_ret
    exact ⟨by simp [thereB, h]; rfl, (Below.refl _ _).alloc (Nat.le_refl _) _⟩
theorem findM_in {i : Int} {t : List Mem} {m : Mem} (h : findM i t = some m) : m ∈ t ∧ m.k.id = i := by
  unfold findM at h
  exact ⟨List.mem_of_find?_eq_some h, by simpa using List.find?_some h⟩
theorem NdOk.own_key {x : Nd} (h : NdOk x) : isKeyB x.own = true ∧ x.own.id = x.c.self := by
  obtain ⟨m, hm⟩ := h.self
  have e : x.own = m.k := by simp [Nd.own, atM, hm]
  obtain ⟨h1, h2⟩ := findM_in hm
  rw [e]
  exact ⟨h.keys m h1, h2⟩
def Big : Int := 1000000000000
set_option maxHeartbeats 2000000 in
set_option maxRecDepth 100000 in
theorem hearSelf_any {x : Nd} (hx : NdOk x) (hB : NdB Big x) {nb mb : Nat} {cb : Dk} {pv rv : Value} {W : World} (hn : NAt W nb mb cb pv rv x) (k : K3) (hk : isKeyB k = true) :
    Calls Tryz.prog 44 #[.pointer (some ⟨nb, 0, none⟩), .agg #[.int .i64 k.id, .int .i64 k.inc, .int .i64 k.st]] W fun e w' => e = .returned (.tuple #[]) ∧ NAt w' nb mb cb pv rv (x.hearSelf k) ∧ Frm [nb, mb, cb] W w' := by
  obtain ⟨⟨k1, k2⟩, ⟨k3, k4⟩, ⟨k5, k6⟩⟩ := key_bounds hk
  have hok := hx.own_key.1
  obtain ⟨⟨o1, o2⟩, ⟨o3, o4⟩, ⟨o5, o6⟩⟩ := key_bounds hok
  have hb0 : Below W.heap.size W (W.alloc (.cells #[.int .i64 k.id, .int .i64 k.inc, .int .i64 k.st] 31)) := (Below.refl _ _).alloc (Nat.le_refl _) _
  have hn0 := hn.alloc (.cells #[.int .i64 k.id, .int .i64 k.inc, .int .i64 k.st] 31)
  have HS := hide (self_any hx hn0)
  have HN0 := hide hn0
  have HB0 := hide hb0
  have HX := hide hx
  have HN := hide hn
  have HL := hide hB
  have HK := hide hk
  have HOK := hide hok
  clear hn0 hb0 hx hn hB hk hok
  by_cases hg : (x.left || (decide (k.st = 1) || (decide (k.inc < x.own.inc) || decide (k.inc = 1073741824)))) = true
  · have he : x.hearSelf k = x := by rw [Nd.hearSelf, if_pos hg]
    rw [he]
    clear he
    have hcase : x.left = true ∨ (x.left = false ∧ k.st = 1) ∨ (x.left = false ∧ ¬ k.st = 1 ∧ k.inc < x.own.inc) ∨ (x.left = false ∧ ¬ k.st = 1 ∧ ¬ k.inc < x.own.inc ∧ k.inc = 1073741824) := by
      rcases hL : x.left
      · simp [hL] at hg
        by_cases h2 : k.st = 1
        · exact .inr (.inl ⟨rfl, h2⟩)
        · by_cases h3 : k.inc < x.own.inc
          · exact .inr (.inr (.inl ⟨rfl, h2, h3⟩))
          · exact .inr (.inr (.inr ⟨rfl, h2, h3, by omega⟩))
      · exact .inl rfl
    clear hg
    go_enter Tryz.func44, Tryz.ntmps44
    go_wp2_with fail
    refine (unhide HS).mono ?_
    rintro e w1 ⟨rfl, hb1⟩
    have hn1 := (unhide HN0).below hb1
    have hl1 : Calls Tryz.prog 36 #[.pointer (some ⟨nb, 0, none⟩)] (w1.alloc (.cells #[.int .i64 x.own.id, .int .i64 x.own.inc, .int .i64 x.own.st] 31)) _ := left_any (unhide HX) (hn1.alloc _)
    have HL1 := hide hl1
    have hbk := (hb1.block W.heap.size (by simp)).trans (heap_alloc_new W (.cells #[.int .i64 k.id, .int .i64 k.inc, .int .i64 k.st] 31))
    have hz1 := hb1.size
    have hb01 : Below W.heap.size W w1 := (unhide HB0).trans (hb1.mono (by simp))
    have HBK := hide hbk
    have HB1 := hide hb01
    rw [World.size_alloc] at hz1
    clear hb1 hn1 hl1 hbk hb01 HS
    go_wp2_with fail
    refine (unhide HL1).mono ?_
    rintro e w2 ⟨rfl, hb2⟩
    have hbk2 := (hb2.block W.heap.size (by simp; omega)).trans ((Below.heap_alloc w1 _ W.heap.size (by omega)).trans (unhide HBK))
    have hbo2 := (hb2.block w1.heap.size (by simp)).trans (heap_alloc_new w1 (.cells #[.int .i64 x.own.id, .int .i64 x.own.inc, .int .i64 x.own.st] 31))
    have hb02 : Below W.heap.size W w2 := ((unhide HB1).alloc (by omega) _).trans (hb2.mono (by simp; omega))
    have a1 := cell_at hbk2 1
    have a2 := cell_at hbk2 2
    have a3 := cell_at hbo2 1
    simp only [List.getElem?_toArray, List.getElem?_cons_zero, List.getElem?_cons_succ] at a1 a2 a3
    have HB2 := hide hb02
    clear hb2 hbk2 hbo2 hb02 HL1 HBK
    rcases hcase with h1 | ⟨h1, h2⟩ | ⟨h1, h2, h3⟩ | ⟨h1, h2, h3, h4⟩
    · rw [h1]
      go_wp2
      refine bodyPost_ret (results_none rfl _ _ _) rfl ?_
      exact ⟨rfl, (unhide HN).below (unhide HB2), Frm.of_below (unhide HB2) (Nat.le_refl _)⟩
    · rw [h1]
      have h2' : (k.st == 1) = true := by simp [h2]
      go_wp2
      refine bodyPost_ret (results_none rfl _ _ _) rfl ?_
      exact ⟨rfl, (unhide HN).below (unhide HB2), Frm.of_below (unhide HB2) (Nat.le_refl _)⟩
    · rw [h1]
      have h2' : (k.st == 1) = false := by simp [h2]
      go_wp2
      refine bodyPost_ret (results_none rfl _ _ _) rfl ?_
      exact ⟨rfl, (unhide HN).below (unhide HB2), Frm.of_below (unhide HB2) (Nat.le_refl _)⟩
    · rw [h1]
      have h2' : (k.st == 1) = false := by simp [h2]
      have h4' : (k.inc == 1073741824) = true := by simp [h4]
      go_wp2
      refine bodyPost_ret (results_none rfl _ _ _) rfl ?_
      exact ⟨rfl, (unhide HN).below (unhide HB2), Frm.of_below (unhide HB2) (Nat.le_refl _)⟩
  · have he : x.hearSelf k = x.change ⟨x.own.id, k.inc + 1, x.own.st⟩ := by rw [Nd.hearSelf, if_neg hg]
    rw [he]
    clear he
    have hcase : x.left = false ∧ ¬ k.st = 1 ∧ ¬ k.inc < x.own.inc ∧ ¬ k.inc = 1073741824 := by
      rcases hL : x.left
      · simp [hL] at hg
        exact ⟨rfl, by omega, by omega, by omega⟩
      · simp [hL] at hg
    clear hg
    obtain ⟨h1, h2, h3, h4⟩ := hcase
    have h2' : (k.st == 1) = false := by simp [h2]
    have h4' : (k.inc == 1073741824) = false := by simp [h4]
    go_enter Tryz.func44, Tryz.ntmps44
    go_wp2_with fail
    refine (unhide HS).mono ?_
    rintro e w1 ⟨rfl, hb1⟩
    have hn1 := (unhide HN0).below hb1
    have hl1 : Calls Tryz.prog 36 #[.pointer (some ⟨nb, 0, none⟩)] (w1.alloc (.cells #[.int .i64 x.own.id, .int .i64 x.own.inc, .int .i64 x.own.st] 31)) _ := left_any (unhide HX) (hn1.alloc _)
    have HL1 := hide hl1
    have hbk := (hb1.block W.heap.size (by simp)).trans (heap_alloc_new W (.cells #[.int .i64 k.id, .int .i64 k.inc, .int .i64 k.st] 31))
    have hz1 := hb1.size
    have hb01 : Below W.heap.size W w1 := (unhide HB0).trans (hb1.mono (by simp))
    have HBK := hide hbk
    have HB1 := hide hb01
    rw [World.size_alloc] at hz1
    clear hb1 hn1 hl1 hbk hb01 HS
    go_wp2_with fail
    refine (unhide HL1).mono ?_
    rw [h1]
    rintro e w2 ⟨rfl, hb2⟩
    have hbk2 := (hb2.block W.heap.size (by simp; omega)).trans ((Below.heap_alloc w1 _ W.heap.size (by omega)).trans (unhide HBK))
    have hbo2 := (hb2.block w1.heap.size (by simp)).trans (heap_alloc_new w1 (.cells #[.int .i64 x.own.id, .int .i64 x.own.inc, .int .i64 x.own.st] 31))
    have hz2 := hb2.size
    rw [World.size_alloc] at hz2
    have hb02 : Below W.heap.size W w2 := ((unhide HB1).alloc (by omega) _).trans (hb2.mono (by simp; omega))
    have a1 := cell_at hbk2 1
    have a2 := cell_at hbk2 2
    have a3 := cell_at hbo2 1
    have a4 := cell_at hbo2 0
    have a5 := cell_at hbo2 2
    have f3 := free_at hbo2 1
    simp only [List.getElem?_toArray, List.getElem?_cons_zero, List.getElem?_cons_succ] at a1 a2 a3 a4 a5
    have hbo3 := heap_setCell_same w2 w1.heap.size 1 _ _ (.int .i64 (k.inc + 1)) hbo2
    have b0 := cell_at hbo3 0
    have b1 := cell_at hbo3 1
    have b2 := cell_at hbo3 2
    simp only [List.setIfInBounds_toArray, List.set_cons_succ, List.set_cons_zero, List.getElem?_toArray, List.getElem?_cons_zero, List.getElem?_cons_succ] at b0 b1 b2
    have HB3 := hide (hb02.setCell (p := ⟨w1.heap.size, 1, none⟩) (by show W.heap.size ≤ w1.heap.size; omega) (.int .i64 (k.inc + 1)))
    clear hb2 hbk2 hbo2 hb02 HL1 HBK hbo3
    go_wp2_with fail
    have hch := change_any (unhide HX) ((unhide HN).below (unhide HB3)) ⟨x.own.id, k.inc + 1, x.own.st⟩ (by
      simp only [isKeyB, Bool.and_eq_true]
      exact ⟨isId_mk o1 o2, isInc_mk (by show 1 ≤ k.inc + 1; omega) (by show k.inc + 1 ≤ _; omega), isSt_mk o5 o6⟩) (unhide HL).clock.1 (unhide HL).clock.2 (unhide HL).lost.1 (unhide HL).lost.2
    refine hch.mono ?_
    rintro e w3 ⟨rfl, hn3, hf3⟩
    have HN3 := hide hn3
    have HF3 := hide ((Frm.of_below (S := [nb, mb, cb]) (unhide HB3) (Nat.le_refl _)).trans hf3 (fun j hj => .inl hj))
    clear hn3 hf3 hch a1 a2 a3 a4 a5 b0 b1 b2 f3
    go_wp2
    go_end0
    exact ⟨rfl, unhide HN3, unhide HF3⟩
end Go.Proofs.YtnneljcbelgoeaaGreat.wire
