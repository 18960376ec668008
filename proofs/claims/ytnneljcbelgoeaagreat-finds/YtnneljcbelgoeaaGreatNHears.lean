import Derived.Test.YtnneljcbelgoeaaGreatNMembers
/- To hear a key (P5). -/
namespace Go.Proofs.YtnneljcbelgoeaaGreat.wire
open Go.RowKit Go.Maps

theorem NTo.trans {W W1 W2 : World} {nb mb : Nat} {cb : Dk} {pv rv pv1 rv1 : Value} {x2 : Nd} (hf : Frm (feet nb mb cb pv rv) W W1) (hs : ∀ k ∈ feet nb mb cb pv1 rv1, k ∈ feet nb mb cb pv rv ∨ W.heap.size ≤ k) (h : NTo W1 W2 nb mb cb pv1 rv1 x2) : NTo W W2 nb mb cb pv rv x2 := by
  obtain ⟨pv2, rv2, hn, hf2, hs2⟩ := h
  refine ⟨pv2, rv2, hn, hf.trans hf2 hs, fun k hk => ?_⟩
  rcases hs2 k hk with h | h
  · exact hs k h
  · exact .inr (Nat.le_trans hf.size h)
theorem NTo.of {W W1 : World} {nb mb : Nat} {cb : Dk} {pv rv : Value} {x1 : Nd} (h : NAt W1 nb mb cb pv rv x1) (hf : Frm [nb, mb, cb] W W1) : NTo W W1 nb mb cb pv rv x1 :=
  ⟨pv, rv, h, (Frm.refl _ W).trans hf (by simp [feet]), fun _ hk => .inl hk⟩
theorem NTo.here {W W1 : World} {nb mb : Nat} {cb : Dk} {pv rv : Value} {x : Nd} (h : NAt W nb mb cb pv rv x) (hb : Below W.heap.size W W1) : NTo W W1 nb mb cb pv rv x :=
  ⟨pv, rv, h.below hb, Frm.of_below hb (Nat.le_refl _), fun _ hk => .inl hk⟩
/-- The pass is another list. -/
theorem NAt.setPass {W : World} {nb mb : Nat} {cb : Dk} {pv rv : Value} {x : Nd} (h : NAt W nb mb cb pv rv x) {pv' : Value} {l : List Int} (hp : PassAt W pv' l) (hs : pv'.ownBlock ≠ some cb.ab) :
    NAt (W.setCell ⟨nb, 9, none⟩ pv') nb mb cb pv' rv { x with pass := l } ∧ Frm [nb] W (W.setCell ⟨nb, 9, none⟩ pv') := by
  have hf : Frm [nb] W (W.setCell ⟨nb, 9, none⟩ pv') := (h.set 9 pv (x' := x) rfl rfl rfl rfl rfl).2 |> fun _ => by
    have hb := (Below.refl 0 W).setCell (p := ⟨nb, 9, none⟩) (Nat.zero_le _) pv'
    exact ⟨hb.os, hb.tape, hb.output, hb.size, fun k _ hk => heap_setCell_other W ⟨nb, 9, none⟩ k pv' (by simpa using hk)⟩
  refine ⟨⟨?_, map_frm h.map hf (by simpa using h.mb_nb), ?_, ?_, own_frm h.rel hf (fun k hk => by simpa using (h.rel_ne hk).1), (h.draw_frm hf (by simp)).pv hs⟩, hf⟩
  · rw [heap_setCell_same W nb 9 _ _ pv' h.blk]; rfl
  · obtain ⟨s, r, hc⟩ := h.chan
    exact ⟨s, r, (hf.block cb h.lt_cb (by simpa using h.cb_nb)).trans hc⟩
  · refine hp.frm hf (fun k hk => ?_)
    obtain ⟨cs, hb⟩ := hp.blk hk
    simp only [List.mem_cons, List.not_mem_nil, or_false]
    intro e
    rw [e, h.blk] at hb; cases hb
theorem greater_any (a b : K3) (w : World) : Calls Tryz.prog 77 #[.agg #[.int .i64 a.id, .int .i64 a.inc, .int .i64 a.st], .agg #[.int .i64 b.id, .int .i64 b.inc, .int .i64 b.st]] w fun e w' => e = .returned (.bool (greaterB a b)) ∧ Below w.heap.size w w' := by
  by_cases h : a.inc = b.inc
  · go_enter Tryz.func77, Tryz.ntmps77
    go_wp2
    go_ret
    exact ⟨by simp [greaterB, h], ((Below.refl _ _).alloc (Nat.le_refl _) _).alloc (by simp) _⟩
  · have h' : (a.inc == b.inc) = false := by simp [h]
    go_enter Tryz.func77, Tryz.ntmps77
    go_wp2
    go_ret
    exact ⟨by simp [greaterB, h], ((Below.refl _ _).alloc (Nat.le_refl _) _).alloc (by simp) _⟩
theorem there_any (k : K3) (w : World) : Calls Tryz.prog 78 #[.agg #[.int .i64 k.id, .int .i64 k.inc, .int .i64 k.st]] w fun e w' => e = .returned (.bool (thereB k)) ∧ Below w.heap.size w w' := by
  by_cases h : k.st = 1
  · have h1 : (k.st == 1) = true := by simp [h]
    go_enter Tryz.func78, Tryz.ntmps78
    go_wp2
    go_ret
    exact ⟨by simp [thereB, h], (Below.refl _ _).alloc (Nat.le_refl _) _⟩
  · have h1 : (k.st == 1) = false := by simp [h]
    go_enter Tryz.func78, Tryz.ntmps78
    go_wp2
    go_ret
    exact ⟨by simp [thereB, h]; rfl, (Below.refl _ _).alloc (Nat.le_refl _) _⟩
theorem findM_in {i : Int} {t : List Mem} {m : Mem} (h : findM i t = some m) : m ∈ t ∧ m.k.id = i := by
  unfold findM at h
  exact ⟨List.mem_of_find?_eq_some h, by simpa using List.find?_some h⟩
theorem NdOk.own_key {x : Nd} (h : NdOk x) : isKeyB x.own = true ∧ x.own.id = x.c.self := by
  obtain ⟨m, hm⟩ := h.self
  have e : x.own = m.k := by simp [Nd.own, atM, hm]
  obtain ⟨h1, h2⟩ := findM_in hm
  rw [e]
  exact ⟨h.keys m h1, h2⟩
def Big : Int := 1000000000000
set_option maxHeartbeats 2000000 in
set_option maxRecDepth 100000 in
theorem hearSelf_any {x : Nd} (hx : NdOk x) (hB : NdB Big x) {nb mb : Nat} {cb : Dk} {pv rv : Value} {W : World} (hn : NAt W nb mb cb pv rv x) (k : K3) (hk : isKeyB k = true) :
    Calls Tryz.prog 44 #[.pointer (some ⟨nb, 0, none⟩), .agg #[.int .i64 k.id, .int .i64 k.inc, .int .i64 k.st]] W fun e w' => e = .returned (.tuple #[]) ∧ NAt w' nb mb cb pv rv (x.hearSelf k) ∧ Frm [nb, mb, cb] W w' := by
  obtain ⟨⟨k1, k2⟩, ⟨k3, k4⟩, ⟨k5, k6⟩⟩ := key_bounds hk
  have hok := hx.own_key.1
  obtain ⟨⟨o1, o2⟩, ⟨o3, o4⟩, ⟨o5, o6⟩⟩ := key_bounds hok
  have hb0 : Below W.heap.size W (W.alloc (.cells #[.int .i64 k.id, .int .i64 k.inc, .int .i64 k.st] 31)) := (Below.refl _ _).alloc (Nat.le_refl _) _
  have hn0 := hn.alloc (.cells #[.int .i64 k.id, .int .i64 k.inc, .int .i64 k.st] 31)
  have HS := hide (self_any hx hn0)
  have HN0 := hide hn0
  have HB0 := hide hb0
  have HX := hide hx
  have HN := hide hn
  have HL := hide hB
  have HK := hide hk
  have HOK := hide hok
  clear hn0 hb0 hx hn hB hk hok
  by_cases hg : (x.left || (decide (k.st = 1) || (decide (k.inc < x.own.inc) || decide (k.inc = 1073741824)))) = true
  · have he : x.hearSelf k = x := by rw [Nd.hearSelf, if_pos hg]
    rw [he]
    clear he
    have hcase : x.left = true ∨ (x.left = false ∧ k.st = 1) ∨ (x.left = false ∧ ¬ k.st = 1 ∧ k.inc < x.own.inc) ∨ (x.left = false ∧ ¬ k.st = 1 ∧ ¬ k.inc < x.own.inc ∧ k.inc = 1073741824) := by
      rcases hL : x.left
      · simp [hL] at hg
        by_cases h2 : k.st = 1
        · exact .inr (.inl ⟨rfl, h2⟩)
        · by_cases h3 : k.inc < x.own.inc
          · exact .inr (.inr (.inl ⟨rfl, h2, h3⟩))
          · exact .inr (.inr (.inr ⟨rfl, h2, h3, by omega⟩))
      · exact .inl rfl
    clear hg
    go_enter Tryz.func44, Tryz.ntmps44
    go_wp2_with fail
    refine (unhide HS).mono ?_
    rintro e w1 ⟨rfl, hb1⟩
    have hn1 := (unhide HN0).below hb1
    have hl1 : Calls Tryz.prog 36 #[.pointer (some ⟨nb, 0, none⟩)] (w1.alloc (.cells #[.int .i64 x.own.id, .int .i64 x.own.inc, .int .i64 x.own.st] 31)) _ := left_any (unhide HX) (hn1.alloc _)
    have HL1 := hide hl1
    have hbk := (hb1.block W.heap.size (by simp)).trans (heap_alloc_new W (.cells #[.int .i64 k.id, .int .i64 k.inc, .int .i64 k.st] 31))
    have hz1 := hb1.size
    have hb01 : Below W.heap.size W w1 := (unhide HB0).trans (hb1.mono (by simp))
    have HBK := hide hbk
    have HB1 := hide hb01
    rw [World.size_alloc] at hz1
    clear hb1 hn1 hl1 hbk hb01 HS
    go_wp2_with fail
    refine (unhide HL1).mono ?_
    rintro e w2 ⟨rfl, hb2⟩
    have hbk2 := (hb2.block W.heap.size (by simp; omega)).trans ((Below.heap_alloc w1 _ W.heap.size (by omega)).trans (unhide HBK))
    have hbo2 := (hb2.block w1.heap.size (by simp)).trans (heap_alloc_new w1 (.cells #[.int .i64 x.own.id, .int .i64 x.own.inc, .int .i64 x.own.st] 31))
    have hb02 : Below W.heap.size W w2 := ((unhide HB1).alloc (by omega) _).trans (hb2.mono (by simp; omega))
    have a1 := cell_at hbk2 1
    have a2 := cell_at hbk2 2
    have a3 := cell_at hbo2 1
    simp only [List.getElem?_toArray, List.getElem?_cons_zero, List.getElem?_cons_succ] at a1 a2 a3
    have HB2 := hide hb02
    clear hb2 hbk2 hbo2 hb02 HL1 HBK
    rcases hcase with h1 | ⟨h1, h2⟩ | ⟨h1, h2, h3⟩ | ⟨h1, h2, h3, h4⟩
    · rw [h1]
      go_wp2
      refine bodyPost_ret (results_none rfl _ _ _) rfl ?_
      exact ⟨rfl, (unhide HN).below (unhide HB2), Frm.of_below (unhide HB2) (Nat.le_refl _)⟩
    · rw [h1]
      have h2' : (k.st == 1) = true := by simp [h2]
      go_wp2
      refine bodyPost_ret (results_none rfl _ _ _) rfl ?_
      exact ⟨rfl, (unhide HN).below (unhide HB2), Frm.of_below (unhide HB2) (Nat.le_refl _)⟩
    · rw [h1]
      have h2' : (k.st == 1) = false := by simp [h2]
      go_wp2
      refine bodyPost_ret (results_none rfl _ _ _) rfl ?_
      exact ⟨rfl, (unhide HN).below (unhide HB2), Frm.of_below (unhide HB2) (Nat.le_refl _)⟩
    · rw [h1]
      have h2' : (k.st == 1) = false := by simp [h2]
      have h4' : (k.inc == 1073741824) = true := by simp [h4]
      go_wp2
      refine bodyPost_ret (results_none rfl _ _ _) rfl ?_
      exact ⟨rfl, (unhide HN).below (unhide HB2), Frm.of_below (unhide HB2) (Nat.le_refl _)⟩
  · have he : x.hearSelf k = x.change ⟨x.own.id, k.inc + 1, x.own.st⟩ := by rw [Nd.hearSelf, if_neg hg]
    rw [he]
    clear he
    have hcase : x.left = false ∧ ¬ k.st = 1 ∧ ¬ k.inc < x.own.inc ∧ ¬ k.inc = 1073741824 := by
      rcases hL : x.left
      · simp [hL] at hg
        exact ⟨rfl, by omega, by omega, by omega⟩
      · simp [hL] at hg
    clear hg
    obtain ⟨h1, h2, h3, h4⟩ := hcase
    have h2' : (k.st == 1) = false := by simp [h2]
    have h4' : (k.inc == 1073741824) = false := by simp [h4]
    go_enter Tryz.func44, Tryz.ntmps44
    go_wp2_with fail
    refine (unhide HS).mono ?_
    rintro e w1 ⟨rfl, hb1⟩
    have hn1 := (unhide HN0).below hb1
    have hl1 : Calls Tryz.prog 36 #[.pointer (some ⟨nb, 0, none⟩)] (w1.alloc (.cells #[.int .i64 x.own.id, .int .i64 x.own.inc, .int .i64 x.own.st] 31)) _ := left_any (unhide HX) (hn1.alloc _)
    have HL1 := hide hl1
    have hbk := (hb1.block W.heap.size (by simp)).trans (heap_alloc_new W (.cells #[.int .i64 k.id, .int .i64 k.inc, .int .i64 k.st] 31))
    have hz1 := hb1.size
    have hb01 : Below W.heap.size W w1 := (unhide HB0).trans (hb1.mono (by simp))
    have HBK := hide hbk
    have HB1 := hide hb01
    rw [World.size_alloc] at hz1
    clear hb1 hn1 hl1 hbk hb01 HS
    go_wp2_with fail
    refine (unhide HL1).mono ?_
    rw [h1]
    rintro e w2 ⟨rfl, hb2⟩
    have hbk2 := (hb2.block W.heap.size (by simp; omega)).trans ((Below.heap_alloc w1 _ W.heap.size (by omega)).trans (unhide HBK))
    have hbo2 := (hb2.block w1.heap.size (by simp)).trans (heap_alloc_new w1 (.cells #[.int .i64 x.own.id, .int .i64 x.own.inc, .int .i64 x.own.st] 31))
    have hz2 := hb2.size
    rw [World.size_alloc] at hz2
    have hb02 : Below W.heap.size W w2 := ((unhide HB1).alloc (by omega) _).trans (hb2.mono (by simp; omega))
    have a1 := cell_at hbk2 1
    have a2 := cell_at hbk2 2
    have a3 := cell_at hbo2 1
    have a4 := cell_at hbo2 0
    have a5 := cell_at hbo2 2
    have f3 := free_at hbo2 1
    simp only [List.getElem?_toArray, List.getElem?_cons_zero, List.getElem?_cons_succ] at a1 a2 a3 a4 a5
    have hbo3 := heap_setCell_same w2 w1.heap.size 1 _ _ (.int .i64 (k.inc + 1)) hbo2
    have b0 := cell_at hbo3 0
    have b1 := cell_at hbo3 1
    have b2 := cell_at hbo3 2
    simp only [List.setIfInBounds_toArray, List.set_cons_succ, List.set_cons_zero, List.getElem?_toArray, List.getElem?_cons_zero, List.getElem?_cons_succ] at b0 b1 b2
    have HB3 := hide (hb02.setCell (p := ⟨w1.heap.size, 1, none⟩) (by show W.heap.size ≤ w1.heap.size; omega) (.int .i64 (k.inc + 1)))
    clear hb2 hbk2 hbo2 hb02 HL1 HBK hbo3
    go_wp2_with fail
    have hch := change_any (unhide HX) ((unhide HN).below (unhide HB3)) ⟨x.own.id, k.inc + 1, x.own.st⟩ (by
      simp only [isKeyB, Bool.and_eq_true]
      exact ⟨isId_mk o1 o2, isInc_mk (by show 1 ≤ k.inc + 1; omega) (by show k.inc + 1 ≤ _; omega), isSt_mk o5 o6⟩) (unhide HL).clock.1 (unhide HL).clock.2 (unhide HL).lost.1 (unhide HL).lost.2
    refine hch.mono ?_
    rintro e w3 ⟨rfl, hn3, hf3⟩
    have HN3 := hide hn3
    have HF3 := hide ((Frm.of_below (S := [nb, mb, cb]) (unhide HB3) (Nat.le_refl _)).trans hf3 (fun j hj => .inl hj))
    clear hn3 hf3 hch a1 a2 a3 a4 a5 b0 b1 b2 f3
    go_wp2
    go_end0
    exact ⟨rfl, unhide HN3, unhide HF3⟩
end Go.Proofs.YtnneljcbelgoeaaGreat.wire
/- To hear a key of another one (P5). -/
namespace Go.Proofs.YtnneljcbelgoeaaGreat.wire
open Go.RowKit Go.Maps

theorem notId_any (g : Int) {p : Nat} {W : World} (hp : W.heap[p]? = some (.cells #[.int .i64 g] 3 (0, 0))) (i : Int) :
    Calls Tryz.prog 96 #[.int .i64 i, .pointer (some ⟨p, 0, none⟩)] W fun e w' => e = .returned (.bool (i == g)) ∧ Below W.heap.size W w' := by
  have c0 := cell_at hp 0
  simp only [List.getElem?_toArray, List.getElem?_cons_zero] at c0
  clear hp
  go_enter Tryz.func96, Tryz.ntmps96
  go_wp2
  go_ret
  exact ⟨rfl, Below.refl _ _⟩
set_option maxHeartbeats 1000000 in
theorem without_any {l : List Int} (hl : l.length ≤ 1000) (g : Int) {v : Value} {W : World} (hv : PassAt W v l) :
    Calls Tryz.prog 79 #[v, .int .i64 g] W fun e w' => ∃ v', e = .returned v' ∧ w'.ownsRow W.heap.size 3 1 v' (l.filter (fun i => !(i == g))).length ((l.filter (fun i => !(i == g))).flatMap intC) ∧ Below W.heap.size W w' := by
  have HD := hide (dropI_any l (fun i => i == g) 96 #[] #[.pointer (some ⟨W.heap.size, 0, none⟩)] (hv.alloc (.cells #[.int .i64 g] 3)) hl (enters_of Tryz.func96 (by kernel_rfl) rfl) (fun i W' hW' => notId_any g ((hW'.block W.heap.size (by simp)).trans (heap_alloc_new W _)) i))
  clear hv
  go_enter Tryz.func79, Tryz.ntmps79
  go_wp2_with fail
  refine (unhide HD).mono ?_
  rintro e w1 ⟨v', rfl, ho, hb1⟩
  have HO := hide ho
  have HB1 := hide hb1
  clear ho hb1 HD
  go_wp2
  go_ret
  exact ⟨v', rfl, own_mono (unhide HO) (by simp), ((Below.refl _ _).alloc (Nat.le_refl _) _).trans ((unhide HB1).mono (by simp))⟩
set_option maxHeartbeats 2000000 in
set_option maxRecDepth 100000 in
theorem hearOther_any {x : Nd} (hx : NdOk x) (hB : NdB Big x) {nb mb : Nat} {cb : Dk} {pv rv : Value} {W : World} (hn : NAt W nb mb cb pv rv x) (k : K3) (hk : isKeyB k = true) :
    Calls Tryz.prog 45 #[.pointer (some ⟨nb, 0, none⟩), .agg #[.int .i64 k.id, .int .i64 k.inc, .int .i64 k.st]] W fun e w' => e = .returned (.tuple #[]) ∧ NTo W w' nb mb cb pv rv (x.hearOther k) := by
  obtain ⟨⟨k1, k2⟩, ⟨k3, k4⟩, ⟨k5, k6⟩⟩ := key_bounds hk
  have hlen := hx.len
  have hps := hx.pass.len
  have HX := hide hx
  have HN := hide hn
  have HL := hide hB
  have HK := hide hk
  have c7 := hn.c_map
  have hlt := hn.lt
  have hl1 := fun o => look_ok_at (hn.alloc o).map.drew (i := k.id) (by omega) (by omega)
  have hl2 := fun o o' => look_ok_at ((hn.alloc o).alloc o').map.drew (i := k.id) (by omega) (by omega)
  simp only [memv] at hl1 hl2
  have hat : ∀ m, findM k.id x.tab = some m → atM k.id x.tab = m := fun m h => by simp [atM, h]
  have HAT := hide hat
  clear hx hB hk hat hn
  obtain ⟨F, hF⟩ : ∃ F, F = (findM k.id x.tab).isSome := ⟨_, rfl⟩
  obtain ⟨M, hM⟩ : ∃ M, M = atM k.id x.tab := ⟨_, rfl⟩
  rw [← hF, ← hM] at hl1 hl2
  have HF := hide hF
  have HM := hide hM
  clear hF hM
  go_enter Tryz.func45, Tryz.ntmps45
  go_wp2
  go_region
  generalize hw : ((W.alloc (Obj.cells #[Value.int IntKind.i64 k.id, Value.int IntKind.i64 k.inc, Value.int IntKind.i64 k.st] 31)).alloc (Obj.cells #[Value.int IntKind.i64 M.k.id, Value.int IntKind.i64 M.k.inc, Value.int IntKind.i64 M.k.st, Value.int IntKind.i64 M.due, Value.int IntKind.i64 M.sends] 80)).drew = w1
  have hb1 : Below W.heap.size W w1 := by rw [← hw]; exact (((Below.refl _ _).alloc (Nat.le_refl _) _).alloc (by simp) _).drew
  have bk : w1.heap[W.heap.size]? = some (.cells #[.int .i64 k.id, .int .i64 k.inc, .int .i64 k.st] 31 (0, 0)) := by
    rw [← hw]; exact (Below.heap_alloc _ _ _ (by simp)).trans (heap_alloc_new W _)
  have bo : w1.heap[W.heap.size + 1]? = some (.cells #[.int .i64 M.k.id, .int .i64 M.k.inc, .int .i64 M.k.st, .int .i64 M.due, .int .i64 M.sends] 80 (0, 0)) := by
    rw [← hw]
    have := heap_alloc_new (W.alloc (Obj.cells #[Value.int IntKind.i64 k.id, Value.int IntKind.i64 k.inc, Value.int IntKind.i64 k.st] 31)) (Obj.cells #[Value.int IntKind.i64 M.k.id, Value.int IntKind.i64 M.k.inc, Value.int IntKind.i64 M.k.st, Value.int IntKind.i64 M.due, Value.int IntKind.i64 M.sends] 80)
    rw [World.size_alloc] at this
    exact this
  have a0 := cell_at bk 0
  have a1 := cell_at bk 1
  have a2 := cell_at bk 2
  have d0 := cell_at bo 0
  have d1 := cell_at bo 1
  have d2 := cell_at bo 2
  simp only [List.getElem?_toArray, List.getElem?_cons_zero, List.getElem?_cons_succ] at a0 a1 a2 d0 d1 d2
  have HB1 := hide hb1
  have HBK := hide bk
  have hz1 := hb1.size
  have hszk := lt_blk bk
  clear hw bo bk hl1 hl2 c7 hb1
  have hgoes : (x.hearOther k = x ∧ ((F = true ∧ greaterB k M.k = false) ∨ (F = false ∧ 8 ≤ x.tab.length))) ∨ (x.hearOther k = x.heard k ∧ ((F = true ∧ greaterB k M.k = true) ∨ (F = false ∧ ¬ 8 ≤ x.tab.length))) := by
    have h1 := unhide HF
    have h2 := unhide HM
    have h3 := unhide HAT
    unfold Nd.hearOther
    rcases hf : findM k.id x.tab with _ | m
    · rw [hf] at h1
      by_cases h8 : 8 ≤ x.tab.length
      · exact .inl ⟨by simp [h8], .inr ⟨by simpa using h1, h8⟩⟩
      · exact .inr ⟨by simp [h8], .inr ⟨by simpa using h1, h8⟩⟩
    · rw [hf] at h1
      have e := h3 m hf
      rw [e] at h2
      subst h2
      cases hg : greaterB k M.k
      · exact .inl ⟨by simp [hg], .inl ⟨by simpa using h1, rfl⟩⟩
      · exact .inr ⟨by simp [hg], .inl ⟨by simpa using h1, rfl⟩⟩
  clear HF HM HAT
  rcases hgoes with ⟨he, ⟨rfl, hg⟩ | ⟨rfl, h8⟩⟩ | ⟨he, hgo⟩
  · have HE := hide he
    have HG := hide hg
    clear hg he
    go_wp2_with fail
    refine (greater_any k M.k _).mono ?_
    rw [unhide HG]
    rintro e w2 ⟨rfl, hb2⟩
    have HB2 := hide ((unhide HB1).trans (hb2.mono hz1))
    clear hb2
    go_wp2
    refine bodyPost_ret (results_none rfl _ _ _) rfl ?_
    rw [unhide HE]
    exact ⟨rfl, NTo.here (unhide HN) (unhide HB2)⟩
  · have HE := hide he
    clear he
    have b7 := ((unhide HN).below (unhide HB1)).c_map
    have hlm := fun ty => ((unhide HN).below (unhide HB1)).map.len Tryz.underlying64 ty
    rw [tabD_size] at hlm
    have h8' : (8 : Int) ≤ (x.tab.length : Int) := by omega
    go_wp2
    refine bodyPost_ret (results_none rfl _ _ _) rfl ?_
    rw [unhide HE]
    exact ⟨rfl, NTo.here (unhide HN) (unhide HB1)⟩
  · have HE := hide he
    clear he
    rcases hgo with ⟨rfl, hg⟩ | ⟨rfl, h8⟩
    case' inl =>
      have HG := hide hg
      clear hg
      go_wp2_with fail
      refine (greater_any k M.k _).mono ?_
      rw [unhide HG]
      rintro e wq ⟨rfl, hb2⟩
      have HBq := hide ((unhide HB1).trans (hb2.mono hz1))
      have bq := (hb2.block W.heap.size hszk).trans (unhide HBK)
      clear hb2 a0 a1 a2 d0 d1 d2 HG
      have a0 := cell_at bq 0
      have a1 := cell_at bq 1
      have a2 := cell_at bq 2
      simp only [List.getElem?_toArray, List.getElem?_cons_zero, List.getElem?_cons_succ] at a0 a1 a2
      have hzq := lt_blk bq
      have HKq := hide bq
      clear bq hszk HB1 HBK
      go_wp2_with fail
    case' inr =>
      have HBq := HB1
      have HKq := HBK
      have hzq := hszk
      have b7 := ((unhide HN).below (unhide HB1)).c_map
      have hlm := fun ty => ((unhide HN).below (unhide HB1)).map.len Tryz.underlying64 ty
      rw [tabD_size] at hlm
      have h8' : ¬ (8 : Int) ≤ (x.tab.length : Int) := by omega
      clear HB1 HBK hszk
      go_wp2_with fail
      clear b7 hlm h8' h8 d0 d1 d2
    all_goals
      refine (change_any (unhide HX) ((unhide HN).below (unhide HBq)) k (unhide HK) (unhide HL).clock.1 (unhide HL).clock.2 (unhide HL).lost.1 (unhide HL).lost.2).mono ?_
      rintro e w3 ⟨rfl, hn3, hf3⟩
      have hm1 := (unhide HN).lt_mb
      have hm2 := (unhide HN).lt_cb
      have bk3 := (hf3.block W.heap.size hzq (by simp only [List.mem_cons, List.not_mem_nil, or_false]; omega)).trans (unhide HKq)
      have hF3 := (Frm.of_below (S := [nb, mb, cb]) (unhide HBq) (Nat.le_refl _)).trans hf3 (fun j hj => .inl hj)
      clear a0 a1 a2 hf3 HKq
      have a0 := cell_at bk3 0
      have a1 := cell_at bk3 1
      have a2 := cell_at bk3 2
      simp only [List.getElem?_toArray, List.getElem?_cons_zero, List.getElem?_cons_succ] at a0 a1 a2
      have HN3 := hide hn3
      have HF3 := hide hF3
      have hz3 := lt_blk bk3
      have HK3 := hide bk3
      clear hn3 hF3 bk3 hzq
      go_wp2_with fail
      refine (there_any k _).mono ?_
      cases ht : thereB k
      case true =>
        have HT := hide ht
        clear ht
        rintro e w4 ⟨rfl, hb4⟩
        have HB4 := hide hb4
        clear hb4
        go_wp2
        go_end0
        have e1 : x.heard k = x.change k := by simp [Nd.heard, unhide HT]
        rw [unhide HE, e1]
        exact ⟨rfl, NTo.of ((unhide HN3).below (unhide HB4)) ((unhide HF3).step (unhide HB4))⟩
      case false =>
        have HT := hide ht
        clear ht
        rintro e w4 ⟨rfl, hb4⟩
        have HB4 := hide hb4
        clear hb4
        have bk4 := ((unhide HB4).block W.heap.size hz3).trans (unhide HK3)
        have a4 := cell_at bk4 0
        simp only [List.getElem?_toArray, List.getElem?_cons_zero] at a4
        have hn4 := (unhide HN3).below (unhide HB4)
        have hf4 := (unhide HF3).step (unhide HB4)
        have c8 := hn4.c_pass
        have f84 := free_at hn4.blk 9
        have HD := hide (without_any (l := x.pass) (by omega) k.id hn4.drew.pass)
        have HN4 := hide hn4
        have HF4 := hide hf4
        have l4 := lt_blk bk4
        have l5 := hn4.lt
        clear bk4 hn4 hf4 HK3 HN3 HF3 HB4 a0 a1 a2
        go_wp2_with fail
        go_region_with
          (refine (unhide HD).mono ?_; rintro e w5 ⟨v', rfl, ho5, hb50⟩; obtain ⟨ao, cap, rfl⟩ := own_form ho5; have hb5 : Below w4.heap.size w4 w5 := ⟨hb50.os, hb50.tape, hb50.output, hb50.size, hb50.block⟩; have a5 := (hb5.cell (p := ⟨W.heap.size, 0, none⟩) l4).trans a4; have e8 := (hb5.cell (p := ⟨nb, 9, none⟩) l5).trans c8; have f8 := (hb5.frozen (p := ⟨nb, 9, none⟩) l5).trans f84; clear hb50)
        all_goals
         have hn5 := (unhide HN4).below (W' := w5) hb5
         have HN5 := hide hn5
         have HF5 := hide ((unhide HF4).step hb5)
         have HO5 := hide ho5
         have HS5 := hide (unhide HF4).size
         have HAB := hide (heap_lt (unhide HN4).draw.ab)
         clear hn5 ho5 hb5 HD HN4 HF4
         go_wp2
         go_end0
         have e1 : x.heard k = { x.change k with pass := x.pass.filter (fun i => !(i == k.id)) } := by simp [Nd.heard, unhide HT]
         rw [unhide HE, e1]
         obtain ⟨g1, g2⟩ := (unhide HN5).setPass (PassAt.of_own (unhide HO5)) (fun e => by have h1 := (own_lt (unhide HO5) e).1; have h2 := unhide HAB; simp only [World.size_drew] at h1; omega)
         refine ⟨rfl, _, rv, g1, ((Frm.refl _ W).trans (unhide HF5) (by simp [feet])).trans g2 (by simp [feet]), fun j hj => ?_⟩
         simp only [feet, List.mem_cons, List.mem_append, Option.mem_toList] at hj ⊢
         rcases hj with h | h | h | h | h | h
         · exact .inl (.inl h)
         · exact .inl (.inr (.inl h))
         · exact .inl (.inr (.inr (.inl h)))
         · exact .inr (Nat.le_trans (unhide HS5) (own_lt (unhide HO5) h).1)
         · exact .inl (.inr (.inr (.inr (.inr (.inl h)))))
         · exact .inl (.inr (.inr (.inr (.inr (.inr h)))))
end Go.Proofs.YtnneljcbelgoeaaGreat.wire
/- To hear a key; what a node keeps to. -/
namespace Go.Proofs.YtnneljcbelgoeaaGreat.wire
open Go.RowKit Go.Maps

set_option maxHeartbeats 1000000 in
theorem hear_any {x : Nd} (hx : NdOk x) (hB : NdB Big x) {nb mb : Nat} {cb : Dk} {pv rv : Value} {W : World} (hn : NAt W nb mb cb pv rv x) (k : K3) (hk : isKeyB k = true) :
    Calls Tryz.prog 23 #[.pointer (some ⟨nb, 0, none⟩), .agg #[.int .i64 k.id, .int .i64 k.inc, .int .i64 k.st]] W fun e w' => e = .returned (.tuple #[]) ∧ NTo W w' nb mb cb pv rv (x.hear k) := by
  have c0 := hn.c_self
  have hlt := hn.lt
  have hn1 := fun q => (hn.alloc (.cells #[.int .i64 k.id, .int .i64 k.inc, .int .i64 k.st] 31)).drewN q
  have hb1 : ∀ q, Below W.heap.size W ((W.alloc (.cells #[.int .i64 k.id, .int .i64 k.inc, .int .i64 k.st] 31)).drewN q) := fun q => bdrewN ((Below.refl _ _).alloc (Nat.le_refl _) _) q
  by_cases hs : k.id = x.c.self
  · have HS := fun q => hide (hearSelf_any hx hB (hn1 q) k hk)
    have HB1 := hide hb1
    have hs' : (k.id == x.c.self) = true := by simp [hs]
    have he : x.hear k = x.hearSelf k := by simp [Nd.hear, hs]
    have HE := hide he
    clear hn hn1 hb1 hx hB hk hs he
    go_enter Tryz.func23, Tryz.ntmps23
    go_wp2
    go_quiet (fail)
    go_wp2_with fail
    refine (unhide (HS _)).mono ?_
    rintro e w2 ⟨rfl, hn2, hf2⟩
    have HN2 := hide hn2
    have HF2 := hide ((Frm.of_below (S := [nb, mb, cb]) (unhide HB1 _) (Nat.le_refl _)).trans hf2 (fun j hj => .inl hj))
    clear hn2 hf2 HS
    go_wp2
    go_end0
    rw [unhide HE]
    exact ⟨rfl, NTo.of (unhide HN2) (unhide HF2)⟩
  · have HS := fun q => hide (hearOther_any hx hB (hn1 q) k hk)
    have HB1 := hide hb1
    have hs' : (k.id == x.c.self) = false := by simp [hs]
    have he : x.hear k = x.hearOther k := by simp [Nd.hear, hs]
    have HE := hide he
    clear hn hn1 hb1 hx hB hk hs he
    go_enter Tryz.func23, Tryz.ntmps23
    go_wp2
    go_quiet (fail)
    go_wp2_with fail
    refine (unhide (HS _)).mono ?_
    rintro e w2 ⟨rfl, hn2⟩
    have HN2 := hide (NTo.trans (Frm.of_below (S := feet nb mb cb pv rv) (unhide HB1 _) (Nat.le_refl _)) (fun j hj => .inl hj) hn2)
    clear hn2 HS
    go_wp2
    go_end0
    rw [unhide HE]
    exact ⟨rfl, unhide HN2⟩
/-! ### what stays -/
theorem change_ok {x : Nd} (hx : NdOk x) (k : K3) (hk : isKeyB k = true) (hroom : (findM k.id x.tab).isSome = true ∨ x.tab.length < 8) : NdOk (x.change k) := by
  obtain ⟨_, _, _, hs⟩ := hx.cfgs
  refine ⟨hx.cfg, putM_rise _ _ hx.rise, ?_, ?_, ?_, ?_, ?_, hx.rels, hx.pass⟩
  · show (putM _ x.tab).length ≤ 8
    rw [putM_len _ _ hx.rise]
    have := hx.len
    split
    · exact this
    · rename_i h
      rcases hroom with h' | h'
      · exact absurd h' h
      · omega
  · intro m hm
    rcases putM_mem hm with rfl | hm
    · exact hk
    · exact hx.keys m hm
  · intro m hm
    rcases putM_mem hm with rfl | hm
    · exact ⟨by show 0 ≤ x.c.sends; omega, hs.2⟩
    · exact hx.sends m hm
  · obtain ⟨m, hm⟩ := hx.self
    show ∃ m, findM x.c.self (putM _ x.tab) = some m
    rw [findM_putM _ _ _ hx.rise]
    split
    · exact ⟨_, rfl⟩
    · exact ⟨m, hm⟩
  · show (if x.evs.length < 8 then x.evs ++ [k] else x.evs).length ≤ 8
    have := hx.evs
    split
    · simp; omega
    · exact this
theorem change_b {B : Int} {x : Nd} (hB : NdB B x) (k : K3) : NdB (B + 1) (x.change k) := by
  obtain ⟨h1, h2, h3, h4, h5⟩ := hB
  refine ⟨⟨h1.1, by show x.clock ≤ _; omega⟩, ⟨h2.1, by show x.num ≤ _; omega⟩, ⟨h3.1, by show x.dropped ≤ _; omega⟩, ?_, ⟨⟨h5.1.1, by show x.pst ≤ _; omega⟩, by show (x.dat : Int) ≤ _; omega⟩⟩
  show 0 ≤ (if x.evs.length < 8 then x.lost else x.lost + 1) ∧ (if x.evs.length < 8 then x.lost else x.lost + 1) ≤ B + 1
  split <;> omega
theorem NdB.mono {B C : Int} {x : Nd} (h : NdB B x) (hc : B ≤ C) : NdB C x := ⟨⟨h.clock.1, by have := h.clock.2; omega⟩, ⟨h.num.1, by have := h.num.2; omega⟩, ⟨h.dropped.1, by have := h.dropped.2; omega⟩, ⟨h.lost.1, by have := h.lost.2; omega⟩, ⟨⟨h.tk.1.1, by have := h.tk.1.2; omega⟩, by have := h.tk.2; omega⟩⟩
theorem heard_ok {x : Nd} (hx : NdOk x) (k : K3) (hk : isKeyB k = true) (hroom : (findM k.id x.tab).isSome = true ∨ x.tab.length < 8) : NdOk (x.heard k) := by
  have h := change_ok hx k hk hroom
  unfold Nd.heard
  split
  · exact h
  · exact ⟨h.cfg, h.rise, h.len, h.keys, h.sends, h.self, h.evs, h.rels, hx.pass.filter _⟩
theorem heard_b {B : Int} {x : Nd} (hB : NdB B x) (k : K3) : NdB (B + 1) (x.heard k) := by
  have h := change_b hB k
  unfold Nd.heard
  split
  · exact h
  · exact ⟨h.clock, h.num, h.dropped, h.lost, h.tk⟩
theorem hear_ok {x : Nd} (hx : NdOk x) (k : K3) (hk : isKeyB k = true) : NdOk (x.hear k) := by
  obtain ⟨hok, hid⟩ := hx.own_key
  unfold Nd.hear
  split
  · unfold Nd.hearSelf
    split
    · exact hx
    · rename_i h
      simp only [Bool.or_eq_true, decide_eq_true_eq, not_or] at h
      obtain ⟨_, ⟨k3, k4⟩, _⟩ := key_bounds hk
      obtain ⟨⟨o1, o2⟩, _, ⟨o5, o6⟩⟩ := key_bounds hok
      refine change_ok hx _ ?_ (.inl ?_)
      · simp only [isKeyB, Bool.and_eq_true]
        exact ⟨isId_mk o1 o2, isInc_mk (by show 1 ≤ k.inc + 1; omega) (by show k.inc + 1 ≤ _; omega), isSt_mk o5 o6⟩
      · obtain ⟨m, hm⟩ := hx.self
        show (findM x.own.id x.tab).isSome = true
        rw [hid, hm]; rfl
  · unfold Nd.hearOther
    split
    · rename_i o ho
      split
      · exact heard_ok hx k hk (.inl (by rw [ho]; rfl))
      · exact hx
    · split
      · exact hx
      · exact heard_ok hx k hk (.inr (by omega))
theorem hear_b {B : Int} {x : Nd} (hB : NdB B x) (k : K3) : NdB (B + 1) (x.hear k) := by
  have hs := hB.mono (C := B + 1) (by omega)
  unfold Nd.hear Nd.hearSelf Nd.hearOther
  split
  · split
    · exact hs
    · exact change_b hB _
  · split
    · split
      · exact heard_b hB _
      · exact hs
    · split
      · exact hs
      · exact heard_b hB _
theorem hears_ok : ∀ (l : List K3) {x : Nd}, NdOk x → allB l = true → NdOk (x.hears l)
  | [], _, hx, _ => hx
  | k :: r, x, hx, hl => by
    simp only [allB, List.all_cons, Bool.and_eq_true] at hl
    exact hears_ok r (hear_ok hx k hl.1) hl.2
theorem hears_b : ∀ (l : List K3) {B : Int} {x : Nd}, NdB B x → NdB (B + l.length) (x.hears l)
  | [], B, _, hx => hx.mono (by simp)
  | k :: r, B, x, hx => (hears_b r (hear_b hx k)).mono (by simp; omega)
theorem change_c (x : Nd) (k : K3) : (x.change k).c = x.c := rfl
theorem heard_c (x : Nd) (k : K3) : (x.heard k).c = x.c := by unfold Nd.heard; split <;> rfl
theorem hear_c (x : Nd) (k : K3) : (x.hear k).c = x.c := by
  unfold Nd.hear Nd.hearSelf Nd.hearOther
  split
  · split <;> rfl
  · split
    · split
      · exact heard_c x k
      · rfl
    · split
      · rfl
      · exact heard_c x k
theorem hears_c : ∀ (l : List K3) (x : Nd), (x.hears l).c = x.c
  | [], _ => rfl
  | k :: r, x => (hears_c r (x.hear k)).trans (hear_c x k)
end Go.Proofs.YtnneljcbelgoeaaGreat.wire
