import Derived.Test.YtnneljcbelgoeaaGreatDoorG07
import Derived.Test.YtnneljcbelgoeaaGreatDoorG08
/- members: all of the table, by rising ids. -/
namespace Go.Proofs.YtnneljcbelgoeaaGreatDoor.wire
open Go.RowKit Go.Maps Go.Sort Go.Shelf

theorem sortsA (m : Nat) : AnyZI.SortsIn Tryz.prog Tryz.sortedA_ren Fence.wide m :=
  ⟨fun blk off cap ss W hH hblk hsz => callsIn_wide.2 (AnyM.slices_Sort_int Tryz.sortA blk off cap ss W hH hblk hsz),
   fun p cap W => callsIn_wide.2 (AnyM.slices_Sort_int_none Tryz.sortA p cap W)⟩
theorem keys_call (mb : Option Nat) (W : World) : Calls Tryz.prog 130 #[.map mb] W fun e w' => e = .returned (.func (.func 154) #[] #[.pointer (some ⟨W.heap.size, 0, none⟩)]) ∧ w' = W.alloc (.cells #[.map mb] 117) :=
  (callsIn_wide (n := 5)).1 (AnyZI.keys_in Tryz.keysA Fence.wide 5 trivial rfl mb W)
theorem map_int (l : List Int) : l.map encZ = l.flatMap intC := by
  induction l with
  | nil => rfl
  | cons a r ih => rw [List.map_cons, ih, List.flatMap_cons]; rfl
theorem sorted_call {W : World} {mb nn : Nat} {t : List Mem} (hown : W.ownsMap Tryz.prog 3 RH mb nn (tabD t)) (hl : t.length ≤ 1000) (hr : Rise t) :
    Calls Tryz.prog 129 #[.func (.func 154) #[] #[.pointer (some ⟨W.heap.size, 0, none⟩)]] (W.alloc (.cells #[.map (some mb)] 117)) fun e w' =>
      ∃ v, e = .returned v ∧ w'.ownsRow (W.alloc (.cells #[.map (some mb)] 117)).heap.size 3 1 v t.length ((t.map fun m => m.k.id).flatMap intC) ∧ Below (W.alloc (.cells #[.map (some mb)] 117)).heap.size (W.alloc (.cells #[.map (some mb)] 117)) w' := by
  refine (callsIn_wide (n := 5)).1 ?_
  have hsz : Maps.size (tabD t) ≤ 1000 := by rw [tabD_size]; exact hl
  have hbl := hown.lt
  have hseq : SeqGives Fence.wide 2 Tryz.prog 154 #[.pointer (some ⟨W.heap.size, 0, none⟩)] encZ (fun ss => ss.Perm (intKeys (tabD t))) (Maps.size (tabD t)) (W.alloc (.cells #[.map (some mb)] 117)) :=
    AnyZI.keys_gives (ρ := Tryz.keysA_ren) { Tryz.keysA with } Fence.wide _ trivial rfl (by omega) W.heap.size mb nn (tabD t) _ (by simp) (by simp) (hown.alloc _)
  have cS := AnyZI.sorted_in Tryz.sortedA Fence.wide 5 trivial trivial trivial trivial rfl (by omega) (sortsA _) (enters_of Tryz.func153 (by kernel_rfl) rfl) 154 #[.pointer (some ⟨W.heap.size, 0, none⟩)] trivial (enters_of Tryz.func154 (by kernel_rfl) rfl) _ _ (by unfold maxLen; omega) (by omega) _ hseq
  refine cS.mono ?_
  rintro e w' ⟨v, ss, rfl, hS, hrow, hnil, hb⟩
  have e1 : ss.length = t.length := by rw [hS.length_eq, tabD_keys]; simp
  rw [sorted_keys hr hS, e1] at hrow
  rw [map_int] at hrow
  exact ⟨v, rfl, hrow, hb⟩
set_option maxHeartbeats 1000000 in
theorem member_at {x : Nd} {nb mb : Nat} {cb : Dk} {pv rv : Value} {W : World} (hn : NAt W nb mb cb pv rv x) {p : Nat} (hp : W.cell? ⟨p, 0, none⟩ = some (.pointer (some ⟨nb, 0, none⟩))) (i : Int) (a : -9223372036854775808 ≤ i) (b : i ≤ 9223372036854775807) :
    Calls Tryz.prog 132 #[.int .i64 i, .pointer (some ⟨p, 0, none⟩)] W fun e w' => e = .returned (.agg #[.int .i64 (atM i x.tab).k.id, .int .i64 (atM i x.tab).k.inc, .int .i64 (atM i x.tab).k.st, .int .i64 (atM i x.tab).due, .int .i64 (atM i x.tab).sends]) ∧ Below W.heap.size W w' := by
  have c7 := hn.c_map
  have hl := fun o => look_at (hn.alloc o).map (i := i) a b
  simp only [memv] at hl
  have hlt := hn.lt
  have hpl := World.block_lt_of_cell? W _ hp
  clear hn
  generalize atM i x.tab = m at hl
  go_enter Tryz.func132, Tryz.ntmps132
  go_wp2
  refine bodyPost_ret (v := memv m) (by simp [results, Tryz.results132, go_sem]) rfl ⟨rfl, ((Below.refl _ _).alloc (Nat.le_refl _) _)⟩
theorem findM_mem {m : Mem} : ∀ {t : List Mem}, Rise t → m ∈ t → findM m.k.id t = some m
  | y :: r, h, hm => by
    have hr := (List.pairwise_cons.1 h).1
    rcases List.mem_cons.1 hm with rfl | hm
    · simp [findM]
    · have := hr m hm
      have h' : (y.k.id == m.k.id) = false := by simp; omega
      have ih := findM_mem (List.pairwise_cons.1 h).2 hm
      simpa [findM, h'] using ih
theorem tab_again {t : List Mem} (h : Rise t) : (t.map fun m => m.k.id).map (fun i => atM i t) = t := by
  rw [List.map_map]
  conv => rhs; rw [← List.map_id t]
  refine List.map_congr_left (fun m hm => ?_)
  simp [atM, findM_mem h hm]
set_option maxHeartbeats 2000000 in
theorem members_any {x : Nd} (hx : NdOk x) {nb mb : Nat} {cb : Dk} {pv rv : Value} {W : World} (hn : NAt W nb mb cb pv rv x) :
    Calls Tryz.prog 95 #[.pointer (some ⟨nb, 0, none⟩)] W fun e w' => ∃ v, e = .returned v ∧ w'.ownsRow W.heap.size 150 5 v x.tab.length (x.tab.flatMap memC) ∧ Below W.heap.size W w' := by
  have hlen := hx.len
  have hn1 := hn.alloc (.cells #[.pointer (some ⟨nb, 0, none⟩)] 79)
  have hb1 : Below W.heap.size W (W.alloc (.cells #[.pointer (some ⟨nb, 0, none⟩)] 79)) := (Below.refl _ _).alloc (Nat.le_refl _) _
  have hbx : (W.alloc (.cells #[.pointer (some ⟨nb, 0, none⟩)] 79)).cell? ⟨W.heap.size, 0, none⟩ = some (.pointer (some ⟨nb, 0, none⟩)) := by simp
  have HBX := hide hbx
  have c7 := hn.c_map
  have hlt := hn.lt
  have HN := hide hn1
  have HB := hide hb1
  have HX := hide hx
  clear hn hn1 hb1 hx hbx
  go_enter Tryz.func95, Tryz.ntmps95
  go_wp2_with fail
  refine (keys_call _ _).mono ?_
  rintro e w1 ⟨rfl, rfl⟩
  go_wp2_with fail
  have hS := sorted_call (unhide HN).map (by omega) (unhide HX).rise
  simp only [World.size_alloc] at hS
  refine hS.mono ?_
  clear hS
  rintro e w2 ⟨v, rfl, hrow, hb2⟩
  have hb02 : Below W.heap.size W w2 := ((unhide HB).alloc (by simp) _).trans (hb2.mono (by omega))
  have hn2 := ((unhide HN).alloc (.cells #[.map (some mb)] 117)).below (by simpa using hb2)
  have hp2 : w2.cell? ⟨W.heap.size, 0, none⟩ = some (.pointer (some ⟨nb, 0, none⟩)) := (hb2.cell (p := ⟨W.heap.size, 0, none⟩) (by show W.heap.size < _; omega)).trans (by simp)
  have hT := turnIM_any (x.tab.map fun m => m.k.id) (fun i => atM i x.tab) 132 #[] #[.pointer (some ⟨W.heap.size, 0, none⟩)] (by simpa using hrow) (by simpa using (by omega)) (enters_of Tryz.func132 (by kernel_rfl) rfl) (fun i hi W' hW' => by
    obtain ⟨m, hm, rfl⟩ := List.mem_map.1 hi
    have := (key_bounds ((unhide HX).keys m hm)).1
    exact member_at (hn2.below hW') ((hW'.cell (p := ⟨W.heap.size, 0, none⟩) (World.block_lt_of_cell? w2 _ hp2)).trans hp2) m.k.id (by omega) (by omega))
  rw [tab_again (unhide HX).rise] at hT
  have HT := hide hT
  have HB2 := hide hb02
  clear hT hb02 hn2 hp2 hb2 hrow c7
  go_wp2_with fail
  refine (unhide HT).mono ?_
  rintro e w3 ⟨v', rfl, hrow, hb3⟩
  have HR := hide hrow
  have HB3 := hide hb3
  clear hrow hb3 HT
  go_wp2
  go_ret
  exact ⟨v', rfl, own_mono (unhide HR) (unhide HB2).size, (unhide HB2).trans ((unhide HB3).mono (unhide HB2).size)⟩
end Go.Proofs.YtnneljcbelgoeaaGreatDoor.wire
/- To hear a key (P5). -/
namespace Go.Proofs.YtnneljcbelgoeaaGreatDoor.wire
open Go.RowKit Go.Maps

theorem NTo.trans {W W1 W2 : World} {nb mb : Nat} {cb : Dk} {pv rv pv1 rv1 : Value} {x2 : Nd} (hf : Frm (feet nb mb cb pv rv) W W1) (hs : ∀ k ∈ feet nb mb cb pv1 rv1, k ∈ feet nb mb cb pv rv ∨ W.heap.size ≤ k) (h : NTo W1 W2 nb mb cb pv1 rv1 x2) : NTo W W2 nb mb cb pv rv x2 := by
  obtain ⟨pv2, rv2, hn, hf2, hs2⟩ := h
  refine ⟨pv2, rv2, hn, hf.trans hf2 hs, fun k hk => ?_⟩
  rcases hs2 k hk with h | h
  · exact hs k h
  · exact .inr (Nat.le_trans hf.size h)
theorem NTo.of {W W1 : World} {nb mb : Nat} {cb : Dk} {pv rv : Value} {x1 : Nd} (h : NAt W1 nb mb cb pv rv x1) (hf : Frm [nb, mb, cb] W W1) : NTo W W1 nb mb cb pv rv x1 :=
  ⟨pv, rv, h, (Frm.refl _ W).trans hf (by simp [feet]), fun _ hk => .inl hk⟩
theorem NTo.here {W W1 : World} {nb mb : Nat} {cb : Dk} {pv rv : Value} {x : Nd} (h : NAt W nb mb cb pv rv x) (hb : Below W.heap.size W W1) : NTo W W1 nb mb cb pv rv x :=
  ⟨pv, rv, h.below hb, Frm.of_below hb (Nat.le_refl _), fun _ hk => .inl hk⟩
/-- The pass is another list. -/
theorem NAt.setPass {W : World} {nb mb : Nat} {cb : Dk} {pv rv : Value} {x : Nd} (h : NAt W nb mb cb pv rv x) {pv' : Value} {l : List Int} (hp : PassAt W pv' l) (hs : pv'.ownBlock ≠ some cb.ab) :
    NAt (W.setCell ⟨nb, 9, none⟩ pv') nb mb cb pv' rv { x with pass := l } ∧ Frm [nb] W (W.setCell ⟨nb, 9, none⟩ pv') := by
  have hf : Frm [nb] W (W.setCell ⟨nb, 9, none⟩ pv') := (h.set 9 pv (x' := x) rfl rfl rfl rfl rfl).2 |> fun _ => by
    have hb := (Below.refl 0 W).setCell (p := ⟨nb, 9, none⟩) (Nat.zero_le _) pv'
    exact ⟨hb.os, hb.tape, hb.output, hb.size, fun k _ hk => heap_setCell_other W ⟨nb, 9, none⟩ k pv' (by simpa using hk)⟩
  refine ⟨⟨?_, map_frm h.map hf (by simpa using h.mb_nb), ?_, ?_, own_frm h.rel hf (fun k hk => by simpa using (h.rel_ne hk).1), (h.draw_frm hf (by simp)).pv hs⟩, hf⟩
  · rw [heap_setCell_same W nb 9 _ _ pv' h.blk]; rfl
  · obtain ⟨s, r, hc⟩ := h.chan
    exact ⟨s, r, (hf.block cb h.lt_cb (by simpa using h.cb_nb)).trans hc⟩
  · refine hp.frm hf (fun k hk => ?_)
    obtain ⟨cs, hb⟩ := hp.blk hk
    simp only [List.mem_cons, List.not_mem_nil, or_false]
    intro e
    rw [e, h.blk] at hb; cases hb
theorem greater_any (a b : K3) (w : World) : Calls Tryz.prog 148 #[.agg #[.int .i64 a.id, .int .i64 a.inc, .int .i64 a.st], .agg #[.int .i64 b.id, .int .i64 b.inc, .int .i64 b.st]] w fun e w' => e = .returned (.bool (greaterB a b)) ∧ Below w.heap.size w w' := by
  by_cases h : a.inc = b.inc
  · go_enter Tryz.func148, Tryz.ntmps148
    go_wp2
    go_ret
    exact ⟨by simp [greaterB, h], ((Below.refl _ _).alloc (Nat.le_refl _) _).alloc (by simp) _⟩
  · have h' : (a.inc == b.inc) = false := by simp [h]
    go_enter Tryz.func148, Tryz.ntmps148
    go_wp2
    go_ret
    exact ⟨by simp [greaterB, h], ((Below.refl _ _).alloc (Nat.le_refl _) _).alloc (by simp) _⟩
theorem there_any (k : K3) (w : World) : Calls Tryz.prog 137 #[.agg #[.int .i64 k.id, .int .i64 k.inc, .int .i64 k.st]] w fun e w' => e = .returned (.bool (thereB k)) ∧ Below w.heap.size w w' := by
  by_cases h : k.st = 1
  · have h1 : (k.st == 1) = true := by simp [h]
    go_enter Tryz.func137, Tryz.ntmps137
    go_wp2
    go_ret
    exact ⟨by simp [thereB, h], (Below.refl _ _).alloc (Nat.le_refl _) _⟩
  · have h1 : (k.st == 1) = false := by simp [h]
    go_enter Tryz.func137, Tryz.ntmps137
    go_wp2
    go_ret
    exact ⟨by simp [thereB, h]; rfl, (Below.refl _ _).alloc (Nat.le_refl _) _⟩
theorem findM_in {i : Int} {t : List Mem} {m : Mem} (h : findM i t = some m) : m ∈ t ∧ m.k.id = i := by
  unfold findM at h
  exact ⟨List.mem_of_find?_eq_some h, by simpa using List.find?_some h⟩
theorem NdOk.own_key {x : Nd} (h : NdOk x) : isKeyB x.own = true ∧ x.own.id = x.c.self := by
  obtain ⟨m, hm⟩ := h.self
  have e : x.own = m.k := by simp [Nd.own, atM, hm]
  obtain ⟨h1, h2⟩ := findM_in hm
  rw [e]
  exact ⟨h.keys m h1, h2⟩
def Big : Int := 1000000000000
set_option maxHeartbeats 2000000 in
set_option maxRecDepth 100000 in
theorem hearSelf_any {x : Nd} (hx : NdOk x) (hB : NdB Big x) {nb mb : Nat} {cb : Dk} {pv rv : Value} {W : World} (hn : NAt W nb mb cb pv rv x) (k : K3) (hk : isKeyB k = true) :
    Calls Tryz.prog 120 #[.pointer (some ⟨nb, 0, none⟩), .agg #[.int .i64 k.id, .int .i64 k.inc, .int .i64 k.st]] W fun e w' => e = .returned (.tuple #[]) ∧ NAt w' nb mb cb pv rv (x.hearSelf k) ∧ Frm [nb, mb, cb] W w' := by
  obtain ⟨⟨k1, k2⟩, ⟨k3, k4⟩, ⟨k5, k6⟩⟩ := key_bounds hk
  have hok := hx.own_key.1
  obtain ⟨⟨o1, o2⟩, ⟨o3, o4⟩, ⟨o5, o6⟩⟩ := key_bounds hok
  have hb0 : Below W.heap.size W (W.alloc (.cells #[.int .i64 k.id, .int .i64 k.inc, .int .i64 k.st] 76)) := (Below.refl _ _).alloc (Nat.le_refl _) _
  have hn0 := hn.alloc (.cells #[.int .i64 k.id, .int .i64 k.inc, .int .i64 k.st] 76)
  have HS := hide (self_any hx hn0)
  have HN0 := hide hn0
  have HB0 := hide hb0
  have HX := hide hx
  have HN := hide hn
  have HL := hide hB
  have HK := hide hk
  have HOK := hide hok
  clear hn0 hb0 hx hn hB hk hok
  by_cases hg : (x.left || (decide (k.st = 1) || (decide (k.inc < x.own.inc) || decide (k.inc = 1073741824)))) = true
  · have he : x.hearSelf k = x := by rw [Nd.hearSelf, if_pos hg]
    rw [he]
    clear he
    have hcase : x.left = true ∨ (x.left = false ∧ k.st = 1) ∨ (x.left = false ∧ ¬ k.st = 1 ∧ k.inc < x.own.inc) ∨ (x.left = false ∧ ¬ k.st = 1 ∧ ¬ k.inc < x.own.inc ∧ k.inc = 1073741824) := by
      rcases hL : x.left
      · simp [hL] at hg
        by_cases h2 : k.st = 1
        · exact .inr (.inl ⟨rfl, h2⟩)
        · by_cases h3 : k.inc < x.own.inc
          · exact .inr (.inr (.inl ⟨rfl, h2, h3⟩))
          · exact .inr (.inr (.inr ⟨rfl, h2, h3, by omega⟩))
      · exact .inl rfl
    clear hg
    go_enter Tryz.func120, Tryz.ntmps120
    go_wp2_with fail
    refine (unhide HS).mono ?_
    rintro e w1 ⟨rfl, hb1⟩
    have hn1 := (unhide HN0).below hb1
    have hl1 : Calls Tryz.prog 57 #[.pointer (some ⟨nb, 0, none⟩)] (w1.alloc (.cells #[.int .i64 x.own.id, .int .i64 x.own.inc, .int .i64 x.own.st] 76)) _ := left_any (unhide HX) (hn1.alloc _)
    have HL1 := hide hl1
    have hbk := (hb1.block W.heap.size (by simp)).trans (heap_alloc_new W (.cells #[.int .i64 k.id, .int .i64 k.inc, .int .i64 k.st] 76))
    have hz1 := hb1.size
    have hb01 : Below W.heap.size W w1 := (unhide HB0).trans (hb1.mono (by simp))
    have HBK := hide hbk
    have HB1 := hide hb01
    rw [World.size_alloc] at hz1
    clear hb1 hn1 hl1 hbk hb01 HS
    go_wp2_with fail
    refine (unhide HL1).mono ?_
    rintro e w2 ⟨rfl, hb2⟩
    have hbk2 := (hb2.block W.heap.size (by simp; omega)).trans ((Below.heap_alloc w1 _ W.heap.size (by omega)).trans (unhide HBK))
    have hbo2 := (hb2.block w1.heap.size (by simp)).trans (heap_alloc_new w1 (.cells #[.int .i64 x.own.id, .int .i64 x.own.inc, .int .i64 x.own.st] 76))
    have hb02 : Below W.heap.size W w2 := ((unhide HB1).alloc (by omega) _).trans (hb2.mono (by simp; omega))
    have a1 := cell_at hbk2 1
    have a2 := cell_at hbk2 2
    have a3 := cell_at hbo2 1
    simp only [List.getElem?_toArray, List.getElem?_cons_zero, List.getElem?_cons_succ] at a1 a2 a3
    have HB2 := hide hb02
    clear hb2 hbk2 hbo2 hb02 HL1 HBK
    rcases hcase with h1 | ⟨h1, h2⟩ | ⟨h1, h2, h3⟩ | ⟨h1, h2, h3, h4⟩
    · rw [h1]
      go_wp2
      refine bodyPost_ret (results_none rfl _ _ _) rfl ?_
      exact ⟨rfl, (unhide HN).below (unhide HB2), Frm.of_below (unhide HB2) (Nat.le_refl _)⟩
    · rw [h1]
      have h2' : (k.st == 1) = true := by simp [h2]
      go_wp2
      refine bodyPost_ret (results_none rfl _ _ _) rfl ?_
      exact ⟨rfl, (unhide HN).below (unhide HB2), Frm.of_below (unhide HB2) (Nat.le_refl _)⟩
    · rw [h1]
      have h2' : (k.st == 1) = false := by simp [h2]
      go_wp2
      refine bodyPost_ret (results_none rfl _ _ _) rfl ?_
      exact ⟨rfl, (unhide HN).below (unhide HB2), Frm.of_below (unhide HB2) (Nat.le_refl _)⟩
    · rw [h1]
      have h2' : (k.st == 1) = false := by simp [h2]
      have h4' : (k.inc == 1073741824) = true := by simp [h4]
      go_wp2
      refine bodyPost_ret (results_none rfl _ _ _) rfl ?_
      exact ⟨rfl, (unhide HN).below (unhide HB2), Frm.of_below (unhide HB2) (Nat.le_refl _)⟩
  · have he : x.hearSelf k = x.change ⟨x.own.id, k.inc + 1, x.own.st⟩ := by rw [Nd.hearSelf, if_neg hg]
    rw [he]
    clear he
    have hcase : x.left = false ∧ ¬ k.st = 1 ∧ ¬ k.inc < x.own.inc ∧ ¬ k.inc = 1073741824 := by
      rcases hL : x.left
      · simp [hL] at hg
        exact ⟨rfl, by omega, by omega, by omega⟩
      · simp [hL] at hg
    clear hg
    obtain ⟨h1, h2, h3, h4⟩ := hcase
    have h2' : (k.st == 1) = false := by simp [h2]
    have h4' : (k.inc == 1073741824) = false := by simp [h4]
    go_enter Tryz.func120, Tryz.ntmps120
    go_wp2_with fail
    refine (unhide HS).mono ?_
    rintro e w1 ⟨rfl, hb1⟩
    have hn1 := (unhide HN0).below hb1
    have hl1 : Calls Tryz.prog 57 #[.pointer (some ⟨nb, 0, none⟩)] (w1.alloc (.cells #[.int .i64 x.own.id, .int .i64 x.own.inc, .int .i64 x.own.st] 76)) _ := left_any (unhide HX) (hn1.alloc _)
    have HL1 := hide hl1
    have hbk := (hb1.block W.heap.size (by simp)).trans (heap_alloc_new W (.cells #[.int .i64 k.id, .int .i64 k.inc, .int .i64 k.st] 76))
    have hz1 := hb1.size
    have hb01 : Below W.heap.size W w1 := (unhide HB0).trans (hb1.mono (by simp))
    have HBK := hide hbk
    have HB1 := hide hb01
    rw [World.size_alloc] at hz1
    clear hb1 hn1 hl1 hbk hb01 HS
    go_wp2_with fail
    refine (unhide HL1).mono ?_
    rw [h1]
    rintro e w2 ⟨rfl, hb2⟩
    have hbk2 := (hb2.block W.heap.size (by simp; omega)).trans ((Below.heap_alloc w1 _ W.heap.size (by omega)).trans (unhide HBK))
    have hbo2 := (hb2.block w1.heap.size (by simp)).trans (heap_alloc_new w1 (.cells #[.int .i64 x.own.id, .int .i64 x.own.inc, .int .i64 x.own.st] 76))
    have hz2 := hb2.size
    rw [World.size_alloc] at hz2
    have hb02 : Below W.heap.size W w2 := ((unhide HB1).alloc (by omega) _).trans (hb2.mono (by simp; omega))
    have a1 := cell_at hbk2 1
    have a2 := cell_at hbk2 2
    have a3 := cell_at hbo2 1
    have a4 := cell_at hbo2 0
    have a5 := cell_at hbo2 2
    have f3 := free_at hbo2 1
    simp only [List.getElem?_toArray, List.getElem?_cons_zero, List.getElem?_cons_succ] at a1 a2 a3 a4 a5
    have hbo3 := heap_setCell_same w2 w1.heap.size 1 _ _ (.int .i64 (k.inc + 1)) hbo2
    have b0 := cell_at hbo3 0
    have b1 := cell_at hbo3 1
    have b2 := cell_at hbo3 2
    simp only [List.setIfInBounds_toArray, List.set_cons_succ, List.set_cons_zero, List.getElem?_toArray, List.getElem?_cons_zero, List.getElem?_cons_succ] at b0 b1 b2
    have HB3 := hide (hb02.setCell (p := ⟨w1.heap.size, 1, none⟩) (by show W.heap.size ≤ w1.heap.size; omega) (.int .i64 (k.inc + 1)))
    clear hb2 hbk2 hbo2 hb02 HL1 HBK hbo3
    go_wp2_with fail
    have hch := change_any (unhide HX) ((unhide HN).below (unhide HB3)) ⟨x.own.id, k.inc + 1, x.own.st⟩ (by
      simp only [isKeyB, Bool.and_eq_true]
      exact ⟨isId_mk o1 o2, isInc_mk (by show 1 ≤ k.inc + 1; omega) (by show k.inc + 1 ≤ _; omega), isSt_mk o5 o6⟩) (unhide HL).clock.1 (unhide HL).clock.2 (unhide HL).lost.1 (unhide HL).lost.2
    refine hch.mono ?_
    rintro e w3 ⟨rfl, hn3, hf3⟩
    have HN3 := hide hn3
    have HF3 := hide ((Frm.of_below (S := [nb, mb, cb]) (unhide HB3) (Nat.le_refl _)).trans hf3 (fun j hj => .inl hj))
    clear hn3 hf3 hch a1 a2 a3 a4 a5 b0 b1 b2 f3
    go_wp2
    go_end0
    exact ⟨rfl, unhide HN3, unhide HF3⟩
end Go.Proofs.YtnneljcbelgoeaaGreatDoor.wire
/- To hear a key of another one (P5). -/
namespace Go.Proofs.YtnneljcbelgoeaaGreatDoor.wire
open Go.RowKit Go.Maps

theorem notId_any (g : Int) {p : Nat} {W : World} (hp : W.heap[p]? = some (.cells #[.int .i64 g] 3 (0, 0))) (i : Int) :
    Calls Tryz.prog 156 #[.int .i64 i, .pointer (some ⟨p, 0, none⟩)] W fun e w' => e = .returned (.bool (i == g)) ∧ Below W.heap.size W w' := by
  have c0 := cell_at hp 0
  simp only [List.getElem?_toArray, List.getElem?_cons_zero] at c0
  clear hp
  go_enter Tryz.func156, Tryz.ntmps156
  go_wp2
  go_ret
  exact ⟨rfl, Below.refl _ _⟩
set_option maxHeartbeats 1000000 in
theorem without_any {l : List Int} (hl : l.length ≤ 1000) (g : Int) {v : Value} {W : World} (hv : PassAt W v l) :
    Calls Tryz.prog 133 #[v, .int .i64 g] W fun e w' => ∃ v', e = .returned v' ∧ w'.ownsRow W.heap.size 3 1 v' (l.filter (fun i => !(i == g))).length ((l.filter (fun i => !(i == g))).flatMap intC) ∧ Below W.heap.size W w' := by
  have HD := hide (dropI_any l (fun i => i == g) 156 #[] #[.pointer (some ⟨W.heap.size, 0, none⟩)] (hv.alloc (.cells #[.int .i64 g] 3)) hl (enters_of Tryz.func156 (by kernel_rfl) rfl) (fun i W' hW' => notId_any g ((hW'.block W.heap.size (by simp)).trans (heap_alloc_new W _)) i))
  clear hv
  go_enter Tryz.func133, Tryz.ntmps133
  go_wp2_with fail
  refine (unhide HD).mono ?_
  rintro e w1 ⟨v', rfl, ho, hb1⟩
  have HO := hide ho
  have HB1 := hide hb1
  clear ho hb1 HD
  go_wp2
  go_ret
  exact ⟨v', rfl, own_mono (unhide HO) (by simp), ((Below.refl _ _).alloc (Nat.le_refl _) _).trans ((unhide HB1).mono (by simp))⟩
set_option maxHeartbeats 2000000 in
set_option maxRecDepth 100000 in
theorem hearOther_any {x : Nd} (hx : NdOk x) (hB : NdB Big x) {nb mb : Nat} {cb : Dk} {pv rv : Value} {W : World} (hn : NAt W nb mb cb pv rv x) (k : K3) (hk : isKeyB k = true) :
    Calls Tryz.prog 121 #[.pointer (some ⟨nb, 0, none⟩), .agg #[.int .i64 k.id, .int .i64 k.inc, .int .i64 k.st]] W fun e w' => e = .returned (.tuple #[]) ∧ NTo W w' nb mb cb pv rv (x.hearOther k) := by
  obtain ⟨⟨k1, k2⟩, ⟨k3, k4⟩, ⟨k5, k6⟩⟩ := key_bounds hk
  have hlen := hx.len
  have hps := hx.pass.len
  have HX := hide hx
  have HN := hide hn
  have HL := hide hB
  have HK := hide hk
  have c7 := hn.c_map
  have hlt := hn.lt
  have hl1 := fun o => look_ok_at (hn.alloc o).map.drew (i := k.id) (by omega) (by omega)
  have hl2 := fun o o' => look_ok_at ((hn.alloc o).alloc o').map.drew (i := k.id) (by omega) (by omega)
  simp only [memv] at hl1 hl2
  have hat : ∀ m, findM k.id x.tab = some m → atM k.id x.tab = m := fun m h => by simp [atM, h]
  have HAT := hide hat
  clear hx hB hk hat hn
  obtain ⟨F, hF⟩ : ∃ F, F = (findM k.id x.tab).isSome := ⟨_, rfl⟩
  obtain ⟨M, hM⟩ : ∃ M, M = atM k.id x.tab := ⟨_, rfl⟩
  rw [← hF, ← hM] at hl1 hl2
  have HF := hide hF
  have HM := hide hM
  clear hF hM
  go_enter Tryz.func121, Tryz.ntmps121
  go_wp2
  go_region
  generalize hw : ((W.alloc (Obj.cells #[Value.int IntKind.i64 k.id, Value.int IntKind.i64 k.inc, Value.int IntKind.i64 k.st] 76)).alloc (Obj.cells #[Value.int IntKind.i64 M.k.id, Value.int IntKind.i64 M.k.inc, Value.int IntKind.i64 M.k.st, Value.int IntKind.i64 M.due, Value.int IntKind.i64 M.sends] 150)).drew = w1
  have hb1 : Below W.heap.size W w1 := by rw [← hw]; exact (((Below.refl _ _).alloc (Nat.le_refl _) _).alloc (by simp) _).drew
  have bk : w1.heap[W.heap.size]? = some (.cells #[.int .i64 k.id, .int .i64 k.inc, .int .i64 k.st] 76 (0, 0)) := by
    rw [← hw]; exact (Below.heap_alloc _ _ _ (by simp)).trans (heap_alloc_new W _)
  have bo : w1.heap[W.heap.size + 1]? = some (.cells #[.int .i64 M.k.id, .int .i64 M.k.inc, .int .i64 M.k.st, .int .i64 M.due, .int .i64 M.sends] 150 (0, 0)) := by
    rw [← hw]
    have := heap_alloc_new (W.alloc (Obj.cells #[Value.int IntKind.i64 k.id, Value.int IntKind.i64 k.inc, Value.int IntKind.i64 k.st] 76)) (Obj.cells #[Value.int IntKind.i64 M.k.id, Value.int IntKind.i64 M.k.inc, Value.int IntKind.i64 M.k.st, Value.int IntKind.i64 M.due, Value.int IntKind.i64 M.sends] 150)
    rw [World.size_alloc] at this
    exact this
  have a0 := cell_at bk 0
  have a1 := cell_at bk 1
  have a2 := cell_at bk 2
  have d0 := cell_at bo 0
  have d1 := cell_at bo 1
  have d2 := cell_at bo 2
  simp only [List.getElem?_toArray, List.getElem?_cons_zero, List.getElem?_cons_succ] at a0 a1 a2 d0 d1 d2
  have HB1 := hide hb1
  have HBK := hide bk
  have hz1 := hb1.size
  have hszk := lt_blk bk
  clear hw bo bk hl1 hl2 c7 hb1
  have hgoes : (x.hearOther k = x ∧ ((F = true ∧ greaterB k M.k = false) ∨ (F = false ∧ 8 ≤ x.tab.length))) ∨ (x.hearOther k = x.heard k ∧ ((F = true ∧ greaterB k M.k = true) ∨ (F = false ∧ ¬ 8 ≤ x.tab.length))) := by
    have h1 := unhide HF
    have h2 := unhide HM
    have h3 := unhide HAT
    unfold Nd.hearOther
    rcases hf : findM k.id x.tab with _ | m
    · rw [hf] at h1
      by_cases h8 : 8 ≤ x.tab.length
      · exact .inl ⟨by simp [h8], .inr ⟨by simpa using h1, h8⟩⟩
      · exact .inr ⟨by simp [h8], .inr ⟨by simpa using h1, h8⟩⟩
    · rw [hf] at h1
      have e := h3 m hf
      rw [e] at h2
      subst h2
      cases hg : greaterB k M.k
      · exact .inl ⟨by simp [hg], .inl ⟨by simpa using h1, rfl⟩⟩
      · exact .inr ⟨by simp [hg], .inl ⟨by simpa using h1, rfl⟩⟩
  clear HF HM HAT
  rcases hgoes with ⟨he, ⟨rfl, hg⟩ | ⟨rfl, h8⟩⟩ | ⟨he, hgo⟩
  · have HE := hide he
    have HG := hide hg
    clear hg he
    go_wp2_with fail
    refine (greater_any k M.k _).mono ?_
    rw [unhide HG]
    rintro e w2 ⟨rfl, hb2⟩
    have HB2 := hide ((unhide HB1).trans (hb2.mono hz1))
    clear hb2
    go_wp2
    refine bodyPost_ret (results_none rfl _ _ _) rfl ?_
    rw [unhide HE]
    exact ⟨rfl, NTo.here (unhide HN) (unhide HB2)⟩
  · have HE := hide he
    clear he
    have b7 := ((unhide HN).below (unhide HB1)).c_map
    have hlm := fun ty => ((unhide HN).below (unhide HB1)).map.len Tryz.underlying117 ty
    rw [tabD_size] at hlm
    have h8' : (8 : Int) ≤ (x.tab.length : Int) := by omega
    go_wp2
    refine bodyPost_ret (results_none rfl _ _ _) rfl ?_
    rw [unhide HE]
    exact ⟨rfl, NTo.here (unhide HN) (unhide HB1)⟩
  · have HE := hide he
    clear he
    rcases hgo with ⟨rfl, hg⟩ | ⟨rfl, h8⟩
    case' inl =>
      have HG := hide hg
      clear hg
      go_wp2_with fail
      refine (greater_any k M.k _).mono ?_
      rw [unhide HG]
      rintro e wq ⟨rfl, hb2⟩
      have HBq := hide ((unhide HB1).trans (hb2.mono hz1))
      have bq := (hb2.block W.heap.size hszk).trans (unhide HBK)
      clear hb2 a0 a1 a2 d0 d1 d2 HG
      have a0 := cell_at bq 0
      have a1 := cell_at bq 1
      have a2 := cell_at bq 2
      simp only [List.getElem?_toArray, List.getElem?_cons_zero, List.getElem?_cons_succ] at a0 a1 a2
      have hzq := lt_blk bq
      have HKq := hide bq
      clear bq hszk HB1 HBK
      go_wp2_with fail
    case' inr =>
      have HBq := HB1
      have HKq := HBK
      have hzq := hszk
      have b7 := ((unhide HN).below (unhide HB1)).c_map
      have hlm := fun ty => ((unhide HN).below (unhide HB1)).map.len Tryz.underlying117 ty
      rw [tabD_size] at hlm
      have h8' : ¬ (8 : Int) ≤ (x.tab.length : Int) := by omega
      clear HB1 HBK hszk
      go_wp2_with fail
      clear b7 hlm h8' h8 d0 d1 d2
    all_goals
      refine (change_any (unhide HX) ((unhide HN).below (unhide HBq)) k (unhide HK) (unhide HL).clock.1 (unhide HL).clock.2 (unhide HL).lost.1 (unhide HL).lost.2).mono ?_
      rintro e w3 ⟨rfl, hn3, hf3⟩
      have hm1 := (unhide HN).lt_mb
      have hm2 := (unhide HN).lt_cb
      have bk3 := (hf3.block W.heap.size hzq (by simp only [List.mem_cons, List.not_mem_nil, or_false]; omega)).trans (unhide HKq)
      have hF3 := (Frm.of_below (S := [nb, mb, cb]) (unhide HBq) (Nat.le_refl _)).trans hf3 (fun j hj => .inl hj)
      clear a0 a1 a2 hf3 HKq
      have a0 := cell_at bk3 0
      have a1 := cell_at bk3 1
      have a2 := cell_at bk3 2
      simp only [List.getElem?_toArray, List.getElem?_cons_zero, List.getElem?_cons_succ] at a0 a1 a2
      have HN3 := hide hn3
      have HF3 := hide hF3
      have hz3 := lt_blk bk3
      have HK3 := hide bk3
      clear hn3 hF3 bk3 hzq
      go_wp2_with fail
      refine (there_any k _).mono ?_
      cases ht : thereB k
      case true =>
        have HT := hide ht
        clear ht
        rintro e w4 ⟨rfl, hb4⟩
        have HB4 := hide hb4
        clear hb4
        go_wp2
        go_end0
        have e1 : x.heard k = x.change k := by simp [Nd.heard, unhide HT]
        rw [unhide HE, e1]
        exact ⟨rfl, NTo.of ((unhide HN3).below (unhide HB4)) ((unhide HF3).step (unhide HB4))⟩
      case false =>
        have HT := hide ht
        clear ht
        rintro e w4 ⟨rfl, hb4⟩
        have HB4 := hide hb4
        clear hb4
        have bk4 := ((unhide HB4).block W.heap.size hz3).trans (unhide HK3)
        have a4 := cell_at bk4 0
        simp only [List.getElem?_toArray, List.getElem?_cons_zero] at a4
        have hn4 := (unhide HN3).below (unhide HB4)
        have hf4 := (unhide HF3).step (unhide HB4)
        have c8 := hn4.c_pass
        have f84 := free_at hn4.blk 9
        have HD := hide (without_any (l := x.pass) (by omega) k.id hn4.drew.pass)
        have HN4 := hide hn4
        have HF4 := hide hf4
        have l4 := lt_blk bk4
        have l5 := hn4.lt
        clear bk4 hn4 hf4 HK3 HN3 HF3 HB4 a0 a1 a2
        go_wp2_with fail
        go_region_with
          (refine (unhide HD).mono ?_; rintro e w5 ⟨v', rfl, ho5, hb50⟩; obtain ⟨ao, cap, rfl⟩ := own_form ho5; have hb5 : Below w4.heap.size w4 w5 := ⟨hb50.os, hb50.tape, hb50.output, hb50.size, hb50.block⟩; have a5 := (hb5.cell (p := ⟨W.heap.size, 0, none⟩) l4).trans a4; have e8 := (hb5.cell (p := ⟨nb, 9, none⟩) l5).trans c8; have f8 := (hb5.frozen (p := ⟨nb, 9, none⟩) l5).trans f84; clear hb50)
        all_goals
         have hn5 := (unhide HN4).below (W' := w5) hb5
         have HN5 := hide hn5
         have HF5 := hide ((unhide HF4).step hb5)
         have HO5 := hide ho5
         have HS5 := hide (unhide HF4).size
         have HAB := hide (heap_lt (unhide HN4).draw.ab)
         clear hn5 ho5 hb5 HD HN4 HF4
         go_wp2
         go_end0
         have e1 : x.heard k = { x.change k with pass := x.pass.filter (fun i => !(i == k.id)) } := by simp [Nd.heard, unhide HT]
         rw [unhide HE, e1]
         obtain ⟨g1, g2⟩ := (unhide HN5).setPass (PassAt.of_own (unhide HO5)) (fun e => by have h1 := (own_lt (unhide HO5) e).1; have h2 := unhide HAB; simp only [World.size_drew] at h1; omega)
         refine ⟨rfl, _, rv, g1, ((Frm.refl _ W).trans (unhide HF5) (by simp [feet])).trans g2 (by simp [feet]), fun j hj => ?_⟩
         simp only [feet, List.mem_cons, List.mem_append, Option.mem_toList] at hj ⊢
         rcases hj with h | h | h | h | h | h
         · exact .inl (.inl h)
         · exact .inl (.inr (.inl h))
         · exact .inl (.inr (.inr (.inl h)))
         · exact .inr (Nat.le_trans (unhide HS5) (own_lt (unhide HO5) h).1)
         · exact .inl (.inr (.inr (.inr (.inr (.inl h)))))
         · exact .inl (.inr (.inr (.inr (.inr (.inr h)))))
end Go.Proofs.YtnneljcbelgoeaaGreatDoor.wire
/- To hear a key; what a node keeps to. -/
namespace Go.Proofs.YtnneljcbelgoeaaGreatDoor.wire
open Go.RowKit Go.Maps

set_option maxHeartbeats 1000000 in
theorem hear_any {x : Nd} (hx : NdOk x) (hB : NdB Big x) {nb mb : Nat} {cb : Dk} {pv rv : Value} {W : World} (hn : NAt W nb mb cb pv rv x) (k : K3) (hk : isKeyB k = true) :
    Calls Tryz.prog 84 #[.pointer (some ⟨nb, 0, none⟩), .agg #[.int .i64 k.id, .int .i64 k.inc, .int .i64 k.st]] W fun e w' => e = .returned (.tuple #[]) ∧ NTo W w' nb mb cb pv rv (x.hear k) := by
  have c0 := hn.c_self
  have hlt := hn.lt
  have hn1 := fun q => (hn.alloc (.cells #[.int .i64 k.id, .int .i64 k.inc, .int .i64 k.st] 76)).drewN q
  have hb1 : ∀ q, Below W.heap.size W ((W.alloc (.cells #[.int .i64 k.id, .int .i64 k.inc, .int .i64 k.st] 76)).drewN q) := fun q => bdrewN ((Below.refl _ _).alloc (Nat.le_refl _) _) q
  by_cases hs : k.id = x.c.self
  · have HS := fun q => hide (hearSelf_any hx hB (hn1 q) k hk)
    have HB1 := hide hb1
    have hs' : (k.id == x.c.self) = true := by simp [hs]
    have he : x.hear k = x.hearSelf k := by simp [Nd.hear, hs]
    have HE := hide he
    clear hn hn1 hb1 hx hB hk hs he
    go_enter Tryz.func84, Tryz.ntmps84
    go_wp2
    go_quiet (fail)
    go_wp2_with fail
    refine (unhide (HS _)).mono ?_
    rintro e w2 ⟨rfl, hn2, hf2⟩
    have HN2 := hide hn2
    have HF2 := hide ((Frm.of_below (S := [nb, mb, cb]) (unhide HB1 _) (Nat.le_refl _)).trans hf2 (fun j hj => .inl hj))
    clear hn2 hf2 HS
    go_wp2
    go_end0
    rw [unhide HE]
    exact ⟨rfl, NTo.of (unhide HN2) (unhide HF2)⟩
  · have HS := fun q => hide (hearOther_any hx hB (hn1 q) k hk)
    have HB1 := hide hb1
    have hs' : (k.id == x.c.self) = false := by simp [hs]
    have he : x.hear k = x.hearOther k := by simp [Nd.hear, hs]
    have HE := hide he
    clear hn hn1 hb1 hx hB hk hs he
    go_enter Tryz.func84, Tryz.ntmps84
    go_wp2
    go_quiet (fail)
    go_wp2_with fail
    refine (unhide (HS _)).mono ?_
    rintro e w2 ⟨rfl, hn2⟩
    have HN2 := hide (NTo.trans (Frm.of_below (S := feet nb mb cb pv rv) (unhide HB1 _) (Nat.le_refl _)) (fun j hj => .inl hj) hn2)
    clear hn2 HS
    go_wp2
    go_end0
    rw [unhide HE]
    exact ⟨rfl, unhide HN2⟩
/-! ### what stays -/
theorem change_ok {x : Nd} (hx : NdOk x) (k : K3) (hk : isKeyB k = true) (hroom : (findM k.id x.tab).isSome = true ∨ x.tab.length < 8) : NdOk (x.change k) := by
  obtain ⟨_, _, _, hs⟩ := hx.cfgs
  refine ⟨hx.cfg, putM_rise _ _ hx.rise, ?_, ?_, ?_, ?_, ?_, hx.rels, hx.pass⟩
  · show (putM _ x.tab).length ≤ 8
    rw [putM_len _ _ hx.rise]
    have := hx.len
    split
    · exact this
    · rename_i h
      rcases hroom with h' | h'
      · exact absurd h' h
      · omega
  · intro m hm
    rcases putM_mem hm with rfl | hm
    · exact hk
    · exact hx.keys m hm
  · intro m hm
    rcases putM_mem hm with rfl | hm
    · exact ⟨by show 0 ≤ x.c.sends; omega, hs.2⟩
    · exact hx.sends m hm
  · obtain ⟨m, hm⟩ := hx.self
    show ∃ m, findM x.c.self (putM _ x.tab) = some m
    rw [findM_putM _ _ _ hx.rise]
    split
    · exact ⟨_, rfl⟩
    · exact ⟨m, hm⟩
  · show (if x.evs.length < 8 then x.evs ++ [k] else x.evs).length ≤ 8
    have := hx.evs
    split
    · simp; omega
    · exact this
theorem change_b {B : Int} {x : Nd} (hB : NdB B x) (k : K3) : NdB (B + 1) (x.change k) := by
  obtain ⟨h1, h2, h3, h4, h5⟩ := hB
  refine ⟨⟨h1.1, by show x.clock ≤ _; omega⟩, ⟨h2.1, by show x.num ≤ _; omega⟩, ⟨h3.1, by show x.dropped ≤ _; omega⟩, ?_, ⟨⟨h5.1.1, by show x.pst ≤ _; omega⟩, by show (x.dat : Int) ≤ _; omega⟩⟩
  show 0 ≤ (if x.evs.length < 8 then x.lost else x.lost + 1) ∧ (if x.evs.length < 8 then x.lost else x.lost + 1) ≤ B + 1
  split <;> omega
theorem NdB.mono {B C : Int} {x : Nd} (h : NdB B x) (hc : B ≤ C) : NdB C x := ⟨⟨h.clock.1, by have := h.clock.2; omega⟩, ⟨h.num.1, by have := h.num.2; omega⟩, ⟨h.dropped.1, by have := h.dropped.2; omega⟩, ⟨h.lost.1, by have := h.lost.2; omega⟩, ⟨⟨h.tk.1.1, by have := h.tk.1.2; omega⟩, by have := h.tk.2; omega⟩⟩
theorem heard_ok {x : Nd} (hx : NdOk x) (k : K3) (hk : isKeyB k = true) (hroom : (findM k.id x.tab).isSome = true ∨ x.tab.length < 8) : NdOk (x.heard k) := by
  have h := change_ok hx k hk hroom
  unfold Nd.heard
  split
  · exact h
  · exact ⟨h.cfg, h.rise, h.len, h.keys, h.sends, h.self, h.evs, h.rels, hx.pass.filter _⟩
theorem heard_b {B : Int} {x : Nd} (hB : NdB B x) (k : K3) : NdB (B + 1) (x.heard k) := by
  have h := change_b hB k
  unfold Nd.heard
  split
  · exact h
  · exact ⟨h.clock, h.num, h.dropped, h.lost, h.tk⟩
theorem hear_ok {x : Nd} (hx : NdOk x) (k : K3) (hk : isKeyB k = true) : NdOk (x.hear k) := by
  obtain ⟨hok, hid⟩ := hx.own_key
  unfold Nd.hear
  split
  · unfold Nd.hearSelf
    split
    · exact hx
    · rename_i h
      simp only [Bool.or_eq_true, decide_eq_true_eq, not_or] at h
      obtain ⟨_, ⟨k3, k4⟩, _⟩ := key_bounds hk
      obtain ⟨⟨o1, o2⟩, _, ⟨o5, o6⟩⟩ := key_bounds hok
      refine change_ok hx _ ?_ (.inl ?_)
      · simp only [isKeyB, Bool.and_eq_true]
        exact ⟨isId_mk o1 o2, isInc_mk (by show 1 ≤ k.inc + 1; omega) (by show k.inc + 1 ≤ _; omega), isSt_mk o5 o6⟩
      · obtain ⟨m, hm⟩ := hx.self
        show (findM x.own.id x.tab).isSome = true
        rw [hid, hm]; rfl
  · unfold Nd.hearOther
    split
    · rename_i o ho
      split
      · exact heard_ok hx k hk (.inl (by rw [ho]; rfl))
      · exact hx
    · split
      · exact hx
      · exact heard_ok hx k hk (.inr (by omega))
theorem hear_b {B : Int} {x : Nd} (hB : NdB B x) (k : K3) : NdB (B + 1) (x.hear k) := by
  have hs := hB.mono (C := B + 1) (by omega)
  unfold Nd.hear Nd.hearSelf Nd.hearOther
  split
  · split
    · exact hs
    · exact change_b hB _
  · split
    · split
      · exact heard_b hB _
      · exact hs
    · split
      · exact hs
      · exact heard_b hB _
theorem hears_ok : ∀ (l : List K3) {x : Nd}, NdOk x → allB l = true → NdOk (x.hears l)
  | [], _, hx, _ => hx
  | k :: r, x, hx, hl => by
    simp only [allB, List.all_cons, Bool.and_eq_true] at hl
    exact hears_ok r (hear_ok hx k hl.1) hl.2
theorem hears_b : ∀ (l : List K3) {B : Int} {x : Nd}, NdB B x → NdB (B + l.length) (x.hears l)
  | [], B, _, hx => hx.mono (by simp)
  | k :: r, B, x, hx => (hears_b r (hear_b hx k)).mono (by simp; omega)
theorem change_c (x : Nd) (k : K3) : (x.change k).c = x.c := rfl
theorem heard_c (x : Nd) (k : K3) : (x.heard k).c = x.c := by unfold Nd.heard; split <;> rfl
theorem hear_c (x : Nd) (k : K3) : (x.hear k).c = x.c := by
  unfold Nd.hear Nd.hearSelf Nd.hearOther
  split
  · split <;> rfl
  · split
    · split
      · exact heard_c x k
      · rfl
    · split
      · rfl
      · exact heard_c x k
theorem hears_c : ∀ (l : List K3) (x : Nd), (x.hears l).c = x.c
  | [], _ => rfl
  | k :: r, x => (hears_c r (x.hear k)).trans (hear_c x k)
end Go.Proofs.YtnneljcbelgoeaaGreatDoor.wire
/- The others' keys. -/
namespace Go.Proofs.YtnneljcbelgoeaaGreatDoor.wire
open Go.RowKit Go.Maps

/-- The others' keys. -/
def Nd.others (x : Nd) : List K3 := (x.tab.filter (fun m => !(m.k.id == x.c.self))).map Mem.k
set_option maxHeartbeats 1000000 in
theorem others_any {x : Nd} (hx : NdOk x) {nb mb : Nat} {cb : Dk} {pv rv : Value} {W : World} (hn : NAt W nb mb cb pv rv x) :
    Calls Tryz.prog 109 #[.pointer (some ⟨nb, 0, none⟩)] W fun e w' => ∃ v, e = .returned v ∧ w'.ownsRow W.heap.size 76 3 v x.others.length (x.others.flatMap keyC) ∧ Below W.heap.size W w' := by
  have hlen := hx.len
  have hlen1 : x.tab.length ≤ 1000 := by omega
  have hlen2 : (x.tab.filter (fun m => !(m.k.id == x.c.self))).length ≤ 1000 := Nat.le_trans (List.length_filter_le _ _) hlen1
  have hE1 := enters_of Tryz.func142 (by kernel_rfl) rfl
  have hE2 := enters_of Tryz.func143 (by kernel_rfl) rfl
  have HM := hide (members_any hx hn)
  have HN := hide hn
  have hoth : x.others = (x.tab.filter (fun m => !(m.k.id == x.c.self))).map Mem.k := rfl
  rw [hoth]
  clear hx hn hoth
  go_enter Tryz.func109, Tryz.ntmps109
  go_wp2_with fail
  refine (unhide HM).mono ?_
  rintro e w1 ⟨v1, rfl, ho1, hb1⟩
  have HO1 := hide ho1
  have HB1 := hide hb1
  clear ho1 hb1 HM
  go_wp2_with fail
  refine (dropM_any x.tab (fun m => m.k.id == x.c.self) 142 #[.pointer (some ⟨nb, 0, none⟩)] #[] (unhide HO1) hlen1 hE1 (fun m W' hW' => isSelf_any (((unhide HN).below (unhide HB1)).below hW') m)).mono ?_
  rintro e w2 ⟨v2, rfl, ho2, hb2⟩
  have HO2 := hide ho2
  have HB2 := hide ((unhide HB1).trans (hb2.mono (unhide HB1).size))
  clear ho2 hb2 HO1 HB1
  go_wp2_with fail
  refine (turnMK_any (x.tab.filter (fun m => !(m.k.id == x.c.self))) Mem.k 143 #[] #[] (unhide HO2) hlen2 hE2 (fun m _ W' _ => key_any m W')).mono ?_
  rintro e w3 ⟨v3, rfl, ho3, hb3⟩
  have HO3 := hide (own_mono ho3 (unhide HB2).size)
  have HB3 := hide ((unhide HB2).trans (hb3.mono (unhide HB2).size))
  clear ho3 hb3 HO2 HB2
  go_wp2
  go_ret
  exact ⟨v3, rfl, unhide HO3, unhide HB3⟩
end Go.Proofs.YtnneljcbelgoeaaGreatDoor.wire
/- THE PLAIN MATHEMATICS OF A TICK (P9). No Go here. -/
namespace Go.Proofs.YtnneljcbelgoeaaGreatDoor.wire

/-- One draw, out of the list, at its place. -/
def drawZ (l : List Int) (a : Nat) (n : Int) : Int := (if l.getD (a % l.length) 0 < 0 then -(l.getD (a % l.length) 0 + 1) else l.getD (a % l.length) 0).tmod n
def Nd.mute (x : Nd) (n : Int) : Bool := decide (x.dl.length = 0) || decide (n < 1)
def Nd.drawn (x : Nd) (n : Int) : Int := if x.mute n then 0 else drawZ x.dl x.dat n
def Nd.drew (x : Nd) (n : Int) : Nd := if x.mute n then x else { x with dat := x.dat + 1 }
def Nd.endRelays (x : Nd) : Nd := { x with rels := x.rels.filter (fun r => !decide (r.till ≤ x.clock)) }
def overB (clock : Int) (m : Mem) : Bool := decide (m.k.st = 2) && decide (m.due ≤ clock)
def Mem.dead (m : Mem) : K3 := ⟨m.k.id, m.k.inc, 3⟩
def Nd.endSuspects (x : Nd) : Nd := (x.tab.filter (overB x.clock)).foldl (fun y m => y.hear m.dead) x
def Nd.present (x : Nd) : List Int := (x.others.filter thereB).map K3.id
def Nd.able (x : Nd) : List Int := x.present.filter (fun i => !(i == x.ptgt))
def Nd.asks : Nat → List Int → Nd → List Pk × Nd
  | 0, _, x => ([], x)
  | n + 1, able, x =>
    let y := x.drew able.length
    let r := y.along.asks n (able.eraseIdx (x.drawn able.length).toNat)
    (y.direct 3 (able.getD (x.drawn able.length).toNat 0) y.pnum y.ptgt :: r.1, r.2)
def Nd.askOthers (x : Nd) : List Pk × Nd := if x.pack then ([], x) else x.asks (min x.c.proxies.toNat x.able.length) x.able
def Nd.idle (x : Nd) : Nd := { x with ptgt := 0, pnum := 0, pst := 0, pack := false }
def Nd.endProbe (x : Nd) : Nd :=
  if x.pack || !decide ((atM x.ptgt x.tab).k.st = 1) then x.idle else x.idle.hear ⟨(atM x.ptgt x.tab).k.id, (atM x.ptgt x.tab).k.inc, 2⟩
def Nd.goOn (x : Nd) : List Pk × Nd :=
  if x.ptgt = 0 then ([], x) else if x.clock - x.pst = x.c.wait then x.askOthers else if x.clock - x.pst = x.c.period then ([], x.endProbe) else ([], x)
def swapL (l : List Int) (i j : Nat) : List Int := (l.set i (l.getD j 0)).set j (l.getD i 0)
/-- The order of a pass: swaps from place i down to place 1. -/
def Nd.mixFrom : Nat → List Int → Nd → List Int × Nd
  | 0, l, x => (l, x)
  | i + 1, l, x => (x.drew (i + 2)).mixFrom i (swapL l (i + 1) (x.drawn (i + 2)).toNat)
def Nd.mixed (x : Nd) (l : List Int) : List Int × Nd := x.mixFrom (l.length - 1) l
/-- The pass, begun anew if it is over. -/
def Nd.renew (x : Nd) : Nd := if x.pass.length = 0 then { (x.mixed x.present).2 with pass := (x.mixed x.present).1 } else x
def Nd.begin (x : Nd) (t : Int) (r : List Int) : Nd := { x with pass := r, num := x.num + 1, ptgt := t, pnum := x.num + 1, pst := x.clock, pack := false }
def Nd.probeOne (x : Nd) : List Pk × Nd :=
  match x.pass with
  | [] => ([], x)
  | t :: r => ([(x.begin t r).direct 1 t (x.num + 1) t], (x.begin t r).along)
def Nd.probeNext (x : Nd) : List Pk × Nd := if !decide (x.ptgt = 0) || x.left then ([], x) else x.renew.probeOne
def Nd.later (x : Nd) : Nd := { x with clock := x.clock + 1 }
def Nd.tick (x : Nd) : List Pk × Nd :=
  let y := x.later.endRelays.endSuspects.goOn
  let z := y.2.probeNext
  (y.1 ++ z.1, z.2)
theorem drawZ_bd (l : List Int) (a : Nat) {n : Int} (h : 1 ≤ n) : 0 ≤ drawZ l a n ∧ drawZ l a n < n := by
  unfold drawZ
  generalize l.getD (a % l.length) 0 = k
  have : 0 ≤ (if k < 0 then -(k + 1) else k) := by split <;> omega
  rw [Int.tmod_eq_emod_of_nonneg this]
  exact ⟨Int.emod_nonneg _ (by omega), Int.emod_lt_of_pos _ (by omega)⟩
theorem drawn_bd (x : Nd) {n : Int} (h : 1 ≤ n) : 0 ≤ x.drawn n ∧ x.drawn n < n := by
  unfold Nd.drawn
  split
  · omega
  · exact drawZ_bd _ _ h
end Go.Proofs.YtnneljcbelgoeaaGreatDoor.wire
/- A draw (P9): the function that a node keeps. -/
namespace Go.Proofs.YtnneljcbelgoeaaGreatDoor.wire
open Go.RowKit Go.Maps

/-- The count of draws is written. -/
theorem NAt.setDat {W : World} {nb mb : Nat} {cb : Dk} {pv rv : Value} {x : Nd} (h : NAt W nb mb cb pv rv x) (n : Nat) :
    NAt (W.setCell ⟨cb.ab, 0, none⟩ (.int .i64 n)) nb mb cb pv rv { x with dat := n } ∧ Frm [cb.ab] W (W.setCell ⟨cb.ab, 0, none⟩ (.int .i64 n)) := by
  have hf : Frm [cb.ab] W (W.setCell ⟨cb.ab, 0, none⟩ (.int .i64 n)) := by
    have hb := (Below.refl 0 W).setCell (p := ⟨cb.ab, 0, none⟩) (Nat.zero_le _) (.int .i64 n)
    exact ⟨hb.os, hb.tape, hb.output, hb.size, fun k _ hk => heap_setCell_other W ⟨cb.ab, 0, none⟩ k _ (by simpa using hk)⟩
  obtain ⟨n1, n2, n3⟩ := h.not_draw
  simp only [Dk.all, List.mem_cons, not_or] at n1 n2 n3
  obtain ⟨s, r, hc⟩ := h.chan
  refine ⟨⟨(hf.block nb h.lt (by simpa using n1.2.1)).trans h.blk, map_frm h.map hf (by simpa using n2.2.1), ⟨s, r, (hf.block cb.c h.lt_cb (by simpa using n3.2.1)).trans hc⟩, h.pass.frm hf (fun k hk e => h.draw.sepp (by simp at e; rw [← e]; exact hk)), own_frm h.rel hf (fun k hk e => h.rel_draw hk (by simp at e; simp [Dk.all, e])), ⟨?_, ?_, own_frm h.draw.row hf (fun k hk e => h.draw.sep (by simp at e; rw [← e]; exact hk)), h.draw.sep, h.draw.sepp⟩⟩, hf⟩
  · refine (hf.block cb.ob (heap_lt h.draw.ob) ?_).trans h.draw.ob
    simp only [List.mem_singleton]
    intro e
    have h1 := h.draw.ob
    rw [e, h.draw.ab] at h1
    injection h1 with h1
    injection h1 with _ h2
    exact absurd h2 (by decide)
  · rw [heap_setCell_same W cb.ab 0 _ _ _ h.draw.ab]; rfl
set_option maxHeartbeats 1000000 in
set_option maxRecDepth 100000 in
theorem draw_any {x : Nd} (hdl : DlOk x.dl) (hB : NdB Big x) {nb mb : Nat} {cb : Dk} {pv rv : Value} {W : World} (hn : NAt W nb mb cb pv rv x) (n : Int) (hn0 : 1 ≤ n) (hn1 : n ≤ 1000000) :
    Calls Tryz.prog 83 #[.int .i64 n, .pointer (some ⟨cb.ob, 0, none⟩), .pointer (some ⟨cb.ab, 0, none⟩)] W fun e w' => e = .returned (.int .i64 (x.drawn n)) ∧ NAt w' nb mb cb pv rv (x.drew n) ∧ Frm [cb.ab] W w' := by
  have ho := cell_at hn.draw.ob 0
  have ha := cell_at hn.draw.ab 0
  have fa := free_at hn.draw.ab 0
  simp only [List.getElem?_toArray, List.getElem?_cons_zero] at ho ha
  obtain ⟨ao, cap, hov⟩ := own_form hn.draw.row
  rw [hov] at ho
  have hb1 := hB.tk.2
  unfold Big at hb1
  have hl := hdl.len
  have HN := hide hn
  by_cases h0 : x.dl.length = 0
  · have e1 : x.drawn n = 0 := by simp [Nd.drawn, Nd.mute, h0]
    have e2 : x.drew n = x := by simp [Nd.drew, Nd.mute, h0]
    rw [e1, e2]
    rw [h0] at ho
    clear hn hB hdl
    go_enter Tryz.func83, Tryz.ntmps83
    go_wp2
    go_ret
    exact ⟨rfl, unhide HN, Frm.refl _ _⟩
  · have hm : x.mute n = false := by simp [Nd.mute, h0]; omega
    have e1 : x.drawn n = drawZ x.dl x.dat n := by simp [Nd.drawn, hm]
    have e2 : x.drew n = { x with dat := x.dat + 1 } := by simp [Nd.drew, hm]
    rw [e1, e2]
    have hmod : x.dat % x.dl.length < x.dl.length := Nat.mod_lt _ (by omega)
    have hrow := hn.draw.row
    rcases hrow.2 with ⟨e3, e4⟩ | ⟨g, cap', cur, e3, _, hg, _, _, _, h4⟩
    · exact absurd e4 h0
    · rw [hov] at e3
      cases e3
      have hcell : W.cell? ⟨g, x.dat % x.dl.length, none⟩ = some (.int .i64 (x.dl.getD (x.dat % x.dl.length) 0)) := by
        have := congrArg (fun q => q[x.dat % x.dl.length]?) h4
        simp only [flat_int, List.getElem?_eq_getElem hmod, Option.map_some, List.getElem?_take, Nat.mul_one, if_pos hmod] at this
        rw [cell_at hg, List.getD_eq_getElem?_getD, List.getElem?_eq_getElem hmod, Option.getD_some]
        simpa using this
      have hr := hdl.rng _ (List.getElem_mem hmod)
      have hgd : x.dl.getD (x.dat % x.dl.length) 0 = x.dl[x.dat % x.dl.length] := by rw [List.getD_eq_getElem?_getD, List.getElem?_eq_getElem hmod, Option.getD_some]
      have hs := fun q => (hn.drewN q).setDat (x.dat + 1)
      rw [show ((x.dat + 1 : Nat) : Int) = (x.dat : Int) + 1 by simp] at hs
      have HS := hide hs
      clear hs
      have hdz : drawZ x.dl x.dat n = (if x.dl.getD (x.dat % x.dl.length) 0 < 0 then -(x.dl.getD (x.dat % x.dl.length) 0 + 1) else x.dl.getD (x.dat % x.dl.length) 0).tmod n := rfl
      rw [hdz]
      rw [← hgd] at hr
      generalize x.dl.getD (x.dat % x.dl.length) 0 = z at hcell hr ⊢
      have htm : ((x.dat : Int).tmod (x.dl.length : Int)) = ((x.dat % x.dl.length : Nat) : Int) := by
        rw [Int.tmod_eq_emod_of_nonneg (by omega)]; simp
      have hlen0 : ((x.dl.length : Int) == 0) = false := by rw [beq_eq_false_iff_ne]; omega
      have hnl : ¬ n < 1 := by omega
      have hnz : (n == 0) = false := by simp; omega
      have hmi : ((x.dat % x.dl.length : Nat) : Int) < (x.dl.length : Int) := Int.ofNat_lt.2 hmod
      generalize x.dat % x.dl.length = M at hcell htm hmi hmod
      clear hn hB hdl hrow h4 hg e1 e2 hm hdz hgd
      by_cases hz : z < 0
      all_goals
        go_enter Tryz.func83, Tryz.ntmps83
        go_wp2
        go_quiet (fail)
        go_wp2
        go_ret
      · exact ⟨rfl, ((unhide HS) _).1, (Frm.of_below (S := [cb.ab]) (bdrewN (Below.refl _ _) _) (Nat.le_refl _)).trans ((unhide HS) _).2 (fun j hj => .inl hj)⟩
      · exact ⟨by rw [Int.tmod_eq_emod_of_nonneg (by omega)]; rfl, ((unhide HS) _).1, (Frm.of_below (S := [cb.ab]) (bdrewN (Below.refl _ _) _) (Nat.le_refl _)).trans ((unhide HS) _).2 (fun j hj => .inl hj)⟩
end Go.Proofs.YtnneljcbelgoeaaGreatDoor.wire
/- Leave (P8). It lies in the cut of seat ..ZD alone. -/
namespace Go.Proofs.YtnneljcbelgoeaaGreatDoor.wire
open Go.RowKit Go.Maps

theorem left_key {k : K3} (h : isKeyB k = true) : isKeyB ⟨k.id, k.inc, 4⟩ = true := by
  simp only [isKeyB, Bool.and_eq_true] at h ⊢
  exact ⟨h.1, h.2.1, by simp [isStB]⟩
set_option maxHeartbeats 1000000 in
set_option maxRecDepth 100000 in
theorem leave_no {x : Nd} (hx : NdOk x) {nb mb : Nat} {cb : Dk} {pv rv : Value} {W : World} (hn : NAt W nb mb cb pv rv x) (he : x.left = true) :
    Calls Tryz.prog 39 #[.pointer (some ⟨nb, 0, none⟩)] W fun e w' => e = .returned (.iface 108 (.int .i64 4)) ∧ Below W.heap.size W w' := by
  have HL := hide (left_any hx hn)
  have HLL := hide he
  clear hn hx he
  go_enter Tryz.func39, Tryz.ntmps39
  go_wp2_with fail
  refine (unhide HL).mono ?_
  rw [unhide HLL]
  rintro e w1 ⟨rfl, hb1⟩
  have HB1 := hide hb1
  clear hb1
  go_wp2
  go_ret
  exact ⟨rfl, unhide HB1⟩
set_option maxHeartbeats 1000000 in
set_option maxRecDepth 100000 in
theorem leave_yes {x : Nd} (hx : NdOk x) (hB : NdB Big x) {nb mb : Nat} {cb : Dk} {pv rv : Value} {W : World} (hn : NAt W nb mb cb pv rv x) (he : x.left = false) :
    Calls Tryz.prog 39 #[.pointer (some ⟨nb, 0, none⟩)] W fun e w' => e = .returned .nilIface ∧ NAt w' nb mb cb pv rv x.leave ∧ Frm [nb, mb, cb] W w' := by
  have HL := hide (left_any hx hn)
  have HLL := hide he
  have HN := hide hn
  have HX := hide hx
  have hok := left_key hx.own_key.1
  obtain ⟨k0, k1⟩ := hB.clock
  obtain ⟨l0, l1⟩ := hB.lost
  unfold Big at k1 l1
  have hle : x.leave = x.change ⟨x.own.id, x.own.inc, 4⟩ := rfl
  rw [hle]
  have HC := fun w (h : NAt w nb mb cb pv rv x) => hide (change_any (unhide HX) h ⟨x.own.id, x.own.inc, 4⟩ hok k0 k1 l0 l1)
  have HSF := fun w (h : NAt w nb mb cb pv rv x) => hide (self_any (unhide HX) h)
  generalize x.change ⟨x.own.id, x.own.inc, 4⟩ = Y at HC ⊢
  generalize x.own = k at HC HSF
  obtain ⟨a, b, c⟩ := k
  dsimp only at HC HSF
  clear hn hx he hB hle hok
  go_enter Tryz.func39, Tryz.ntmps39
  go_wp2_with fail
  refine (unhide HL).mono ?_
  rw [unhide HLL]
  rintro e w1 ⟨rfl, hb1⟩
  have HB1 := hide hb1
  have HN1 := hide ((unhide HN).below hb1)
  clear hb1 HL
  go_wp2_with fail
  refine (unhide (HSF _ (unhide HN1))).mono ?_
  rintro e w2 ⟨rfl, hb2⟩
  have HN2 := hide ((unhide HN1).below hb2)
  have HB2 := hide ((unhide HB1).trans (hb2.mono (unhide HB1).size))
  clear hb2 HSF
  go_wp2_with fail
  refine (unhide (HC _ ((unhide HN2).alloc _))).mono ?_
  rintro e w3 ⟨rfl, hn3, hf3⟩
  have HN3 := hide hn3
  have HF3 := hide (((Frm.of_below (unhide HB2) (Nat.le_refl _)).alloc _).trans hf3 (fun j hj => .inl hj))
  clear hn3 hf3 HC
  go_wp2
  go_ret
  exact ⟨rfl, unhide HN3, unhide HF3⟩
end Go.Proofs.YtnneljcbelgoeaaGreatDoor.wire
