import Derived.Test.YtnneljcbelgoeaaGreatDoorG02
import Derived.Test.YtnneljcbelgoeaaGreatDoorG03
import Derived.Sort.LotA
import Derived.Sort.OwnSorted
import Derived.WalkKit
import Derived.OwnWalk
import Derived.Below
import Derived.Test.YtnneljcbelgoeaaGreatDoorG01
import Derived.Maps.AppendAt
/- members: all of the table, by rising ids. -/
namespace Go.Proofs.YtnneljcbelgoeaaGreatDoor.wire
open Go.RowKit Go.Maps Go.Sort Go.Shelf

theorem sortsA (m : Nat) : AnyZI.SortsIn Tryz.prog Tryz.sortedA_ren Fence.wide m :=
  ⟨fun blk off cap ss W hH hblk hsz => callsIn_wide.2 (AnyM.slices_Sort_int Tryz.sortA blk off cap ss W hH hblk hsz),
   fun p cap W => callsIn_wide.2 (AnyM.slices_Sort_int_none Tryz.sortA p cap W)⟩
theorem keys_call (mb : Option Nat) (W : World) : Calls Tryz.prog 130 #[.map mb] W fun e w' => e = .returned (.func (.func 154) #[] #[.pointer (some ⟨W.heap.size, 0, none⟩)]) ∧ w' = W.alloc (.cells #[.map mb] 117) :=
  (callsIn_wide (n := 5)).1 (AnyZI.keys_in Tryz.keysA Fence.wide 5 trivial rfl mb W)
theorem map_int (l : List Int) : l.map encZ = l.flatMap intC := by
  induction l with
  | nil => rfl
  | cons a r ih => rw [List.map_cons, ih, List.flatMap_cons]; rfl
theorem sorted_call {W : World} {mb nn : Nat} {t : List Mem} (hown : W.ownsMap Tryz.prog 3 RH mb nn (tabD t)) (hl : t.length ≤ 1000) (hr : Rise t) :
    Calls Tryz.prog 129 #[.func (.func 154) #[] #[.pointer (some ⟨W.heap.size, 0, none⟩)]] (W.alloc (.cells #[.map (some mb)] 117)) fun e w' =>
      ∃ v, e = .returned v ∧ w'.ownsRow (W.alloc (.cells #[.map (some mb)] 117)).heap.size 3 1 v t.length ((t.map fun m => m.k.id).flatMap intC) ∧ Below (W.alloc (.cells #[.map (some mb)] 117)).heap.size (W.alloc (.cells #[.map (some mb)] 117)) w' := by
  refine (callsIn_wide (n := 5)).1 ?_
  have hsz : Maps.size (tabD t) ≤ 1000 := by rw [tabD_size]; exact hl
  have hbl := hown.lt
  have hseq : SeqGives Fence.wide 2 Tryz.prog 154 #[.pointer (some ⟨W.heap.size, 0, none⟩)] encZ (fun ss => ss.Perm (intKeys (tabD t))) (Maps.size (tabD t)) (W.alloc (.cells #[.map (some mb)] 117)) :=
    AnyZI.keys_gives (ρ := Tryz.keysA_ren) { Tryz.keysA with } Fence.wide _ trivial rfl (by omega) W.heap.size mb nn (tabD t) _ (by simp) (by simp) (hown.alloc _)
  have cS := AnyZI.sorted_in Tryz.sortedA Fence.wide 5 trivial trivial trivial trivial rfl (by omega) (sortsA _) (enters_of Tryz.func153 (by kernel_rfl) rfl) 154 #[.pointer (some ⟨W.heap.size, 0, none⟩)] trivial (enters_of Tryz.func154 (by kernel_rfl) rfl) _ _ (by unfold maxLen; omega) (by omega) _ hseq
  refine cS.mono ?_
  rintro e w' ⟨v, ss, rfl, hS, hrow, hnil, hb⟩
  have e1 : ss.length = t.length := by rw [hS.length_eq, tabD_keys]; simp
  rw [sorted_keys hr hS, e1] at hrow
  rw [map_int] at hrow
  exact ⟨v, rfl, hrow, hb⟩
set_option maxHeartbeats 1000000 in
theorem member_at {x : Nd} {nb mb : Nat} {cb : Dk} {pv rv : Value} {W : World} (hn : NAt W nb mb cb pv rv x) {p : Nat} (hp : W.cell? ⟨p, 0, none⟩ = some (.pointer (some ⟨nb, 0, none⟩))) (i : Int) (a : -9223372036854775808 ≤ i) (b : i ≤ 9223372036854775807) :
    Calls Tryz.prog 132 #[.int .i64 i, .pointer (some ⟨p, 0, none⟩)] W fun e w' => e = .returned (.agg #[.int .i64 (atM i x.tab).k.id, .int .i64 (atM i x.tab).k.inc, .int .i64 (atM i x.tab).k.st, .int .i64 (atM i x.tab).due, .int .i64 (atM i x.tab).sends]) ∧ Below W.heap.size W w' := by
  have c7 := hn.c_map
  have hl := fun o => look_at (hn.alloc o).map (i := i) a b
  simp only [memv] at hl
  have hlt := hn.lt
  have hpl := World.block_lt_of_cell? W _ hp
  clear hn
  generalize atM i x.tab = m at hl
  go_enter Tryz.func132, Tryz.ntmps132
  go_wp2
  refine bodyPost_ret (v := memv m) (by simp [results, Tryz.results132, go_sem]) rfl ⟨rfl, ((Below.refl _ _).alloc (Nat.le_refl _) _)⟩
theorem findM_mem {m : Mem} : ∀ {t : List Mem}, Rise t → m ∈ t → findM m.k.id t = some m
  | y :: r, h, hm => by
    have hr := (List.pairwise_cons.1 h).1
    rcases List.mem_cons.1 hm with rfl | hm
    · simp [findM]
    · have := hr m hm
      have h' : (y.k.id == m.k.id) = false := by simp; omega
      have ih := findM_mem (List.pairwise_cons.1 h).2 hm
      simpa [findM, h'] using ih
theorem tab_again {t : List Mem} (h : Rise t) : (t.map fun m => m.k.id).map (fun i => atM i t) = t := by
  rw [List.map_map]
  conv => rhs; rw [← List.map_id t]
  refine List.map_congr_left (fun m hm => ?_)
  simp [atM, findM_mem h hm]
set_option maxHeartbeats 2000000 in
theorem members_any {x : Nd} (hx : NdOk x) {nb mb : Nat} {cb : Dk} {pv rv : Value} {W : World} (hn : NAt W nb mb cb pv rv x) :
    Calls Tryz.prog 95 #[.pointer (some ⟨nb, 0, none⟩)] W fun e w' => ∃ v, e = .returned v ∧ w'.ownsRow W.heap.size 150 5 v x.tab.length (x.tab.flatMap memC) ∧ Below W.heap.size W w' := by
  have hlen := hx.len
  have hn1 := hn.alloc (.cells #[.pointer (some ⟨nb, 0, none⟩)] 79)
  have hb1 : Below W.heap.size W (W.alloc (.cells #[.pointer (some ⟨nb, 0, none⟩)] 79)) := (Below.refl _ _).alloc (Nat.le_refl _) _
  have hbx : (W.alloc (.cells #[.pointer (some ⟨nb, 0, none⟩)] 79)).cell? ⟨W.heap.size, 0, none⟩ = some (.pointer (some ⟨nb, 0, none⟩)) := by simp
  have HBX := hide hbx
  have c7 := hn.c_map
  have hlt := hn.lt
  have HN := hide hn1
  have HB := hide hb1
  have HX := hide hx
  clear hn hn1 hb1 hx hbx
  go_enter Tryz.func95, Tryz.ntmps95
  go_wp2_with fail
  refine (keys_call _ _).mono ?_
  rintro e w1 ⟨rfl, rfl⟩
  go_wp2_with fail
  have hS := sorted_call (unhide HN).map (by omega) (unhide HX).rise
  simp only [World.size_alloc] at hS
  refine hS.mono ?_
  clear hS
  rintro e w2 ⟨v, rfl, hrow, hb2⟩
  have hb02 : Below W.heap.size W w2 := ((unhide HB).alloc (by simp) _).trans (hb2.mono (by omega))
  have hn2 := ((unhide HN).alloc (.cells #[.map (some mb)] 117)).below (by simpa using hb2)
  have hp2 : w2.cell? ⟨W.heap.size, 0, none⟩ = some (.pointer (some ⟨nb, 0, none⟩)) := (hb2.cell (p := ⟨W.heap.size, 0, none⟩) (by show W.heap.size < _; omega)).trans (by simp)
  have hT := turnIM_any (x.tab.map fun m => m.k.id) (fun i => atM i x.tab) 132 #[] #[.pointer (some ⟨W.heap.size, 0, none⟩)] (by simpa using hrow) (by simpa using (by omega)) (enters_of Tryz.func132 (by kernel_rfl) rfl) (fun i hi W' hW' => by
    obtain ⟨m, hm, rfl⟩ := List.mem_map.1 hi
    have := (key_bounds ((unhide HX).keys m hm)).1
    exact member_at (hn2.below hW') ((hW'.cell (p := ⟨W.heap.size, 0, none⟩) (World.block_lt_of_cell? w2 _ hp2)).trans hp2) m.k.id (by omega) (by omega))
  rw [tab_again (unhide HX).rise] at hT
  have HT := hide hT
  have HB2 := hide hb02
  clear hT hb02 hn2 hp2 hb2 hrow c7
  go_wp2_with fail
  refine (unhide HT).mono ?_
  rintro e w3 ⟨v', rfl, hrow, hb3⟩
  have HR := hide hrow
  have HB3 := hide hb3
  clear hrow hb3 HT
  go_wp2
  go_ret
  exact ⟨v', rfl, own_mono (unhide HR) (unhide HB2).size, (unhide HB2).trans ((unhide HB3).mono (unhide HB2).size)⟩
end Go.Proofs.YtnneljcbelgoeaaGreatDoor.wire
/- To hear a key (P5). -/
namespace Go.Proofs.YtnneljcbelgoeaaGreatDoor.wire
open Go.RowKit Go.Maps

theorem NTo.trans {W W1 W2 : World} {nb mb : Nat} {cb : Dk} {pv rv pv1 rv1 : Value} {x2 : Nd} (hf : Frm (feet nb mb cb pv rv) W W1) (hs : ∀ k ∈ feet nb mb cb pv1 rv1, k ∈ feet nb mb cb pv rv ∨ W.heap.size ≤ k) (h : NTo W1 W2 nb mb cb pv1 rv1 x2) : NTo W W2 nb mb cb pv rv x2 := by
  obtain ⟨pv2, rv2, hn, hf2, hs2⟩ := h
  refine ⟨pv2, rv2, hn, hf.trans hf2 hs, fun k hk => ?_⟩
  rcases hs2 k hk with h | h
  · exact hs k h
  · exact .inr (Nat.le_trans hf.size h)
theorem NTo.of {W W1 : World} {nb mb : Nat} {cb : Dk} {pv rv : Value} {x1 : Nd} (h : NAt W1 nb mb cb pv rv x1) (hf : Frm [nb, mb, cb] W W1) : NTo W W1 nb mb cb pv rv x1 :=
  ⟨pv, rv, h, (Frm.refl _ W).trans hf (by simp [feet]), fun _ hk => .inl hk⟩
theorem NTo.here {W W1 : World} {nb mb : Nat} {cb : Dk} {pv rv : Value} {x : Nd} (h : NAt W nb mb cb pv rv x) (hb : Below W.heap.size W W1) : NTo W W1 nb mb cb pv rv x :=
  ⟨pv, rv, h.below hb, Frm.of_below hb (Nat.le_refl _), fun _ hk => .inl hk⟩
/-- The pass is another list. -/
theorem NAt.setPass {W : World} {nb mb : Nat} {cb : Dk} {pv rv : Value} {x : Nd} (h : NAt W nb mb cb pv rv x) {pv' : Value} {l : List Int} (hp : PassAt W pv' l) (hs : pv'.ownBlock ≠ some cb.ab) :
    NAt (W.setCell ⟨nb, 9, none⟩ pv') nb mb cb pv' rv { x with pass := l } ∧ Frm [nb] W (W.setCell ⟨nb, 9, none⟩ pv') := by
  have hf : Frm [nb] W (W.setCell ⟨nb, 9, none⟩ pv') := (h.set 9 pv (x' := x) rfl rfl rfl rfl rfl).2 |> fun _ => by
    have hb := (Below.refl 0 W).setCell (p := ⟨nb, 9, none⟩) (Nat.zero_le _) pv'
    exact ⟨hb.os, hb.tape, hb.output, hb.size, fun k _ hk => heap_setCell_other W ⟨nb, 9, none⟩ k pv' (by simpa using hk)⟩
  refine ⟨⟨?_, map_frm h.map hf (by simpa using h.mb_nb), ?_, ?_, own_frm h.rel hf (fun k hk => by simpa using (h.rel_ne hk).1), (h.draw_frm hf (by simp)).pv hs⟩, hf⟩
  · rw [heap_setCell_same W nb 9 _ _ pv' h.blk]; rfl
  · obtain ⟨s, r, hc⟩ := h.chan
    exact ⟨s, r, (hf.block cb h.lt_cb (by simpa using h.cb_nb)).trans hc⟩
  · refine hp.frm hf (fun k hk => ?_)
    obtain ⟨cs, hb⟩ := hp.blk hk
    simp only [List.mem_cons, List.not_mem_nil, or_false]
    intro e
    rw [e, h.blk] at hb; cases hb
theorem greater_any (a b : K3) (w : World) : Calls Tryz.prog 148 #[.agg #[.int .i64 a.id, .int .i64 a.inc, .int .i64 a.st], .agg #[.int .i64 b.id, .int .i64 b.inc, .int .i64 b.st]] w fun e w' => e = .returned (.bool (greaterB a b)) ∧ Below w.heap.size w w' := by
  by_cases h : a.inc = b.inc
  · go_enter Tryz.func148, Tryz.ntmps148
    go_wp2
    go_ret
    exact ⟨by simp [greaterB, h], ((Below.refl _ _).alloc (Nat.le_refl _) _).alloc (by simp) _⟩
  · have h' : (a.inc == b.inc) = false := by simp [h]
    go_enter Tryz.func148, Tryz.ntmps148
    go_wp2
    go_ret
    exact ⟨by simp [greaterB, h], ((Below.refl _ _).alloc (Nat.le_refl _) _).alloc (by simp) _⟩
theorem there_any (k : K3) (w : World) : Calls Tryz.prog 137 #[.agg #[.int .i64 k.id, .int .i64 k.inc, .int .i64 k.st]] w fun e w' => e = .returned (.bool (thereB k)) ∧ Below w.heap.size w w' := by
  by_cases h : k.st = 1
  · have h1 : (k.st == 1) = true := by simp [h]
    go_enter Tryz.func137, Tryz.ntmps137
    go_wp2
    go_ret
    exact ⟨by simp [thereB, h], (Below.refl _ _).alloc (Nat.le_refl _) _⟩
  · have h1 : (k.st == 1) = false := by simp [h]
    go_enter Tryz.func137, Tryz.ntmps137
    go_wp2
    go_ret
    exact ⟨by simp [thereB, h]; rfl, (Below.refl _ _).alloc (Nat.le_refl _) _⟩
theorem findM_in {i : Int} {t : List Mem} {m : Mem} (h : findM i t = some m) : m ∈ t ∧ m.k.id = i := by
  unfold findM at h
  exact ⟨List.mem_of_find?_eq_some h, by simpa using List.find?_some h⟩
theorem NdOk.own_key {x : Nd} (h : NdOk x) : isKeyB x.own = true ∧ x.own.id = x.c.self := by
  obtain ⟨m, hm⟩ := h.self
  have e : x.own = m.k := by simp [Nd.own, atM, hm]
  obtain ⟨h1, h2⟩ := findM_in hm
  rw [e]
  exact ⟨h.keys m h1, h2⟩
def Big : Int := 1000000000000
set_option maxHeartbeats 2000000 in
set_option maxRecDepth 100000 in
theorem hearSelf_any {x : Nd} (hx : NdOk x) (hB : NdB Big x) {nb mb : Nat} {cb : Dk} {pv rv : Value} {W : World} (hn : NAt W nb mb cb pv rv x) (k : K3) (hk : isKeyB k = true) :
    Calls Tryz.prog 120 #[.pointer (some ⟨nb, 0, none⟩), .agg #[.int .i64 k.id, .int .i64 k.inc, .int .i64 k.st]] W fun e w' => e = .returned (.tuple #[]) ∧ NAt w' nb mb cb pv rv (x.hearSelf k) ∧ Frm [nb, mb, cb] W w' := by
  obtain ⟨⟨k1, k2⟩, ⟨k3, k4⟩, ⟨k5, k6⟩⟩ := key_bounds hk
  have hok := hx.own_key.1
  obtain ⟨⟨o1, o2⟩, ⟨o3, o4⟩, ⟨o5, o6⟩⟩ := key_bounds hok
  have hb0 : Below W.heap.size W (W.alloc (.cells #[.int .i64 k.id, .int .i64 k.inc, .int .i64 k.st] 76)) := (Below.refl _ _).alloc (Nat.le_refl _) _
  have hn0 := hn.alloc (.cells #[.int .i64 k.id, .int .i64 k.inc, .int .i64 k.st] 76)
  have HS := hide (self_any hx hn0)
  have HN0 := hide hn0
  have HB0 := hide hb0
  have HX := hide hx
  have HN := hide hn
  have HL := hide hB
  have HK := hide hk
  have HOK := hide hok
  clear hn0 hb0 hx hn hB hk hok
  by_cases hg : (x.left || (decide (k.st = 1) || (decide (k.inc < x.own.inc) || decide (k.inc = 1073741824)))) = true
  · have he : x.hearSelf k = x := by rw [Nd.hearSelf, if_pos hg]
    rw [he]
    clear he
    have hcase : x.left = true ∨ (x.left = false ∧ k.st = 1) ∨ (x.left = false ∧ ¬ k.st = 1 ∧ k.inc < x.own.inc) ∨ (x.left = false ∧ ¬ k.st = 1 ∧ ¬ k.inc < x.own.inc ∧ k.inc = 1073741824) := by
      rcases hL : x.left
      · simp [hL] at hg
        by_cases h2 : k.st = 1
        · exact .inr (.inl ⟨rfl, h2⟩)
        · by_cases h3 : k.inc < x.own.inc
          · exact .inr (.inr (.inl ⟨rfl, h2, h3⟩))
          · exact .inr (.inr (.inr ⟨rfl, h2, h3, by omega⟩))
      · exact .inl rfl
    clear hg
    go_enter Tryz.func120, Tryz.ntmps120
    go_wp2_with fail
    refine (unhide HS).mono ?_
    rintro e w1 ⟨rfl, hb1⟩
    have hn1 := (unhide HN0).below hb1
    have hl1 : Calls Tryz.prog 57 #[.pointer (some ⟨nb, 0, none⟩)] (w1.alloc (.cells #[.int .i64 x.own.id, .int .i64 x.own.inc, .int .i64 x.own.st] 76)) _ := left_any (unhide HX) (hn1.alloc _)
    have HL1 := hide hl1
    have hbk := (hb1.block W.heap.size (by simp)).trans (heap_alloc_new W (.cells #[.int .i64 k.id, .int .i64 k.inc, .int .i64 k.st] 76))
    have hz1 := hb1.size
    have hb01 : Below W.heap.size W w1 := (unhide HB0).trans (hb1.mono (by simp))
    have HBK := hide hbk
    have HB1 := hide hb01
    rw [World.size_alloc] at hz1
    clear hb1 hn1 hl1 hbk hb01 HS
    go_wp2_with fail
    refine (unhide HL1).mono ?_
    rintro e w2 ⟨rfl, hb2⟩
    have hbk2 := (hb2.block W.heap.size (by simp; omega)).trans ((Below.heap_alloc w1 _ W.heap.size (by omega)).trans (unhide HBK))
    have hbo2 := (hb2.block w1.heap.size (by simp)).trans (heap_alloc_new w1 (.cells #[.int .i64 x.own.id, .int .i64 x.own.inc, .int .i64 x.own.st] 76))
    have hb02 : Below W.heap.size W w2 := ((unhide HB1).alloc (by omega) _).trans (hb2.mono (by simp; omega))
    have a1 := cell_at hbk2 1
    have a2 := cell_at hbk2 2
    have a3 := cell_at hbo2 1
    simp only [List.getElem?_toArray, List.getElem?_cons_zero, List.getElem?_cons_succ] at a1 a2 a3
    have HB2 := hide hb02
    clear hb2 hbk2 hbo2 hb02 HL1 HBK
    rcases hcase with h1 | ⟨h1, h2⟩ | ⟨h1, h2, h3⟩ | ⟨h1, h2, h3, h4⟩
    · rw [h1]
      go_wp2
      refine bodyPost_ret (results_none rfl _ _ _) rfl ?_
      exact ⟨rfl, (unhide HN).below (unhide HB2), Frm.of_below (unhide HB2) (Nat.le_refl _)⟩
    · rw [h1]
      have h2' : (k.st == 1) = true := by simp [h2]
      go_wp2
      refine bodyPost_ret (results_none rfl _ _ _) rfl ?_
      exact ⟨rfl, (unhide HN).below (unhide HB2), Frm.of_below (unhide HB2) (Nat.le_refl _)⟩
    · rw [h1]
      have h2' : (k.st == 1) = false := by simp [h2]
      go_wp2
      refine bodyPost_ret (results_none rfl _ _ _) rfl ?_
      exact ⟨rfl, (unhide HN).below (unhide HB2), Frm.of_below (unhide HB2) (Nat.le_refl _)⟩
    · rw [h1]
      have h2' : (k.st == 1) = false := by simp [h2]
      have h4' : (k.inc == 1073741824) = true := by simp [h4]
      go_wp2
      refine bodyPost_ret (results_none rfl _ _ _) rfl ?_
      exact ⟨rfl, (unhide HN).below (unhide HB2), Frm.of_below (unhide HB2) (Nat.le_refl _)⟩
  · have he : x.hearSelf k = x.change ⟨x.own.id, k.inc + 1, x.own.st⟩ := by rw [Nd.hearSelf, if_neg hg]
    rw [he]
    clear he
    have hcase : x.left = false ∧ ¬ k.st = 1 ∧ ¬ k.inc < x.own.inc ∧ ¬ k.inc = 1073741824 := by
      rcases hL : x.left
      · simp [hL] at hg
        exact ⟨rfl, by omega, by omega, by omega⟩
      · simp [hL] at hg
    clear hg
    obtain ⟨h1, h2, h3, h4⟩ := hcase
    have h2' : (k.st == 1) = false := by simp [h2]
    have h4' : (k.inc == 1073741824) = false := by simp [h4]
    go_enter Tryz.func120, Tryz.ntmps120
    go_wp2_with fail
    refine (unhide HS).mono ?_
    rintro e w1 ⟨rfl, hb1⟩
    have hn1 := (unhide HN0).below hb1
    have hl1 : Calls Tryz.prog 57 #[.pointer (some ⟨nb, 0, none⟩)] (w1.alloc (.cells #[.int .i64 x.own.id, .int .i64 x.own.inc, .int .i64 x.own.st] 76)) _ := left_any (unhide HX) (hn1.alloc _)
    have HL1 := hide hl1
    have hbk := (hb1.block W.heap.size (by simp)).trans (heap_alloc_new W (.cells #[.int .i64 k.id, .int .i64 k.inc, .int .i64 k.st] 76))
    have hz1 := hb1.size
    have hb01 : Below W.heap.size W w1 := (unhide HB0).trans (hb1.mono (by simp))
    have HBK := hide hbk
    have HB1 := hide hb01
    rw [World.size_alloc] at hz1
    clear hb1 hn1 hl1 hbk hb01 HS
    go_wp2_with fail
    refine (unhide HL1).mono ?_
    rw [h1]
    rintro e w2 ⟨rfl, hb2⟩
    have hbk2 := (hb2.block W.heap.size (by simp; omega)).trans ((Below.heap_alloc w1 _ W.heap.size (by omega)).trans (unhide HBK))
    have hbo2 := (hb2.block w1.heap.size (by simp)).trans (heap_alloc_new w1 (.cells #[.int .i64 x.own.id, .int .i64 x.own.inc, .int .i64 x.own.st] 76))
    have hz2 := hb2.size
    rw [World.size_alloc] at hz2
    have hb02 : Below W.heap.size W w2 := ((unhide HB1).alloc (by omega) _).trans (hb2.mono (by simp; omega))
    have a1 := cell_at hbk2 1
    have a2 := cell_at hbk2 2
    have a3 := cell_at hbo2 1
    have a4 := cell_at hbo2 0
    have a5 := cell_at hbo2 2
    have f3 := free_at hbo2 1
    simp only [List.getElem?_toArray, List.getElem?_cons_zero, List.getElem?_cons_succ] at a1 a2 a3 a4 a5
    have hbo3 := heap_setCell_same w2 w1.heap.size 1 _ _ (.int .i64 (k.inc + 1)) hbo2
    have b0 := cell_at hbo3 0
    have b1 := cell_at hbo3 1
    have b2 := cell_at hbo3 2
    simp only [List.setIfInBounds_toArray, List.set_cons_succ, List.set_cons_zero, List.getElem?_toArray, List.getElem?_cons_zero, List.getElem?_cons_succ] at b0 b1 b2
    have HB3 := hide (hb02.setCell (p := ⟨w1.heap.size, 1, none⟩) (by show W.heap.size ≤ w1.heap.size; omega) (.int .i64 (k.inc + 1)))
    clear hb2 hbk2 hbo2 hb02 HL1 HBK hbo3
    go_wp2_with fail
    have hch := change_any (unhide HX) ((unhide HN).below (unhide HB3)) ⟨x.own.id, k.inc + 1, x.own.st⟩ (by
      simp only [isKeyB, Bool.and_eq_true]
      exact ⟨isId_mk o1 o2, isInc_mk (by show 1 ≤ k.inc + 1; omega) (by show k.inc + 1 ≤ _; omega), isSt_mk o5 o6⟩) (unhide HL).clock.1 (unhide HL).clock.2 (unhide HL).lost.1 (unhide HL).lost.2
    refine hch.mono ?_
    rintro e w3 ⟨rfl, hn3, hf3⟩
    have HN3 := hide hn3
    have HF3 := hide ((Frm.of_below (S := [nb, mb, cb]) (unhide HB3) (Nat.le_refl _)).trans hf3 (fun j hj => .inl hj))
    clear hn3 hf3 hch a1 a2 a3 a4 a5 b0 b1 b2 f3
    go_wp2
    go_end0
    exact ⟨rfl, unhide HN3, unhide HF3⟩
end Go.Proofs.YtnneljcbelgoeaaGreatDoor.wire
/- To hear a key of another one (P5). -/
namespace Go.Proofs.YtnneljcbelgoeaaGreatDoor.wire
open Go.RowKit Go.Maps

theorem notId_any (g : Int) {p : Nat} {W : World} (hp : W.heap[p]? = some (.cells #[.int .i64 g] 3 (0, 0))) (i : Int) :
    Calls Tryz.prog 156 #[.int .i64 i, .pointer (some ⟨p, 0, none⟩)] W fun e w' => e = .returned (.bool (i == g)) ∧ Below W.heap.size W w' := by
  have c0 := cell_at hp 0
  simp only [List.getElem?_toArray, List.getElem?_cons_zero] at c0
  clear hp
  go_enter Tryz.func156, Tryz.ntmps156
  go_wp2
  go_ret
  exact ⟨rfl, Below.refl _ _⟩
set_option maxHeartbeats 1000000 in
theorem without_any {l : List Int} (hl : l.length ≤ 1000) (g : Int) {v : Value} {W : World} (hv : PassAt W v l) :
    Calls Tryz.prog 133 #[v, .int .i64 g] W fun e w' => ∃ v', e = .returned v' ∧ w'.ownsRow W.heap.size 3 1 v' (l.filter (fun i => !(i == g))).length ((l.filter (fun i => !(i == g))).flatMap intC) ∧ Below W.heap.size W w' := by
  have HD := hide (dropI_any l (fun i => i == g) 156 #[] #[.pointer (some ⟨W.heap.size, 0, none⟩)] (hv.alloc (.cells #[.int .i64 g] 3)) hl (enters_of Tryz.func156 (by kernel_rfl) rfl) (fun i W' hW' => notId_any g ((hW'.block W.heap.size (by simp)).trans (heap_alloc_new W _)) i))
  clear hv
  go_enter Tryz.func133, Tryz.ntmps133
  go_wp2_with fail
  refine (unhide HD).mono ?_
  rintro e w1 ⟨v', rfl, ho, hb1⟩
  have HO := hide ho
  have HB1 := hide hb1
  clear ho hb1 HD
  go_wp2
  go_ret
  exact ⟨v', rfl, own_mono (unhide HO) (by simp), ((Below.refl _ _).alloc (Nat.le_refl _) _).trans ((unhide HB1).mono (by simp))⟩
set_option maxHeartbeats 2000000 in
set_option maxRecDepth 100000 in
theorem hearOther_any {x : Nd} (hx : NdOk x) (hB : NdB Big x) {nb mb : Nat} {cb : Dk} {pv rv : Value} {W : World} (hn : NAt W nb mb cb pv rv x) (k : K3) (hk : isKeyB k = true) :
    Calls Tryz.prog 121 #[.pointer (some ⟨nb, 0, none⟩), .agg #[.int .i64 k.id, .int .i64 k.inc, .int .i64 k.st]] W fun e w' => e = .returned (.tuple #[]) ∧ NTo W w' nb mb cb pv rv (x.hearOther k) := by
  obtain ⟨⟨k1, k2⟩, ⟨k3, k4⟩, ⟨k5, k6⟩⟩ := key_bounds hk
  have hlen := hx.len
  have hps := hx.pass.len
  have HX := hide hx
  have HN := hide hn
  have HL := hide hB
  have HK := hide hk
  have c7 := hn.c_map
  have hlt := hn.lt
  have hl1 := fun o => look_ok_at (hn.alloc o).map.drew (i := k.id) (by omega) (by omega)
  have hl2 := fun o o' => look_ok_at ((hn.alloc o).alloc o').map.drew (i := k.id) (by omega) (by omega)
  simp only [memv] at hl1 hl2
  have hat : ∀ m, findM k.id x.tab = some m → atM k.id x.tab = m := fun m h => by simp [atM, h]
  have HAT := hide hat
  clear hx hB hk hat hn
  obtain ⟨F, hF⟩ : ∃ F, F = (findM k.id x.tab).isSome := ⟨_, rfl⟩
  obtain ⟨M, hM⟩ : ∃ M, M = atM k.id x.tab := ⟨_, rfl⟩
  rw [← hF, ← hM] at hl1 hl2
  have HF := hide hF
  have HM := hide hM
  clear hF hM
  go_enter Tryz.func121, Tryz.ntmps121
  go_wp2
  go_region
  generalize hw : ((W.alloc (Obj.cells #[Value.int IntKind.i64 k.id, Value.int IntKind.i64 k.inc, Value.int IntKind.i64 k.st] 76)).alloc (Obj.cells #[Value.int IntKind.i64 M.k.id, Value.int IntKind.i64 M.k.inc, Value.int IntKind.i64 M.k.st, Value.int IntKind.i64 M.due, Value.int IntKind.i64 M.sends] 150)).drew = w1
  have hb1 : Below W.heap.size W w1 := by rw [← hw]; exact (((Below.refl _ _).alloc (Nat.le_refl _) _).alloc (by simp) _).drew
  have bk : w1.heap[W.heap.size]? = some (.cells #[.int .i64 k.id, .int .i64 k.inc, .int .i64 k.st] 76 (0, 0)) := by
    rw [← hw]; exact (Below.heap_alloc _ _ _ (by simp)).trans (heap_alloc_new W _)
  have bo : w1.heap[W.heap.size + 1]? = some (.cells #[.int .i64 M.k.id, .int .i64 M.k.inc, .int .i64 M.k.st, .int .i64 M.due, .int .i64 M.sends] 150 (0, 0)) := by
    rw [← hw]
    have := heap_alloc_new (W.alloc (Obj.cells #[Value.int IntKind.i64 k.id, Value.int IntKind.i64 k.inc, Value.int IntKind.i64 k.st] 76)) (Obj.cells #[Value.int IntKind.i64 M.k.id, Value.int IntKind.i64 M.k.inc, Value.int IntKind.i64 M.k.st, Value.int IntKind.i64 M.due, Value.int IntKind.i64 M.sends] 150)
    rw [World.size_alloc] at this
    exact this
  have a0 := cell_at bk 0
  have a1 := cell_at bk 1
  have a2 := cell_at bk 2
  have d0 := cell_at bo 0
  have d1 := cell_at bo 1
  have d2 := cell_at bo 2
  simp only [List.getElem?_toArray, List.getElem?_cons_zero, List.getElem?_cons_succ] at a0 a1 a2 d0 d1 d2
  have HB1 := hide hb1
  have HBK := hide bk
  have hz1 := hb1.size
  have hszk := lt_blk bk
  clear hw bo bk hl1 hl2 c7 hb1
  have hgoes : (x.hearOther k = x ∧ ((F = true ∧ greaterB k M.k = false) ∨ (F = false ∧ 8 ≤ x.tab.length))) ∨ (x.hearOther k = x.heard k ∧ ((F = true ∧ greaterB k M.k = true) ∨ (F = false ∧ ¬ 8 ≤ x.tab.length))) := by
    have h1 := unhide HF
    have h2 := unhide HM
    have h3 := unhide HAT
    unfold Nd.hearOther
    rcases hf : findM k.id x.tab with _ | m
    · rw [hf] at h1
      by_cases h8 : 8 ≤ x.tab.length
      · exact .inl ⟨by simp [h8], .inr ⟨by simpa using h1, h8⟩⟩
      · exact .inr ⟨by simp [h8], .inr ⟨by simpa using h1, h8⟩⟩
    · rw [hf] at h1
      have e := h3 m hf
      rw [e] at h2
      subst h2
      cases hg : greaterB k M.k
      · exact .inl ⟨by simp [hg], .inl ⟨by simpa using h1, rfl⟩⟩
      · exact .inr ⟨by simp [hg], .inl ⟨by simpa using h1, rfl⟩⟩
  clear HF HM HAT
  rcases hgoes with ⟨he, ⟨rfl, hg⟩ | ⟨rfl, h8⟩⟩ | ⟨he, hgo⟩
  · have HE := hide he
    have HG := hide hg
    clear hg he
    go_wp2_with fail
    refine (greater_any k M.k _).mono ?_
    rw [unhide HG]
    rintro e w2 ⟨rfl, hb2⟩
    have HB2 := hide ((unhide HB1).trans (hb2.mono hz1))
    clear hb2
    go_wp2
    refine bodyPost_ret (results_none rfl _ _ _) rfl ?_
    rw [unhide HE]
    exact ⟨rfl, NTo.here (unhide HN) (unhide HB2)⟩
  · have HE := hide he
    clear he
    have b7 := ((unhide HN).below (unhide HB1)).c_map
    have hlm := fun ty => ((unhide HN).below (unhide HB1)).map.len Tryz.underlying117 ty
    rw [tabD_size] at hlm
    have h8' : (8 : Int) ≤ (x.tab.length : Int) := by omega
    go_wp2
    refine bodyPost_ret (results_none rfl _ _ _) rfl ?_
    rw [unhide HE]
    exact ⟨rfl, NTo.here (unhide HN) (unhide HB1)⟩
  · have HE := hide he
    clear he
    rcases hgo with ⟨rfl, hg⟩ | ⟨rfl, h8⟩
    case' inl =>
      have HG := hide hg
      clear hg
      go_wp2_with fail
      refine (greater_any k M.k _).mono ?_
      rw [unhide HG]
      rintro e wq ⟨rfl, hb2⟩
      have HBq := hide ((unhide HB1).trans (hb2.mono hz1))
      have bq := (hb2.block W.heap.size hszk).trans (unhide HBK)
      clear hb2 a0 a1 a2 d0 d1 d2 HG
      have a0 := cell_at bq 0
      have a1 := cell_at bq 1
      have a2 := cell_at bq 2
      simp only [List.getElem?_toArray, List.getElem?_cons_zero, List.getElem?_cons_succ] at a0 a1 a2
      have hzq := lt_blk bq
      have HKq := hide bq
      clear bq hszk HB1 HBK
      go_wp2_with fail
    case' inr =>
      have HBq := HB1
      have HKq := HBK
      have hzq := hszk
      have b7 := ((unhide HN).below (unhide HB1)).c_map
      have hlm := fun ty => ((unhide HN).below (unhide HB1)).map.len Tryz.underlying117 ty
      rw [tabD_size] at hlm
      have h8' : ¬ (8 : Int) ≤ (x.tab.length : Int) := by omega
      clear HB1 HBK hszk
      go_wp2_with fail
      clear b7 hlm h8' h8 d0 d1 d2
    all_goals
      refine (change_any (unhide HX) ((unhide HN).below (unhide HBq)) k (unhide HK) (unhide HL).clock.1 (unhide HL).clock.2 (unhide HL).lost.1 (unhide HL).lost.2).mono ?_
      rintro e w3 ⟨rfl, hn3, hf3⟩
      have hm1 := (unhide HN).lt_mb
      have hm2 := (unhide HN).lt_cb
      have bk3 := (hf3.block W.heap.size hzq (by simp only [List.mem_cons, List.not_mem_nil, or_false]; omega)).trans (unhide HKq)
      have hF3 := (Frm.of_below (S := [nb, mb, cb]) (unhide HBq) (Nat.le_refl _)).trans hf3 (fun j hj => .inl hj)
      clear a0 a1 a2 hf3 HKq
      have a0 := cell_at bk3 0
      have a1 := cell_at bk3 1
      have a2 := cell_at bk3 2
      simp only [List.getElem?_toArray, List.getElem?_cons_zero, List.getElem?_cons_succ] at a0 a1 a2
      have HN3 := hide hn3
      have HF3 := hide hF3
      have hz3 := lt_blk bk3
      have HK3 := hide bk3
      clear hn3 hF3 bk3 hzq
      go_wp2_with fail
      refine (there_any k _).mono ?_
      cases ht : thereB k
      case true =>
        have HT := hide ht
        clear ht
        rintro e w4 ⟨rfl, hb4⟩
        have HB4 := hide hb4
        clear hb4
        go_wp2
        go_end0
        have e1 : x.heard k = x.change k := by simp [Nd.heard, unhide HT]
        rw [unhide HE, e1]
        exact ⟨rfl, NTo.of ((unhide HN3).below (unhide HB4)) ((unhide HF3).step (unhide HB4))⟩
      case false =>
        have HT := hide ht
        clear ht
        rintro e w4 ⟨rfl, hb4⟩
        have HB4 := hide hb4
        clear hb4
        have bk4 := ((unhide HB4).block W.heap.size hz3).trans (unhide HK3)
        have a4 := cell_at bk4 0
        simp only [List.getElem?_toArray, List.getElem?_cons_zero] at a4
        have hn4 := (unhide HN3).below (unhide HB4)
        have hf4 := (unhide HF3).step (unhide HB4)
        have c8 := hn4.c_pass
        have f84 := free_at hn4.blk 9
        have HD := hide (without_any (l := x.pass) (by omega) k.id hn4.drew.pass)
        have HN4 := hide hn4
        have HF4 := hide hf4
        have l4 := lt_blk bk4
        have l5 := hn4.lt
        clear bk4 hn4 hf4 HK3 HN3 HF3 HB4 a0 a1 a2
        go_wp2_with fail
        go_region_with
          (refine (unhide HD).mono ?_; rintro e w5 ⟨v', rfl, ho5, hb50⟩; obtain ⟨ao, cap, rfl⟩ := own_form ho5; have hb5 : Below w4.heap.size w4 w5 := ⟨hb50.os, hb50.tape, hb50.output, hb50.size, hb50.block⟩; have a5 := (hb5.cell (p := ⟨W.heap.size, 0, none⟩) l4).trans a4; have e8 := (hb5.cell (p := ⟨nb, 9, none⟩) l5).trans c8; have f8 := (hb5.frozen (p := ⟨nb, 9, none⟩) l5).trans f84; clear hb50)
        all_goals
         have hn5 := (unhide HN4).below (W' := w5) hb5
         have HN5 := hide hn5
         have HF5 := hide ((unhide HF4).step hb5)
         have HO5 := hide ho5
         have HS5 := hide (unhide HF4).size
         have HAB := hide (heap_lt (unhide HN4).draw.ab)
         clear hn5 ho5 hb5 HD HN4 HF4
         go_wp2
         go_end0
         have e1 : x.heard k = { x.change k with pass := x.pass.filter (fun i => !(i == k.id)) } := by simp [Nd.heard, unhide HT]
         rw [unhide HE, e1]
         obtain ⟨g1, g2⟩ := (unhide HN5).setPass (PassAt.of_own (unhide HO5)) (fun e => by have h1 := (own_lt (unhide HO5) e).1; have h2 := unhide HAB; simp only [World.size_drew] at h1; omega)
         refine ⟨rfl, _, rv, g1, ((Frm.refl _ W).trans (unhide HF5) (by simp [feet])).trans g2 (by simp [feet]), fun j hj => ?_⟩
         simp only [feet, List.mem_cons, List.mem_append, Option.mem_toList] at hj ⊢
         rcases hj with h | h | h | h | h | h
         · exact .inl (.inl h)
         · exact .inl (.inr (.inl h))
         · exact .inl (.inr (.inr (.inl h)))
         · exact .inr (Nat.le_trans (unhide HS5) (own_lt (unhide HO5) h).1)
         · exact .inl (.inr (.inr (.inr (.inr (.inl h)))))
         · exact .inl (.inr (.inr (.inr (.inr (.inr h)))))
end Go.Proofs.YtnneljcbelgoeaaGreatDoor.wire
/- To hear a key; what a node keeps to. -/
namespace Go.Proofs.YtnneljcbelgoeaaGreatDoor.wire
open Go.RowKit Go.Maps

set_option maxHeartbeats 1000000 in
theorem hear_any {x : Nd} (hx : NdOk x) (hB : NdB Big x) {nb mb : Nat} {cb : Dk} {pv rv : Value} {W : World} (hn : NAt W nb mb cb pv rv x) (k : K3) (hk : isKeyB k = true) :
    Calls Tryz.prog 84 #[.pointer (some ⟨nb, 0, none⟩), .agg #[.int .i64 k.id, .int .i64 k.inc, .int .i64 k.st]] W fun e w' => e = .returned (.tuple #[]) ∧ NTo W w' nb mb cb pv rv (x.hear k) := by
  have c0 := hn.c_self
  have hlt := hn.lt
  have hn1 := fun q => (hn.alloc (.cells #[.int .i64 k.id, .int .i64 k.inc, .int .i64 k.st] 76)).drewN q
  have hb1 : ∀ q, Below W.heap.size W ((W.alloc (.cells #[.int .i64 k.id, .int .i64 k.inc, .int .i64 k.st] 76)).drewN q) := fun q => bdrewN ((Below.refl _ _).alloc (Nat.le_refl _) _) q
  by_cases hs : k.id = x.c.self
  · have HS := fun q => hide (hearSelf_any hx hB (hn1 q) k hk)
    have HB1 := hide hb1
    have hs' : (k.id == x.c.self) = true := by simp [hs]
    have he : x.hear k = x.hearSelf k := by simp [Nd.hear, hs]
    have HE := hide he
    clear hn hn1 hb1 hx hB hk hs he
    go_enter Tryz.func84, Tryz.ntmps84
    go_wp2
    go_quiet (fail)
    go_wp2_with fail
    refine (unhide (HS _)).mono ?_
    rintro e w2 ⟨rfl, hn2, hf2⟩
    have HN2 := hide hn2
    have HF2 := hide ((Frm.of_below (S := [nb, mb, cb]) (unhide HB1 _) (Nat.le_refl _)).trans hf2 (fun j hj => .inl hj))
    clear hn2 hf2 HS
    go_wp2
    go_end0
    rw [unhide HE]
    exact ⟨rfl, NTo.of (unhide HN2) (unhide HF2)⟩
  · have HS := fun q => hide (hearOther_any hx hB (hn1 q) k hk)
    have HB1 := hide hb1
    have hs' : (k.id == x.c.self) = false := by simp [hs]
    have he : x.hear k = x.hearOther k := by simp [Nd.hear, hs]
    have HE := hide he
    clear hn hn1 hb1 hx hB hk hs he
    go_enter Tryz.func84, Tryz.ntmps84
    go_wp2
    go_quiet (fail)
    go_wp2_with fail
    refine (unhide (HS _)).mono ?_
    rintro e w2 ⟨rfl, hn2⟩
    have HN2 := hide (NTo.trans (Frm.of_below (S := feet nb mb cb pv rv) (unhide HB1 _) (Nat.le_refl _)) (fun j hj => .inl hj) hn2)
    clear hn2 HS
    go_wp2
    go_end0
    rw [unhide HE]
    exact ⟨rfl, unhide HN2⟩
/-! ### what stays -/
theorem change_ok {x : Nd} (hx : NdOk x) (k : K3) (hk : isKeyB k = true) (hroom : (findM k.id x.tab).isSome = true ∨ x.tab.length < 8) : NdOk (x.change k) := by
  obtain ⟨_, _, _, hs⟩ := hx.cfgs
  refine ⟨hx.cfg, putM_rise _ _ hx.rise, ?_, ?_, ?_, ?_, ?_, hx.rels, hx.pass⟩
  · show (putM _ x.tab).length ≤ 8
    rw [putM_len _ _ hx.rise]
    have := hx.len
    split
    · exact this
    · rename_i h
      rcases hroom with h' | h'
      · exact absurd h' h
      · omega
  · intro m hm
    rcases putM_mem hm with rfl | hm
    · exact hk
    · exact hx.keys m hm
  · intro m hm
    rcases putM_mem hm with rfl | hm
    · exact ⟨by show 0 ≤ x.c.sends; omega, hs.2⟩
    · exact hx.sends m hm
  · obtain ⟨m, hm⟩ := hx.self
    show ∃ m, findM x.c.self (putM _ x.tab) = some m
    rw [findM_putM _ _ _ hx.rise]
    split
    · exact ⟨_, rfl⟩
    · exact ⟨m, hm⟩
  · show (if x.evs.length < 8 then x.evs ++ [k] else x.evs).length ≤ 8
    have := hx.evs
    split
    · simp; omega
    · exact this
theorem change_b {B : Int} {x : Nd} (hB : NdB B x) (k : K3) : NdB (B + 1) (x.change k) := by
  obtain ⟨h1, h2, h3, h4, h5⟩ := hB
  refine ⟨⟨h1.1, by show x.clock ≤ _; omega⟩, ⟨h2.1, by show x.num ≤ _; omega⟩, ⟨h3.1, by show x.dropped ≤ _; omega⟩, ?_, ⟨⟨h5.1.1, by show x.pst ≤ _; omega⟩, by show (x.dat : Int) ≤ _; omega⟩⟩
  show 0 ≤ (if x.evs.length < 8 then x.lost else x.lost + 1) ∧ (if x.evs.length < 8 then x.lost else x.lost + 1) ≤ B + 1
  split <;> omega
theorem NdB.mono {B C : Int} {x : Nd} (h : NdB B x) (hc : B ≤ C) : NdB C x := ⟨⟨h.clock.1, by have := h.clock.2; omega⟩, ⟨h.num.1, by have := h.num.2; omega⟩, ⟨h.dropped.1, by have := h.dropped.2; omega⟩, ⟨h.lost.1, by have := h.lost.2; omega⟩, ⟨⟨h.tk.1.1, by have := h.tk.1.2; omega⟩, by have := h.tk.2; omega⟩⟩
theorem heard_ok {x : Nd} (hx : NdOk x) (k : K3) (hk : isKeyB k = true) (hroom : (findM k.id x.tab).isSome = true ∨ x.tab.length < 8) : NdOk (x.heard k) := by
  have h := change_ok hx k hk hroom
  unfold Nd.heard
  split
  · exact h
  · exact ⟨h.cfg, h.rise, h.len, h.keys, h.sends, h.self, h.evs, h.rels, hx.pass.filter _⟩
theorem heard_b {B : Int} {x : Nd} (hB : NdB B x) (k : K3) : NdB (B + 1) (x.heard k) := by
  have h := change_b hB k
  unfold Nd.heard
  split
  · exact h
  · exact ⟨h.clock, h.num, h.dropped, h.lost, h.tk⟩
theorem hear_ok {x : Nd} (hx : NdOk x) (k : K3) (hk : isKeyB k = true) : NdOk (x.hear k) := by
  obtain ⟨hok, hid⟩ := hx.own_key
  unfold Nd.hear
  split
  · unfold Nd.hearSelf
    split
    · exact hx
    · rename_i h
      simp only [Bool.or_eq_true, decide_eq_true_eq, not_or] at h
      obtain ⟨_, ⟨k3, k4⟩, _⟩ := key_bounds hk
      obtain ⟨⟨o1, o2⟩, _, ⟨o5, o6⟩⟩ := key_bounds hok
      refine change_ok hx _ ?_ (.inl ?_)
      · simp only [isKeyB, Bool.and_eq_true]
        exact ⟨isId_mk o1 o2, isInc_mk (by show 1 ≤ k.inc + 1; omega) (by show k.inc + 1 ≤ _; omega), isSt_mk o5 o6⟩
      · obtain ⟨m, hm⟩ := hx.self
        show (findM x.own.id x.tab).isSome = true
        rw [hid, hm]; rfl
  · unfold Nd.hearOther
    split
    · rename_i o ho
      split
      · exact heard_ok hx k hk (.inl (by rw [ho]; rfl))
      · exact hx
    · split
      · exact hx
      · exact heard_ok hx k hk (.inr (by omega))
theorem hear_b {B : Int} {x : Nd} (hB : NdB B x) (k : K3) : NdB (B + 1) (x.hear k) := by
  have hs := hB.mono (C := B + 1) (by omega)
  unfold Nd.hear Nd.hearSelf Nd.hearOther
  split
  · split
    · exact hs
    · exact change_b hB _
  · split
    · split
      · exact heard_b hB _
      · exact hs
    · split
      · exact hs
      · exact heard_b hB _
theorem hears_ok : ∀ (l : List K3) {x : Nd}, NdOk x → allB l = true → NdOk (x.hears l)
  | [], _, hx, _ => hx
  | k :: r, x, hx, hl => by
    simp only [allB, List.all_cons, Bool.and_eq_true] at hl
    exact hears_ok r (hear_ok hx k hl.1) hl.2
theorem hears_b : ∀ (l : List K3) {B : Int} {x : Nd}, NdB B x → NdB (B + l.length) (x.hears l)
  | [], B, _, hx => hx.mono (by simp)
  | k :: r, B, x, hx => (hears_b r (hear_b hx k)).mono (by simp; omega)
theorem change_c (x : Nd) (k : K3) : (x.change k).c = x.c := rfl
theorem heard_c (x : Nd) (k : K3) : (x.heard k).c = x.c := by unfold Nd.heard; split <;> rfl
theorem hear_c (x : Nd) (k : K3) : (x.hear k).c = x.c := by
  unfold Nd.hear Nd.hearSelf Nd.hearOther
  split
  · split <;> rfl
  · split
    · split
      · exact heard_c x k
      · rfl
    · split
      · rfl
      · exact heard_c x k
theorem hears_c : ∀ (l : List K3) (x : Nd), (x.hears l).c = x.c
  | [], _ => rfl
  | k :: r, x => (hears_c r (x.hear k)).trans (hear_c x k)
end Go.Proofs.YtnneljcbelgoeaaGreatDoor.wire
/- The updates by how often they were sent: slices.SortStableFunc at a table's members. -/
namespace Go.Proofs.YtnneljcbelgoeaaGreatDoor.wire
open Go.RowKit Go.Maps Go.Sort Go.Shelf Go.Lib

abbrev cmpM (a b : Mem) : Int := Lib.compareInt b.sends a.sends
theorem cmpM_lt : ltOf cmpM = sentLt := by
  funext a b
  simp only [ltOf, cmpM, sentLt, sentCmp, Lib.compareInt]
  by_cases h1 : b.sends < a.sends
  · simp [h1]
  · by_cases h2 : a.sends < b.sends
    · simp [h1, h2]
    · simp [h1, h2]
theorem sent_swo : SWO sentLt := by
  have e : sentLt = fun a b : Mem => decide (b.sends < a.sends) := by
    funext a b
    simp only [sentLt, sentCmp]
    by_cases h1 : b.sends < a.sends
    · simp [h1]
    · by_cases h2 : a.sends < b.sends
      · simp [h1, h2]
      · simp [h1, h2]
  rw [e]
  exact ⟨fun a => by simp, fun a b c h1 h2 => by simp at h1 h2 ⊢; omega, fun a b c h1 h2 => by simp at h1 h2 ⊢; omega⟩
set_option maxHeartbeats 1000000 in
theorem sentLess_any (a b : Mem) (W : World) : Calls Tryz.prog 158 #[.agg #[.int .i64 a.k.id, .int .i64 a.k.inc, .int .i64 a.k.st, .int .i64 a.due, .int .i64 a.sends], .agg #[.int .i64 b.k.id, .int .i64 b.k.inc, .int .i64 b.k.st, .int .i64 b.due, .int .i64 b.sends]] W fun e w' => e = .returned (.int .i64 (cmpM a b)) ∧ ∃ q os', w' = grow (W.drewN q) os' := by
  have hcon : ∀ W', Calls Tryz.prog 167 #[.int .i64 b.sends, .int .i64 a.sends] W' fun e w' => e = .returned (.int .i64 (cmpM a b)) ∧ w' = W' := fun W' => AnyG.cmp_Compare_int Tryz.cmpA b.sends a.sends W'
  generalize cmpM a b = r at hcon ⊢
  go_enter Tryz.func158, Tryz.ntmps158
  go_wp2_with (go_at_call 167; refine (hcon _).mono ?_; rintro e w' ⟨rfl, rfl⟩)
  go_ret
  exact ⟨rfl, 0, _, by rw [alloc_eq_grow, alloc_eq_grow, grow_grow]; rfl⟩
theorem cmpLaysM (blk off size : Nat) (w : World) : CmpLays Tryz.prog 158 #[] memC 5 cmpM blk off size w :=
  fun _ _ _ _ x y => sentLess_any x y _
theorem flat_list (l : List Mem) : flatK memC 5 l.toArray = (l.flatMap memC).toArray := by
  refine ext_get! (by rw [size_flatK, List.size_toArray, List.size_toArray, lenM]) fun t ht => ?_
  have ht' : t < l.length * 5 := by simpa using ht
  rw [get_flatK _ _ _ t (by simpa using ht')]
  have h5 : t / 5 < l.length := by omega
  have := getM l (t / 5) h5 (t % 5) (by omega)
  rw [show t / 5 * 5 + t % 5 = t by omega] at this
  have e1 : l.toArray[t / 5]! = l[t / 5] := by simp [h5]
  rw [e1]
  have hm : (memC l[t / 5])[t % 5]? = some (memC l[t / 5])[t % 5]! := by
    have : t % 5 < (memC l[t / 5]).length := by simp [memC]; omega
    simp [this]
  rw [hm] at this
  simp [getElem!_def, this]
theorem holdsM {w : World} {base b cap : Nat} {l : List Mem} (h : w.ownsRow base 150 5 (.slice (some ⟨b, 0, none⟩) l.length cap) l.length (l.flatMap memC)) : HoldsK memC 5 w b 0 l.toArray := by
  rcases h.2 with ⟨e, _⟩ | ⟨g, cap', cur, e, hb, hg, h1, h2, h3, h4⟩
  · cases e
  · cases e
    intro j hj
    rw [flat_list] at hj ⊢
    have hj' : j < (l.flatMap memC).length := by simpa using hj
    refine ⟨?_, free_at hg _⟩
    rw [cell_at hg, Nat.zero_add]
    have h5 := lenM l
    have : cur[j]? = (l.flatMap memC)[j]? := by rw [← h4, List.getElem?_take_of_lt (by omega), Array.getElem?_toList]
    rw [this, getElem!_def]
    simp [List.getElem?_eq_getElem hj']
theorem heapM {w : World} {g n : Nat} {os : Array Obj} {cur : Array Value} {e : TypeId} {fr : Nat × Nat} (d : Array Value) (hb : w.heap[g]? = some (.cells cur e fr)) :
    (grow (putRow id (Sort.ahead w n) g 0 d) os).heap[g]? = some (.cells (putCells id 0 d cur) e fr) := by
  have hg : g < w.heap.size := (Array.getElem?_eq_some_iff.1 hb).1
  rw [heap_grow_old _ _ (by simpa using hg)]
  simp [putRow, mapBlock, Sort.ahead, Array.getElem?_modify, hb, onCells]
theorem takeM (cur : Array Value) (ts : List Value) (h : ts.length ≤ cur.size) : (putCells id 0 ts.toArray cur).toList.take ts.length = ts := by
  apply List.ext_getElem?
  intro j
  by_cases hj : j < ts.length
  · rw [List.getElem?_take_of_lt hj, Array.getElem?_toList]
    simp [putCells, hj, show j < cur.size by omega]
  · rw [List.getElem?_take_eq_none (by omega), List.getElem?_eq_none (by omega)]
theorem grownM {w : World} {g n : Nat} {os : Array Obj} (d : Array Value) : w.grownBy (grow (putRow id (Sort.ahead w n) g 0 d) os) (some g) := by
  refine ⟨rfl, rfl, rfl, by simp, fun k hk hne => ?_⟩
  rw [heap_grow_old _ _ (by simpa using hk)]
  have : g ≠ k := fun e => hne (by rw [e])
  simp [putRow, mapBlock, Sort.ahead, Array.getElem?_modify, this]
theorem sortM_perm (l : List Mem) : (sortM l).Perm l := by
  have h := (insertionSort_holds (lt := sentLt) sent_swo l.toArray 0 l.length (Nat.zero_le _) (by simp)).1
  obtain ⟨h1, _, h3⟩ := h
  rw [Array.extract_eq_self_of_le (by rw [h1]; simp), Array.extract_eq_self_of_le (by simp)] at h3
  simpa [sortM] using h3
theorem sortM_len (l : List Mem) : (sortM l).length = l.length := (sortM_perm l).length_eq
theorem ownM {w : World} {base g cap n : Nat} {os : Array Obj} {l l' : List Mem} (hl : l'.length = l.length) (h : w.ownsRow base 150 5 (.slice (some ⟨g, 0, none⟩) l.length cap) l.length (l.flatMap memC)) :
    (grow (putRow id (Sort.ahead w n) g 0 (l'.flatMap memC).toArray) os).ownsRow base 150 5 (.slice (some ⟨g, 0, none⟩) l.length cap) l.length (l'.flatMap memC) := by
  rcases h.2 with ⟨e, _⟩ | ⟨g', cap', cur, e, hb, hg, h1, h2, h3, h4⟩
  · cases e
  · cases e
    have hlen := lenM l'
    refine ⟨by rw [hlen, hl], .inr ⟨g, cap, _, rfl, hb, heapM _ hg, h1, h2, by simp [putCells, h3], ?_⟩⟩
    have e1 : l.length * 5 = (l'.flatMap memC).length := by rw [hlen, hl]
    rw [e1]
    refine takeM cur _ ?_
    rw [hlen, hl, h3]
    exact Nat.mul_le_mul_right _ h1
set_option maxHeartbeats 2000000 in
set_option maxRecDepth 100000 in
theorem stable_at (l : List Mem) (hl : l.length ≤ 8) (b cap base : Nat) (w : World) (h : w.ownsRow base 150 5 (.slice (some ⟨b, 0, none⟩) l.length cap) l.length (l.flatMap memC)) :
    Calls Tryz.prog 166 #[.slice (some ⟨b, 0, none⟩) l.length cap, .int .i64 l.length, .func (.func 158) #[] #[]] w fun e w' => e = .returned (.tuple #[]) ∧ w'.ownsRow base 150 5 (.slice (some ⟨b, 0, none⟩) l.length cap) l.length ((sortM l).flatMap memC) ∧ w.grownBy w' (some b) := by
  obtain ⟨cs, hcs⟩ := own_blk h rfl
  have hI := AnyQ.insertionSortCmpFunc Tryz.insA 5 (fun w => by kernel_rfl) (fun w => by kernel_rfl) memC (fun _ => rfl) (fun m v hv => by simp [memC] at hv; rcases hv with rfl | rfl | rfl | rfl | rfl <;> rfl) cmpM 158 #[] b 0 cap 0 l.length l.toArray w (enters_of Tryz.func158 (by kernel_rfl) rfl) (cmpLaysM b 0 l.toArray.size w) (holdsM h) (lt_blk hcs) (Nat.zero_le _) (by simp) (by simp; omega)
  rw [cmpM_lt] at hI
  have hI' : Calls Tryz.prog 179 #[.slice (some ⟨b, 0, none⟩) l.length cap, .int .i64 0, .int .i64 l.length, .func (.func 158) #[] #[]] w fun e w' => e = .returned (.tuple #[]) ∧ w'.ownsRow base 150 5 (.slice (some ⟨b, 0, none⟩) l.length cap) l.length ((sortM l).flatMap memC) ∧ w.grownBy w' (some b) := by
    refine Calls.mono hI ?_
    rintro e w' ⟨rfl, n, os, rfl⟩
    have e1 : putRowK memC 5 (Sort.ahead w n) b 0 (Sort.insertionSort sentLt l.toArray 0 l.length) = putRow id (Sort.ahead w n) b 0 ((sortM l).flatMap memC).toArray := by
      unfold putRowK
      rw [← flat_list]; rfl
    unfold sortWorldK
    rw [e1]
    exact ⟨rfl, ownM (sortM_len l) h, grownM _⟩
  have HI := hide hI'
  clear hI hI' h hcs
  go_enter Tryz.func166, Tryz.ntmps166
  go_wp2
  refine wp_loop_rounds 1 ?_
  rw [rounds_succ]
  go_wp2_with fail
  refine (unhide HI).mono ?_
  rintro e w1 ⟨rfl, ho, hg⟩
  have HO := hide ho
  have HG := hide hg
  clear ho hg HI
  go_wp2
  refine wp_loop_rounds 1 ?_
  rw [rounds_succ]
  go_wp2
  go_end0
  exact ⟨rfl, unhide HO, unhide HG⟩
set_option maxHeartbeats 1000000 in
theorem ins_nil (fv : Value) (w : World) : Calls Tryz.prog 179 #[.slice none 0 0, .int .i64 0, .int .i64 0, fv] w fun e w' => e = .returned (.tuple #[]) ∧ w' = w := by
  go_enter Tryz.func179, Tryz.ntmps179
  go_wp2
  refine wp_loop_rounds 1 ?_
  rw [rounds_succ]
  go_wp2
  go_end0
  exact ⟨rfl, rfl⟩
set_option maxHeartbeats 1000000 in
theorem stable_nil (fv : Value) (w : World) : Calls Tryz.prog 166 #[.slice none 0 0, .int .i64 0, fv] w fun e w' => e = .returned (.tuple #[]) ∧ w' = w := by
  go_enter Tryz.func166, Tryz.ntmps166
  go_wp2
  refine wp_loop_rounds 1 ?_
  rw [rounds_succ]
  go_wp2_with fail
  refine (ins_nil _ _).mono ?_
  rintro e w1 ⟨rfl, rfl⟩
  go_wp2
  refine wp_loop_rounds 1 ?_
  rw [rounds_succ]
  go_wp2
  go_end0
  exact ⟨rfl, rfl⟩
set_option maxHeartbeats 1000000 in
/-- The sort, of a row of the call's own. -/
theorem sort_any (l : List Mem) (hl : l.length ≤ 8) {base : Nat} {v : Value} {w : World} (h : w.ownsRow base 150 5 v l.length (l.flatMap memC)) :
    Calls Tryz.prog 157 #[v, .func (.func 158) #[] #[]] w fun e w' => e = .returned (.tuple #[]) ∧ w'.ownsRow base 150 5 v l.length ((sortM l).flatMap memC) ∧ w.grownBy w' v.ownBlock := by
  have h0 := h
  rcases h.2 with ⟨rfl, e0⟩ | ⟨g, cap, cur, rfl, hb, hg, h1, h2, h3, h4⟩
  · obtain rfl : l = [] := List.length_eq_zero_iff.1 e0
    have HR := hide h0
    clear h h0
    go_enter Tryz.func157, Tryz.ntmps157
    go_wp2_with fail
    refine (stable_nil _ _).mono ?_
    rintro e w1 ⟨rfl, rfl⟩
    go_wp2
    go_end0
    refine ⟨rfl, ?_, ?_⟩
    · have : sortM [] = [] := List.length_eq_zero_iff.1 (sortM_len [])
      rw [this]; exact unhide HR
    · exact ⟨rfl, rfl, rfl, Nat.le_refl _, fun _ _ _ => rfl⟩
  · have HS := hide (stable_at l hl g cap base w h0)
    clear h h0 hg h1 h2 h3 h4 hb
    go_enter Tryz.func157, Tryz.ntmps157
    go_wp2_with fail
    refine (unhide HS).mono ?_
    rintro e w1 ⟨rfl, ho, hg⟩
    have HO := hide ho
    have HG := hide hg
    clear ho hg HS
    go_wp2
    go_end0
    exact ⟨rfl, unhide HO, unhide HG⟩
end Go.Proofs.YtnneljcbelgoeaaGreatDoor.wire
/- What a packet has along (P7). -/
namespace Go.Proofs.YtnneljcbelgoeaaGreatDoor.wire
open Go.RowKit Go.Maps Go.Sort Go.Shelf

def lessAll (l : List Mem) (t : List Mem) : List Mem := l.foldl (fun t m => putM m.less t) t
theorem lessAll_snoc (l : List Mem) (k : Nat) (h : k < l.length) (t : List Mem) : lessAll (l.take (k + 1)) t = putM (l[k]).less (lessAll (l.take k) t) := by
  unfold lessAll
  rw [List.take_succ_eq_append_getElem h, List.foldl_append]; rfl
theorem lessAll_rise : ∀ (l : List Mem) {t : List Mem}, Rise t → Rise (lessAll l t)
  | [], _, h => h
  | m :: r, t, h => lessAll_rise r (putM_rise m.less t h)
theorem lessAll_len : ∀ (l : List Mem) {t : List Mem}, Rise t → (lessAll l t).length ≤ t.length + l.length
  | [], _, _ => Nat.le_refl _
  | m :: r, t, h => by
    have h1 := lessAll_len r (putM_rise m.less t h)
    have h2 := putM_len m.less t h
    have h3 : (putM m.less t).length ≤ t.length + 1 := by rw [h2]; split <;> omega
    show (lessAll r (putM m.less t)).length ≤ _
    simp only [List.length_cons]; omega
theorem picks_mem {x : Nd} {m : Mem} (h : m ∈ x.picks) : m ∈ x.tab ∧ pendB m = true := by
  have h1 := List.mem_of_mem_take h
  have h2 := (sortM_perm _).mem_iff.1 h1
  exact List.mem_filter.1 h2
theorem picks_len (x : Nd) : x.picks.length ≤ 4 := by simp [Nd.picks]; omega
/-- What stands while the picked ones are counted. -/
structure AI (W wr : World) (nb mb : Nat) (cb : Dk) (g cap : Nat) (pv rv : Value) (x : Nd) (n k : Nat) : Prop where
  nat : NAt wr nb mb cb pv rv { x with tab := lessAll (x.picks.take k) x.tab }
  row : wr.ownsRow W.heap.size 150 5 (.slice (some ⟨g, 0, none⟩) n cap) n (x.picks.flatMap memC)
  frm : Frm [mb] W wr
set_option maxHeartbeats 2000000 in
set_option maxRecDepth 100000 in
theorem along_loop {x : Nd} (hx : NdOk x) {W wr : World} {nb mb : Nat} {cb : Dk} {g cap : Nat} {pv rv : Value} {k : Nat} (hk : k < x.picks.length) (h : AI W wr nb mb cb g cap pv rv x x.picks.length k) (K : Mem) (hK : K = x.picks[k]) :
    ∃ w1, (Instr.mapUpdate 117 (.map (some mb)) (.int .i64 K.k.id) (.agg #[.int .i64 K.k.id, .int .i64 K.k.inc, .int .i64 K.k.st, .int .i64 K.due, .int .i64 (K.sends - 1)])).run Tryz.prog (wr.alloc (.cells #[.int .i64 K.k.id, .int .i64 K.k.inc, .int .i64 K.k.st, .int .i64 K.due, .int .i64 (K.sends - 1)] 150)).drew = .ok () w1 ∧ AI W w1 nb mb cb g cap pv rv x x.picks.length (k + 1) := by
  subst hK
  have hm := picks_mem (List.getElem_mem hk)
  have hkey := (key_bounds (hx.keys _ hm.1)).1
  have hl := lessAll_len (x.picks.take k) hx.rise
  have hl2 := hx.len
  have hp := picks_len x
  have hn1 := (h.nat.alloc (.cells #[.int .i64 x.picks[k].k.id, .int .i64 x.picks[k].k.inc, .int .i64 x.picks[k].k.st, .int .i64 x.picks[k].due, .int .i64 (x.picks[k].sends - 1)] 150)).drew
  obtain ⟨w1, hrun, hown, hg⟩ := hn1.map.update law Tryz.underlying117 (key := .int .i64 x.picks[k].k.id) (val := memv x.picks[k].less) (by simp at hl ⊢; unfold maxLen; omega) (key_wf (by omega) (by omega)) (d := .held (memv x.picks[k].less)) (ps := []) rfl
  have hn2 := hn1.put (lessAll_rise _ hx.rise) x.picks[k].less hown hg
  have hb1 : Below wr.heap.size wr (wr.alloc (.cells #[.int .i64 x.picks[k].k.id, .int .i64 x.picks[k].k.inc, .int .i64 x.picks[k].k.st, .int .i64 x.picks[k].due, .int .i64 (x.picks[k].sends - 1)] 150)).drew := ((Below.refl _ _).alloc (Nat.le_refl _) _).drew
  have hf2 : Frm [mb] wr w1 := (Frm.of_below hb1 (Nat.le_refl _)).trans (S' := [mb]) (Frm.of_grown hg (fun j hj => by simp at hj; simp [hj])) (by simp)
  refine ⟨w1, hrun, ⟨?_, ?_, h.frm.trans hf2 (by simp)⟩⟩
  · rw [lessAll_snoc _ _ hk]; exact hn2
  · refine own_frm h.row hf2 (fun j hj => ?_)
    obtain ⟨cs, hcs⟩ := own_blk h.row hj
    obtain ⟨es, c, hmb⟩ := map_blk h.nat.map
    simp only [List.mem_cons, List.not_mem_nil, or_false]
    intro e
    rw [e, hmb] at hcs; cases hcs
theorem cutM {w : World} {base g cap n : Nat} {l : List Mem} (h : w.ownsRow base 150 5 (.slice (some ⟨g, 0, none⟩) n cap) n (l.flatMap memC)) (hn : l.length = n) (j : Nat) (hj : j ≤ n) :
    w.ownsRow base 150 5 (.slice (some ⟨g, 0, none⟩) j cap) j ((l.take j).flatMap memC) := by
  rcases h.2 with ⟨e, _⟩ | ⟨g', cap', cur, e, hb, hg, h1, h2, h3, h4⟩
  · cases e
  · cases e
    refine ⟨by rw [lenM]; simp; omega, .inr ⟨g, cap, cur, rfl, hb, hg, by omega, h2, h3, ?_⟩⟩
    have e1 : l.flatMap memC = (l.take j).flatMap memC ++ (l.drop j).flatMap memC := by rw [← List.flatMap_append, List.take_append_drop]
    have e2 : cur.toList.take (j * 5) = (cur.toList.take (n * 5)).take (j * 5) := by rw [List.take_take, Nat.min_eq_left (Nat.mul_le_mul_right 5 hj)]
    rw [e2, h4, e1, List.take_left' (by rw [lenM]; simp; omega)]
set_option maxHeartbeats 4000000 in
set_option maxRecDepth 100000 in
theorem along_any {x : Nd} (hx : NdOk x) {nb mb : Nat} {cb : Dk} {pv rv : Value} {W : World} (hn : NAt W nb mb cb pv rv x) :
    Calls Tryz.prog 139 #[.pointer (some ⟨nb, 0, none⟩)] W fun e w' => ∃ v, e = .returned v ∧ w'.ownsRow W.heap.size 76 3 v (x.picks.map Mem.k).length ((x.picks.map Mem.k).flatMap keyC) ∧ NAt w' nb mb cb pv rv x.along ∧ Frm [mb] W w' := by
  have HX := hide hx
  have HN := hide hn
  have HM := hide (members_any hx hn)
  have hlen := hx.len
  have hlt := hn.lt
  clear hx hn
  go_enter Tryz.func139, Tryz.ntmps139
  go_wp2_with fail
  refine (unhide HM).mono ?_
  rintro e w1 ⟨v1, rfl, ho1, hb1⟩
  have HK := hide (keepM_any x.tab pendB 110 #[] #[] ho1 (by omega) (enters_of Tryz.func110 (by kernel_rfl) rfl) (fun m W' _ => pend_any m W'))
  have HB1 := hide hb1
  clear ho1 hb1 HM
  go_wp2_with fail
  refine (unhide HK).mono ?_
  rintro e w2 ⟨v2, rfl, ho2, hb2⟩
  have hb02 : Below W.heap.size W w2 := (unhide HB1).trans (hb2.mono (unhide HB1).size)
  have ho2' := own_mono ho2 (unhide HB1).size
  have hpl : (x.tab.filter pendB).length ≤ 8 := Nat.le_trans (List.length_filter_le _ _) hlen
  have HS := hide (sort_any (x.tab.filter pendB) hpl ho2')
  have HB2 := hide hb02
  have HO2 := hide ho2'
  clear ho2 ho2' hb2 hb02 HK HB1
  go_wp2_with fail
  refine (unhide HS).mono ?_
  rintro e w3 ⟨rfl, ho3, hg3⟩
  have hb03 : Below W.heap.size W w3 := (unhide HB2).grown hg3 (unhide HB2).size (fun j hj => (own_lt (unhide HO2) hj).1)
  have HB3 := hide hb03
  clear hg3 hb03 HS HB2 HO2
  generalize hP : (x.tab.filter pendB).length = P at ho3 hpl
  have hPL : (sortM (x.tab.filter pendB)).length = P := by rw [sortM_len]; exact hP
  have HPL := hide hPL
  clear hP hPL
  rcases ho3.2 with ⟨rfl, e0⟩ | ⟨g, cap, cur, rfl, hgb, hg, h1, h2, h3, h4⟩
  · -- nothing to pass on
    subst e0
    have hpk : x.picks = [] := by
      have : sortM (x.tab.filter pendB) = [] := List.length_eq_zero_iff.1 (unhide HPL)
      simp [Nd.picks, this]
    have HPK := hide hpk
    clear hpk ho3 HPL
    go_wp2
    refine wp_loop_rounds 1 ?_
    rw [rounds_succ]
    go_wp2_with fail
    refine (turnMK_nil Mem.k _ _).mono ?_
    rintro e w4 ⟨v', rfl, ho4, hb4⟩
    have HO4 := hide ho4
    have HB4 := hide hb4
    clear ho4 hb4
    go_wp2
    go_ret
    have e1 : x.along = x := by simp [Nd.along, unhide HPK]
    have hb := (unhide HB3).trans ((unhide HB4).mono (unhide HB3).size)
    rw [e1]
    refine ⟨v', rfl, ?_, (unhide HN).below hb, Frm.of_below hb (Nat.le_refl _)⟩
    rw [unhide HPK]
    exact own_mono (unhide HO4) (unhide HB3).size
  · have hcm : cap ≤ 9223372036854775807 := h2
    clear hg h2 h3 h4 hgb
    have HO3 := hide ho3
    clear ho3
    obtain ⟨N, hN, hN4, hNP⟩ : ∃ N, x.picks.length = N ∧ N ≤ 4 ∧ N ≤ P ∧ (N = P ∨ (N = 4 ∧ 4 < P)) := by
      have e : x.picks.length = min 4 P := by simp [Nd.picks, unhide HPL]
      rcases Nat.le_total P 4 with h | h
      · exact ⟨P, by rw [e, Nat.min_eq_right h], h, Nat.le_refl _, .inl rfl⟩
      · rcases Nat.eq_or_lt_of_le h with h' | h'
        · exact ⟨P, by rw [e, ← h']; rfl, by omega, Nat.le_refl _, .inl rfl⟩
        · exact ⟨4, by rw [e, Nat.min_eq_left h], Nat.le_refl _, h, .inr ⟨rfl, h'⟩⟩
    obtain ⟨hNP, hNc⟩ := hNP
    have hrow : w3.ownsRow W.heap.size 150 5 (.slice (some ⟨g, 0, none⟩) N cap) N (x.picks.flatMap memC) := by
      have := cutM (unhide HO3) (unhide HPL) N hNP
      have e : x.picks = (sortM (x.tab.filter pendB)).take N := by
        rcases hNc with rfl | ⟨rfl, _⟩
        · rw [List.take_of_length_le (by rw [unhide HPL]; exact Nat.le_refl _), Nd.picks, List.take_of_length_le (by rw [unhide HPL]; exact hN4)]
        · rfl
      rw [e]; exact this
    have hai : AI W w3 nb mb cb g cap pv rv x x.picks.length 0 := by
      rw [hN]
      exact ⟨(unhide HN).below (unhide HB3), hrow, Frm.of_below (unhide HB3) (Nat.le_refl _)⟩
    have HA := hide hai
    have hm3 : min (P : Int) 4 = N := by
      rcases hNc with rfl | ⟨rfl, h⟩
      · exact Int.min_eq_left (by omega)
      · exact Int.min_eq_right (by omega)
    have HNN := hide hN
    clear hrow hai HO3 hN HB3
    go_wp2
    clear hm3 HPL hNc
    go_loopw [18] (fun i wr => ∃ k : Nat, k ≤ N ∧ i = .int .i64 k ∧ Hid (AI W wr nb mb cb g cap pv rv x x.picks.length k)) (fun i _ => N - (Go.RowKit.intOf i).toNat)
    case atStart => exact ⟨0, Nat.zero_le _, rfl, HA⟩
    case round =>
      obtain ⟨k, hk, rfl, HI⟩ := hrel
      by_cases hlt : k < N
      · have hkp : k < x.picks.length := by rw [unhide HNN]; exact hlt
        have hrk := rowM (unhide HI).row k hkp
        obtain ⟨w1', hrun, hai⟩ := along_loop (unhide HX) hkp (unhide HI) x.picks[k] rfl
        have hms := (unhide HX).sends _ (picks_mem (List.getElem_mem hkp)).1
        have c7 := (unhide HI).nat.c_map
        have hltn := (unhide HI).nat.lt
        simp only [Nat.zero_add] at hrk
        generalize x.picks[k] = K at hrk hrun hms
        obtain ⟨c0, c1, c2, c3, c4⟩ := hrk
        have HA1 := hide hai
        clear hai HI hkp
        go_wp2
        refine wp_region_still_tail 8 (by kernel_rfl) (by kernel_rfl) ?_
        simp only [List.take_succ_cons, List.take_zero, List.drop_succ_cons, List.drop_zero]
        change wpStill _ _ (wr.alloc (.cells #[.int .i64 K.k.id, .int .i64 K.k.inc, .int .i64 K.k.st, .int .i64 K.due, .int .i64 (K.sends - 1)] 150)).drew (fun a' => wpList _ _ _ _ a' (wr.alloc (.cells #[.int .i64 K.k.id, .int .i64 K.k.inc, .int .i64 K.k.st, .int .i64 K.due, .int .i64 (K.sends - 1)] 150)).drew) _ _
        repeat still_step
        refine wpStill_nil ?_
        go_wp2
        go_roundw
        case rel => exact ⟨k + 1, by omega, by go_num, HA1⟩
        case measure => simp [Go.RowKit.intOf]; omega
      · have e : k = N := by omega
        subst e
        have hT := turnMK_any x.picks Mem.k 143 #[] #[] (unhide HI).row (by rw [unhide HNN]; omega) (enters_of Tryz.func143 (by kernel_rfl) rfl) (fun m _ W' _ => key_any m W')
        rw [unhide HNN] at hT
        have HT := hide hT
        clear hT
        go_wp2_with fail
        refine (unhide HT).mono ?_
        rintro e w4 ⟨v', rfl, ho4, hb4⟩
        have HO4 := hide ho4
        have HB4 := hide hb4
        clear ho4 hb4 HT
        go_wp2
        go_ret
        refine ⟨v', rfl, own_mono (unhide HO4) (unhide HI).frm.size, ?_, (unhide HI).frm.step (unhide HB4)⟩
        have hn' := (unhide HI).nat
        rw [List.take_of_length_le (by rw [unhide HNN]; exact Nat.le_refl _)] at hn'
        exact hn'.below (unhide HB4)
end Go.Proofs.YtnneljcbelgoeaaGreatDoor.wire
/- The updates that ride along: the least sent, by rising ids. No Go here. -/
namespace Go.Proofs.YtnneljcbelgoeaaGreatDoor.wire
open Go.Sort

def lexLt (a b : Mem) : Bool := decide (b.sends < a.sends) || (decide (a.sends = b.sends) && decide (a.k.id < b.k.id))
theorem lex_swo : SWO lexLt := by
  refine ⟨fun a => by simp [lexLt], fun a b c h1 h2 => ?_, fun a b c h1 h2 => ?_⟩
  · simp only [lexLt, Bool.or_eq_true, Bool.and_eq_true, decide_eq_true_eq] at *
    omega
  · simp only [lexLt, Bool.or_eq_false_iff, Bool.and_eq_false_iff, decide_eq_false_iff_not] at *
    omega
theorem sent_eq (a b : Mem) : sentLt a b = decide (b.sends < a.sends) := by
  simp only [sentLt, sentCmp]
  by_cases h1 : b.sends < a.sends
  · simp [h1]
  · by_cases h2 : a.sends < b.sends
    · simp [h1, h2]
    · simp [h1, h2]
theorem lex_eq {a b : Mem} (h : b.k.id < a.k.id) : sentLt a b = lexLt a b := by
  rw [sent_eq, lexLt]
  have : decide (a.k.id < b.k.id) = false := by simp; omega
  rw [this]
  simp
theorem inner_eq : ∀ (j : Nat) (d : Array Mem), j < d.size → (∀ i, i < j → d[i]!.k.id < d[j]!.k.id) → insInner sentLt 0 j d = insInner lexLt 0 j d
  | 0, _, _, _ => rfl
  | j + 1, d, hj, h => by
    unfold insInner
    rw [lex_eq (h j (by omega))]
    split
    · refine inner_eq j _ (by rw [swp_size]; omega) (fun i hi => ?_)
      rw [swp_right d (j + 1) j (by omega), swp_other d (j + 1) j i (by omega) (by omega)]
      exact h i (by omega)
    · rfl
/-- What an insertion keeps. -/
theorem inner_keeps (lt : Mem → Mem → Bool) : ∀ (j : Nat) (d : Array Mem), j < d.size → (insInner lt 0 j d).size = d.size ∧ (∀ q, j < q → (insInner lt 0 j d)[q]! = d[q]!) ∧ ∀ P : Mem → Prop, (∀ p, p ≤ j → P d[p]!) → ∀ p, p ≤ j → P (insInner lt 0 j d)[p]!
  | 0, _, _ => ⟨rfl, fun _ _ => rfl, fun _ h => h⟩
  | j + 1, d, hj => by
    unfold insInner
    split
    · obtain ⟨a, b, c⟩ := inner_keeps lt j (swp d (j + 1) j) (by rw [swp_size]; omega)
      have e1 := swp_right d (j + 1) j (by omega)
      have e2 := swp_left d (j + 1) j hj (by omega)
      refine ⟨by rw [a, swp_size], fun q hq => by rw [b q (by omega), swp_other d (j + 1) j q (by omega) (by omega)], fun P hP p hp => ?_⟩
      by_cases e : p = j + 1
      · subst e
        rw [b (j + 1) (by omega), e2]
        exact hP j (by omega)
      · refine c P (fun p' hp' => ?_) p (by omega)
        by_cases e' : p' = j
        · subst e'; rw [e1]; exact hP _ (by omega)
        · rw [swp_other d (j + 1) j p' (by omega) e']; exact hP p' (by omega)
    · exact ⟨rfl, fun _ _ => rfl, fun _ h => h⟩
theorem outer_eq (b : Nat) : ∀ (m i : Nat) (d : Array Mem), b - i = m → b ≤ d.size → (∀ p q, p < q → i ≤ q → q < b → d[p]!.k.id < d[q]!.k.id) → insOuter sentLt 0 b i d = insOuter lexLt 0 b i d
  | 0, i, d, hm, _, _ => by
    unfold insOuter
    rw [if_neg (by omega), if_neg (by omega)]
  | m + 1, i, d, hm, hb, h => by
    unfold insOuter
    rw [if_pos (by omega), if_pos (by omega), inner_eq i d (by omega) (fun p hp => h p i hp (Nat.le_refl _) (by omega))]
    obtain ⟨k1, k2, k3⟩ := inner_keeps lexLt i d (by omega)
    refine outer_eq b m (i + 1) _ (by omega) (by rw [k1]; exact hb) (fun p q hpq hiq hqb => ?_)
    rw [k2 q (by omega)]
    by_cases e : p ≤ i
    · exact k3 (fun z => z.k.id < d[q]!.k.id) (fun p' hp' => h p' q (by omega) (by omega) hqb) p e
    · rw [k2 p (by omega)]
      exact h p q hpq (by omega) hqb
/-- Which of two is sent first. -/
def befM (a b : Mem) : Prop := b.sends < a.sends ∨ (a.sends = b.sends ∧ a.k.id < b.k.id)
theorem sortM_lex (l : List Mem) (h : Rise l) : sortM l = (insertionSort lexLt l.toArray 0 l.length).toList := by
  unfold sortM insertionSort
  rw [outer_eq l.length (l.length - (0 + 1)) (0 + 1) l.toArray rfl (by simp) (fun p q hpq _ hq => ?_)]
  have := List.pairwise_iff_getElem.1 h p q (by omega) hq hpq
  simpa [show p < l.length by omega, hq] using this
theorem sortM_sorted (l : List Mem) (h : Rise l) : (sortM l).Pairwise befM := by
  have hlen := sortM_len l
  obtain ⟨h1, h2⟩ := insertionSort_holds (lt := lexLt) lex_swo l.toArray 0 l.length (Nat.zero_le _) (by simp)
  have hnd : (sortM l).Pairwise (fun a b => a.k.id ≠ b.k.id) := by
    have h0 : l.Pairwise (fun a b => a.k.id ≠ b.k.id) := h.imp (fun {a b} hab => by omega)
    exact (sortM_perm l).symm.pairwise h0 (fun {a b} hab => Ne.symm hab)
  have hs : (insertionSort lexLt l.toArray 0 l.length).size = l.length := by rw [h1.1]; simp
  have e := sortM_lex l h
  rw [List.pairwise_iff_getElem] at hnd ⊢
  intro i j hi hj hij
  have hne := hnd i j hi hj hij
  have hx := h2 i j (Nat.zero_le _) hij (by omega)
  have g : ∀ k (hk : k < (sortM l).length), (insertionSort lexLt l.toArray 0 l.length)[k]! = (sortM l)[k] := fun k hk => by
    have hk2 : k < (insertionSort lexLt l.toArray 0 l.length).size := by omega
    rw [getElem!_pos _ k hk2]
    simp only [e, Array.getElem_toList]
  rw [g i hi, g j hj] at hx
  simp only [lexLt, Bool.or_eq_false_iff, Bool.and_eq_false_iff, decide_eq_false_iff_not] at hx
  unfold befM
  omega

/-- An update to be sent, and how often it was. -/
structure RU where
  k : K3
  sent : Int
instance : Inhabited RU := ⟨⟨⟨0, 0, 0⟩, 0⟩⟩
def befU (u v : RU) : Prop := u.sent < v.sent ∨ (u.sent = v.sent ∧ u.k.id < v.k.id)
def befB (u v : RU) : Bool := decide (u.sent < v.sent) || (decide (u.sent = v.sent) && decide (u.k.id < v.k.id))
theorem befB_iff (u v : RU) : befB u v = true ↔ befU u v := by simp [befB, befU]
/-- The best of the first n. -/
def bestN (l : List RU) : Nat → Nat
  | 0 => 0
  | n + 1 => if befB l[n]! l[bestN l n]! then n else bestN l n
def bestI (l : List RU) : Nat := bestN l l.length
theorem befU_trans {a b c : RU} (h1 : befU a b) (h2 : befU b c) : befU a c := by unfold befU at *; omega
theorem bestN_lt (l : List RU) : ∀ n, bestN l n ≤ n - 1
  | 0 => Nat.le_refl _
  | n + 1 => by
    unfold bestN
    split
    · omega
    · have := bestN_lt l n; omega
theorem bestN_best (l : List RU) : ∀ n, n ≤ l.length → ∀ i, i < n → ¬ befU l[i]! l[bestN l n]!
  | 0, _, i, hi => by omega
  | n + 1, hn, i, hi => by
    have ih := bestN_best l n (by omega)
    unfold bestN
    split
    · rename_i h
      rw [befB_iff] at h
      by_cases e : i = n
      · subst e; unfold befU; omega
      · intro hh; exact ih i (by omega) (befU_trans hh h)
    · rename_i h
      by_cases e : i = n
      · subst e
        rw [← befB_iff]
        exact h
      · exact ih i (by omega)
theorem cons_erase_perm {α : Type} : ∀ (l : List α) (i : Nat) (h : i < l.length), (l[i] :: l.eraseIdx i).Perm l
  | [], _, h => absurd h (by simp)
  | a :: r, 0, _ => by simp
  | a :: r, i + 1, h => by
    have ih := cons_erase_perm r i (by simpa using h)
    simp only [List.getElem_cons_succ, List.eraseIdx_cons_succ]
    exact (List.Perm.swap _ _ _).trans (ih.cons a)
/-- Of a list whose best is known, the best is found. -/
theorem best_is {l s : List RU} {b : RU} (hp : l.Perm (b :: s)) (hb : ∀ u ∈ s, befU b u) : bestI l < l.length ∧ l[bestI l]! = b ∧ (l.eraseIdx (bestI l)).Perm s := by
  have hlen := hp.length_eq
  simp only [List.length_cons] at hlen
  have hlt : bestI l < l.length := by have := bestN_lt l l.length; unfold bestI; omega
  have hbl : b ∈ l := hp.mem_iff.2 (List.mem_cons_self ..)
  obtain ⟨i, hi, e⟩ := List.getElem_of_mem hbl
  have hmin := bestN_best l l.length (Nat.le_refl _) i hi
  rw [getElem!_pos l i hi, e] at hmin
  have hm : l[bestI l]! ∈ b :: s := by
    rw [getElem!_pos l _ hlt]
    exact hp.mem_iff.1 (List.getElem_mem hlt)
  have hx : l[bestI l]! = b := by
    rcases List.mem_cons.1 hm with h | h
    · exact h
    · exact absurd (hb _ h) hmin
  refine ⟨hlt, hx, ?_⟩
  have h1 := cons_erase_perm l (bestI l) hlt
  rw [getElem!_pos l _ hlt] at hx
  rw [hx] at h1
  exact (h1.trans hp).cons_inv
/-- At most n ride along: who, who is left, who is to be sent again. -/
def updGo (sends : Int) : Nat → List RU → List K3 × List RU × List RU
  | 0, rest => ([], rest, [])
  | n + 1, rest => if rest.length = 0 then ([], rest, []) else
    let u := rest[bestI rest]!
    let q := updGo sends n (rest.eraseIdx (bestI rest))
    (u.k :: q.1, q.2.1, (if u.sent + 1 < sends then [⟨u.k, u.sent + 1⟩] else []) ++ q.2.2)
def RU.more (u : RU) : RU := ⟨u.k, u.sent + 1⟩
theorem upd_is (sends : Int) : ∀ (n : Nat) {l s : List RU}, l.Perm s → s.Pairwise befU →
    (updGo sends n l).1 = (s.take n).map RU.k ∧ (updGo sends n l).2.1.Perm (s.drop n) ∧ (updGo sends n l).2.2 = ((s.take n).map RU.more).filter (fun u => decide (u.sent < sends))
  | 0, l, s, hp, _ => ⟨by simp [updGo], by simpa [updGo] using hp, by simp [updGo]⟩
  | n + 1, l, s, hp, hs => by
    cases s with
    | nil =>
      have : l = [] := List.length_eq_zero_iff.1 hp.length_eq
      subst this
      simp [updGo]
    | cons b s =>
      have hb := List.pairwise_cons.1 hs
      obtain ⟨h1, h2, h3⟩ := best_is hp hb.1
      obtain ⟨i1, i2, i3⟩ := upd_is sends n h3 hb.2
      unfold updGo
      rw [if_neg (by omega)]
      simp only [h2, i1, i3, List.take_succ_cons, List.map_cons, List.drop_succ_cons, List.filter_cons]
      refine ⟨trivial, i2, ?_⟩
      by_cases e : b.sent + 1 < sends
      · simp [e, RU.more]
      · simp [e, RU.more]
end Go.Proofs.YtnneljcbelgoeaaGreatDoor.wire
/- The others' keys. -/
namespace Go.Proofs.YtnneljcbelgoeaaGreatDoor.wire
open Go.RowKit Go.Maps

/-- The others' keys. -/
def Nd.others (x : Nd) : List K3 := (x.tab.filter (fun m => !(m.k.id == x.c.self))).map Mem.k
set_option maxHeartbeats 1000000 in
theorem others_any {x : Nd} (hx : NdOk x) {nb mb : Nat} {cb : Dk} {pv rv : Value} {W : World} (hn : NAt W nb mb cb pv rv x) :
    Calls Tryz.prog 109 #[.pointer (some ⟨nb, 0, none⟩)] W fun e w' => ∃ v, e = .returned v ∧ w'.ownsRow W.heap.size 76 3 v x.others.length (x.others.flatMap keyC) ∧ Below W.heap.size W w' := by
  have hlen := hx.len
  have hlen1 : x.tab.length ≤ 1000 := by omega
  have hlen2 : (x.tab.filter (fun m => !(m.k.id == x.c.self))).length ≤ 1000 := Nat.le_trans (List.length_filter_le _ _) hlen1
  have hE1 := enters_of Tryz.func142 (by kernel_rfl) rfl
  have hE2 := enters_of Tryz.func143 (by kernel_rfl) rfl
  have HM := hide (members_any hx hn)
  have HN := hide hn
  have hoth : x.others = (x.tab.filter (fun m => !(m.k.id == x.c.self))).map Mem.k := rfl
  rw [hoth]
  clear hx hn hoth
  go_enter Tryz.func109, Tryz.ntmps109
  go_wp2_with fail
  refine (unhide HM).mono ?_
  rintro e w1 ⟨v1, rfl, ho1, hb1⟩
  have HO1 := hide ho1
  have HB1 := hide hb1
  clear ho1 hb1 HM
  go_wp2_with fail
  refine (dropM_any x.tab (fun m => m.k.id == x.c.self) 142 #[.pointer (some ⟨nb, 0, none⟩)] #[] (unhide HO1) hlen1 hE1 (fun m W' hW' => isSelf_any (((unhide HN).below (unhide HB1)).below hW') m)).mono ?_
  rintro e w2 ⟨v2, rfl, ho2, hb2⟩
  have HO2 := hide ho2
  have HB2 := hide ((unhide HB1).trans (hb2.mono (unhide HB1).size))
  clear ho2 hb2 HO1 HB1
  go_wp2_with fail
  refine (turnMK_any (x.tab.filter (fun m => !(m.k.id == x.c.self))) Mem.k 143 #[] #[] (unhide HO2) hlen2 hE2 (fun m _ W' _ => key_any m W')).mono ?_
  rintro e w3 ⟨v3, rfl, ho3, hb3⟩
  have HO3 := hide (own_mono ho3 (unhide HB2).size)
  have HB3 := hide ((unhide HB2).trans (hb3.mono (unhide HB2).size))
  clear ho3 hb3 HO2 HB2
  go_wp2
  go_ret
  exact ⟨v3, rfl, unhide HO3, unhide HB3⟩
end Go.Proofs.YtnneljcbelgoeaaGreatDoor.wire
/- THE PLAIN MATHEMATICS OF A TICK (P9). No Go here. -/
namespace Go.Proofs.YtnneljcbelgoeaaGreatDoor.wire

/-- One draw, out of the list, at its place. -/
def drawZ (l : List Int) (a : Nat) (n : Int) : Int := (if l.getD (a % l.length) 0 < 0 then -(l.getD (a % l.length) 0 + 1) else l.getD (a % l.length) 0).tmod n
def Nd.mute (x : Nd) (n : Int) : Bool := decide (x.dl.length = 0) || decide (n < 1)
def Nd.drawn (x : Nd) (n : Int) : Int := if x.mute n then 0 else drawZ x.dl x.dat n
def Nd.drew (x : Nd) (n : Int) : Nd := if x.mute n then x else { x with dat := x.dat + 1 }
def Nd.endRelays (x : Nd) : Nd := { x with rels := x.rels.filter (fun r => !decide (r.till ≤ x.clock)) }
def overB (clock : Int) (m : Mem) : Bool := decide (m.k.st = 2) && decide (m.due ≤ clock)
def Mem.dead (m : Mem) : K3 := ⟨m.k.id, m.k.inc, 3⟩
def Nd.endSuspects (x : Nd) : Nd := (x.tab.filter (overB x.clock)).foldl (fun y m => y.hear m.dead) x
def Nd.present (x : Nd) : List Int := (x.others.filter thereB).map K3.id
def Nd.able (x : Nd) : List Int := x.present.filter (fun i => !(i == x.ptgt))
def Nd.asks : Nat → List Int → Nd → List Pk × Nd
  | 0, _, x => ([], x)
  | n + 1, able, x =>
    let y := x.drew able.length
    let r := y.along.asks n (able.eraseIdx (x.drawn able.length).toNat)
    (y.direct 3 (able.getD (x.drawn able.length).toNat 0) y.pnum y.ptgt :: r.1, r.2)
def Nd.askOthers (x : Nd) : List Pk × Nd := if x.pack then ([], x) else x.asks (min x.c.proxies.toNat x.able.length) x.able
def Nd.idle (x : Nd) : Nd := { x with ptgt := 0, pnum := 0, pst := 0, pack := false }
def Nd.endProbe (x : Nd) : Nd :=
  if x.pack || !decide ((atM x.ptgt x.tab).k.st = 1) then x.idle else x.idle.hear ⟨(atM x.ptgt x.tab).k.id, (atM x.ptgt x.tab).k.inc, 2⟩
def Nd.goOn (x : Nd) : List Pk × Nd :=
  if x.ptgt = 0 then ([], x) else if x.clock - x.pst = x.c.wait then x.askOthers else if x.clock - x.pst = x.c.period then ([], x.endProbe) else ([], x)
def swapL (l : List Int) (i j : Nat) : List Int := (l.set i (l.getD j 0)).set j (l.getD i 0)
/-- The order of a pass: swaps from place i down to place 1. -/
def Nd.mixFrom : Nat → List Int → Nd → List Int × Nd
  | 0, l, x => (l, x)
  | i + 1, l, x => (x.drew (i + 2)).mixFrom i (swapL l (i + 1) (x.drawn (i + 2)).toNat)
def Nd.mixed (x : Nd) (l : List Int) : List Int × Nd := x.mixFrom (l.length - 1) l
/-- The pass, begun anew if it is over. -/
def Nd.renew (x : Nd) : Nd := if x.pass.length = 0 then { (x.mixed x.present).2 with pass := (x.mixed x.present).1 } else x
def Nd.begin (x : Nd) (t : Int) (r : List Int) : Nd := { x with pass := r, num := x.num + 1, ptgt := t, pnum := x.num + 1, pst := x.clock, pack := false }
def Nd.probeOne (x : Nd) : List Pk × Nd :=
  match x.pass with
  | [] => ([], x)
  | t :: r => ([(x.begin t r).direct 1 t (x.num + 1) t], (x.begin t r).along)
def Nd.probeNext (x : Nd) : List Pk × Nd := if !decide (x.ptgt = 0) || x.left then ([], x) else x.renew.probeOne
def Nd.later (x : Nd) : Nd := { x with clock := x.clock + 1 }
def Nd.tick (x : Nd) : List Pk × Nd :=
  let y := x.later.endRelays.endSuspects.goOn
  let z := y.2.probeNext
  (y.1 ++ z.1, z.2)
theorem drawZ_bd (l : List Int) (a : Nat) {n : Int} (h : 1 ≤ n) : 0 ≤ drawZ l a n ∧ drawZ l a n < n := by
  unfold drawZ
  generalize l.getD (a % l.length) 0 = k
  have : 0 ≤ (if k < 0 then -(k + 1) else k) := by split <;> omega
  rw [Int.tmod_eq_emod_of_nonneg this]
  exact ⟨Int.emod_nonneg _ (by omega), Int.emod_lt_of_pos _ (by omega)⟩
theorem drawn_bd (x : Nd) {n : Int} (h : 1 ≤ n) : 0 ≤ x.drawn n ∧ x.drawn n < n := by
  unfold Nd.drawn
  split
  · omega
  · exact drawZ_bd _ _ h
end Go.Proofs.YtnneljcbelgoeaaGreatDoor.wire
/- THE DOCUMENT'S NODE as plain data, and all of its calls as plain functions. No Go here. -/
namespace Go.Proofs.YtnneljcbelgoeaaGreatDoor.wire

/-- One of the document's table. -/
structure RM where
  k : K3
  due : Int
instance : Inhabited RM := ⟨⟨⟨0, 0, 0⟩, 0⟩⟩
/-- The document's node. -/
structure Rn where
  c : Cfg
  draws : List Int
  drawn : Nat
  clock : Int
  seq : Int
  self : K3
  others : List RM
  pass : List Int
  probe : Int
  start : Int
  no : Int
  acked : Bool
  queue : List RU
  rels : List Rel
  dropped : Int
  evs : List K3
  lost : Int
  out : List Pk
def Rn.new (c : Cfg) (dl : List Int) : Rn := ⟨c, dl, 0, 0, 0, ⟨c.self, 1, 1⟩, [], [], 0, 0, 0, false, [], [], 0, [], 0, []⟩
def Rn.changed (r : Rn) (k : K3) : Rn :=
  { r with evs := if r.evs.length = 8 then r.evs else r.evs ++ [k], lost := if r.evs.length = 8 then r.lost + 1 else r.lost, queue := r.queue.filter (fun u => !(u.k.id == k.id)) ++ [⟨k, 0⟩] }
def Rn.own (r : Rn) (k : K3) : Rn :=
  if decide (r.self.st = 4) || (decide (k.st = 1) || (decide (k.inc < r.self.inc) || decide (k.inc = 1073741824))) then r
  else ({ r with self := ⟨r.self.id, k.inc + 1, r.self.st⟩ } : Rn).changed ⟨r.self.id, k.inc + 1, r.self.st⟩
def putR (m : RM) : List RM → List RM
  | [] => [m]
  | y :: r => if m.k.id < y.k.id then m :: y :: r else if m.k.id = y.k.id then m :: r else y :: putR m r
def findR (i : Int) (t : List RM) : Option RM := t.find? (fun m => m.k.id == i)
def Rn.put (r : Rn) (k : K3) : Rn :=
  ({ r with others := putR ⟨k, if k.st = 2 then r.clock + r.c.suspect else 0⟩ r.others, pass := if 2 < k.st then r.pass.filter (fun i => !(i == k.id)) else r.pass } : Rn).changed k
def Rn.heard (r : Rn) (k : K3) : Rn :=
  if k.id = r.self.id then r.own k else
  match findR k.id r.others with
  | some o => if greaterB k o.k then r.put k else r
  | none => if r.others.length = 7 then r else r.put k
def Rn.hears (r : Rn) (l : List K3) : Rn := l.foldl Rn.heard r

def Rn.updates (r : Rn) : List K3 × Rn := ((updGo r.c.sends 4 r.queue).1, { r with queue := (updGo r.c.sends 4 r.queue).2.1 ++ (updGo r.c.sends 4 r.queue).2.2 })
/-- What goes out by itself. -/
def Rn.sendTo (r : Rn) (dest kind seq tgt : Int) (ups : List K3) : Rn := { r with out := r.out ++ [⟨dest, bytesM ⟨kind, r.self.id, r.self.inc, seq, tgt, ups⟩⟩] }
/-- What goes out with what rides along. -/
def Rn.direct (r : Rn) (dest kind seq tgt : Int) : Rn := r.updates.2.sendTo dest kind seq tgt r.updates.1

def Rn.ackd (r : Rn) (m : M6) : Rn :=
  let r1 : Rn := { r with acked := if 0 < r.probe ∧ m.seq = r.no ∧ m.tgt = r.probe then true else r.acked, rels := r.rels.filter (fun q => !(itsB m q)) }
  match (r.rels.filter (itsB m)).getLast? with
  | some d => if 0 < d.num then r1.direct d.asker 2 d.under d.tgt else r1
  | none => r1
def Rn.askd (r : Rn) (m : M6) : Rn :=
  if m.tgt = r.self.id then r.direct m.frm 2 m.seq r.self.id else if r.rels.length = 4 then r else
    ({ r with seq := r.seq + 1, rels := r.rels ++ [⟨m.tgt, r.seq + 1, m.frm, m.seq, r.clock + r.c.period⟩] } : Rn).direct m.tgt 1 (r.seq + 1) m.tgt
/-- One's own key among the others', by rising ids. -/
def putSelf (s : K3) : List K3 → List K3
  | [] => [s]
  | a :: r => if s.id < a.id then s :: a :: r else a :: putSelf s r
def Rn.tabled (r : Rn) (m : M6) : Rn := r.sendTo m.frm 5 m.seq 0 (putSelf r.self (r.others.map RM.k))
def Rn.deed (r : Rn) (m : M6) : Rn :=
  if m.kind = 1 then (if m.tgt = r.self.id then r.direct m.frm 2 m.seq r.self.id else r) else if m.kind = 2 then r.ackd m else if m.kind = 3 then r.askd m else if m.kind = 4 then r.tabled m else r
def Rn.receive (r : Rn) (b : List UInt8) : Rn :=
  if decB b && !decide ((readM b).frm = r.self.id) then ((({ r with out := [] } : Rn).heard ⟨(readM b).frm, (readM b).inc, 1⟩).hears (readM b).ups).deed (readM b) else { r with out := [], dropped := r.dropped + 1 }
def Rn.joinErr (r : Rn) (i : Int) : Int := if r.self.st = 4 then 4 else if isIdB i && !decide (i = r.self.id) then 0 else 3
def Rn.join (r : Rn) (i : Int) : Rn := ({ r with out := [], seq := r.seq + 1 } : Rn).sendTo i 4 (r.seq + 1) 0 []
def Rn.leave (r : Rn) : Rn := ({ r with self := ⟨r.self.id, r.self.inc, 4⟩ } : Rn).changed ⟨r.self.id, r.self.inc, 4⟩

def Rn.draw (r : Rn) (n : Int) : Int × Rn := if r.draws.length = 0 then (0, r) else (drawZ r.draws r.drawn n, { r with drawn := r.drawn + 1 })
def Rn.later (r : Rn) : Rn := { r with out := [], clock := r.clock + 1, rels := r.rels.filter (fun q => decide (r.clock + 1 < q.till)) }
/-- The suspects whose time is up, among the first i. -/
def Rn.sus (r : Rn) : Nat → Rn
  | 0 => r
  | i + 1 => if decide ((r.sus i).others[i]!.k.st = 2) && decide ((r.sus i).others[i]!.due ≤ (r.sus i).clock) then (r.sus i).heard ⟨(r.sus i).others[i]!.k.id, (r.sus i).others[i]!.k.inc, 3⟩ else r.sus i
def Rn.present (r : Rn) : List Int := (r.others.filter (fun m => decide (m.k.st ≤ 2))).map (fun m => m.k.id)
def Rn.asks : Nat → List Int → Rn → Rn
  | 0, _, r => r
  | n + 1, l, r => if l.length = 0 then r else ((r.draw l.length).2.direct (l.getD (r.draw l.length).1.toNat 0) 3 (r.draw l.length).2.no (r.draw l.length).2.probe).asks n (l.eraseIdx (r.draw l.length).1.toNat)
def Rn.ask (r : Rn) : Rn := r.asks r.c.proxies.toNat ((r.others.filter (fun m => decide (m.k.st ≤ 2) && !(m.k.id == r.probe))).map (fun m => m.k.id))
def Rn.endProbe (r : Rn) : Rn :=
  match findR r.probe r.others with
  | some o => if !r.acked && decide (o.k.st = 1) then ({ r with probe := 0 } : Rn).heard ⟨r.probe, o.k.inc, 2⟩ else { r with probe := 0 }
  | none => { r with probe := 0 }
def Rn.probing (r : Rn) : Rn :=
  if r.clock - r.start = r.c.wait ∧ r.acked = false then (if r.clock - r.start < r.c.period then r.ask else r.ask.endProbe)
  else if r.clock - r.start < r.c.period then r else r.endProbe
def Rn.mixFrom : Nat → List Int → Rn → List Int × Rn
  | 0, l, r => (l, r)
  | i + 1, l, r => (r.draw ((i : Int) + 2)).2.mixFrom i (swapL l (i + 1) (r.draw ((i : Int) + 2)).1.toNat)
def Rn.renew (r : Rn) : Rn := if r.pass.length = 0 then { (r.mixFrom (r.present.length - 1) r.present).2 with pass := (r.mixFrom (r.present.length - 1) r.present).1 } else r
def Rn.probeOne (r : Rn) : Rn :=
  match r.pass with
  | [] => r
  | t :: l => ({ r with probe := t, pass := l, start := r.clock, acked := false, seq := r.seq + 1, no := r.seq + 1 } : Rn).direct t 1 (r.seq + 1) t
def Rn.begin (r : Rn) : Rn := r.renew.probeOne
def Rn.tick (r : Rn) : Rn :=
  let r1 := r.later.sus r.others.length
  let r2 := if 0 < r1.probe then r1.probing else r1
  if r2.probe = 0 ∧ r2.self.st ≠ 4 then r2.begin else r2
end Go.Proofs.YtnneljcbelgoeaaGreatDoor.wire
/- append of a whole row onto nil. -/
namespace Go.Proofs.YtnneljcbelgoeaaGreatDoor.wire
open Go.RowKit

/-- append of a whole row onto nil: a fresh copy. -/
theorem wpList_append_copy {P : Program} {w : World} {ops : Array Oper} {rest : List Oper} {o : Oper} {a : Act} {Q : Exit → Act → World → Prop} (hgd : o.guard = none) (s x : Operand) (t : TypeId)
    (ho : o.op = .call { callee := .builtin .append, args := #[s, x], argTypes := #[t, t] })
    (base : Nat) (e : TypeId) (i : TypeInfo) (z : Value) (size bytes : Nat) (ht : P.underlying t = some (.slice e)) (hi : P.info? e = some i) (hz : i.zero = some z)
    (hsize : i.size = size) (hby : i.bytes = bytes) (hzs : z.cells.size = size) (hsz : 0 < size)
    (v : Value) (n : Nat) (xs : List Value) (hs : a.eval s = .slice none 0 0) (hx : a.eval x = v) (hown : w.ownsRow base e size v n xs) (h1 : ∀ u ∈ xs, u.oneCell' = true)
    (h63 : n ≤ maxLen) (hbytes : n * bytes ≤ 140737488355328) 
    (h : ∀ v' w', w'.ownsRow w.heap.size e size v' n xs → Below w.heap.size w w' → wpList P ops Q rest (a.put o.dst v') w') : wpList P ops Q (o :: rest) a w := by
  refine wpList_plain hgd fun K hK => ?_
  rcases hown.2 with ⟨rfl, h0⟩ | ⟨g, cap, cur, rfl, _, hh, _, _, _, _⟩
  · have hx0 : xs = [] := List.eq_nil_of_length_eq_zero (by rw [hown.1, h0]; simp)
    subst hx0
    have hrun : (Builtin.append_ #[t, t] o.type #[.slice none 0 0, .slice none 0 0]).run P w = .ok (.slice none 0 0) w := by
      simp [Builtin.append_, run_underlying ht, sizeOf, typeInfo, hi, Builtin.lenOf, Builtin.firstCells]
    unfold Oper.wp
    simp [execOp, ho, resolve, invoke, builtin, hs, hx, hrun, Result.andThen]
    exact hK _ _ (h _ _ (by rw [h0]; exact World.ownsRow_nil _ _ _ _) (Below.refl _ _))
  · obtain ⟨v', w', hrun, r1, r2, _⟩ := run_append_own (P := P) w w.heap.size t o.type e i z size bytes ht hi hz hsize hby hzs hsz (.slice none 0 0) 0 [] (World.ownsRow_nil w _ e size) ⟨g, 0, none⟩ n cap xs hown.1 (fun j u hu => by
      have hj : j < n * size := by have := (List.getElem?_eq_some_iff.1 hu).1; have := hown.1; omega
      have hadd : (⟨g, 0, none⟩ : Addr).add j = ⟨g, j, none⟩ := by unfold Addr.add; split <;> simp_all
      rw [hadd, hown.cellAt j hj]
      exact hu) h1 (by omega) (by simpa using hbytes) (Nat.le_refl _)
    unfold Oper.wp
    simp [execOp, ho, resolve, invoke, builtin, hs, hx, hrun, Result.andThen]
    exact hK _ _ (h _ _ (by simpa using r1) ((Below.refl _ _).grown r2 (Nat.le_refl _) (fun k e => by simp [Value.ownBlock] at e)))
end Go.Proofs.YtnneljcbelgoeaaGreatDoor.wire
/- Rows of things in memory: reading them, appending to them, whatever the source. -/
namespace Go.Proofs.YtnneljcbelgoeaaGreatDoor.wire
open Go.RowKit Go.Maps

/-- The elements' type of a slice's type. -/
structure Ety (P : Program) (t e : TypeId) (size bytes : Nat) : Prop where
  ex : ∃ i z, P.underlying t = some (.slice e) ∧ P.info? e = some i ∧ i.zero = some z ∧ i.size = size ∧ i.bytes = bytes ∧ z.cells.size = size ∧ 0 < size
  small : bytes ≤ 1000
/-- What is appended: n things. -/
def Src (w : World) (size : Nat) (v : Value) (n : Nat) (xs : List Value) : Prop :=
  xs.length = n * size ∧ ((v = .slice none 0 0 ∧ n = 0) ∨ ∃ ad c, v = .slice (some ad) n c ∧ ∀ j u, xs[j]? = some u → w.cell? (ad.add j) = some u)
theorem add0 (g o j : Nat) : (⟨g, o, none⟩ : Addr).add j = ⟨g, o + j, none⟩ := by unfold Addr.add; split <;> simp_all
theorem Src.of_own {w : World} {base : Nat} {e : TypeId} {size : Nat} {v : Value} {n : Nat} {xs : List Value} (h : w.ownsRow base e size v n xs) : Src w size v n xs := by
  refine ⟨h.1, ?_⟩
  rcases h.2 with ⟨rfl, h0⟩ | ⟨g, cap, cur, rfl, hb, hg, h1, h2, h3, h4⟩
  · exact .inl ⟨rfl, h0⟩
  · refine .inr ⟨_, _, rfl, fun j u hu => ?_⟩
    have hj : j < n * size := by have := (List.getElem?_eq_some_iff.1 hu).1; have := h.1; omega
    rw [add0, Nat.zero_add, h.cellAt j hj]
    exact hu
theorem Src.box {w : World} {b : Nat} {cs : List Value} {e : TypeId} (size n c : Nat) (hb : w.heap[b]? = some (.cells cs.toArray e (0, 0))) (hl : cs.length = n * size) : Src w size (.slice (some ⟨b, 0, none⟩) n c) n cs := by
  refine ⟨hl, .inr ⟨_, _, rfl, fun j u hu => ?_⟩⟩
  rw [add0, Nat.zero_add, cell_at hb]
  simpa using hu
/-- The first k of a row, as Go cuts it. -/
theorem Src.take {w : World} {base : Nat} {e : TypeId} {size : Nat} {ao : Option Addr} {n cap : Nat} {xs : List Value} (h : w.ownsRow base e size (.slice ao n cap) n xs) (k : Nat) (hk : k ≤ n) : Src w size (sliced ao 0 k cap size) k (xs.take (k * size)) := by
  have hm : k * size ≤ n * size := Nat.mul_le_mul_right _ hk
  refine ⟨by rw [List.length_take, h.1]; omega, ?_⟩
  rcases h.2 with ⟨e, h0⟩ | ⟨g, cap', cur, e, hb, hg, h1, h2, h3, h4⟩
  · cases e
    have : k = 0 := by omega
    subst this
    exact .inl ⟨rfl, rfl⟩
  · simp only [Value.slice.injEq] at e
    obtain ⟨rfl, _, rfl⟩ := e
    have hadd : (⟨g, 0, none⟩ : Addr).add (0 * size) = ⟨g, 0, none⟩ := by rw [add0]; simp
    refine .inr ⟨⟨g, 0, none⟩, cap, ?_, fun j u hu => ?_⟩
    · unfold sliced
      simp only [Option.map_some, hadd, Nat.sub_zero]
      split <;> rfl
    · have hj : j < k * size := by have := (List.getElem?_eq_some_iff.1 hu).1; rw [List.length_take] at this; omega
      rw [List.getElem?_take_of_lt hj] at hu
      rw [add0, Nat.zero_add, h.cellAt j (by omega)]
      exact hu
theorem Src.head {w : World} {base : Nat} {e : TypeId} {size : Nat} {ao : Option Addr} {n cap : Nat} {xs : List Value} (h : w.ownsRow base e size (.slice ao n cap) n xs) (k : Nat) (hk : k ≤ n) : Src w size (.slice ao k cap) k (xs.take (k * size)) := by
  have hm : k * size ≤ n * size := Nat.mul_le_mul_right _ hk
  refine ⟨by rw [List.length_take, h.1]; omega, ?_⟩
  rcases h.2 with ⟨e, h0⟩ | ⟨g, cap', cur, e, hb, hg, h1, h2, h3, h4⟩
  · cases e
    have : k = 0 := by omega
    subst this
    exact .inl ⟨rfl, rfl⟩
  · simp only [Value.slice.injEq] at e
    obtain ⟨rfl, _, rfl⟩ := e
    refine .inr ⟨⟨g, 0, none⟩, cap, rfl, fun j u hu => ?_⟩
    have hj : j < k * size := by have := (List.getElem?_eq_some_iff.1 hu).1; rw [List.length_take] at this; omega
    rw [List.getElem?_take_of_lt hj] at hu
    rw [add0, Nat.zero_add, h.cellAt j (by omega)]
    exact hu
/-- A row from its k-th on, as Go cuts it. -/
theorem Src.drop {w : World} {base : Nat} {e : TypeId} {size : Nat} {ao : Option Addr} {n cap : Nat} {xs : List Value} (h : w.ownsRow base e size (.slice ao n cap) n xs) (k : Nat) (hk : k ≤ n) : Src w size (sliced ao k n cap size) (n - k) (xs.drop (k * size)) := by
  refine ⟨by rw [List.length_drop, h.1, Nat.sub_mul], ?_⟩
  rcases h.2 with ⟨e, h0⟩ | ⟨g, cap', cur, e, hb, hg, h1, h2, h3, h4⟩
  · cases e
    have : k = 0 := by omega
    subst this
    exact .inl ⟨rfl, by omega⟩
  · simp only [Value.slice.injEq] at e
    obtain ⟨rfl, _, rfl⟩ := e
    by_cases hc : cap = k
    · have hn : n = k := by omega
      refine .inr ⟨⟨g, 0, none⟩, cap - k, ?_, fun j u hu => ?_⟩
      · unfold sliced
        rw [if_pos hc]
      · have := (List.getElem?_eq_some_iff.1 hu).1
        rw [List.length_drop, h.1, hn] at this
        omega
    · refine .inr ⟨⟨g, k * size, none⟩, cap - k, ?_, fun j u hu => ?_⟩
      · unfold sliced
        rw [if_neg hc, Option.map_some, add0, Nat.zero_add]
      · rw [List.getElem?_drop] at hu
        have hj : k * size + j < n * size := by have := (List.getElem?_eq_some_iff.1 hu).1; have := h.1; omega
        rw [add0, h.cellAt _ hj]
        exact hu
theorem row_apart {W : World} {b b' : Nat} {e e' : TypeId} {z z' : Nat} {v v' : Value} {n n' : Nat} {xs xs' : List Value} (h : W.ownsRow b e z v n xs) (h' : W.ownsRow b' e' z' v' n' xs') (he : e ≠ e') : ∀ g, v.ownBlock = some g → v'.ownBlock ≠ some g := fun g hv hv' => by
  obtain ⟨c1, h1⟩ := own_blk h hv
  obtain ⟨c2, h2⟩ := own_blk h' hv'
  rw [h1] at h2
  simp only [Option.some.injEq, Obj.cells.injEq] at h2
  exact he h2.2.1
theorem run_app {P : Program} {t e : TypeId} {size bytes : Nat} (he : Ety P t e size bytes) (ty : TypeId) {w : World} (base : Nat) {v1 : Value} {n1 : Nat} {xs1 : List Value} {v : Value} {n : Nat} {xs : List Value}
    (hown : w.ownsRow base e size v1 n1 xs1) (hsrc : Src w size v n xs) (h1 : ∀ u ∈ xs, u.oneCell' = true) (hlen : n1 + n ≤ 1000000) (hbase : base ≤ w.heap.size) :
    ∃ v' w', (Builtin.append_ #[t, t] ty #[v1, v]).run P w = .ok v' w' ∧ w'.ownsRow base e size v' (n1 + n) (xs1 ++ xs) ∧ w.grownBy w' v1.ownBlock ∧ (v'.ownBlock = v1.ownBlock ∨ v'.ownBlock = some w.heap.size) := by
  obtain ⟨i, z, ht, hi, hz, hsize, hby, hzs, hsz⟩ := he.ex
  have hsm := he.small
  rcases hsrc.2 with ⟨rfl, h0⟩ | ⟨ad, c, rfl, hc⟩
  · subst h0
    have hx0 : xs = [] := List.eq_nil_of_length_eq_zero (by rw [hsrc.1]; simp)
    subst hx0
    refine ⟨v1, w, ?_, by simpa using hown, ⟨rfl, rfl, rfl, Nat.le_refl _, fun _ _ _ => rfl⟩, .inl rfl⟩
    rcases hown.2 with ⟨rfl, _⟩ | ⟨g, cap, cur, rfl, _, _, hc, _, _, _⟩
    · simp [Builtin.append_, run_underlying ht, sizeOf, typeInfo, hi, Builtin.lenOf, Builtin.firstCells]
    · simp [Builtin.append_, run_underlying ht, sizeOf, typeInfo, hi, Builtin.lenOf, Builtin.firstCells, hc, storeCells]
  · obtain ⟨v', w', hrun, r1, r2, _, r3⟩ := run_append_own_at (P := P) w base t ty e i z size bytes ht hi hz hsize hby hzs hsz v1 n1 xs1 hown ad n c xs hsrc.1 hc h1 (by unfold maxLen; omega) (by
      have := Nat.mul_le_mul hlen hsm
      omega) hbase
    exact ⟨v', w', hrun, r1, r2, r3⟩
/-- append, at a plain region's list. -/
theorem wpList_app {P : Program} {w : World} {ops : Array Oper} {rest : List Oper} {o : Oper} {a : Act} {Q : Exit → Act → World → Prop} (hgd : o.guard = none) (s x : Operand) {t : TypeId}
    (ho : o.op = .call { callee := .builtin .append, args := #[s, x], argTypes := #[t, t] }) {e : TypeId} {size bytes : Nat} (he : Ety P t e size bytes) (base : Nat) {v1 : Value} {n1 : Nat} {xs1 : List Value} {v : Value} {n : Nat} {xs : List Value}
    (hs : a.eval s = v1) (hx : a.eval x = v) (hown : w.ownsRow base e size v1 n1 xs1) (hsrc : Src w size v n xs) (h1 : ∀ u ∈ xs, u.oneCell' = true) (hlen : n1 + n ≤ 1000000) (hbase : base ≤ w.heap.size)
    (h : ∀ v' w', w'.ownsRow base e size v' (n1 + n) (xs1 ++ xs) → w.grownBy w' v1.ownBlock → (v'.ownBlock = v1.ownBlock ∨ v'.ownBlock = some w.heap.size) → wpList P ops Q rest (a.put o.dst v') w') : wpList P ops Q (o :: rest) a w := by
  refine wpList_plain hgd fun K hK => ?_
  obtain ⟨v', w', hrun, r1, r2, r3⟩ := run_app he o.type base hown hsrc h1 hlen hbase
  unfold Oper.wp
  simp [execOp, ho, resolve, invoke, builtin, hs, hx, hrun, Result.andThen]
  exact hK _ _ (h _ _ r1 r2 r3)
/-- append, at a step of a region that draws its order. -/
theorem step_app {P : Program} {ops : Array Oper} {o : Oper} {a : Act} {w : World} {K : Act → World → Prop} {Q : Exit → Act → World → Prop} {E : Prop} (hgd : o.guard = none) (s x : Operand) {t : TypeId}
    (ho : o.op = .call { callee := .builtin .append, args := #[s, x], argTypes := #[t, t] }) {e : TypeId} {size bytes : Nat} (he : Ety P t e size bytes) (base : Nat) {v1 : Value} {n1 : Nat} {xs1 : List Value} {v : Value} {n : Nat} {xs : List Value}
    (hs : a.eval s = v1) (hx : a.eval x = v) (hown : w.ownsRow base e size v1 n1 xs1) (hsrc : Src w size v n xs) (h1 : ∀ u ∈ xs, u.oneCell' = true) (hlen : n1 + n ≤ 1000000) (hbase : base ≤ w.heap.size)
    (hK : ∀ v' w', w'.ownsRow base e size v' (n1 + n) (xs1 ++ xs) → w.grownBy w' v1.ownBlock → (v'.ownBlock = v1.ownBlock ∨ v'.ownBlock = some w.heap.size) → K (a.put o.dst v') w') :
    if Region.wanted o (yielded ops a.tmps) = true then Oper.wp P o a w K Q else E := by
  have hw : Region.wanted o (yielded ops a.tmps) = true := by simp [Region.wanted, hgd]
  rw [if_pos hw]
  obtain ⟨v', w', hrun, r1, r2, r3⟩ := run_app he o.type base hown hsrc h1 hlen hbase
  unfold Oper.wp
  simp [execOp, ho, resolve, invoke, builtin, hs, hx, hrun, Result.andThen]
  exact hK _ _ r1 r2 r3
/-- A row of things of s cells each. -/
theorem row_len {α : Type} (f : α → List Value) (s : Nat) (hf : ∀ a, (f a).length = s) (l : List α) : (l.flatMap f).length = l.length * s := by
  induction l with
  | nil => simp
  | cons a r ih => simp only [List.flatMap_cons, List.length_append, ih, hf, List.length_cons, Nat.add_mul]; omega
theorem row_get {α : Type} (f : α → List Value) (s : Nat) (hf : ∀ a, (f a).length = s) : ∀ (l : List α) (i : Nat) (h : i < l.length) (j : Nat), j < s → (l.flatMap f)[i * s + j]? = (f l[i])[j]?
  | a :: r, 0, _, j, hj => by
    rw [List.flatMap_cons, List.getElem?_append_left (by rw [hf]; omega)]; simp
  | a :: r, i + 1, h, j, hj => by
    rw [List.flatMap_cons, List.getElem?_append_right (by rw [hf, Nat.add_mul]; omega)]
    have := row_get f s hf r i (by simpa using h) j hj
    simp only [List.getElem_cons_succ]
    rw [← this]
    congr 1
    rw [hf, Nat.add_mul]; omega
theorem row_cell {α : Type} (f : α → List Value) (s : Nat) (hf : ∀ a, (f a).length = s) {w : World} {base b cap n : Nat} {e : TypeId} {l : List α} (h : w.ownsRow base e s (.slice (some ⟨b, 0, none⟩) n cap) l.length (l.flatMap f)) (i : Nat) (hi : i < l.length) (j : Nat) (hj : j < s) : w.cell? ⟨b, i * s + j, none⟩ = (f l[i])[j]? := by
  have hm : (i + 1) * s ≤ l.length * s := Nat.mul_le_mul_right _ hi
  rw [Nat.add_mul] at hm
  rcases h.2 with ⟨e, _⟩ | ⟨g, cap', cur, e, hb, hg, h1, h2, h3, h4⟩
  · cases e
  · cases e
    rw [cell_at hg, ← row_get f s hf l i hi j hj, ← h4, List.getElem?_take, if_pos (by omega), Array.getElem?_toList]
/-- Such a row is none, or lies somewhere. -/
theorem row_form {w : World} {base : Nat} {e : TypeId} {s : Nat} {v : Value} {n : Nat} {xs : List Value} (h : w.ownsRow base e s v n xs) : ∃ ao cap, v = .slice ao n cap ∧ (0 < n → ∃ b, ao = some ⟨b, 0, none⟩ ∧ b < w.heap.size) ∧ n ≤ cap ∧ cap ≤ maxLen := by
  rcases h.2 with ⟨rfl, h0⟩ | ⟨g, cap, cur, rfl, hb, hg, h1, h2, _⟩
  · exact ⟨none, 0, by rw [h0], fun h => by omega, by omega, by omega⟩
  · exact ⟨some ⟨g, 0, none⟩, cap, rfl, fun _ => ⟨g, rfl, lt_blk hg⟩, h1, h2⟩
theorem row_take {α : Type} (f : α → List Value) (s : Nat) (hf : ∀ a, (f a).length = s) : ∀ (l : List α) (k : Nat), (l.flatMap f).take (k * s) = (l.take k).flatMap f
  | [], k => by simp
  | a :: r, 0 => by simp
  | a :: r, k + 1 => by
    rw [List.take_succ_cons, List.flatMap_cons, List.flatMap_cons, List.take_append, hf, Nat.add_mul, Nat.one_mul, List.take_of_length_le (by rw [hf]; omega), Nat.add_sub_cancel, row_take f s hf r k]
theorem row_drop {α : Type} (f : α → List Value) (s : Nat) (hf : ∀ a, (f a).length = s) : ∀ (l : List α) (k : Nat), (l.flatMap f).drop (k * s) = (l.drop k).flatMap f
  | [], k => by simp
  | a :: r, 0 => by simp
  | a :: r, k + 1 => by
    rw [List.drop_succ_cons, List.flatMap_cons, List.drop_append, hf, Nat.add_mul, Nat.one_mul, List.drop_of_length_le (by rw [hf]; omega), Nat.add_sub_cancel, row_drop f s hf r k, List.nil_append]
/-- A list that is being made, in memory of its own. -/
structure Fi {α : Type} (f : α → List Value) (e : TypeId) (s : Nat) (W wr : World) (v : Value) (L : List α) : Prop where
  own : wr.ownsRow W.heap.size e s v L.length (L.flatMap f)
  below : Below W.heap.size W wr
theorem Fi.nil {α : Type} (f : α → List Value) (e : TypeId) (s : Nat) {W wr : World} (hb : Below W.heap.size W wr) : Fi f e s W wr (.slice none 0 0) [] := ⟨World.ownsRow_nil _ _ _ _, hb⟩
theorem Fi.mono {α : Type} {f : α → List Value} {e : TypeId} {s : Nat} {W wr w' : World} {v : Value} {L : List α} (h : Fi f e s W wr v L) (hb : Below wr.heap.size wr w') : Fi f e s W w' v L := ⟨own_below h.own hb, h.below.trans (hb.mono h.below.size)⟩
theorem Fi.alloc {α : Type} {f : α → List Value} {e : TypeId} {s : Nat} {W wr : World} {v : Value} {L : List α} (h : Fi f e s W wr v L) (o : Obj) : Fi f e s W (wr.alloc o) v L := h.mono ((Below.refl _ _).alloc (Nat.le_refl _) o)
theorem Fi.push {α : Type} {f : α → List Value} {e : TypeId} {s : Nat} {W wr w1 w2 : World} {v v' : Value} {L : List α} (h : Fi f e s W wr v L) (hb : Below wr.heap.size wr w1) (hg : w1.grownBy w2 v.ownBlock) (M : List α) (hown : w2.ownsRow W.heap.size e s v' (L.length + M.length) (L.flatMap f ++ M.flatMap f)) : Fi f e s W w2 v' (L ++ M) := by
  refine ⟨by rw [List.flatMap_append, List.length_append]; exact hown, ?_⟩
  have h1 := h.below.trans (hb.mono h.below.size)
  exact h1.grown hg h1.size (fun k e => (own_lt h.own e).1)
end Go.Proofs.YtnneljcbelgoeaaGreatDoor.wire
