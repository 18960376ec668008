import Derived.Test.YtnneljcbelgoeaaGreatNList
import Derived.Test.YtnneljcbelgoeaaGreatShelf
/- members: all of the table, by rising ids. -/
namespace Go.Proofs.YtnneljcbelgoeaaGreat.wire
open Go.RowKit Go.Maps Go.Sort Go.Shelf

theorem sortsA (m : Nat) : AnyZI.SortsIn Tryz.prog Tryz.sortedA_ren Fence.wide m :=
  ⟨fun blk off cap ss W hH hblk hsz => callsIn_wide.2 (AnyM.slices_Sort_int Tryz.sortA blk off cap ss W hH hblk hsz),
   fun p cap W => callsIn_wide.2 (AnyM.slices_Sort_int_none Tryz.sortA p cap W)⟩
theorem keys_call (mb : Option Nat) (W : World) : Calls Tryz.prog 56 #[.map mb] W fun e w' => e = .returned (.func (.func 87) #[] #[.pointer (some ⟨W.heap.size, 0, none⟩)]) ∧ w' = W.alloc (.cells #[.map mb] 64) :=
  (callsIn_wide (n := 5)).1 (AnyZI.keys_in Tryz.keysA Fence.wide 5 trivial rfl mb W)
theorem map_int (l : List Int) : l.map encZ = l.flatMap intC := by
  induction l with
  | nil => rfl
  | cons a r ih => rw [List.map_cons, ih, List.flatMap_cons]; rfl
theorem sorted_call {W : World} {mb nn : Nat} {t : List Mem} (hown : W.ownsMap Tryz.prog 3 RH mb nn (tabD t)) (hl : t.length ≤ 1000) (hr : Rise t) :
    Calls Tryz.prog 55 #[.func (.func 87) #[] #[.pointer (some ⟨W.heap.size, 0, none⟩)]] (W.alloc (.cells #[.map (some mb)] 64)) fun e w' =>
      ∃ v, e = .returned v ∧ w'.ownsRow (W.alloc (.cells #[.map (some mb)] 64)).heap.size 3 1 v t.length ((t.map fun m => m.k.id).flatMap intC) ∧ Below (W.alloc (.cells #[.map (some mb)] 64)).heap.size (W.alloc (.cells #[.map (some mb)] 64)) w' := by
  refine (callsIn_wide (n := 5)).1 ?_
  have hsz : Maps.size (tabD t) ≤ 1000 := by rw [tabD_size]; exact hl
  have hbl := hown.lt
  have hseq : SeqGives Fence.wide 2 Tryz.prog 87 #[.pointer (some ⟨W.heap.size, 0, none⟩)] encZ (fun ss => ss.Perm (intKeys (tabD t))) (Maps.size (tabD t)) (W.alloc (.cells #[.map (some mb)] 64)) :=
    AnyZI.keys_gives (ρ := Tryz.keysA_ren) { Tryz.keysA with } Fence.wide _ trivial rfl (by omega) W.heap.size mb nn (tabD t) _ (by simp) (by simp) (hown.alloc _)
  have cS := AnyZI.sorted_in Tryz.sortedA Fence.wide 5 trivial trivial trivial trivial rfl (by omega) (sortsA _) (enters_of Tryz.func86 (by kernel_rfl) rfl) 87 #[.pointer (some ⟨W.heap.size, 0, none⟩)] trivial (enters_of Tryz.func87 (by kernel_rfl) rfl) _ _ (by unfold maxLen; omega) (by omega) _ hseq
  refine cS.mono ?_
  rintro e w' ⟨v, ss, rfl, hS, hrow, hnil, hb⟩
  have e1 : ss.length = t.length := by rw [hS.length_eq, tabD_keys]; simp
  rw [sorted_keys hr hS, e1] at hrow
  rw [map_int] at hrow
  exact ⟨v, rfl, hrow, hb⟩
set_option maxHeartbeats 1000000 in
theorem member_at {x : Nd} {nb mb : Nat} {cb : Dk} {pv rv : Value} {W : World} (hn : NAt W nb mb cb pv rv x) {p : Nat} (hp : W.cell? ⟨p, 0, none⟩ = some (.pointer (some ⟨nb, 0, none⟩))) (i : Int) (a : -9223372036854775808 ≤ i) (b : i ≤ 9223372036854775807) :
    Calls Tryz.prog 58 #[.int .i64 i, .pointer (some ⟨p, 0, none⟩)] W fun e w' => e = .returned (.agg #[.int .i64 (atM i x.tab).k.id, .int .i64 (atM i x.tab).k.inc, .int .i64 (atM i x.tab).k.st, .int .i64 (atM i x.tab).due, .int .i64 (atM i x.tab).sends]) ∧ Below W.heap.size W w' := by
  have c7 := hn.c_map
  have hl := fun o => look_at (hn.alloc o).map (i := i) a b
  simp only [memv] at hl
  have hlt := hn.lt
  have hpl := World.block_lt_of_cell? W _ hp
  clear hn
  generalize atM i x.tab = m at hl
  go_enter Tryz.func58, Tryz.ntmps58
  go_wp2
  refine bodyPost_ret (v := memv m) (by simp [results, Tryz.results58, go_sem]) rfl ⟨rfl, ((Below.refl _ _).alloc (Nat.le_refl _) _)⟩
theorem findM_mem {m : Mem} : ∀ {t : List Mem}, Rise t → m ∈ t → findM m.k.id t = some m
  | y :: r, h, hm => by
    have hr := (List.pairwise_cons.1 h).1
    rcases List.mem_cons.1 hm with rfl | hm
    · simp [findM]
    · have := hr m hm
      have h' : (y.k.id == m.k.id) = false := by simp; omega
      have ih := findM_mem (List.pairwise_cons.1 h).2 hm
      simpa [findM, h'] using ih
theorem tab_again {t : List Mem} (h : Rise t) : (t.map fun m => m.k.id).map (fun i => atM i t) = t := by
  rw [List.map_map]
  conv => rhs; rw [← List.map_id t]
  refine List.map_congr_left (fun m hm => ?_)
  simp [atM, findM_mem h hm]
set_option maxHeartbeats 2000000 in
theorem members_any {x : Nd} (hx : NdOk x) {nb mb : Nat} {cb : Dk} {pv rv : Value} {W : World} (hn : NAt W nb mb cb pv rv x) :
    Calls Tryz.prog 28 #[.pointer (some ⟨nb, 0, none⟩)] W fun e w' => ∃ v, e = .returned v ∧ w'.ownsRow W.heap.size 80 5 v x.tab.length (x.tab.flatMap memC) ∧ Below W.heap.size W w' := by
  have hlen := hx.len
  have hn1 := hn.alloc (.cells #[.pointer (some ⟨nb, 0, none⟩)] 25)
  have hb1 : Below W.heap.size W (W.alloc (.cells #[.pointer (some ⟨nb, 0, none⟩)] 25)) := (Below.refl _ _).alloc (Nat.le_refl _) _
  have hbx : (W.alloc (.cells #[.pointer (some ⟨nb, 0, none⟩)] 25)).cell? ⟨W.heap.size, 0, none⟩ = some (.pointer (some ⟨nb, 0, none⟩)) := by simp
  have HBX := hide hbx
  have c7 := hn.c_map
  have hlt := hn.lt
  have HN := hide hn1
  have HB := hide hb1
  have HX := hide hx
  clear hn hn1 hb1 hx hbx
  go_enter Tryz.func28, Tryz.ntmps28
  go_wp2_with fail
  refine (keys_call _ _).mono ?_
  rintro e w1 ⟨rfl, rfl⟩
  go_wp2_with fail
  have hS := sorted_call (unhide HN).map (by omega) (unhide HX).rise
  simp only [World.size_alloc] at hS
  refine hS.mono ?_
  clear hS
  rintro e w2 ⟨v, rfl, hrow, hb2⟩
  have hb02 : Below W.heap.size W w2 := ((unhide HB).alloc (by simp) _).trans (hb2.mono (by omega))
  have hn2 := ((unhide HN).alloc (.cells #[.map (some mb)] 64)).below (by simpa using hb2)
  have hp2 : w2.cell? ⟨W.heap.size, 0, none⟩ = some (.pointer (some ⟨nb, 0, none⟩)) := (hb2.cell (p := ⟨W.heap.size, 0, none⟩) (by show W.heap.size < _; omega)).trans (by simp)
  have hT := turnIM_any (x.tab.map fun m => m.k.id) (fun i => atM i x.tab) 58 #[] #[.pointer (some ⟨W.heap.size, 0, none⟩)] (by simpa using hrow) (by simpa using (by omega)) (enters_of Tryz.func58 (by kernel_rfl) rfl) (fun i hi W' hW' => by
    obtain ⟨m, hm, rfl⟩ := List.mem_map.1 hi
    have := (key_bounds ((unhide HX).keys m hm)).1
    exact member_at (hn2.below hW') ((hW'.cell (p := ⟨W.heap.size, 0, none⟩) (World.block_lt_of_cell? w2 _ hp2)).trans hp2) m.k.id (by omega) (by omega))
  rw [tab_again (unhide HX).rise] at hT
  have HT := hide hT
  have HB2 := hide hb02
  clear hT hb02 hn2 hp2 hb2 hrow c7
  go_wp2_with fail
  refine (unhide HT).mono ?_
  rintro e w3 ⟨v', rfl, hrow, hb3⟩
  have HR := hide hrow
  have HB3 := hide hb3
  clear hrow hb3 HT
  go_wp2
  go_ret
  exact ⟨v', rfl, own_mono (unhide HR) (unhide HB2).size, (unhide HB2).trans ((unhide HB3).mono (unhide HB2).size)⟩
end Go.Proofs.YtnneljcbelgoeaaGreat.wire
