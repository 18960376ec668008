import Derived.Test.YtnneljcbelgoeaaGreatNHears
import Derived.Sort.LotA
import Derived.Sort.OwnSorted
/- The updates by how often they were sent: slices.SortStableFunc at a table's members. -/
namespace Go.Proofs.YtnneljcbelgoeaaGreat.wire
open Go.RowKit Go.Maps Go.Sort Go.Shelf Go.Lib

abbrev cmpM (a b : Mem) : Int := Lib.compareInt b.sends a.sends
theorem cmpM_lt : ltOf cmpM = sentLt := by
  funext a b
  simp only [ltOf, cmpM, sentLt, sentCmp, Lib.compareInt]
  by_cases h1 : b.sends < a.sends
  · simp [h1]
  · by_cases h2 : a.sends < b.sends
    · simp [h1, h2]
    · simp [h1, h2]
theorem sent_swo : SWO sentLt := by
  have e : sentLt = fun a b : Mem => decide (b.sends < a.sends) := by
    funext a b
    simp only [sentLt, sentCmp]
    by_cases h1 : b.sends < a.sends
    · simp [h1]
    · by_cases h2 : a.sends < b.sends
      · simp [h1, h2]
      · simp [h1, h2]
  rw [e]
  exact ⟨fun a => by simp, fun a b c h1 h2 => by simp at h1 h2 ⊢; omega, fun a b c h1 h2 => by simp at h1 h2 ⊢; omega⟩
set_option maxHeartbeats 1000000 in
theorem sentLess_any (a b : Mem) (W : World) : Calls Tryz.prog 101 #[.agg #[.int .i64 a.k.id, .int .i64 a.k.inc, .int .i64 a.k.st, .int .i64 a.due, .int .i64 a.sends], .agg #[.int .i64 b.k.id, .int .i64 b.k.inc, .int .i64 b.k.st, .int .i64 b.due, .int .i64 b.sends]] W fun e w' => e = .returned (.int .i64 (cmpM a b)) ∧ ∃ q os', w' = grow (W.drewN q) os' := by
  have hcon : ∀ W', Calls Tryz.prog 117 #[.int .i64 b.sends, .int .i64 a.sends] W' fun e w' => e = .returned (.int .i64 (cmpM a b)) ∧ w' = W' := fun W' => AnyG.cmp_Compare_int Tryz.cmpA b.sends a.sends W'
  generalize cmpM a b = r at hcon ⊢
  go_enter Tryz.func101, Tryz.ntmps101
  go_wp2_with (go_at_call 117; refine (hcon _).mono ?_; rintro e w' ⟨rfl, rfl⟩)
  go_ret
  exact ⟨rfl, 0, _, by rw [alloc_eq_grow, alloc_eq_grow, grow_grow]; rfl⟩
theorem cmpLaysM (blk off size : Nat) (w : World) : CmpLays Tryz.prog 101 #[] memC 5 cmpM blk off size w :=
  fun _ _ _ _ x y => sentLess_any x y _
theorem flat_list (l : List Mem) : flatK memC 5 l.toArray = (l.flatMap memC).toArray := by
  refine ext_get! (by rw [size_flatK, List.size_toArray, List.size_toArray, lenM]) fun t ht => ?_
  have ht' : t < l.length * 5 := by simpa using ht
  rw [get_flatK _ _ _ t (by simpa using ht')]
  have h5 : t / 5 < l.length := by omega
  have := getM l (t / 5) h5 (t % 5) (by omega)
  rw [show t / 5 * 5 + t % 5 = t by omega] at this
  have e1 : l.toArray[t / 5]! = l[t / 5] := by simp [h5]
  rw [e1]
  have hm : (memC l[t / 5])[t % 5]? = some (memC l[t / 5])[t % 5]! := by
    have : t % 5 < (memC l[t / 5]).length := by simp [memC]; omega
    simp [this]
  rw [hm] at this
  simp [getElem!_def, this]
theorem holdsM {w : World} {base b cap : Nat} {l : List Mem} (h : w.ownsRow base 80 5 (.slice (some ⟨b, 0, none⟩) l.length cap) l.length (l.flatMap memC)) : HoldsK memC 5 w b 0 l.toArray := by
  rcases h.2 with ⟨e, _⟩ | ⟨g, cap', cur, e, hb, hg, h1, h2, h3, h4⟩
  · cases e
  · cases e
    intro j hj
    rw [flat_list] at hj ⊢
    have hj' : j < (l.flatMap memC).length := by simpa using hj
    refine ⟨?_, free_at hg _⟩
    rw [cell_at hg, Nat.zero_add]
    have h5 := lenM l
    have : cur[j]? = (l.flatMap memC)[j]? := by rw [← h4, List.getElem?_take_of_lt (by omega), Array.getElem?_toList]
    rw [this, getElem!_def]
    simp [List.getElem?_eq_getElem hj']
theorem heapM {w : World} {g n : Nat} {os : Array Obj} {cur : Array Value} {e : TypeId} {fr : Nat × Nat} (d : Array Value) (hb : w.heap[g]? = some (.cells cur e fr)) :
    (grow (putRow id (Sort.ahead w n) g 0 d) os).heap[g]? = some (.cells (putCells id 0 d cur) e fr) := by
  have hg : g < w.heap.size := (Array.getElem?_eq_some_iff.1 hb).1
  rw [heap_grow_old _ _ (by simpa using hg)]
  simp [putRow, mapBlock, Sort.ahead, Array.getElem?_modify, hb, onCells]
theorem takeM (cur : Array Value) (ts : List Value) (h : ts.length ≤ cur.size) : (putCells id 0 ts.toArray cur).toList.take ts.length = ts := by
  apply List.ext_getElem?
  intro j
  by_cases hj : j < ts.length
  · rw [List.getElem?_take_of_lt hj, Array.getElem?_toList]
    simp [putCells, hj, show j < cur.size by omega]
  · rw [List.getElem?_take_eq_none (by omega), List.getElem?_eq_none (by omega)]
theorem grownM {w : World} {g n : Nat} {os : Array Obj} (d : Array Value) : w.grownBy (grow (putRow id (Sort.ahead w n) g 0 d) os) (some g) := by
  refine ⟨rfl, rfl, rfl, by simp, fun k hk hne => ?_⟩
  rw [heap_grow_old _ _ (by simpa using hk)]
  have : g ≠ k := fun e => hne (by rw [e])
  simp [putRow, mapBlock, Sort.ahead, Array.getElem?_modify, this]
theorem sortM_perm (l : List Mem) : (sortM l).Perm l := by
  have h := (insertionSort_holds (lt := sentLt) sent_swo l.toArray 0 l.length (Nat.zero_le _) (by simp)).1
  obtain ⟨h1, _, h3⟩ := h
  rw [Array.extract_eq_self_of_le (by rw [h1]; simp), Array.extract_eq_self_of_le (by simp)] at h3
  simpa [sortM] using h3
theorem sortM_len (l : List Mem) : (sortM l).length = l.length := (sortM_perm l).length_eq
theorem ownM {w : World} {base g cap n : Nat} {os : Array Obj} {l l' : List Mem} (hl : l'.length = l.length) (h : w.ownsRow base 80 5 (.slice (some ⟨g, 0, none⟩) l.length cap) l.length (l.flatMap memC)) :
    (grow (putRow id (Sort.ahead w n) g 0 (l'.flatMap memC).toArray) os).ownsRow base 80 5 (.slice (some ⟨g, 0, none⟩) l.length cap) l.length (l'.flatMap memC) := by
  rcases h.2 with ⟨e, _⟩ | ⟨g', cap', cur, e, hb, hg, h1, h2, h3, h4⟩
  · cases e
  · cases e
    have hlen := lenM l'
    refine ⟨by rw [hlen, hl], .inr ⟨g, cap, _, rfl, hb, heapM _ hg, h1, h2, by simp [putCells, h3], ?_⟩⟩
    have e1 : l.length * 5 = (l'.flatMap memC).length := by rw [hlen, hl]
    rw [e1]
    refine takeM cur _ ?_
    rw [hlen, hl, h3]
    exact Nat.mul_le_mul_right _ h1
set_option maxHeartbeats 2000000 in
set_option maxRecDepth 100000 in
theorem stable_at (l : List Mem) (hl : l.length ≤ 8) (b cap base : Nat) (w : World) (h : w.ownsRow base 80 5 (.slice (some ⟨b, 0, none⟩) l.length cap) l.length (l.flatMap memC)) :
    Calls Tryz.prog 116 #[.slice (some ⟨b, 0, none⟩) l.length cap, .int .i64 l.length, .func (.func 101) #[] #[]] w fun e w' => e = .returned (.tuple #[]) ∧ w'.ownsRow base 80 5 (.slice (some ⟨b, 0, none⟩) l.length cap) l.length ((sortM l).flatMap memC) ∧ w.grownBy w' (some b) := by
  obtain ⟨cs, hcs⟩ := own_blk h rfl
  have hI := AnyQ.insertionSortCmpFunc Tryz.insA 5 (fun w => by kernel_rfl) (fun w => by kernel_rfl) memC (fun _ => rfl) (fun m v hv => by simp [memC] at hv; rcases hv with rfl | rfl | rfl | rfl | rfl <;> rfl) cmpM 101 #[] b 0 cap 0 l.length l.toArray w (enters_of Tryz.func101 (by kernel_rfl) rfl) (cmpLaysM b 0 l.toArray.size w) (holdsM h) (lt_blk hcs) (Nat.zero_le _) (by simp) (by simp; omega)
  rw [cmpM_lt] at hI
  have hI' : Calls Tryz.prog 124 #[.slice (some ⟨b, 0, none⟩) l.length cap, .int .i64 0, .int .i64 l.length, .func (.func 101) #[] #[]] w fun e w' => e = .returned (.tuple #[]) ∧ w'.ownsRow base 80 5 (.slice (some ⟨b, 0, none⟩) l.length cap) l.length ((sortM l).flatMap memC) ∧ w.grownBy w' (some b) := by
    refine Calls.mono hI ?_
    rintro e w' ⟨rfl, n, os, rfl⟩
    have e1 : putRowK memC 5 (Sort.ahead w n) b 0 (Sort.insertionSort sentLt l.toArray 0 l.length) = putRow id (Sort.ahead w n) b 0 ((sortM l).flatMap memC).toArray := by
      unfold putRowK
      rw [← flat_list]; rfl
    unfold sortWorldK
    rw [e1]
    exact ⟨rfl, ownM (sortM_len l) h, grownM _⟩
  have HI := hide hI'
  clear hI hI' h hcs
  go_enter Tryz.func116, Tryz.ntmps116
  go_wp2
  refine wp_loop_rounds 1 ?_
  rw [rounds_succ]
  go_wp2_with fail
  refine (unhide HI).mono ?_
  rintro e w1 ⟨rfl, ho, hg⟩
  have HO := hide ho
  have HG := hide hg
  clear ho hg HI
  go_wp2
  refine wp_loop_rounds 1 ?_
  rw [rounds_succ]
  go_wp2
  go_end0
  exact ⟨rfl, unhide HO, unhide HG⟩
set_option maxHeartbeats 1000000 in
theorem ins_nil (fv : Value) (w : World) : Calls Tryz.prog 124 #[.slice none 0 0, .int .i64 0, .int .i64 0, fv] w fun e w' => e = .returned (.tuple #[]) ∧ w' = w := by
  go_enter Tryz.func124, Tryz.ntmps124
  go_wp2
  refine wp_loop_rounds 1 ?_
  rw [rounds_succ]
  go_wp2
  go_end0
  exact ⟨rfl, rfl⟩
set_option maxHeartbeats 1000000 in
theorem stable_nil (fv : Value) (w : World) : Calls Tryz.prog 116 #[.slice none 0 0, .int .i64 0, fv] w fun e w' => e = .returned (.tuple #[]) ∧ w' = w := by
  go_enter Tryz.func116, Tryz.ntmps116
  go_wp2
  refine wp_loop_rounds 1 ?_
  rw [rounds_succ]
  go_wp2_with fail
  refine (ins_nil _ _).mono ?_
  rintro e w1 ⟨rfl, rfl⟩
  go_wp2
  refine wp_loop_rounds 1 ?_
  rw [rounds_succ]
  go_wp2
  go_end0
  exact ⟨rfl, rfl⟩
set_option maxHeartbeats 1000000 in
/-- The sort, of a row of the call's own. -/
theorem sort_any (l : List Mem) (hl : l.length ≤ 8) {base : Nat} {v : Value} {w : World} (h : w.ownsRow base 80 5 v l.length (l.flatMap memC)) :
    Calls Tryz.prog 100 #[v, .func (.func 101) #[] #[]] w fun e w' => e = .returned (.tuple #[]) ∧ w'.ownsRow base 80 5 v l.length ((sortM l).flatMap memC) ∧ w.grownBy w' v.ownBlock := by
  have h0 := h
  rcases h.2 with ⟨rfl, e0⟩ | ⟨g, cap, cur, rfl, hb, hg, h1, h2, h3, h4⟩
  · obtain rfl : l = [] := List.length_eq_zero_iff.1 e0
    have HR := hide h0
    clear h h0
    go_enter Tryz.func100, Tryz.ntmps100
    go_wp2_with fail
    refine (stable_nil _ _).mono ?_
    rintro e w1 ⟨rfl, rfl⟩
    go_wp2
    go_end0
    refine ⟨rfl, ?_, ?_⟩
    · have : sortM [] = [] := List.length_eq_zero_iff.1 (sortM_len [])
      rw [this]; exact unhide HR
    · exact ⟨rfl, rfl, rfl, Nat.le_refl _, fun _ _ _ => rfl⟩
  · have HS := hide (stable_at l hl g cap base w h0)
    clear h h0 hg h1 h2 h3 h4 hb
    go_enter Tryz.func100, Tryz.ntmps100
    go_wp2_with fail
    refine (unhide HS).mono ?_
    rintro e w1 ⟨rfl, ho, hg⟩
    have HO := hide ho
    have HG := hide hg
    clear ho hg HS
    go_wp2
    go_end0
    exact ⟨rfl, unhide HO, unhide HG⟩
end Go.Proofs.YtnneljcbelgoeaaGreat.wire
