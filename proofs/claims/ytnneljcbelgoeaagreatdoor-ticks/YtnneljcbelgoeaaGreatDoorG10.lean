import Derived.Test.YtnneljcbelgoeaaGreatDoorG09
import Derived.Sort.LotA
import Derived.Sort.OwnSorted
/- The updates by how often they were sent: slices.SortStableFunc at a table's members. -/
namespace Go.Proofs.YtnneljcbelgoeaaGreatDoor.wire
open Go.RowKit Go.Maps Go.Sort Go.Shelf Go.Lib

abbrev cmpM (a b : Mem) : Int := Lib.compareInt b.sends a.sends
theorem cmpM_lt : ltOf cmpM = sentLt := by
  funext a b
  simp only [ltOf, cmpM, sentLt, sentCmp, Lib.compareInt]
  by_cases h1 : b.sends < a.sends
  · simp [h1]
  · by_cases h2 : a.sends < b.sends
    · simp [h1, h2]
    · simp [h1, h2]
theorem sent_swo : SWO sentLt := by
  have e : sentLt = fun a b : Mem => decide (b.sends < a.sends) := by
    funext a b
    simp only [sentLt, sentCmp]
    by_cases h1 : b.sends < a.sends
    · simp [h1]
    · by_cases h2 : a.sends < b.sends
      · simp [h1, h2]
      · simp [h1, h2]
  rw [e]
  exact ⟨fun a => by simp, fun a b c h1 h2 => by simp at h1 h2 ⊢; omega, fun a b c h1 h2 => by simp at h1 h2 ⊢; omega⟩
set_option maxHeartbeats 1000000 in
theorem sentLess_any (a b : Mem) (W : World) : Calls Tryz.prog 158 #[.agg #[.int .i64 a.k.id, .int .i64 a.k.inc, .int .i64 a.k.st, .int .i64 a.due, .int .i64 a.sends], .agg #[.int .i64 b.k.id, .int .i64 b.k.inc, .int .i64 b.k.st, .int .i64 b.due, .int .i64 b.sends]] W fun e w' => e = .returned (.int .i64 (cmpM a b)) ∧ ∃ q os', w' = grow (W.drewN q) os' := by
  have hcon : ∀ W', Calls Tryz.prog 167 #[.int .i64 b.sends, .int .i64 a.sends] W' fun e w' => e = .returned (.int .i64 (cmpM a b)) ∧ w' = W' := fun W' => AnyG.cmp_Compare_int Tryz.cmpA b.sends a.sends W'
  generalize cmpM a b = r at hcon ⊢
  go_enter Tryz.func158, Tryz.ntmps158
  go_wp2_with (go_at_call 167; refine (hcon _).mono ?_; rintro e w' ⟨rfl, rfl⟩)
  go_ret
  exact ⟨rfl, 0, _, by rw [alloc_eq_grow, alloc_eq_grow, grow_grow]; rfl⟩
theorem cmpLaysM (blk off size : Nat) (w : World) : CmpLays Tryz.prog 158 #[] memC 5 cmpM blk off size w :=
  fun _ _ _ _ x y => sentLess_any x y _
theorem flat_list (l : List Mem) : flatK memC 5 l.toArray = (l.flatMap memC).toArray := by
  refine ext_get! (by rw [size_flatK, List.size_toArray, List.size_toArray, lenM]) fun t ht => ?_
  have ht' : t < l.length * 5 := by simpa using ht
  rw [get_flatK _ _ _ t (by simpa using ht')]
  have h5 : t / 5 < l.length := by omega
  have := getM l (t / 5) h5 (t % 5) (by omega)
  rw [show t / 5 * 5 + t % 5 = t by omega] at this
  have e1 : l.toArray[t / 5]! = l[t / 5] := by simp [h5]
  rw [e1]
  have hm : (memC l[t / 5])[t % 5]? = some (memC l[t / 5])[t % 5]! := by
    have : t % 5 < (memC l[t / 5]).length := by simp [memC]; omega
    simp [this]
  rw [hm] at this
  simp [getElem!_def, this]
theorem holdsM {w : World} {base b cap : Nat} {l : List Mem} (h : w.ownsRow base 150 5 (.slice (some ⟨b, 0, none⟩) l.length cap) l.length (l.flatMap memC)) : HoldsK memC 5 w b 0 l.toArray := by
  rcases h.2 with ⟨e, _⟩ | ⟨g, cap', cur, e, hb, hg, h1, h2, h3, h4⟩
  · cases e
  · cases e
    intro j hj
    rw [flat_list] at hj ⊢
    have hj' : j < (l.flatMap memC).length := by simpa using hj
    refine ⟨?_, free_at hg _⟩
    rw [cell_at hg, Nat.zero_add]
    have h5 := lenM l
    have : cur[j]? = (l.flatMap memC)[j]? := by rw [← h4, List.getElem?_take_of_lt (by omega), Array.getElem?_toList]
    rw [this, getElem!_def]
    simp [List.getElem?_eq_getElem hj']
theorem heapM {w : World} {g n : Nat} {os : Array Obj} {cur : Array Value} {e : TypeId} {fr : Nat × Nat} (d : Array Value) (hb : w.heap[g]? = some (.cells cur e fr)) :
    (grow (putRow id (Sort.ahead w n) g 0 d) os).heap[g]? = some (.cells (putCells id 0 d cur) e fr) := by
  have hg : g < w.heap.size := (Array.getElem?_eq_some_iff.1 hb).1
  rw [heap_grow_old _ _ (by simpa using hg)]
  simp [putRow, mapBlock, Sort.ahead, Array.getElem?_modify, hb, onCells]
theorem takeM (cur : Array Value) (ts : List Value) (h : ts.length ≤ cur.size) : (putCells id 0 ts.toArray cur).toList.take ts.length = ts := by
  apply List.ext_getElem?
  intro j
  by_cases hj : j < ts.length
  · rw [List.getElem?_take_of_lt hj, Array.getElem?_toList]
    simp [putCells, hj, show j < cur.size by omega]
  · rw [List.getElem?_take_eq_none (by omega), List.getElem?_eq_none (by omega)]
theorem grownM {w : World} {g n : Nat} {os : Array Obj} (d : Array Value) : w.grownBy (grow (putRow id (Sort.ahead w n) g 0 d) os) (some g) := by
  refine ⟨rfl, rfl, rfl, by simp, fun k hk hne => ?_⟩
  rw [heap_grow_old _ _ (by simpa using hk)]
  have : g ≠ k := fun e => hne (by rw [e])
  simp [putRow, mapBlock, Sort.ahead, Array.getElem?_modify, this]
theorem sortM_perm (l : List Mem) : (sortM l).Perm l := by
  have h := (insertionSort_holds (lt := sentLt) sent_swo l.toArray 0 l.length (Nat.zero_le _) (by simp)).1
  obtain ⟨h1, _, h3⟩ := h
  rw [Array.extract_eq_self_of_le (by rw [h1]; simp), Array.extract_eq_self_of_le (by simp)] at h3
  simpa [sortM] using h3
theorem sortM_len (l : List Mem) : (sortM l).length = l.length := (sortM_perm l).length_eq
theorem ownM {w : World} {base g cap n : Nat} {os : Array Obj} {l l' : List Mem} (hl : l'.length = l.length) (h : w.ownsRow base 150 5 (.slice (some ⟨g, 0, none⟩) l.length cap) l.length (l.flatMap memC)) :
    (grow (putRow id (Sort.ahead w n) g 0 (l'.flatMap memC).toArray) os).ownsRow base 150 5 (.slice (some ⟨g, 0, none⟩) l.length cap) l.length (l'.flatMap memC) := by
  rcases h.2 with ⟨e, _⟩ | ⟨g', cap', cur, e, hb, hg, h1, h2, h3, h4⟩
  · cases e
  · cases e
    have hlen := lenM l'
    refine ⟨by rw [hlen, hl], .inr ⟨g, cap, _, rfl, hb, heapM _ hg, h1, h2, by simp [putCells, h3], ?_⟩⟩
    have e1 : l.length * 5 = (l'.flatMap memC).length := by rw [hlen, hl]
    rw [e1]
    refine takeM cur _ ?_
    rw [hlen, hl, h3]
    exact Nat.mul_le_mul_right _ h1
set_option maxHeartbeats 2000000 in
set_option maxRecDepth 100000 in
theorem stable_at (l : List Mem) (hl : l.length ≤ 8) (b cap base : Nat) (w : World) (h : w.ownsRow base 150 5 (.slice (some ⟨b, 0, none⟩) l.length cap) l.length (l.flatMap memC)) :
    Calls Tryz.prog 166 #[.slice (some ⟨b, 0, none⟩) l.length cap, .int .i64 l.length, .func (.func 158) #[] #[]] w fun e w' => e = .returned (.tuple #[]) ∧ w'.ownsRow base 150 5 (.slice (some ⟨b, 0, none⟩) l.length cap) l.length ((sortM l).flatMap memC) ∧ w.grownBy w' (some b) := by
  obtain ⟨cs, hcs⟩ := own_blk h rfl
  have hI := AnyQ.insertionSortCmpFunc Tryz.insA 5 (fun w => by kernel_rfl) (fun w => by kernel_rfl) memC (fun _ => rfl) (fun m v hv => by simp [memC] at hv; rcases hv with rfl | rfl | rfl | rfl | rfl <;> rfl) cmpM 158 #[] b 0 cap 0 l.length l.toArray w (enters_of Tryz.func158 (by kernel_rfl) rfl) (cmpLaysM b 0 l.toArray.size w) (holdsM h) (lt_blk hcs) (Nat.zero_le _) (by simp) (by simp; omega)
  rw [cmpM_lt] at hI
  have hI' : Calls Tryz.prog 179 #[.slice (some ⟨b, 0, none⟩) l.length cap, .int .i64 0, .int .i64 l.length, .func (.func 158) #[] #[]] w fun e w' => e = .returned (.tuple #[]) ∧ w'.ownsRow base 150 5 (.slice (some ⟨b, 0, none⟩) l.length cap) l.length ((sortM l).flatMap memC) ∧ w.grownBy w' (some b) := by
    refine Calls.mono hI ?_
    rintro e w' ⟨rfl, n, os, rfl⟩
    have e1 : putRowK memC 5 (Sort.ahead w n) b 0 (Sort.insertionSort sentLt l.toArray 0 l.length) = putRow id (Sort.ahead w n) b 0 ((sortM l).flatMap memC).toArray := by
      unfold putRowK
      rw [← flat_list]; rfl
    unfold sortWorldK
    rw [e1]
    exact ⟨rfl, ownM (sortM_len l) h, grownM _⟩
  have HI := hide hI'
  clear hI hI' h hcs
  go_enter Tryz.func166, Tryz.ntmps166
  go_wp2
  refine wp_loop_rounds 1 ?_
  rw [rounds_succ]
  go_wp2_with fail
  refine (unhide HI).mono ?_
  rintro e w1 ⟨rfl, ho, hg⟩
  have HO := hide ho
  have HG := hide hg
  clear ho hg HI
  go_wp2
  refine wp_loop_rounds 1 ?_
  rw [rounds_succ]
  go_wp2
  go_end0
  exact ⟨rfl, unhide HO, unhide HG⟩
set_option maxHeartbeats 1000000 in
theorem ins_nil (fv : Value) (w : World) : Calls Tryz.prog 179 #[.slice none 0 0, .int .i64 0, .int .i64 0, fv] w fun e w' => e = .returned (.tuple #[]) ∧ w' = w := by
  go_enter Tryz.func179, Tryz.ntmps179
  go_wp2
  refine wp_loop_rounds 1 ?_
  rw [rounds_succ]
  go_wp2
  go_end0
  exact ⟨rfl, rfl⟩
set_option maxHeartbeats 1000000 in
theorem stable_nil (fv : Value) (w : World) : Calls Tryz.prog 166 #[.slice none 0 0, .int .i64 0, fv] w fun e w' => e = .returned (.tuple #[]) ∧ w' = w := by
  go_enter Tryz.func166, Tryz.ntmps166
  go_wp2
  refine wp_loop_rounds 1 ?_
  rw [rounds_succ]
  go_wp2_with fail
  refine (ins_nil _ _).mono ?_
  rintro e w1 ⟨rfl, rfl⟩
  go_wp2
  refine wp_loop_rounds 1 ?_
  rw [rounds_succ]
  go_wp2
  go_end0
  exact ⟨rfl, rfl⟩
set_option maxHeartbeats 1000000 in
/-- The sort, of a row of the call's own. -/
theorem sort_any (l : List Mem) (hl : l.length ≤ 8) {base : Nat} {v : Value} {w : World} (h : w.ownsRow base 150 5 v l.length (l.flatMap memC)) :
    Calls Tryz.prog 157 #[v, .func (.func 158) #[] #[]] w fun e w' => e = .returned (.tuple #[]) ∧ w'.ownsRow base 150 5 v l.length ((sortM l).flatMap memC) ∧ w.grownBy w' v.ownBlock := by
  have h0 := h
  rcases h.2 with ⟨rfl, e0⟩ | ⟨g, cap, cur, rfl, hb, hg, h1, h2, h3, h4⟩
  · obtain rfl : l = [] := List.length_eq_zero_iff.1 e0
    have HR := hide h0
    clear h h0
    go_enter Tryz.func157, Tryz.ntmps157
    go_wp2_with fail
    refine (stable_nil _ _).mono ?_
    rintro e w1 ⟨rfl, rfl⟩
    go_wp2
    go_end0
    refine ⟨rfl, ?_, ?_⟩
    · have : sortM [] = [] := List.length_eq_zero_iff.1 (sortM_len [])
      rw [this]; exact unhide HR
    · exact ⟨rfl, rfl, rfl, Nat.le_refl _, fun _ _ _ => rfl⟩
  · have HS := hide (stable_at l hl g cap base w h0)
    clear h h0 hg h1 h2 h3 h4 hb
    go_enter Tryz.func157, Tryz.ntmps157
    go_wp2_with fail
    refine (unhide HS).mono ?_
    rintro e w1 ⟨rfl, ho, hg⟩
    have HO := hide ho
    have HG := hide hg
    clear ho hg HS
    go_wp2
    go_end0
    exact ⟨rfl, unhide HO, unhide HG⟩
end Go.Proofs.YtnneljcbelgoeaaGreatDoor.wire
/- What a packet has along (P7). -/
namespace Go.Proofs.YtnneljcbelgoeaaGreatDoor.wire
open Go.RowKit Go.Maps Go.Sort Go.Shelf

def lessAll (l : List Mem) (t : List Mem) : List Mem := l.foldl (fun t m => putM m.less t) t
theorem lessAll_snoc (l : List Mem) (k : Nat) (h : k < l.length) (t : List Mem) : lessAll (l.take (k + 1)) t = putM (l[k]).less (lessAll (l.take k) t) := by
  unfold lessAll
  rw [List.take_succ_eq_append_getElem h, List.foldl_append]; rfl
theorem lessAll_rise : ∀ (l : List Mem) {t : List Mem}, Rise t → Rise (lessAll l t)
  | [], _, h => h
  | m :: r, t, h => lessAll_rise r (putM_rise m.less t h)
theorem lessAll_len : ∀ (l : List Mem) {t : List Mem}, Rise t → (lessAll l t).length ≤ t.length + l.length
  | [], _, _ => Nat.le_refl _
  | m :: r, t, h => by
    have h1 := lessAll_len r (putM_rise m.less t h)
    have h2 := putM_len m.less t h
    have h3 : (putM m.less t).length ≤ t.length + 1 := by rw [h2]; split <;> omega
    show (lessAll r (putM m.less t)).length ≤ _
    simp only [List.length_cons]; omega
theorem picks_mem {x : Nd} {m : Mem} (h : m ∈ x.picks) : m ∈ x.tab ∧ pendB m = true := by
  have h1 := List.mem_of_mem_take h
  have h2 := (sortM_perm _).mem_iff.1 h1
  exact List.mem_filter.1 h2
theorem picks_len (x : Nd) : x.picks.length ≤ 4 := by simp [Nd.picks]; omega
/-- What stands while the picked ones are counted. -/
structure AI (W wr : World) (nb mb : Nat) (cb : Dk) (g cap : Nat) (pv rv : Value) (x : Nd) (n k : Nat) : Prop where
  nat : NAt wr nb mb cb pv rv { x with tab := lessAll (x.picks.take k) x.tab }
  row : wr.ownsRow W.heap.size 150 5 (.slice (some ⟨g, 0, none⟩) n cap) n (x.picks.flatMap memC)
  frm : Frm [mb] W wr
set_option maxHeartbeats 2000000 in
set_option maxRecDepth 100000 in
theorem along_loop {x : Nd} (hx : NdOk x) {W wr : World} {nb mb : Nat} {cb : Dk} {g cap : Nat} {pv rv : Value} {k : Nat} (hk : k < x.picks.length) (h : AI W wr nb mb cb g cap pv rv x x.picks.length k) (K : Mem) (hK : K = x.picks[k]) :
    ∃ w1, (Instr.mapUpdate 117 (.map (some mb)) (.int .i64 K.k.id) (.agg #[.int .i64 K.k.id, .int .i64 K.k.inc, .int .i64 K.k.st, .int .i64 K.due, .int .i64 (K.sends - 1)])).run Tryz.prog (wr.alloc (.cells #[.int .i64 K.k.id, .int .i64 K.k.inc, .int .i64 K.k.st, .int .i64 K.due, .int .i64 (K.sends - 1)] 150)).drew = .ok () w1 ∧ AI W w1 nb mb cb g cap pv rv x x.picks.length (k + 1) := by
  subst hK
  have hm := picks_mem (List.getElem_mem hk)
  have hkey := (key_bounds (hx.keys _ hm.1)).1
  have hl := lessAll_len (x.picks.take k) hx.rise
  have hl2 := hx.len
  have hp := picks_len x
  have hn1 := (h.nat.alloc (.cells #[.int .i64 x.picks[k].k.id, .int .i64 x.picks[k].k.inc, .int .i64 x.picks[k].k.st, .int .i64 x.picks[k].due, .int .i64 (x.picks[k].sends - 1)] 150)).drew
  obtain ⟨w1, hrun, hown, hg⟩ := hn1.map.update law Tryz.underlying117 (key := .int .i64 x.picks[k].k.id) (val := memv x.picks[k].less) (by simp at hl ⊢; unfold maxLen; omega) (key_wf (by omega) (by omega)) (d := .held (memv x.picks[k].less)) (ps := []) rfl
  have hn2 := hn1.put (lessAll_rise _ hx.rise) x.picks[k].less hown hg
  have hb1 : Below wr.heap.size wr (wr.alloc (.cells #[.int .i64 x.picks[k].k.id, .int .i64 x.picks[k].k.inc, .int .i64 x.picks[k].k.st, .int .i64 x.picks[k].due, .int .i64 (x.picks[k].sends - 1)] 150)).drew := ((Below.refl _ _).alloc (Nat.le_refl _) _).drew
  have hf2 : Frm [mb] wr w1 := (Frm.of_below hb1 (Nat.le_refl _)).trans (S' := [mb]) (Frm.of_grown hg (fun j hj => by simp at hj; simp [hj])) (by simp)
  refine ⟨w1, hrun, ⟨?_, ?_, h.frm.trans hf2 (by simp)⟩⟩
  · rw [lessAll_snoc _ _ hk]; exact hn2
  · refine own_frm h.row hf2 (fun j hj => ?_)
    obtain ⟨cs, hcs⟩ := own_blk h.row hj
    obtain ⟨es, c, hmb⟩ := map_blk h.nat.map
    simp only [List.mem_cons, List.not_mem_nil, or_false]
    intro e
    rw [e, hmb] at hcs; cases hcs
theorem cutM {w : World} {base g cap n : Nat} {l : List Mem} (h : w.ownsRow base 150 5 (.slice (some ⟨g, 0, none⟩) n cap) n (l.flatMap memC)) (hn : l.length = n) (j : Nat) (hj : j ≤ n) :
    w.ownsRow base 150 5 (.slice (some ⟨g, 0, none⟩) j cap) j ((l.take j).flatMap memC) := by
  rcases h.2 with ⟨e, _⟩ | ⟨g', cap', cur, e, hb, hg, h1, h2, h3, h4⟩
  · cases e
  · cases e
    refine ⟨by rw [lenM]; simp; omega, .inr ⟨g, cap, cur, rfl, hb, hg, by omega, h2, h3, ?_⟩⟩
    have e1 : l.flatMap memC = (l.take j).flatMap memC ++ (l.drop j).flatMap memC := by rw [← List.flatMap_append, List.take_append_drop]
    have e2 : cur.toList.take (j * 5) = (cur.toList.take (n * 5)).take (j * 5) := by rw [List.take_take, Nat.min_eq_left (Nat.mul_le_mul_right 5 hj)]
    rw [e2, h4, e1, List.take_left' (by rw [lenM]; simp; omega)]
set_option maxHeartbeats 4000000 in
set_option maxRecDepth 100000 in
theorem along_any {x : Nd} (hx : NdOk x) {nb mb : Nat} {cb : Dk} {pv rv : Value} {W : World} (hn : NAt W nb mb cb pv rv x) :
    Calls Tryz.prog 139 #[.pointer (some ⟨nb, 0, none⟩)] W fun e w' => ∃ v, e = .returned v ∧ w'.ownsRow W.heap.size 76 3 v (x.picks.map Mem.k).length ((x.picks.map Mem.k).flatMap keyC) ∧ NAt w' nb mb cb pv rv x.along ∧ Frm [mb] W w' := by
  have HX := hide hx
  have HN := hide hn
  have HM := hide (members_any hx hn)
  have hlen := hx.len
  have hlt := hn.lt
  clear hx hn
  go_enter Tryz.func139, Tryz.ntmps139
  go_wp2_with fail
  refine (unhide HM).mono ?_
  rintro e w1 ⟨v1, rfl, ho1, hb1⟩
  have HK := hide (keepM_any x.tab pendB 110 #[] #[] ho1 (by omega) (enters_of Tryz.func110 (by kernel_rfl) rfl) (fun m W' _ => pend_any m W'))
  have HB1 := hide hb1
  clear ho1 hb1 HM
  go_wp2_with fail
  refine (unhide HK).mono ?_
  rintro e w2 ⟨v2, rfl, ho2, hb2⟩
  have hb02 : Below W.heap.size W w2 := (unhide HB1).trans (hb2.mono (unhide HB1).size)
  have ho2' := own_mono ho2 (unhide HB1).size
  have hpl : (x.tab.filter pendB).length ≤ 8 := Nat.le_trans (List.length_filter_le _ _) hlen
  have HS := hide (sort_any (x.tab.filter pendB) hpl ho2')
  have HB2 := hide hb02
  have HO2 := hide ho2'
  clear ho2 ho2' hb2 hb02 HK HB1
  go_wp2_with fail
  refine (unhide HS).mono ?_
  rintro e w3 ⟨rfl, ho3, hg3⟩
  have hb03 : Below W.heap.size W w3 := (unhide HB2).grown hg3 (unhide HB2).size (fun j hj => (own_lt (unhide HO2) hj).1)
  have HB3 := hide hb03
  clear hg3 hb03 HS HB2 HO2
  generalize hP : (x.tab.filter pendB).length = P at ho3 hpl
  have hPL : (sortM (x.tab.filter pendB)).length = P := by rw [sortM_len]; exact hP
  have HPL := hide hPL
  clear hP hPL
  rcases ho3.2 with ⟨rfl, e0⟩ | ⟨g, cap, cur, rfl, hgb, hg, h1, h2, h3, h4⟩
  · -- nothing to pass on
    subst e0
    have hpk : x.picks = [] := by
      have : sortM (x.tab.filter pendB) = [] := List.length_eq_zero_iff.1 (unhide HPL)
      simp [Nd.picks, this]
    have HPK := hide hpk
    clear hpk ho3 HPL
    go_wp2
    refine wp_loop_rounds 1 ?_
    rw [rounds_succ]
    go_wp2_with fail
    refine (turnMK_nil Mem.k _ _).mono ?_
    rintro e w4 ⟨v', rfl, ho4, hb4⟩
    have HO4 := hide ho4
    have HB4 := hide hb4
    clear ho4 hb4
    go_wp2
    go_ret
    have e1 : x.along = x := by simp [Nd.along, unhide HPK]
    have hb := (unhide HB3).trans ((unhide HB4).mono (unhide HB3).size)
    rw [e1]
    refine ⟨v', rfl, ?_, (unhide HN).below hb, Frm.of_below hb (Nat.le_refl _)⟩
    rw [unhide HPK]
    exact own_mono (unhide HO4) (unhide HB3).size
  · have hcm : cap ≤ 9223372036854775807 := h2
    clear hg h2 h3 h4 hgb
    have HO3 := hide ho3
    clear ho3
    obtain ⟨N, hN, hN4, hNP⟩ : ∃ N, x.picks.length = N ∧ N ≤ 4 ∧ N ≤ P ∧ (N = P ∨ (N = 4 ∧ 4 < P)) := by
      have e : x.picks.length = min 4 P := by simp [Nd.picks, unhide HPL]
      rcases Nat.le_total P 4 with h | h
      · exact ⟨P, by rw [e, Nat.min_eq_right h], h, Nat.le_refl _, .inl rfl⟩
      · rcases Nat.eq_or_lt_of_le h with h' | h'
        · exact ⟨P, by rw [e, ← h']; rfl, by omega, Nat.le_refl _, .inl rfl⟩
        · exact ⟨4, by rw [e, Nat.min_eq_left h], Nat.le_refl _, h, .inr ⟨rfl, h'⟩⟩
    obtain ⟨hNP, hNc⟩ := hNP
    have hrow : w3.ownsRow W.heap.size 150 5 (.slice (some ⟨g, 0, none⟩) N cap) N (x.picks.flatMap memC) := by
      have := cutM (unhide HO3) (unhide HPL) N hNP
      have e : x.picks = (sortM (x.tab.filter pendB)).take N := by
        rcases hNc with rfl | ⟨rfl, _⟩
        · rw [List.take_of_length_le (by rw [unhide HPL]; exact Nat.le_refl _), Nd.picks, List.take_of_length_le (by rw [unhide HPL]; exact hN4)]
        · rfl
      rw [e]; exact this
    have hai : AI W w3 nb mb cb g cap pv rv x x.picks.length 0 := by
      rw [hN]
      exact ⟨(unhide HN).below (unhide HB3), hrow, Frm.of_below (unhide HB3) (Nat.le_refl _)⟩
    have HA := hide hai
    have hm3 : min (P : Int) 4 = N := by
      rcases hNc with rfl | ⟨rfl, h⟩
      · exact Int.min_eq_left (by omega)
      · exact Int.min_eq_right (by omega)
    have HNN := hide hN
    clear hrow hai HO3 hN HB3
    go_wp2
    clear hm3 HPL hNc
    go_loopw [18] (fun i wr => ∃ k : Nat, k ≤ N ∧ i = .int .i64 k ∧ Hid (AI W wr nb mb cb g cap pv rv x x.picks.length k)) (fun i _ => N - (Go.RowKit.intOf i).toNat)
    case atStart => exact ⟨0, Nat.zero_le _, rfl, HA⟩
    case round =>
      obtain ⟨k, hk, rfl, HI⟩ := hrel
      by_cases hlt : k < N
      · have hkp : k < x.picks.length := by rw [unhide HNN]; exact hlt
        have hrk := rowM (unhide HI).row k hkp
        obtain ⟨w1', hrun, hai⟩ := along_loop (unhide HX) hkp (unhide HI) x.picks[k] rfl
        have hms := (unhide HX).sends _ (picks_mem (List.getElem_mem hkp)).1
        have c7 := (unhide HI).nat.c_map
        have hltn := (unhide HI).nat.lt
        simp only [Nat.zero_add] at hrk
        generalize x.picks[k] = K at hrk hrun hms
        obtain ⟨c0, c1, c2, c3, c4⟩ := hrk
        have HA1 := hide hai
        clear hai HI hkp
        go_wp2
        refine wp_region_still_tail 8 (by kernel_rfl) (by kernel_rfl) ?_
        simp only [List.take_succ_cons, List.take_zero, List.drop_succ_cons, List.drop_zero]
        change wpStill _ _ (wr.alloc (.cells #[.int .i64 K.k.id, .int .i64 K.k.inc, .int .i64 K.k.st, .int .i64 K.due, .int .i64 (K.sends - 1)] 150)).drew (fun a' => wpList _ _ _ _ a' (wr.alloc (.cells #[.int .i64 K.k.id, .int .i64 K.k.inc, .int .i64 K.k.st, .int .i64 K.due, .int .i64 (K.sends - 1)] 150)).drew) _ _
        repeat still_step
        refine wpStill_nil ?_
        go_wp2
        go_roundw
        case rel => exact ⟨k + 1, by omega, by go_num, HA1⟩
        case measure => simp [Go.RowKit.intOf]; omega
      · have e : k = N := by omega
        subst e
        have hT := turnMK_any x.picks Mem.k 143 #[] #[] (unhide HI).row (by rw [unhide HNN]; omega) (enters_of Tryz.func143 (by kernel_rfl) rfl) (fun m _ W' _ => key_any m W')
        rw [unhide HNN] at hT
        have HT := hide hT
        clear hT
        go_wp2_with fail
        refine (unhide HT).mono ?_
        rintro e w4 ⟨v', rfl, ho4, hb4⟩
        have HO4 := hide ho4
        have HB4 := hide hb4
        clear ho4 hb4 HT
        go_wp2
        go_ret
        refine ⟨v', rfl, own_mono (unhide HO4) (unhide HI).frm.size, ?_, (unhide HI).frm.step (unhide HB4)⟩
        have hn' := (unhide HI).nat
        rw [List.take_of_length_le (by rw [unhide HNN]; exact Nat.le_refl _)] at hn'
        exact hn'.below (unhide HB4)
end Go.Proofs.YtnneljcbelgoeaaGreatDoor.wire
/- The updates that ride along: the least sent, by rising ids. No Go here. -/
namespace Go.Proofs.YtnneljcbelgoeaaGreatDoor.wire
open Go.Sort

def lexLt (a b : Mem) : Bool := decide (b.sends < a.sends) || (decide (a.sends = b.sends) && decide (a.k.id < b.k.id))
theorem lex_swo : SWO lexLt := by
  refine ⟨fun a => by simp [lexLt], fun a b c h1 h2 => ?_, fun a b c h1 h2 => ?_⟩
  · simp only [lexLt, Bool.or_eq_true, Bool.and_eq_true, decide_eq_true_eq] at *
    omega
  · simp only [lexLt, Bool.or_eq_false_iff, Bool.and_eq_false_iff, decide_eq_false_iff_not] at *
    omega
theorem sent_eq (a b : Mem) : sentLt a b = decide (b.sends < a.sends) := by
  simp only [sentLt, sentCmp]
  by_cases h1 : b.sends < a.sends
  · simp [h1]
  · by_cases h2 : a.sends < b.sends
    · simp [h1, h2]
    · simp [h1, h2]
theorem lex_eq {a b : Mem} (h : b.k.id < a.k.id) : sentLt a b = lexLt a b := by
  rw [sent_eq, lexLt]
  have : decide (a.k.id < b.k.id) = false := by simp; omega
  rw [this]
  simp
theorem inner_eq : ∀ (j : Nat) (d : Array Mem), j < d.size → (∀ i, i < j → d[i]!.k.id < d[j]!.k.id) → insInner sentLt 0 j d = insInner lexLt 0 j d
  | 0, _, _, _ => rfl
  | j + 1, d, hj, h => by
    unfold insInner
    rw [lex_eq (h j (by omega))]
    split
    · refine inner_eq j _ (by rw [swp_size]; omega) (fun i hi => ?_)
      rw [swp_right d (j + 1) j (by omega), swp_other d (j + 1) j i (by omega) (by omega)]
      exact h i (by omega)
    · rfl
/-- What an insertion keeps. -/
theorem inner_keeps (lt : Mem → Mem → Bool) : ∀ (j : Nat) (d : Array Mem), j < d.size → (insInner lt 0 j d).size = d.size ∧ (∀ q, j < q → (insInner lt 0 j d)[q]! = d[q]!) ∧ ∀ P : Mem → Prop, (∀ p, p ≤ j → P d[p]!) → ∀ p, p ≤ j → P (insInner lt 0 j d)[p]!
  | 0, _, _ => ⟨rfl, fun _ _ => rfl, fun _ h => h⟩
  | j + 1, d, hj => by
    unfold insInner
    split
    · obtain ⟨a, b, c⟩ := inner_keeps lt j (swp d (j + 1) j) (by rw [swp_size]; omega)
      have e1 := swp_right d (j + 1) j (by omega)
      have e2 := swp_left d (j + 1) j hj (by omega)
      refine ⟨by rw [a, swp_size], fun q hq => by rw [b q (by omega), swp_other d (j + 1) j q (by omega) (by omega)], fun P hP p hp => ?_⟩
      by_cases e : p = j + 1
      · subst e
        rw [b (j + 1) (by omega), e2]
        exact hP j (by omega)
      · refine c P (fun p' hp' => ?_) p (by omega)
        by_cases e' : p' = j
        · subst e'; rw [e1]; exact hP _ (by omega)
        · rw [swp_other d (j + 1) j p' (by omega) e']; exact hP p' (by omega)
    · exact ⟨rfl, fun _ _ => rfl, fun _ h => h⟩
theorem outer_eq (b : Nat) : ∀ (m i : Nat) (d : Array Mem), b - i = m → b ≤ d.size → (∀ p q, p < q → i ≤ q → q < b → d[p]!.k.id < d[q]!.k.id) → insOuter sentLt 0 b i d = insOuter lexLt 0 b i d
  | 0, i, d, hm, _, _ => by
    unfold insOuter
    rw [if_neg (by omega), if_neg (by omega)]
  | m + 1, i, d, hm, hb, h => by
    unfold insOuter
    rw [if_pos (by omega), if_pos (by omega), inner_eq i d (by omega) (fun p hp => h p i hp (Nat.le_refl _) (by omega))]
    obtain ⟨k1, k2, k3⟩ := inner_keeps lexLt i d (by omega)
    refine outer_eq b m (i + 1) _ (by omega) (by rw [k1]; exact hb) (fun p q hpq hiq hqb => ?_)
    rw [k2 q (by omega)]
    by_cases e : p ≤ i
    · exact k3 (fun z => z.k.id < d[q]!.k.id) (fun p' hp' => h p' q (by omega) (by omega) hqb) p e
    · rw [k2 p (by omega)]
      exact h p q hpq (by omega) hqb
/-- Which of two is sent first. -/
def befM (a b : Mem) : Prop := b.sends < a.sends ∨ (a.sends = b.sends ∧ a.k.id < b.k.id)
theorem sortM_lex (l : List Mem) (h : Rise l) : sortM l = (insertionSort lexLt l.toArray 0 l.length).toList := by
  unfold sortM insertionSort
  rw [outer_eq l.length (l.length - (0 + 1)) (0 + 1) l.toArray rfl (by simp) (fun p q hpq _ hq => ?_)]
  have := List.pairwise_iff_getElem.1 h p q (by omega) hq hpq
  simpa [show p < l.length by omega, hq] using this
theorem sortM_sorted (l : List Mem) (h : Rise l) : (sortM l).Pairwise befM := by
  have hlen := sortM_len l
  obtain ⟨h1, h2⟩ := insertionSort_holds (lt := lexLt) lex_swo l.toArray 0 l.length (Nat.zero_le _) (by simp)
  have hnd : (sortM l).Pairwise (fun a b => a.k.id ≠ b.k.id) := by
    have h0 : l.Pairwise (fun a b => a.k.id ≠ b.k.id) := h.imp (fun {a b} hab => by omega)
    exact (sortM_perm l).symm.pairwise h0 (fun {a b} hab => Ne.symm hab)
  have hs : (insertionSort lexLt l.toArray 0 l.length).size = l.length := by rw [h1.1]; simp
  have e := sortM_lex l h
  rw [List.pairwise_iff_getElem] at hnd ⊢
  intro i j hi hj hij
  have hne := hnd i j hi hj hij
  have hx := h2 i j (Nat.zero_le _) hij (by omega)
  have g : ∀ k (hk : k < (sortM l).length), (insertionSort lexLt l.toArray 0 l.length)[k]! = (sortM l)[k] := fun k hk => by
    have hk2 : k < (insertionSort lexLt l.toArray 0 l.length).size := by omega
    rw [getElem!_pos _ k hk2]
    simp only [e, Array.getElem_toList]
  rw [g i hi, g j hj] at hx
  simp only [lexLt, Bool.or_eq_false_iff, Bool.and_eq_false_iff, decide_eq_false_iff_not] at hx
  unfold befM
  omega

/-- An update to be sent, and how often it was. -/
structure RU where
  k : K3
  sent : Int
instance : Inhabited RU := ⟨⟨⟨0, 0, 0⟩, 0⟩⟩
def befU (u v : RU) : Prop := u.sent < v.sent ∨ (u.sent = v.sent ∧ u.k.id < v.k.id)
def befB (u v : RU) : Bool := decide (u.sent < v.sent) || (decide (u.sent = v.sent) && decide (u.k.id < v.k.id))
theorem befB_iff (u v : RU) : befB u v = true ↔ befU u v := by simp [befB, befU]
/-- The best of the first n. -/
def bestN (l : List RU) : Nat → Nat
  | 0 => 0
  | n + 1 => if befB l[n]! l[bestN l n]! then n else bestN l n
def bestI (l : List RU) : Nat := bestN l l.length
theorem befU_trans {a b c : RU} (h1 : befU a b) (h2 : befU b c) : befU a c := by unfold befU at *; omega
theorem bestN_lt (l : List RU) : ∀ n, bestN l n ≤ n - 1
  | 0 => Nat.le_refl _
  | n + 1 => by
    unfold bestN
    split
    · omega
    · have := bestN_lt l n; omega
theorem bestN_best (l : List RU) : ∀ n, n ≤ l.length → ∀ i, i < n → ¬ befU l[i]! l[bestN l n]!
  | 0, _, i, hi => by omega
  | n + 1, hn, i, hi => by
    have ih := bestN_best l n (by omega)
    unfold bestN
    split
    · rename_i h
      rw [befB_iff] at h
      by_cases e : i = n
      · subst e; unfold befU; omega
      · intro hh; exact ih i (by omega) (befU_trans hh h)
    · rename_i h
      by_cases e : i = n
      · subst e
        rw [← befB_iff]
        exact h
      · exact ih i (by omega)
theorem cons_erase_perm {α : Type} : ∀ (l : List α) (i : Nat) (h : i < l.length), (l[i] :: l.eraseIdx i).Perm l
  | [], _, h => absurd h (by simp)
  | a :: r, 0, _ => by simp
  | a :: r, i + 1, h => by
    have ih := cons_erase_perm r i (by simpa using h)
    simp only [List.getElem_cons_succ, List.eraseIdx_cons_succ]
    exact (List.Perm.swap _ _ _).trans (ih.cons a)
/-- Of a list whose best is known, the best is found. -/
theorem best_is {l s : List RU} {b : RU} (hp : l.Perm (b :: s)) (hb : ∀ u ∈ s, befU b u) : bestI l < l.length ∧ l[bestI l]! = b ∧ (l.eraseIdx (bestI l)).Perm s := by
  have hlen := hp.length_eq
  simp only [List.length_cons] at hlen
  have hlt : bestI l < l.length := by have := bestN_lt l l.length; unfold bestI; omega
  have hbl : b ∈ l := hp.mem_iff.2 (List.mem_cons_self ..)
  obtain ⟨i, hi, e⟩ := List.getElem_of_mem hbl
  have hmin := bestN_best l l.length (Nat.le_refl _) i hi
  rw [getElem!_pos l i hi, e] at hmin
  have hm : l[bestI l]! ∈ b :: s := by
    rw [getElem!_pos l _ hlt]
    exact hp.mem_iff.1 (List.getElem_mem hlt)
  have hx : l[bestI l]! = b := by
    rcases List.mem_cons.1 hm with h | h
    · exact h
    · exact absurd (hb _ h) hmin
  refine ⟨hlt, hx, ?_⟩
  have h1 := cons_erase_perm l (bestI l) hlt
  rw [getElem!_pos l _ hlt] at hx
  rw [hx] at h1
  exact (h1.trans hp).cons_inv
/-- At most n ride along: who, who is left, who is to be sent again. -/
def updGo (sends : Int) : Nat → List RU → List K3 × List RU × List RU
  | 0, rest => ([], rest, [])
  | n + 1, rest => if rest.length = 0 then ([], rest, []) else
    let u := rest[bestI rest]!
    let q := updGo sends n (rest.eraseIdx (bestI rest))
    (u.k :: q.1, q.2.1, (if u.sent + 1 < sends then [⟨u.k, u.sent + 1⟩] else []) ++ q.2.2)
def RU.more (u : RU) : RU := ⟨u.k, u.sent + 1⟩
theorem upd_is (sends : Int) : ∀ (n : Nat) {l s : List RU}, l.Perm s → s.Pairwise befU →
    (updGo sends n l).1 = (s.take n).map RU.k ∧ (updGo sends n l).2.1.Perm (s.drop n) ∧ (updGo sends n l).2.2 = ((s.take n).map RU.more).filter (fun u => decide (u.sent < sends))
  | 0, l, s, hp, _ => ⟨by simp [updGo], by simpa [updGo] using hp, by simp [updGo]⟩
  | n + 1, l, s, hp, hs => by
    cases s with
    | nil =>
      have : l = [] := List.length_eq_zero_iff.1 hp.length_eq
      subst this
      simp [updGo]
    | cons b s =>
      have hb := List.pairwise_cons.1 hs
      obtain ⟨h1, h2, h3⟩ := best_is hp hb.1
      obtain ⟨i1, i2, i3⟩ := upd_is sends n h3 hb.2
      unfold updGo
      rw [if_neg (by omega)]
      simp only [h2, i1, i3, List.take_succ_cons, List.map_cons, List.drop_succ_cons, List.filter_cons]
      refine ⟨trivial, i2, ?_⟩
      by_cases e : b.sent + 1 < sends
      · simp [e, RU.more]
      · simp [e, RU.more]
end Go.Proofs.YtnneljcbelgoeaaGreatDoor.wire
/- THE DOCUMENT'S NODE as plain data, and all of its calls as plain functions. No Go here. -/
namespace Go.Proofs.YtnneljcbelgoeaaGreatDoor.wire

/-- One of the document's table. -/
structure RM where
  k : K3
  due : Int
instance : Inhabited RM := ⟨⟨⟨0, 0, 0⟩, 0⟩⟩
/-- The document's node. -/
structure Rn where
  c : Cfg
  draws : List Int
  drawn : Nat
  clock : Int
  seq : Int
  self : K3
  others : List RM
  pass : List Int
  probe : Int
  start : Int
  no : Int
  acked : Bool
  queue : List RU
  rels : List Rel
  dropped : Int
  evs : List K3
  lost : Int
  out : List Pk
def Rn.new (c : Cfg) (dl : List Int) : Rn := ⟨c, dl, 0, 0, 0, ⟨c.self, 1, 1⟩, [], [], 0, 0, 0, false, [], [], 0, [], 0, []⟩
def Rn.changed (r : Rn) (k : K3) : Rn :=
  { r with evs := if r.evs.length = 8 then r.evs else r.evs ++ [k], lost := if r.evs.length = 8 then r.lost + 1 else r.lost, queue := r.queue.filter (fun u => !(u.k.id == k.id)) ++ [⟨k, 0⟩] }
def Rn.own (r : Rn) (k : K3) : Rn :=
  if decide (r.self.st = 4) || (decide (k.st = 1) || (decide (k.inc < r.self.inc) || decide (k.inc = 1073741824))) then r
  else ({ r with self := ⟨r.self.id, k.inc + 1, r.self.st⟩ } : Rn).changed ⟨r.self.id, k.inc + 1, r.self.st⟩
def putR (m : RM) : List RM → List RM
  | [] => [m]
  | y :: r => if m.k.id < y.k.id then m :: y :: r else if m.k.id = y.k.id then m :: r else y :: putR m r
def findR (i : Int) (t : List RM) : Option RM := t.find? (fun m => m.k.id == i)
def Rn.put (r : Rn) (k : K3) : Rn :=
  ({ r with others := putR ⟨k, if k.st = 2 then r.clock + r.c.suspect else 0⟩ r.others, pass := if 2 < k.st then r.pass.filter (fun i => !(i == k.id)) else r.pass } : Rn).changed k
def Rn.heard (r : Rn) (k : K3) : Rn :=
  if k.id = r.self.id then r.own k else
  match findR k.id r.others with
  | some o => if greaterB k o.k then r.put k else r
  | none => if r.others.length = 7 then r else r.put k
def Rn.hears (r : Rn) (l : List K3) : Rn := l.foldl Rn.heard r

def Rn.updates (r : Rn) : List K3 × Rn := ((updGo r.c.sends 4 r.queue).1, { r with queue := (updGo r.c.sends 4 r.queue).2.1 ++ (updGo r.c.sends 4 r.queue).2.2 })
/-- What goes out by itself. -/
def Rn.sendTo (r : Rn) (dest kind seq tgt : Int) (ups : List K3) : Rn := { r with out := r.out ++ [⟨dest, bytesM ⟨kind, r.self.id, r.self.inc, seq, tgt, ups⟩⟩] }
/-- What goes out with what rides along. -/
def Rn.direct (r : Rn) (dest kind seq tgt : Int) : Rn := r.updates.2.sendTo dest kind seq tgt r.updates.1

def Rn.ackd (r : Rn) (m : M6) : Rn :=
  let r1 : Rn := { r with acked := if 0 < r.probe ∧ m.seq = r.no ∧ m.tgt = r.probe then true else r.acked, rels := r.rels.filter (fun q => !(itsB m q)) }
  match (r.rels.filter (itsB m)).getLast? with
  | some d => if 0 < d.num then r1.direct d.asker 2 d.under d.tgt else r1
  | none => r1
def Rn.askd (r : Rn) (m : M6) : Rn :=
  if m.tgt = r.self.id then r.direct m.frm 2 m.seq r.self.id else if r.rels.length = 4 then r else
    ({ r with seq := r.seq + 1, rels := r.rels ++ [⟨m.tgt, r.seq + 1, m.frm, m.seq, r.clock + r.c.period⟩] } : Rn).direct m.tgt 1 (r.seq + 1) m.tgt
/-- One's own key among the others', by rising ids. -/
def putSelf (s : K3) : List K3 → List K3
  | [] => [s]
  | a :: r => if s.id < a.id then s :: a :: r else a :: putSelf s r
def Rn.tabled (r : Rn) (m : M6) : Rn := r.sendTo m.frm 5 m.seq 0 (putSelf r.self (r.others.map RM.k))
def Rn.deed (r : Rn) (m : M6) : Rn :=
  if m.kind = 1 then (if m.tgt = r.self.id then r.direct m.frm 2 m.seq r.self.id else r) else if m.kind = 2 then r.ackd m else if m.kind = 3 then r.askd m else if m.kind = 4 then r.tabled m else r
def Rn.receive (r : Rn) (b : List UInt8) : Rn :=
  if decB b && !decide ((readM b).frm = r.self.id) then ((({ r with out := [] } : Rn).heard ⟨(readM b).frm, (readM b).inc, 1⟩).hears (readM b).ups).deed (readM b) else { r with out := [], dropped := r.dropped + 1 }
def Rn.joinErr (r : Rn) (i : Int) : Int := if r.self.st = 4 then 4 else if isIdB i && !decide (i = r.self.id) then 0 else 3
def Rn.join (r : Rn) (i : Int) : Rn := ({ r with out := [], seq := r.seq + 1 } : Rn).sendTo i 4 (r.seq + 1) 0 []
def Rn.leave (r : Rn) : Rn := ({ r with self := ⟨r.self.id, r.self.inc, 4⟩ } : Rn).changed ⟨r.self.id, r.self.inc, 4⟩

def Rn.draw (r : Rn) (n : Int) : Int × Rn := if r.draws.length = 0 then (0, r) else (drawZ r.draws r.drawn n, { r with drawn := r.drawn + 1 })
def Rn.later (r : Rn) : Rn := { r with out := [], clock := r.clock + 1, rels := r.rels.filter (fun q => decide (r.clock + 1 < q.till)) }
/-- The suspects whose time is up, among the first i. -/
def Rn.sus (r : Rn) : Nat → Rn
  | 0 => r
  | i + 1 => if decide ((r.sus i).others[i]!.k.st = 2) && decide ((r.sus i).others[i]!.due ≤ (r.sus i).clock) then (r.sus i).heard ⟨(r.sus i).others[i]!.k.id, (r.sus i).others[i]!.k.inc, 3⟩ else r.sus i
def Rn.present (r : Rn) : List Int := (r.others.filter (fun m => decide (m.k.st ≤ 2))).map (fun m => m.k.id)
def Rn.asks : Nat → List Int → Rn → Rn
  | 0, _, r => r
  | n + 1, l, r => if l.length = 0 then r else ((r.draw l.length).2.direct (l.getD (r.draw l.length).1.toNat 0) 3 (r.draw l.length).2.no (r.draw l.length).2.probe).asks n (l.eraseIdx (r.draw l.length).1.toNat)
def Rn.ask (r : Rn) : Rn := r.asks r.c.proxies.toNat ((r.others.filter (fun m => decide (m.k.st ≤ 2) && !(m.k.id == r.probe))).map (fun m => m.k.id))
def Rn.endProbe (r : Rn) : Rn :=
  match findR r.probe r.others with
  | some o => if !r.acked && decide (o.k.st = 1) then ({ r with probe := 0 } : Rn).heard ⟨r.probe, o.k.inc, 2⟩ else { r with probe := 0 }
  | none => { r with probe := 0 }
def Rn.probing (r : Rn) : Rn :=
  if r.clock - r.start = r.c.wait ∧ r.acked = false then (if r.clock - r.start < r.c.period then r.ask else r.ask.endProbe)
  else if r.clock - r.start < r.c.period then r else r.endProbe
def Rn.mixFrom : Nat → List Int → Rn → List Int × Rn
  | 0, l, r => (l, r)
  | i + 1, l, r => (r.draw ((i : Int) + 2)).2.mixFrom i (swapL l (i + 1) (r.draw ((i : Int) + 2)).1.toNat)
def Rn.renew (r : Rn) : Rn := if r.pass.length = 0 then { (r.mixFrom (r.present.length - 1) r.present).2 with pass := (r.mixFrom (r.present.length - 1) r.present).1 } else r
def Rn.probeOne (r : Rn) : Rn :=
  match r.pass with
  | [] => r
  | t :: l => ({ r with probe := t, pass := l, start := r.clock, acked := false, seq := r.seq + 1, no := r.seq + 1 } : Rn).direct t 1 (r.seq + 1) t
def Rn.begin (r : Rn) : Rn := r.renew.probeOne
def Rn.tick (r : Rn) : Rn :=
  let r1 := r.later.sus r.others.length
  let r2 := if 0 < r1.probe then r1.probing else r1
  if r2.probe = 0 ∧ r2.self.st ≠ 4 then r2.begin else r2
end Go.Proofs.YtnneljcbelgoeaaGreatDoor.wire
/- A packet of a node (P7). -/
namespace Go.Proofs.YtnneljcbelgoeaaGreatDoor.wire
open Go.RowKit Go.Maps

theorem enc_any (m : M6) (v : Value) (w : World) (hv : KeysAt w v m.ups) (hl : m.ups.length ≤ 1000000) :
    Calls Tryz.prog 45 #[mval m v] w fun e w' => ∃ ev, e = .returned (.tuple #[.string (bs (bytesS m)), ev]) ∧ Below w.heap.size w w' := by
  cases h : wholeB m
  · refine (encode_no m v w hv hl h).mono ?_
    rintro e w' ⟨rfl, hb⟩
    exact ⟨_, by simp only [bytesS, h]; rfl, hb⟩
  · refine (encode_yes m v w hv h).mono ?_
    rintro e w' ⟨rfl, hb⟩
    exact ⟨.nilIface, by simp only [bytesS, h, if_true], hb⟩
theorem keys_of_row {w : World} {base : Nat} {v : Value} {l : List K3} (h : w.ownsRow base 76 3 v l.length (l.flatMap keyC)) : KeysAt w v l := by
  rcases h.2 with ⟨rfl, h0⟩ | ⟨g, cap, cur, rfl, hb, hg, h1, h2, h3, h4⟩
  · exact .inl ⟨rfl, List.length_eq_zero_iff.1 h0⟩
  · refine .inr ⟨g, 0, cap, rfl, lt_blk hg, fun i hi => ?_⟩
    have hlen : ∀ l : List K3, (l.flatMap keyC).length = l.length * 3 := fun l => by
      induction l with
      | nil => rfl
      | cons a r ih => simp only [List.flatMap_cons, List.length_append, ih, List.length_cons, keyC, List.length_nil]; omega
    have hget : ∀ (l : List K3) (i : Nat) (h : i < l.length) (j : Nat), j < 3 → (l.flatMap keyC)[i * 3 + j]? = (keyC l[i])[j]? := by
      intro l
      induction l with
      | nil => intro i h; simp at h
      | cons a r ih =>
        intro i h j hj
        cases i with
        | zero => rw [List.flatMap_cons, List.getElem?_append_left (by simp [keyC]; omega)]; simp
        | succ i =>
          rw [List.flatMap_cons, List.getElem?_append_right (by simp [keyC]; omega)]
          have := ih i (by simpa using h) j hj
          simp only [List.getElem_cons_succ]
          rw [← this]
          congr 1
          simp [keyC]; omega
    have hc : ∀ j, j < 3 → w.cell? ⟨g, 0 + i * 3 + j, none⟩ = (keyC l[i])[j]? := fun j hj => by
      rw [cell_at hg, ← hget l i hi j hj, ← h4, List.getElem?_take, if_pos (by have : (i + 1) * 3 ≤ l.length * 3 := Nat.mul_le_mul_right _ hi; omega), Array.getElem?_toList, Nat.zero_add]
    exact ⟨hc 0 (by omega), hc 1 (by omega), hc 2 (by omega)⟩
set_option maxHeartbeats 2000000 in
set_option maxRecDepth 100000 in
theorem packet_any {x : Nd} (hx : NdOk x) {nb mb : Nat} {cb : Dk} {pv rv : Value} {W : World} (hn : NAt W nb mb cb pv rv x) (dest kind seq tgt : Int) (ups : List K3) (v : Value) (hv : KeysAt W v ups) (hl : ups.length ≤ 1000000) :
    Calls Tryz.prog 59 #[.pointer (some ⟨nb, 0, none⟩), .int .i64 dest, .agg #[.int .i64 kind, .int .i64 0, .int .i64 0, .int .i64 seq, .int .i64 tgt, v]] W fun e w' => e = .returned (.agg #[.int .i64 (x.packet dest kind seq tgt ups).dest, .string (bs (x.packet dest kind seq tgt ups).bytes)]) ∧ Below W.heap.size W w' := by
  obtain ⟨ao, cap, rfl⟩ := hv.form
  have hb0 : Below W.heap.size W ((W.alloc (.cells #[.int .i64 kind, .int .i64 0, .int .i64 0, .int .i64 seq, .int .i64 tgt, .slice ao ups.length cap] 68)).alloc (.cells #[.int .i64 0, .string ⟨#[]⟩] 78)) := ((Below.refl _ _).alloc (Nat.le_refl _) _).alloc (by simp) _
  have HS := hide (self_any hx ((hn.alloc (.cells #[.int .i64 kind, .int .i64 0, .int .i64 0, .int .i64 seq, .int .i64 tgt, .slice ao ups.length cap] 68)).alloc (.cells #[.int .i64 0, .string ⟨#[]⟩] 78)))
  have HB0 := hide hb0
  have HV := hide hv
  have hown : x.packet dest kind seq tgt ups = ⟨dest, bytesS ⟨kind, x.own.id, x.own.inc, seq, tgt, ups⟩⟩ := rfl
  rw [hown]
  generalize x.own = O at HS ⊢
  clear hb0 hv hn hx hown
  go_enter Tryz.func59, Tryz.ntmps59
  go_wp2_with fail
  refine (unhide HS).mono ?_
  rintro e w1 ⟨rfl, hb1⟩
  have hz1 := hb1.size
  simp only [World.size_alloc] at hz1
  have bm := (hb1.block W.heap.size (by simp; omega)).trans ((Below.heap_alloc _ _ _ (by simp)).trans (heap_alloc_new W (.cells #[.int .i64 kind, .int .i64 0, .int .i64 0, .int .i64 seq, .int .i64 tgt, .slice ao ups.length cap] 68)))
  have br : w1.heap[W.heap.size + 1]? = some (.cells #[.int .i64 0, .string ⟨#[]⟩] 78 (0, 0)) := by
    have h := heap_alloc_new (W.alloc (.cells #[.int .i64 kind, .int .i64 0, .int .i64 0, .int .i64 seq, .int .i64 tgt, .slice ao ups.length cap] 68)) (.cells #[.int .i64 0, .string ⟨#[]⟩] 78)
    rw [World.size_alloc] at h
    exact (hb1.block (W.heap.size + 1) (by simp)).trans h
  have hb01 : Below W.heap.size W w1 := (unhide HB0).trans (hb1.mono (by simp; omega))
  have HM := hide bm
  have HR := hide br
  have HB1 := hide hb01
  clear hb1 bm br hb01 HS HB0
  go_wp2_with fail
  generalize hw2 : w1.alloc (.cells #[.int .i64 O.id, .int .i64 O.inc, .int .i64 O.st] 76) = w2
  have bm : w2.heap[W.heap.size]? = some (.cells #[.int .i64 kind, .int .i64 0, .int .i64 0, .int .i64 seq, .int .i64 tgt, .slice ao ups.length cap] 68 (0, 0)) := by rw [← hw2]; exact (Below.heap_alloc _ _ _ (by omega)).trans (unhide HM)
  have br : w2.heap[W.heap.size + 1]? = some (.cells #[.int .i64 0, .string ⟨#[]⟩] 78 (0, 0)) := by rw [← hw2]; exact (Below.heap_alloc _ _ _ (by omega)).trans (unhide HR)
  have bo : w2.heap[w1.heap.size]? = some (.cells #[.int .i64 O.id, .int .i64 O.inc, .int .i64 O.st] 76 (0, 0)) := by rw [← hw2]; exact heap_alloc_new _ _
  have hb02 : Below W.heap.size W w2 := by rw [← hw2]; exact (unhide HB1).alloc (by omega) _
  have m0 := cell_at bm 0
  have m1 := cell_at bm 1
  have m2 := cell_at bm 2
  have m3 := cell_at bm 3
  have m4 := cell_at bm 4
  have m5 := cell_at bm 5
  have mf := free_at bm
  have o0 := cell_at bo 0
  have o1 := cell_at bo 1
  simp only [List.getElem?_toArray, List.getElem?_cons_zero, List.getElem?_cons_succ] at m0 m1 m2 m3 m4 m5 o0 o1
  have HM2 := hide bm
  have HR2 := hide br
  have HB2 := hide hb02
  clear bm br bo hb02 HM HR HB1 hw2
  go_region
  all_goals
    generalize hw3 : World.drew _ = w3
    have bm : w3.heap[W.heap.size]? = some (.cells #[.int .i64 kind, .int .i64 O.id, .int .i64 O.inc, .int .i64 seq, .int .i64 tgt, .slice ao ups.length cap] 68 (0, 0)) := by
      rw [← hw3]
      have h1 := heap_setCell_same w2 W.heap.size 1 _ _ (.int .i64 O.id) (unhide HM2)
      have h2 := heap_setCell_same _ W.heap.size 2 _ _ (.int .i64 O.inc) h1
      first
        | exact h2
        | (have h1 := heap_setCell_same w2 W.heap.size 2 _ _ (.int .i64 O.inc) (unhide HM2)
           have h2 := heap_setCell_same _ W.heap.size 1 _ _ (.int .i64 O.id) h1
           exact h2)
    have br : w3.heap[W.heap.size + 1]? = some (.cells #[.int .i64 0, .string ⟨#[]⟩] 78 (0, 0)) := by
      rw [← hw3]
      exact (heap_setCell_other _ _ _ _ (by simp)).trans ((heap_setCell_other _ _ _ _ (by simp)).trans (unhide HR2))
    have hb03 : Below W.heap.size W w3 := by
      rw [← hw3]
      exact (((unhide HB2).setCell (Nat.le_refl _) _).setCell (Nat.le_refl _) _).drew
    have HE := hide (enc_any ⟨kind, O.id, O.inc, seq, tgt, ups⟩ (.slice ao ups.length cap) w3 ((unhide HV).below hb03) hl)
    clear m0 m1 m2 m3 m4 m5 mf o0 o1 hw3 HM2 HR2 HB2
    have m0 := cell_at bm 0
    have m1 := cell_at bm 1
    have m2 := cell_at bm 2
    have m3 := cell_at bm 3
    have m4 := cell_at bm 4
    have m5 := cell_at bm 5
    simp only [List.getElem?_toArray, List.getElem?_cons_zero, List.getElem?_cons_succ] at m0 m1 m2 m3 m4 m5
    have HR3 := hide br
    have HB3 := hide hb03
    clear bm br hb03
    go_wp2_with fail
    refine (unhide HE).mono ?_
    rintro e w4 ⟨ev, rfl, hb4⟩
    have br4 := (hb4.block (W.heap.size + 1) (lt_blk (unhide HR3))).trans (unhide HR3)
    have r0 := cell_at br4 0
    have r1 := cell_at br4 1
    have rf := free_at br4
    simp only [List.getElem?_toArray, List.getElem?_cons_zero, List.getElem?_cons_succ] at r0 r1
    have HB4 := hide ((unhide HB3).trans (hb4.mono (unhide HB3).size))
    have HR4 := hide br4
    clear hb4 br4 HE m0 m1 m2 m3 m4 m5
    generalize hBS : bytesS ⟨kind, O.id, O.inc, seq, tgt, ups⟩ = BS
    have HBS := hide hBS
    clear hBS
    go_wp2
    refine bodyPost_ret (v := .agg #[.int .i64 dest, .string (bs BS)]) (by simp [results, Tryz.results59, go_sem, r0, r1]) rfl ⟨by rw [unhide HBS], ?_⟩
    exact ((unhide HB4).setCell (Nat.le_succ _) _).setCell (Nat.le_succ _) _
end Go.Proofs.YtnneljcbelgoeaaGreatDoor.wire
/- A packet with updates along; the next number (P7). -/
namespace Go.Proofs.YtnneljcbelgoeaaGreatDoor.wire
open Go.RowKit Go.Maps

theorem lessAll_keys : ∀ (l : List Mem) {t : List Mem}, Rise t → (∀ m ∈ l, (findM m.k.id t).map Mem.k = some m.k) → ∀ i, (findM i (lessAll l t)).map Mem.k = (findM i t).map Mem.k
  | [], _, _, _, _ => rfl
  | m :: r, t, h, hm, i => by
    have h0 := hm m (List.mem_cons_self ..)
    have step : ∀ i, (findM i (putM m.less t)).map Mem.k = (findM i t).map Mem.k := fun i => by
      rw [findM_putM _ _ _ h]
      split
      · rename_i e
        have e' : m.k.id = i := e
        rw [← e', h0]; rfl
      · rfl
    have := lessAll_keys r (putM_rise m.less t h) (fun m' hm' => by rw [step]; exact hm m' (List.mem_cons_of_mem _ hm')) i
    exact this.trans (step i)
theorem lessAll_same : ∀ (l : List Mem) {t : List Mem}, Rise t → (∀ m ∈ l, (findM m.k.id t).isSome = true) → (lessAll l t).length = t.length
  | [], _, _, _ => rfl
  | m :: r, t, h, hm => by
    have h0 : (findM m.less.k.id t).isSome = true := hm m (List.mem_cons_self ..)
    have h1 := putM_len m.less t h
    rw [if_pos h0] at h1
    have := lessAll_same r (putM_rise m.less t h) (fun m' hm' => by
      rw [findM_putM _ _ _ h]
      split
      · rfl
      · exact hm m' (List.mem_cons_of_mem _ hm'))
    exact this.trans h1
theorem lessAll_mem : ∀ (l : List Mem) {t : List Mem} {z : Mem}, z ∈ lessAll l t → z ∈ t ∨ ∃ m ∈ l, z = m.less
  | [], _, _, h => .inl h
  | m :: r, t, z, h => by
    rcases lessAll_mem r (t := putM m.less t) h with h | ⟨m', h1, h2⟩
    · rcases putM_mem h with h | h
      · exact .inr ⟨m, List.mem_cons_self .., h⟩
      · exact .inl h
    · exact .inr ⟨m', List.mem_cons_of_mem _ h1, h2⟩
theorem along_tab (x : Nd) : x.along.tab = lessAll x.picks x.tab := rfl
theorem along_keys {x : Nd} (hx : NdOk x) (i : Int) : (findM i x.along.tab).map Mem.k = (findM i x.tab).map Mem.k :=
  lessAll_keys x.picks hx.rise (fun m hm => by rw [findM_mem hx.rise (picks_mem hm).1]; rfl) i
theorem along_own {x : Nd} (hx : NdOk x) : x.along.own = x.own := by
  have h := along_keys hx x.c.self
  obtain ⟨m, hm⟩ := hx.self
  show (atM x.c.self x.along.tab).k = (atM x.c.self x.tab).k
  unfold atM
  rw [hm] at h ⊢
  rcases hf : findM x.c.self x.along.tab with _ | m'
  · rw [hf] at h; cases h
  · rw [hf] at h; simpa using h
theorem along_ok {x : Nd} (hx : NdOk x) : NdOk x.along := by
  refine ⟨hx.cfg, lessAll_rise _ hx.rise, ?_, ?_, ?_, ?_, hx.evs, hx.rels, hx.pass⟩
  · have := lessAll_same x.picks hx.rise (fun m hm => by rw [findM_mem hx.rise (picks_mem hm).1]; rfl)
    rw [along_tab, this]; exact hx.len
  · intro m hm
    rcases lessAll_mem _ hm with h | ⟨m', h1, rfl⟩
    · exact hx.keys m h
    · exact hx.keys m' (picks_mem h1).1
  · intro m hm
    rcases lessAll_mem _ hm with h | ⟨m', h1, rfl⟩
    · exact hx.sends m h
    · have h2 := hx.sends m' (picks_mem h1).1
      have h3 := (picks_mem h1).2
      simp only [pendB, decide_eq_true_eq] at h3
      show 0 ≤ m'.sends - 1 ∧ m'.sends - 1 ≤ 8
      omega
  · have h := along_keys hx x.c.self
    obtain ⟨m, hm⟩ := hx.self
    rw [hm] at h
    rcases hf : findM x.c.self x.along.tab with _ | m'
    · rw [hf] at h; cases h
    · exact ⟨m', hf⟩
theorem along_b {B : Int} {x : Nd} (h : NdB B x) : NdB B x.along := ⟨h.clock, h.num, h.dropped, h.lost, h.tk⟩
theorem NAt.feet_lt {W : World} {nb mb : Nat} {cb : Dk} {pv rv : Value} {x : Nd} (h : NAt W nb mb cb pv rv x) : ∀ k ∈ feet nb mb cb pv rv, k < W.heap.size := by
  intro k hk
  simp only [feet, List.mem_cons, List.mem_append, Option.mem_toList] at hk
  rcases hk with rfl | rfl | rfl | hk | hk | hk
  · exact h.lt
  · exact h.lt_mb
  · exact h.lt_cb
  · exact h.pass.lt hk
  · exact (own_lt h.rel hk).2
  · exact h.draw.lt hk
/-- A cell of a new block is written. -/
theorem low_cell {S : List Nat} {W w : World} {nb mb : Nat} {cb : Dk} {pv rv : Value} {x : Nd} (h : NAt w nb mb cb pv rv x) (hf : Frm S W w) {b : Nat} (_hlt : W.heap.size < w.heap.size) (i : Nat) (u : Value) (hb : W.heap.size ≤ b) (hfeet : ∀ k ∈ feet nb mb cb pv rv, k ≠ b) :
    NAt (w.setCell ⟨b, i, none⟩ u) nb mb cb pv rv x ∧ Frm S W (w.setCell ⟨b, i, none⟩ u) := by
  have hbl := (Below.refl 0 w).setCell (p := ⟨b, i, none⟩) (Nat.zero_le _) u
  have hf1 : Frm [b] w (w.setCell ⟨b, i, none⟩ u) := ⟨hbl.os, hbl.tape, hbl.output, hbl.size, fun k _ hk => heap_setCell_other w ⟨b, i, none⟩ k u (by simpa using hk)⟩
  exact ⟨h.frm hf1 (fun k hk => by simpa using hfeet k hk), hf.trans hf1 (by simp; omega)⟩
set_option maxHeartbeats 400000 in
set_option maxRecDepth 100000 in
theorem direct_any {x : Nd} (hx : NdOk x) {nb mb : Nat} {cb : Dk} {pv rv : Value} {W : World} (hn : NAt W nb mb cb pv rv x) (kind dest seq tgt : Int) :
    Calls Tryz.prog 102 #[.pointer (some ⟨nb, 0, none⟩), .int .i64 kind, .int .i64 dest, .int .i64 seq, .int .i64 tgt] W fun e w' => e = .returned (.agg #[.int .i64 (x.direct kind dest seq tgt).dest, .string (bs (x.direct kind dest seq tgt).bytes)]) ∧ NAt w' nb mb cb pv rv x.along ∧ Frm [mb] W w' := by
  have hb0 : Below W.heap.size W (W.alloc (.cells #[.int .i64 0, .string ⟨#[]⟩] 78)) := (Below.refl _ _).alloc (Nat.le_refl _) _
  have HA := hide (along_any hx (hn.alloc (.cells #[.int .i64 0, .string ⟨#[]⟩] 78)))
  have HB0 := hide hb0
  have HX := hide (along_ok hx)
  have hm := hn.lt_mb
  have hfeet := hn.feet_lt
  have hp := picks_len x
  clear hb0 hn hx
  obtain ⟨PK, hPK⟩ : ∃ PK, PK = x.direct kind dest seq tgt := ⟨_, rfl⟩
  have HPK := hide hPK
  rw [← hPK]
  clear hPK
  go_enter Tryz.func102, Tryz.ntmps102
  go_wp2_with fail
  refine (unhide HA).mono ?_
  obtain ⟨L, hL⟩ : ∃ L, L = x.picks.map Mem.k := ⟨_, rfl⟩
  have hLl : L.length ≤ 4 := by rw [hL]; simpa using hp
  rw [← hL]
  have HLL := hide hL
  clear hL
  rintro e w1 ⟨v, rfl, ho1, hn1, hf1⟩
  obtain ⟨ao, cap, rfl⟩ := own_form ho1
  have hf01 : Frm [mb] W w1 := (Frm.of_below (unhide HB0) (Nat.le_refl _)).trans hf1 (fun j hj => .inl hj)
  have br := (hf1.block W.heap.size (by simp) (by simp; omega)).trans (heap_alloc_new W (.cells #[.int .i64 0, .string ⟨#[]⟩] 78))
  have HP := hide (packet_any (unhide HX) hn1 dest kind seq tgt L _ (keys_of_row ho1) (by omega))
  have HN1 := hide hn1
  have HF1 := hide hf01
  have HR := hide br
  clear ho1 hn1 hf1 hf01 br HA HB0
  go_wp2_with fail
  refine (unhide HP).mono ?_
  rw [show x.along.packet dest kind seq tgt L = PK from by rw [unhide HLL]; exact (unhide HPK).symm]
  rintro e w2 ⟨rfl, hb2⟩
  have br2 := (hb2.block W.heap.size (lt_blk (unhide HR))).trans (unhide HR)
  have r0 := cell_at br2 0
  have r1 := cell_at br2 1
  have rf := free_at br2
  simp only [List.getElem?_toArray, List.getElem?_cons_zero, List.getElem?_cons_succ] at r0 r1
  have hn2 := (unhide HN1).below hb2
  have hf2 := (unhide HF1).step hb2
  have hs1 := heap_setCell_same w2 W.heap.size 0 _ _ (.int .i64 PK.dest) br2
  have hf3 : Frm [] w2 w2 := Frm.refl _ _
  have HN2 := hide hn2
  have HF2 := hide hf2
  have HR2 := hide br2
  clear hb2 br2 hn2 hf2 hs1 hf3 HP
  go_wp2
  refine bodyPost_ret (v := .agg #[.int .i64 PK.dest, .string (bs PK.bytes)]) (by simp [results, Tryz.results102, go_sem, r0, r1]) rfl ⟨rfl, ?_⟩
  obtain ⟨g1, g2⟩ := low_cell (unhide HN2) (unhide HF2) (lt_blk (unhide HR2)) 0 (.int .i64 PK.dest) (Nat.le_refl _) (fun k hk => Nat.ne_of_lt (hfeet k hk))
  exact low_cell g1 g2 (by rw [World.size_setCell]; exact lt_blk (unhide HR2)) 1 (.string (bs PK.bytes)) (Nat.le_refl _) (fun k hk => Nat.ne_of_lt (hfeet k hk))
end Go.Proofs.YtnneljcbelgoeaaGreatDoor.wire
/- What a node does for a message of each kind (P7), first part. -/
namespace Go.Proofs.YtnneljcbelgoeaaGreatDoor.wire
open Go.RowKit Go.Maps

/-- The packets of a call, in new memory. -/
def Outs (W w' : World) (o : Value) (l : List Pk) : Prop := w'.ownsRow W.heap.size 78 2 o l.length (l.flatMap pkC)
theorem outs_nil (W w' : World) : Outs W w' (.slice none 0 0) [] := ⟨rfl, .inl ⟨rfl, rfl⟩⟩
theorem outs_one {W w1 : World} (p : Pk) (h : W.heap.size ≤ w1.heap.size) : Outs W (w1.alloc (.cells #[.int .i64 p.dest, .string (bs p.bytes)] 78)) (.slice (some ⟨w1.heap.size, 0, none⟩) 1 1) [p] :=
  ⟨rfl, .inr ⟨w1.heap.size, 1, _, rfl, h, heap_alloc_new w1 _, Nat.le_refl _, by decide, rfl, rfl⟩⟩
/-- What is asked of the function for a message. -/
def DeedOk (f : Nat) (x : Nd) (m : M6) : Prop := ∀ (nb mb : Nat) (cb : Dk) (pv rv v : Value) (W : World), NAt W nb mb cb pv rv x → KeysAt W v m.ups →
  Calls Tryz.prog f #[.pointer (some ⟨nb, 0, none⟩), .agg #[.int .i64 m.kind, .int .i64 m.frm, .int .i64 m.inc, .int .i64 m.seq, .int .i64 m.tgt, v]] W fun e w' => ∃ o, e = .returned o ∧ Outs W w' o (x.deed m).1 ∧ NTo W w' nb mb cb pv rv (x.deed m).2
set_option maxHeartbeats 1000000 in
theorem next_any {x : Nd} (hB : NdB Big x) {nb mb : Nat} {cb : Dk} {pv rv : Value} {W : World} (hn : NAt W nb mb cb pv rv x) :
    Calls Tryz.prog 60 #[.pointer (some ⟨nb, 0, none⟩)] W fun e w' => e = .returned (.int .i64 (x.num + 1)) ∧ NAt w' nb mb cb pv rv { x with num := x.num + 1 } ∧ Frm [nb] W w' := by
  obtain ⟨n0, n1⟩ := hB.num
  have c13 := hn.c_num
  have f13 := free_at hn.blk 15
  have hset := hn.set 15 (.int .i64 (x.num + 1)) (x' := { x with num := x.num + 1 }) rfl rfl rfl rfl rfl
  have HS := hide hset
  unfold Big at n1
  clear hn hB hset
  go_enter Tryz.func60, Tryz.ntmps60
  go_wp2
  go_ret
  exact ⟨rfl, unhide HS⟩
set_option maxHeartbeats 1000000 in
set_option maxRecDepth 100000 in
/-- A Ping, or what goes as one. -/
theorem ping_go {x : Nd} (hx : NdOk x) (m : M6) {nb mb : Nat} {cb : Dk} {pv rv v : Value} {W : World} (hn : NAt W nb mb cb pv rv x) (hv : KeysAt W v m.ups) :
    Calls Tryz.prog 122 #[.pointer (some ⟨nb, 0, none⟩), .agg #[.int .i64 m.kind, .int .i64 m.frm, .int .i64 m.inc, .int .i64 m.seq, .int .i64 m.tgt, v]] W fun e w' => ∃ o, e = .returned o ∧ Outs W w' o (x.takePing m).1 ∧ NAt w' nb mb cb pv rv (x.takePing m).2 ∧ Frm [mb] W w' := by
  obtain ⟨ao, cap, rfl⟩ := hv.form
  clear hv
  have c0 := hn.c_self
  have hlt := hn.lt
  have hn1 := fun q => (hn.alloc (.cells #[.int .i64 m.kind, .int .i64 m.frm, .int .i64 m.inc, .int .i64 m.seq, .int .i64 m.tgt, .slice ao m.ups.length cap] 68)).drewN q
  have hb1 : ∀ q, Below W.heap.size W ((W.alloc (.cells #[.int .i64 m.kind, .int .i64 m.frm, .int .i64 m.inc, .int .i64 m.seq, .int .i64 m.tgt, .slice ao m.ups.length cap] 68)).drewN q) := fun q => bdrewN ((Below.refl _ _).alloc (Nat.le_refl _) _) q
  by_cases ht : m.tgt = x.c.self
  · have he : x.takePing m = ([x.direct 2 m.frm m.seq m.tgt], x.along) := by simp only [Nd.takePing, ht, if_true]
    have HD := fun q => hide (direct_any hx (hn1 q) 2 m.frm m.seq m.tgt)
    have HB := hide hb1
    have HE := hide he
    have ht' : (m.tgt == x.c.self) = true := by simp [ht]
    clear hn hn1 hb1 he hx ht
    go_enter Tryz.func122, Tryz.ntmps122
    go_wp2
    go_quiet (fail)
    go_wp2_with fail
    refine (unhide (HD _)).mono ?_
    generalize hPK : x.direct 2 m.frm m.seq m.tgt = PK
    have HPK := hide hPK
    clear hPK HD
    rintro e w2 ⟨rfl, hn2, hf2⟩
    have HN2 := hide hn2
    have HF2 := hide ((Frm.of_below (S := [mb]) (unhide HB _) (Nat.le_refl _)).trans hf2 (fun j hj => .inl hj))
    clear hn2 hf2
    go_wp2
    go_ret
    rw [unhide HE, unhide HPK]
    exact ⟨_, rfl, outs_one PK (unhide HF2).size, (unhide HN2).alloc _, (unhide HF2).alloc _⟩
  · have he : x.takePing m = ([], x) := by simp only [Nd.takePing, ht, if_false]
    have HE := hide he
    have HN1 := hide hn1
    have HB := hide hb1
    have ht' : (m.tgt == x.c.self) = false := by simp [ht]
    clear hn hn1 hb1 he hx ht
    go_enter Tryz.func122, Tryz.ntmps122
    go_wp2
    go_quiet (fail)
    go_wp2
    go_ret
    rw [unhide HE]
    exact ⟨_, rfl, outs_nil _ _, unhide HN1 _, Frm.of_below (unhide HB _) (Nat.le_refl _)⟩
theorem NTo.of_mb {W W1 : World} {nb mb : Nat} {cb : Dk} {pv rv : Value} {x1 : Nd} (h : NAt W1 nb mb cb pv rv x1) (hf : Frm [mb] W W1) : NTo W W1 nb mb cb pv rv x1 :=
  ⟨pv, rv, h, (Frm.refl _ W).trans hf (by simp [feet]), fun _ hk => .inl hk⟩
theorem ping_any {x : Nd} (hx : NdOk x) (m : M6) (hk : m.kind = 1) : DeedOk 122 x m := by
  intro nb mb cb pv rv v W hn hv
  refine (ping_go hx m hn hv).mono ?_
  rintro e w' ⟨o, rfl, ho, hn', hf'⟩
  have e1 : x.deed m = x.takePing m := by simp [Nd.deed, hk]
  rw [e1]
  exact ⟨o, rfl, ho, NTo.of_mb hn' hf'⟩
theorem table_any {x : Nd} (m : M6) (hk : m.kind = 5) : DeedOk 126 x m := by
  intro nb mb cb pv rv v W hn hv
  obtain ⟨ao, cap, rfl⟩ := hv.form
  clear hv
  have e1 : x.deed m = ([], x) := by simp [Nd.deed, hk]
  rw [e1]
  have HN := hide hn
  clear hn e1
  go_enter Tryz.func126, Tryz.ntmps126
  go_wp2
  go_ret
  exact ⟨_, rfl, outs_nil _ _, NTo.here (unhide HN) ((Below.refl _ _).alloc (Nat.le_refl _) _)⟩
set_option maxHeartbeats 1000000 in
set_option maxRecDepth 100000 in
theorem join_any {x : Nd} (hx : NdOk x) (m : M6) (hk : m.kind = 4) : DeedOk 125 x m := by
  intro nb mb cb pv rv v W hn hv
  obtain ⟨ao, cap, rfl⟩ := hv.form
  clear hv
  have e1 : x.deed m = ([x.packet m.frm 5 m.seq 0 (x.tab.map Mem.k)], x) := by simp [Nd.deed, hk, Nd.takeJoin]
  rw [e1]
  have hlen := hx.len
  have hn1 := hn.alloc (.cells #[.int .i64 m.kind, .int .i64 m.frm, .int .i64 m.inc, .int .i64 m.seq, .int .i64 m.tgt, .slice ao m.ups.length cap] 68)
  have HM := hide (members_any hx hn1)
  have HN := hide hn
  have HN1 := hide hn1
  have HX := hide hx
  clear hn hn1 hx e1 hk
  go_enter Tryz.func125, Tryz.ntmps125
  go_wp2_with fail
  refine (unhide HM).mono ?_
  rintro e w1 ⟨v1, rfl, ho1, hb1⟩
  have HT := hide (turnMK_any x.tab Mem.k 143 #[] #[] ho1 (by omega) (enters_of Tryz.func143 (by kernel_rfl) rfl) (fun m _ W' _ => key_any m W'))
  have bm := (hb1.block W.heap.size (by simp)).trans (heap_alloc_new W (.cells #[.int .i64 m.kind, .int .i64 m.frm, .int .i64 m.inc, .int .i64 m.seq, .int .i64 m.tgt, .slice ao m.ups.length cap] 68))
  have hb01 : Below W.heap.size W w1 := ((Below.refl _ _).alloc (Nat.le_refl _) _).trans (hb1.mono (by simp))
  have hn1 := (unhide HN1).below hb1
  have HBM := hide bm
  have HB1 := hide hb01
  have HN2 := hide hn1
  clear ho1 hb1 bm hb01 hn1 HM
  go_wp2_with fail
  refine (unhide HT).mono ?_
  obtain ⟨L, hL⟩ : ∃ L, L = x.tab.map Mem.k := ⟨_, rfl⟩
  have hLl : L.length ≤ 8 := by rw [hL]; simpa using hlen
  rw [← hL]
  have HLL := hide hL
  clear hL HT
  rintro e w2 ⟨v2, rfl, ho2, hb2⟩
  obtain ⟨ao2, cap2, rfl⟩ := own_form ho2
  have bm2 := (hb2.block W.heap.size (lt_blk (unhide HBM))).trans (unhide HBM)
  have hb02 : Below W.heap.size W w2 := (unhide HB1).trans (hb2.mono (unhide HB1).size)
  have HP := hide (packet_any (unhide HX) ((unhide HN2).below hb2) m.frm 5 m.seq 0 L _ (keys_of_row ho2) (by omega))
  have m1 := cell_at bm2 1
  have m3 := cell_at bm2 3
  simp only [List.getElem?_toArray, List.getElem?_cons_zero, List.getElem?_cons_succ] at m1 m3
  have HB2 := hide hb02
  clear ho2 hb2 bm2 hb02 HB1 HBM HN2
  go_wp2_with fail
  refine (unhide HP).mono ?_
  generalize hPK : x.packet m.frm 5 m.seq 0 L = PK
  have HPK := hide hPK
  clear hPK HP
  rintro e w3 ⟨rfl, hb3⟩
  have HB3 := hide ((unhide HB2).trans (hb3.mono (unhide HB2).size))
  clear hb3 m1 m3
  go_wp2
  go_ret
  rw [← unhide HLL, unhide HPK]
  exact ⟨_, rfl, outs_one PK (unhide HB3).size, NTo.here (unhide HN) ((unhide HB3).alloc (unhide HB3).size _)⟩
end Go.Proofs.YtnneljcbelgoeaaGreatDoor.wire
/- What a tick keeps (P9). No Go here. -/
namespace Go.Proofs.YtnneljcbelgoeaaGreatDoor.wire

theorem swapL_perm (l : List Int) (i j : Nat) (hi : i < l.length) (hj : j < l.length) : (swapL l i j).Perm l := by
  have h := (Array.swap_perm (xs := l.toArray) (i := i) (j := j) (by simpa using hi) (by simpa using hj)).toList
  have e : (l.toArray.swap i j (by simpa using hi) (by simpa using hj)).toList = swapL l i j := by
    simp [Array.swap, swapL, List.getD_eq_getElem?_getD, List.getElem?_eq_getElem hi, List.getElem?_eq_getElem hj]
  rw [e] at h
  simpa using h
theorem swapL_len (l : List Int) (i j : Nat) : (swapL l i j).length = l.length := by simp [swapL]
theorem mixFrom_perm : ∀ (i : Nat) (l : List Int) (x : Nd), i < l.length ∨ i = 0 → (x.mixFrom i l).1.Perm l
  | 0, l, x, _ => List.Perm.refl l
  | i + 1, l, x, h => by
    have hd := drawn_bd x (n := (i : Int) + 2) (by omega)
    have hi : i + 1 < l.length := by omega
    have hj : (x.drawn ((i : Int) + 2)).toNat < l.length := by omega
    exact (mixFrom_perm i _ _ (.inl (by rw [swapL_len]; omega))).trans (swapL_perm l _ _ hi hj)
theorem mixed_perm (x : Nd) (l : List Int) : (x.mixed l).1.Perm l := mixFrom_perm _ _ _ (by omega)
theorem drew_ex (x : Nd) (n : Int) : ∃ m : Nat, x.drew n = { x with dat := m } ∧ x.dat ≤ m ∧ m ≤ x.dat + 1 := by
  unfold Nd.drew; split
  · exact ⟨x.dat, rfl, by omega, by omega⟩
  · exact ⟨x.dat + 1, rfl, by omega, by omega⟩
theorem mixFrom_ex : ∀ (i : Nat) (l : List Int) (x : Nd), ∃ m : Nat, (x.mixFrom i l).2 = { x with dat := m } ∧ x.dat ≤ m ∧ m ≤ x.dat + i
  | 0, l, x => ⟨x.dat, rfl, Nat.le_refl _, Nat.le_refl _⟩
  | i + 1, l, x => by
    obtain ⟨m, e, h1, h2⟩ := drew_ex x ((i : Int) + 2)
    obtain ⟨n, e', h3, h4⟩ := mixFrom_ex i (swapL l (i + 1) (x.drawn ((i : Int) + 2)).toNat) { x with dat := m }
    refine ⟨n, ?_, ?_, ?_⟩
    · show ((x.drew ((i : Int) + 2)).mixFrom i _).2 = _
      rw [e, e']
    · have : m ≤ n := h3
      omega
    · have : n ≤ m + i := h4
      omega
theorem mixed_ex (x : Nd) (l : List Int) : ∃ m : Nat, (x.mixed l).2 = { x with dat := m } ∧ x.dat ≤ m ∧ m ≤ x.dat + l.length := by
  obtain ⟨m, e, h1, h2⟩ := mixFrom_ex (l.length - 1) l x
  exact ⟨m, e, h1, by omega⟩
theorem dat_ok {x : Nd} (h : NdOk x) (n : Nat) : NdOk { x with dat := n } := ⟨h.cfg, h.rise, h.len, h.keys, h.sends, h.self, h.evs, h.rels, h.pass⟩
theorem dat_b {B : Int} {x : Nd} (h : NdB B x) {n : Nat} (hn : (n : Int) ≤ B) : NdB B { x with dat := n } := ⟨h.clock, h.num, h.dropped, h.lost, ⟨h.tk.1, hn⟩⟩
theorem drew_ok {x : Nd} (h : NdOk x) (n : Int) : NdOk (x.drew n) := by obtain ⟨m, e, _⟩ := drew_ex x n; rw [e]; exact dat_ok h _
theorem drew_b {B : Int} {x : Nd} (h : NdB B x) (n : Int) : NdB (B + 1) (x.drew n) := by
  obtain ⟨m, e, _, h2⟩ := drew_ex x n
  rw [e]
  exact dat_b (h.mono (by omega)) (by have := h.tk.2; omega)
theorem later_ok {x : Nd} (h : NdOk x) : NdOk x.later := ⟨h.cfg, h.rise, h.len, h.keys, h.sends, h.self, h.evs, h.rels, h.pass⟩
theorem later_b {B : Int} {x : Nd} (h : NdB B x) : NdB (B + 1) x.later :=
  ⟨⟨by have := h.clock; show 0 ≤ x.clock + 1; omega, by have := h.clock; show x.clock + 1 ≤ B + 1; omega⟩, (h.mono (by omega)).num, (h.mono (by omega)).dropped, (h.mono (by omega)).lost, (h.mono (by omega)).tk⟩
theorem endRelays_ok {x : Nd} (h : NdOk x) : NdOk x.endRelays := ⟨h.cfg, h.rise, h.len, h.keys, h.sends, h.self, h.evs, Nat.le_trans (List.length_filter_le _ _) h.rels, h.pass⟩
theorem endRelays_b {B : Int} {x : Nd} (h : NdB B x) : NdB B x.endRelays := ⟨h.clock, h.num, h.dropped, h.lost, h.tk⟩
theorem dead_key {m : Mem} (h : isKeyB m.k = true) : isKeyB m.dead = true := by
  simp only [isKeyB, Bool.and_eq_true] at *
  exact ⟨h.1, h.2.1, rfl⟩
theorem deads_ok : ∀ (l : List Mem) {x : Nd}, NdOk x → (∀ m ∈ l, isKeyB m.k = true) → NdOk (l.foldl (fun y m => y.hear m.dead) x)
  | [], _, h, _ => h
  | m :: r, _, h, hl => deads_ok r (hear_ok h _ (dead_key (hl m (List.mem_cons_self ..)))) (fun m' hm' => hl m' (List.mem_cons_of_mem _ hm'))
theorem deads_b : ∀ (l : List Mem) {B : Int} {x : Nd}, NdB B x → NdB (B + l.length) (l.foldl (fun y m => y.hear m.dead) x)
  | [], _, _, h => by simpa using h
  | m :: r, B, x, h => by
    have := deads_b r (hear_b h m.dead)
    refine this.mono ?_
    simp; omega
theorem endSuspects_ok {x : Nd} (h : NdOk x) : NdOk x.endSuspects := deads_ok _ h (fun m hm => h.keys m (List.mem_filter.1 hm).1)
theorem endSuspects_b {B : Int} {x : Nd} (h : NdOk x) (hB : NdB B x) : NdB (B + 8) x.endSuspects :=
  (deads_b _ hB).mono (by have := List.length_filter_le (overB x.clock) x.tab; have := h.len; omega)
theorem present_len {x : Nd} (h : NdOk x) : x.present.length ≤ 8 := by
  unfold Nd.present Nd.others
  rw [List.length_map]
  refine Nat.le_trans (List.length_filter_le _ _) ?_
  rw [List.length_map]
  exact Nat.le_trans (List.length_filter_le _ _) h.len
theorem present_ids {x : Nd} (h : NdOk x) : ∀ i ∈ x.present, (1 ≤ i ∧ i ≤ 250) ∧ i ≠ x.c.self := by
  intro i hi
  unfold Nd.present Nd.others at hi
  obtain ⟨k, hk, rfl⟩ := List.mem_map.1 hi
  obtain ⟨m, hm, rfl⟩ := List.mem_map.1 (List.mem_filter.1 hk).1
  obtain ⟨h1, h2⟩ := List.mem_filter.1 hm
  refine ⟨(key_bounds (h.keys m h1)).1, ?_⟩
  simpa using h2
theorem asks_ok : ∀ (n : Nat) (able : List Int) {x : Nd}, NdOk x → NdOk (x.asks n able).2
  | 0, _, _, h => h
  | n + 1, able, _, h => asks_ok n _ (along_ok (drew_ok h able.length))
theorem asks_b : ∀ (n : Nat) (able : List Int) {B : Int} {x : Nd}, NdB B x → NdB (B + n) (x.asks n able).2
  | 0, _, _, _, h => h.mono (by omega)
  | n + 1, able, B, x, h => (asks_b n _ (along_b (drew_b h able.length))).mono (by omega)
theorem askOthers_ok {x : Nd} (h : NdOk x) : NdOk x.askOthers.2 := by
  unfold Nd.askOthers; split
  · exact h
  · exact asks_ok _ _ h
theorem askOthers_b {B : Int} {x : Nd} (h : NdOk x) (hB : NdB B x) : NdB (B + 3) x.askOthers.2 := by
  unfold Nd.askOthers; split
  · exact hB.mono (by omega)
  · refine (asks_b _ _ hB).mono ?_
    have := h.cfg
    simp only [cfgB, Bool.and_eq_true, decide_eq_true_eq] at this
    omega
theorem idle_ok {x : Nd} (h : NdOk x) : NdOk x.idle := ⟨h.cfg, h.rise, h.len, h.keys, h.sends, h.self, h.evs, h.rels, ⟨h.pass.len, h.pass.ids, .inl rfl⟩⟩
theorem idle_b {B : Int} {x : Nd} (h : NdB B x) : NdB B x.idle := ⟨h.clock, h.num, h.dropped, h.lost, ⟨⟨Int.le_refl 0, by have := h.clock; show (0 : Int) ≤ B; omega⟩, h.tk.2⟩⟩
theorem sus_key {x : Nd} (h : NdOk x) {i : Int} (hs : (atM i x.tab).k.st = 1) : isKeyB ⟨(atM i x.tab).k.id, (atM i x.tab).k.inc, 2⟩ = true := by
  unfold atM at *
  rcases hf : findM i x.tab with _ | m
  · rw [hf] at hs; simp [zeroM] at hs
  · have hk := h.keys m (findM_in hf).1
    simp only [isKeyB, Bool.and_eq_true, Option.getD_some] at *
    exact ⟨hk.1, hk.2.1, rfl⟩
theorem endProbe_ok {x : Nd} (h : NdOk x) : NdOk x.endProbe := by
  unfold Nd.endProbe; split
  · exact idle_ok h
  · rename_i hc
    refine hear_ok (idle_ok h) _ (sus_key h ?_)
    simp at hc
    exact hc.2
theorem endProbe_b {B : Int} {x : Nd} (hB : NdB B x) : NdB (B + 1) x.endProbe := by
  unfold Nd.endProbe; split
  · exact (idle_b hB).mono (by omega)
  · exact hear_b (idle_b hB) _
theorem goOn_ok {x : Nd} (h : NdOk x) : NdOk x.goOn.2 := by
  unfold Nd.goOn; split
  · exact h
  · split
    · exact askOthers_ok h
    · split
      · exact endProbe_ok h
      · exact h
theorem goOn_b {B : Int} {x : Nd} (h : NdOk x) (hB : NdB B x) : NdB (B + 3) x.goOn.2 := by
  unfold Nd.goOn; split
  · exact hB.mono (by omega)
  · split
    · exact askOthers_b h hB
    · split
      · exact (endProbe_b hB).mono (by omega)
      · exact hB.mono (by omega)
theorem renew_ok {x : Nd} (h : NdOk x) : NdOk x.renew := by
  unfold Nd.renew; split
  · have hp := mixed_perm x x.present
    obtain ⟨m, e, _⟩ := mixed_ex x x.present
    rw [e]
    refine ⟨h.cfg, h.rise, h.len, h.keys, h.sends, h.self, h.evs, h.rels, ⟨?_, fun i hi => ?_, h.pass.tgt⟩⟩
    · show (x.mixed x.present).1.length ≤ 8
      rw [hp.length_eq]; exact present_len h
    · exact present_ids h i (hp.mem_iff.1 hi)
  · exact h
theorem renew_b {B : Int} {x : Nd} (h : NdOk x) (hB : NdB B x) : NdB (B + 8) x.renew := by
  unfold Nd.renew; split
  · obtain ⟨m, e, _, hd⟩ := mixed_ex x x.present
    rw [e]
    have := present_len h
    have hB' := hB.mono (C := B + 8) (by omega)
    refine ⟨hB'.clock, hB'.num, hB'.dropped, hB'.lost, ⟨hB'.tk.1, ?_⟩⟩
    show (m : Int) ≤ B + 8
    have := hB.tk.2
    omega
  · exact hB.mono (by omega)
theorem begin_ok {x : Nd} (h : NdOk x) {t : Int} {r : List Int} (hp : x.pass = t :: r) : NdOk (x.begin t r) := by
  have h1 := h.pass
  rw [hp] at h1
  exact ⟨h.cfg, h.rise, h.len, h.keys, h.sends, h.self, h.evs, h.rels, ⟨by have := h1.len; simp at this; show r.length ≤ 8; omega, fun i hi => h1.ids i (List.mem_cons_of_mem _ hi), .inr (h1.ids t (List.mem_cons_self ..))⟩⟩
theorem begin_b {B : Int} {x : Nd} (hB : NdB B x) (t : Int) (r : List Int) : NdB (B + 1) (x.begin t r) := by
  have hB' := hB.mono (C := B + 1) (by omega)
  exact ⟨hB'.clock, ⟨by have := hB.num; show 0 ≤ x.num + 1; omega, by have := hB.num; show x.num + 1 ≤ B + 1; omega⟩, hB'.dropped, hB'.lost, ⟨hB'.clock, hB'.tk.2⟩⟩
theorem probeOne_ok {x : Nd} (h : NdOk x) : NdOk x.probeOne.2 := by
  unfold Nd.probeOne; split
  · exact h
  · rename_i t r hp; exact along_ok (begin_ok h hp)
theorem probeOne_b {B : Int} {x : Nd} (hB : NdB B x) : NdB (B + 1) x.probeOne.2 := by
  unfold Nd.probeOne; split
  · exact hB.mono (by omega)
  · exact along_b (begin_b hB _ _)
theorem probeNext_ok {x : Nd} (h : NdOk x) : NdOk x.probeNext.2 := by
  unfold Nd.probeNext; split
  · exact h
  · exact probeOne_ok (renew_ok h)
theorem probeNext_b {B : Int} {x : Nd} (h : NdOk x) (hB : NdB B x) : NdB (B + 9) x.probeNext.2 := by
  unfold Nd.probeNext; split
  · exact hB.mono (by omega)
  · exact (probeOne_b (renew_b h hB)).mono (by omega)
theorem tick_ok {x : Nd} (h : NdOk x) : NdOk x.tick.2 := probeNext_ok (goOn_ok (endSuspects_ok (endRelays_ok (later_ok h))))
theorem tick_b {B : Int} {x : Nd} (h : NdOk x) (hB : NdB B x) : NdB (B + 21) x.tick.2 := by
  have h1 := endRelays_ok (later_ok h)
  have b1 := endSuspects_b h1 (endRelays_b (later_b hB))
  have h2 := endSuspects_ok h1
  exact (probeNext_b (goOn_ok h2) (goOn_b h2 b1)).mono (by omega)
/-- The list of draws is the same, whatever a node does. -/
theorem hear_dl (x : Nd) (k : K3) : (x.hear k).dl = x.dl := by
  unfold Nd.hear Nd.hearSelf Nd.hearOther Nd.heard
  repeat' split
  all_goals rfl
end Go.Proofs.YtnneljcbelgoeaaGreatDoor.wire
