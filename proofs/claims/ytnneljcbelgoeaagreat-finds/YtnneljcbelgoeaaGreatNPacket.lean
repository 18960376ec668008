import Derived.Test.YtnneljcbelgoeaaGreatNAlong
/- A packet of a node (P7). -/
namespace Go.Proofs.YtnneljcbelgoeaaGreat.wire
open Go.RowKit Go.Maps

theorem enc_any (m : M6) (v : Value) (w : World) (hv : KeysAt w v m.ups) (hl : m.ups.length ≤ 1000000) :
    Calls Tryz.prog 21 #[mval m v] w fun e w' => ∃ ev, e = .returned (.tuple #[.string (bs (bytesS m)), ev]) ∧ Below w.heap.size w w' := by
  cases h : wholeB m
  · refine (encode_no m v w hv hl h).mono ?_
    rintro e w' ⟨rfl, hb⟩
    exact ⟨_, by simp only [bytesS, h]; rfl, hb⟩
  · refine (encode_yes m v w hv h).mono ?_
    rintro e w' ⟨rfl, hb⟩
    exact ⟨.nilIface, by simp only [bytesS, h, if_true], hb⟩
theorem keys_of_row {w : World} {base : Nat} {v : Value} {l : List K3} (h : w.ownsRow base 31 3 v l.length (l.flatMap keyC)) : KeysAt w v l := by
  rcases h.2 with ⟨rfl, h0⟩ | ⟨g, cap, cur, rfl, hb, hg, h1, h2, h3, h4⟩
  · exact .inl ⟨rfl, List.length_eq_zero_iff.1 h0⟩
  · refine .inr ⟨g, 0, cap, rfl, lt_blk hg, fun i hi => ?_⟩
    have hlen : ∀ l : List K3, (l.flatMap keyC).length = l.length * 3 := fun l => by
      induction l with
      | nil => rfl
      | cons a r ih => simp only [List.flatMap_cons, List.length_append, ih, List.length_cons, keyC, List.length_nil]; omega
    have hget : ∀ (l : List K3) (i : Nat) (h : i < l.length) (j : Nat), j < 3 → (l.flatMap keyC)[i * 3 + j]? = (keyC l[i])[j]? := by
      intro l
      induction l with
      | nil => intro i h; simp at h
      | cons a r ih =>
        intro i h j hj
        cases i with
        | zero => rw [List.flatMap_cons, List.getElem?_append_left (by simp [keyC]; omega)]; simp
        | succ i =>
          rw [List.flatMap_cons, List.getElem?_append_right (by simp [keyC]; omega)]
          have := ih i (by simpa using h) j hj
          simp only [List.getElem_cons_succ]
          rw [← this]
          congr 1
          simp [keyC]; omega
    have hc : ∀ j, j < 3 → w.cell? ⟨g, 0 + i * 3 + j, none⟩ = (keyC l[i])[j]? := fun j hj => by
      rw [cell_at hg, ← hget l i hi j hj, ← h4, List.getElem?_take, if_pos (by have : (i + 1) * 3 ≤ l.length * 3 := Nat.mul_le_mul_right _ hi; omega), Array.getElem?_toList, Nat.zero_add]
    exact ⟨hc 0 (by omega), hc 1 (by omega), hc 2 (by omega)⟩
set_option maxHeartbeats 2000000 in
set_option maxRecDepth 100000 in
theorem packet_any {x : Nd} (hx : NdOk x) {nb mb : Nat} {cb : Dk} {pv rv : Value} {W : World} (hn : NAt W nb mb cb pv rv x) (dest kind seq tgt : Int) (ups : List K3) (v : Value) (hv : KeysAt W v ups) (hl : ups.length ≤ 1000000) :
    Calls Tryz.prog 38 #[.pointer (some ⟨nb, 0, none⟩), .int .i64 dest, .agg #[.int .i64 kind, .int .i64 0, .int .i64 0, .int .i64 seq, .int .i64 tgt, v]] W fun e w' => e = .returned (.agg #[.int .i64 (x.packet dest kind seq tgt ups).dest, .string (bs (x.packet dest kind seq tgt ups).bytes)]) ∧ Below W.heap.size W w' := by
  obtain ⟨ao, cap, rfl⟩ := hv.form
  have hb0 : Below W.heap.size W ((W.alloc (.cells #[.int .i64 kind, .int .i64 0, .int .i64 0, .int .i64 seq, .int .i64 tgt, .slice ao ups.length cap] 29)).alloc (.cells #[.int .i64 0, .string ⟨#[]⟩] 39)) := ((Below.refl _ _).alloc (Nat.le_refl _) _).alloc (by simp) _
  have HS := hide (self_any hx ((hn.alloc (.cells #[.int .i64 kind, .int .i64 0, .int .i64 0, .int .i64 seq, .int .i64 tgt, .slice ao ups.length cap] 29)).alloc (.cells #[.int .i64 0, .string ⟨#[]⟩] 39)))
  have HB0 := hide hb0
  have HV := hide hv
  have hown : x.packet dest kind seq tgt ups = ⟨dest, bytesS ⟨kind, x.own.id, x.own.inc, seq, tgt, ups⟩⟩ := rfl
  rw [hown]
  generalize x.own = O at HS ⊢
  clear hb0 hv hn hx hown
  go_enter Tryz.func38, Tryz.ntmps38
  go_wp2_with fail
  refine (unhide HS).mono ?_
  rintro e w1 ⟨rfl, hb1⟩
  have hz1 := hb1.size
  simp only [World.size_alloc] at hz1
  have bm := (hb1.block W.heap.size (by simp; omega)).trans ((Below.heap_alloc _ _ _ (by simp)).trans (heap_alloc_new W (.cells #[.int .i64 kind, .int .i64 0, .int .i64 0, .int .i64 seq, .int .i64 tgt, .slice ao ups.length cap] 29)))
  have br : w1.heap[W.heap.size + 1]? = some (.cells #[.int .i64 0, .string ⟨#[]⟩] 39 (0, 0)) := by
    have h := heap_alloc_new (W.alloc (.cells #[.int .i64 kind, .int .i64 0, .int .i64 0, .int .i64 seq, .int .i64 tgt, .slice ao ups.length cap] 29)) (.cells #[.int .i64 0, .string ⟨#[]⟩] 39)
    rw [World.size_alloc] at h
    exact (hb1.block (W.heap.size + 1) (by simp)).trans h
  have hb01 : Below W.heap.size W w1 := (unhide HB0).trans (hb1.mono (by simp; omega))
  have HM := hide bm
  have HR := hide br
  have HB1 := hide hb01
  clear hb1 bm br hb01 HS HB0
  go_wp2_with fail
  generalize hw2 : w1.alloc (.cells #[.int .i64 O.id, .int .i64 O.inc, .int .i64 O.st] 31) = w2
  have bm : w2.heap[W.heap.size]? = some (.cells #[.int .i64 kind, .int .i64 0, .int .i64 0, .int .i64 seq, .int .i64 tgt, .slice ao ups.length cap] 29 (0, 0)) := by rw [← hw2]; exact (Below.heap_alloc _ _ _ (by omega)).trans (unhide HM)
  have br : w2.heap[W.heap.size + 1]? = some (.cells #[.int .i64 0, .string ⟨#[]⟩] 39 (0, 0)) := by rw [← hw2]; exact (Below.heap_alloc _ _ _ (by omega)).trans (unhide HR)
  have bo : w2.heap[w1.heap.size]? = some (.cells #[.int .i64 O.id, .int .i64 O.inc, .int .i64 O.st] 31 (0, 0)) := by rw [← hw2]; exact heap_alloc_new _ _
  have hb02 : Below W.heap.size W w2 := by rw [← hw2]; exact (unhide HB1).alloc (by omega) _
  have m0 := cell_at bm 0
  have m1 := cell_at bm 1
  have m2 := cell_at bm 2
  have m3 := cell_at bm 3
  have m4 := cell_at bm 4
  have m5 := cell_at bm 5
  have mf := free_at bm
  have o0 := cell_at bo 0
  have o1 := cell_at bo 1
  simp only [List.getElem?_toArray, List.getElem?_cons_zero, List.getElem?_cons_succ] at m0 m1 m2 m3 m4 m5 o0 o1
  have HM2 := hide bm
  have HR2 := hide br
  have HB2 := hide hb02
  clear bm br bo hb02 HM HR HB1 hw2
  go_region
  all_goals
    generalize hw3 : World.drew _ = w3
    have bm : w3.heap[W.heap.size]? = some (.cells #[.int .i64 kind, .int .i64 O.id, .int .i64 O.inc, .int .i64 seq, .int .i64 tgt, .slice ao ups.length cap] 29 (0, 0)) := by
      rw [← hw3]
      have h1 := heap_setCell_same w2 W.heap.size 1 _ _ (.int .i64 O.id) (unhide HM2)
      have h2 := heap_setCell_same _ W.heap.size 2 _ _ (.int .i64 O.inc) h1
      first
        | exact h2
        | (have h1 := heap_setCell_same w2 W.heap.size 2 _ _ (.int .i64 O.inc) (unhide HM2)
           have h2 := heap_setCell_same _ W.heap.size 1 _ _ (.int .i64 O.id) h1
           exact h2)
    have br : w3.heap[W.heap.size + 1]? = some (.cells #[.int .i64 0, .string ⟨#[]⟩] 39 (0, 0)) := by
      rw [← hw3]
      exact (heap_setCell_other _ _ _ _ (by simp)).trans ((heap_setCell_other _ _ _ _ (by simp)).trans (unhide HR2))
    have hb03 : Below W.heap.size W w3 := by
      rw [← hw3]
      exact (((unhide HB2).setCell (Nat.le_refl _) _).setCell (Nat.le_refl _) _).drew
    have HE := hide (enc_any ⟨kind, O.id, O.inc, seq, tgt, ups⟩ (.slice ao ups.length cap) w3 ((unhide HV).below hb03) hl)
    clear m0 m1 m2 m3 m4 m5 mf o0 o1 hw3 HM2 HR2 HB2
    have m0 := cell_at bm 0
    have m1 := cell_at bm 1
    have m2 := cell_at bm 2
    have m3 := cell_at bm 3
    have m4 := cell_at bm 4
    have m5 := cell_at bm 5
    simp only [List.getElem?_toArray, List.getElem?_cons_zero, List.getElem?_cons_succ] at m0 m1 m2 m3 m4 m5
    have HR3 := hide br
    have HB3 := hide hb03
    clear bm br hb03
    go_wp2_with fail
    refine (unhide HE).mono ?_
    rintro e w4 ⟨ev, rfl, hb4⟩
    have br4 := (hb4.block (W.heap.size + 1) (lt_blk (unhide HR3))).trans (unhide HR3)
    have r0 := cell_at br4 0
    have r1 := cell_at br4 1
    have rf := free_at br4
    simp only [List.getElem?_toArray, List.getElem?_cons_zero, List.getElem?_cons_succ] at r0 r1
    have HB4 := hide ((unhide HB3).trans (hb4.mono (unhide HB3).size))
    have HR4 := hide br4
    clear hb4 br4 HE m0 m1 m2 m3 m4 m5
    generalize hBS : bytesS ⟨kind, O.id, O.inc, seq, tgt, ups⟩ = BS
    have HBS := hide hBS
    clear hBS
    go_wp2
    refine bodyPost_ret (v := .agg #[.int .i64 dest, .string (bs BS)]) (by simp [results, Tryz.results38, go_sem, r0, r1]) rfl ⟨by rw [unhide HBS], ?_⟩
    exact ((unhide HB4).setCell (Nat.le_succ _) _).setCell (Nat.le_succ _) _
end Go.Proofs.YtnneljcbelgoeaaGreat.wire
