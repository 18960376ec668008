import Derived.Test.YtnneljcbelgoeaaGreatDoorG24
import Derived.Test.YtnneljcbelgoeaaGreatDoorG01
import Derived.BigRegion
import Derived.Deep.RegionLaw
import Derived.Deep.DeepCutAuto
import Derived.Deep.DrawnRows
/- gossipref's number, Decode. -/
namespace Go.Proofs.YtnneljcbelgoeaaGreatDoor.wire
open Go.RowKit
attribute [local go_sem ↓] Go.wp_at_zero Go.wp_at_succ
set_option maxHeartbeats 1000000 in
theorem number_any (s : ByteArray) (w : World) (hs : s.size = 4) :
    Calls Tryz.prog 52 #[.string s] w fun e w' => e = .returned (.int .i64 (numB s.data.toList)) ∧ w' = w := by
  go_enter Tryz.func52, Tryz.ntmps52
  go_wp2
  go_loop [3, 4] (fun n i => ∃ k : Nat, k ≤ 4 ∧ i = .int .i64 k ∧ n = .int .i64 (numB (s.data.toList.take k))) (fun _ i => 4 - (intOf i).toNat)
  case atStart => exact ⟨0, Nat.zero_le _, rfl, rfl⟩
  case round =>
    obtain ⟨k, hk, rfl, rfl⟩ := hrel
    have hbd := numB_bd (s.data.toList.take k) (by simp; omega)
    by_cases hlt : k < 4
    · have hks : k < s.size := by omega
      have hb : s[k].toNat < 256 := s[k].toNat_lt
      have HT := hide (take_snoc s k hks)
      generalize hN : numB (s.data.toList.take k) = N at hbd
      have HN := hide hN
      clear hN
      go_wp2
      go_round
      case rel =>
        refine ⟨k + 1, by omega, by go_num, ?_⟩
        rw [unhide HT, numB_snoc, unhide HN]
        go_num
      case measure => simp [intOf]; omega
    · have e : k = 4 := by omega
      subst e
      go_wp2
      go_ret
      exact ⟨ret_int (by rw [List.take_of_length_le (by simp; omega)]), rfl⟩
theorem number_four (c0 c1 c2 c3 : UInt8) (w : World) :
    Calls Tryz.prog 52 #[.string (bs [c0, c1, c2, c3])] w fun e w' => e = .returned (.int .i64 (n4 c0 c1 c2 c3)) ∧ w' = w := by
  have h := number_any (bs [c0, c1, c2, c3]) w (by rw [bs_size]; rfl)
  rw [bs_list] at h
  simpa [numB, n4] using h
theorem split_six {L : List UInt8} {k : Nat} {a b0 b1 b2 b3 c : UInt8} {r : List UInt8} (h : L.drop k = a :: b0 :: b1 :: b2 :: b3 :: c :: r) : L = (L.take k ++ [a]) ++ b0 :: b1 :: b2 :: b3 :: c :: r := by
  rw [List.append_assoc]
  show L = L.take k ++ (a :: b0 :: b1 :: b2 :: b3 :: c :: r)
  rw [← h, List.take_append_drop]
theorem getD_drop {L : List UInt8} {k j : Nat} {x : UInt8} (h : (L.drop k)[j]? = some x) : L.getD (k + j) 0 = x := by
  rw [List.getElem?_drop] at h
  simp [List.getD_eq_getElem?_getD, h]
theorem wbyte (c : UInt8) : wrap64 (c.toNat : Int) = (c.toNat : Int) := IntWalk.wrap64_in _ (by have := c.toNat_lt; omega)
theorem bs_mid (a b c d : UInt8) (x y : List UInt8) : (bs (x ++ a :: b :: c :: d :: y)).extract x.length (x.length + 4) = bs [a, b, c, d] := by
  apply ByteArray.ext
  rw [ByteArray.data_extract]
  apply Array.ext'
  rw [Array.toList_extract]
  simp [bs, List.extract_eq_take_drop]
set_option maxRecDepth 20000 in
set_option maxHeartbeats 2000000 in
theorem rdecode_short (l : List UInt8) (w : World) (hl : l.length ≤ maxLen) (hr : rightB l = false) :
    Calls Tryz.prog 29 #[.string (bs l)] w fun e w' => e = .returned (.tuple #[mval M6.zero (.slice none 0 0), .int .i64 2]) ∧ Below w.heap.size w w' := by
  unfold maxLen at hl
  have hsz := bs_size l
  by_cases h12 : l.length < 12
  · clear hr
    go_enter Tryz.func29, Tryz.ntmps29
    go_wp2
    exact bodyPost_ret (v := .tuple #[mval M6.zero (.slice none 0 0), .int .i64 2]) (by simp [results, Tryz.results29, go_sem, mval, M6.zero]) rfl ⟨rfl, (Below.refl _ _).alloc (Nat.le_refl _) _⟩
  · have hs12 : 12 ≤ (bs l).size := by omega
    have hb : (bs l)[11].toNat < 256 := (bs l)[11].toNat_lt
    have hne : ((l.length : Int) != (12 : Int) + (6 : Int) * ((bs l)[11].toNat : Int)) = true := by
      have := right_yes (bs l) hs12
      rw [bs_list, hr, bs_size] at this
      simp at this ⊢
      omega
    clear hr
    go_enter Tryz.func29, Tryz.ntmps29
    go_wp2
    exact bodyPost_ret (v := .tuple #[mval M6.zero (.slice none 0 0), .int .i64 2]) (by simp [results, Tryz.results29, go_sem, mval, M6.zero]) rfl ⟨rfl, (Below.refl _ _).alloc (Nat.le_refl _) _⟩
theorem Tryz.infoRKey : (Tryz.prog.info? 58).map (fun i => (i.zero, i.size, i.bytes)) = some (some (.agg #[.int .i64 0, .int .i64 0, .int .i64 0]), 3, 24) := by kernel_rfl
/-- What stands while gossipref reads: the result's block H, the message's H + 1. -/
structure RD (H : Nat) (x0 x1 x2 x3 x4 : Value) (w W : World) (v : Value) (l : List K3) : Prop where
  b0 : W.heap[H]? = some (.cells #[.int .i64 0, .int .i64 0, .int .i64 0, .int .i64 0, .int .i64 0, .slice none 0 0] 33 (0, 0))
  b2 : W.heap[H + 1]? = some (.cells #[x0, x1, x2, x3, x4, v] 33 (0, 0))
  size : H + 2 ≤ W.heap.size
  below : Below H w W
  own : W.ownsRow (H + 2) 58 3 v l.length (kcells l)
theorem RD.alloc {H : Nat} {x0 x1 x2 x3 x4 : Value} {w W : World} {v : Value} {l : List K3} (h : RD H x0 x1 x2 x3 x4 w W v l) (o : Obj) : RD H x0 x1 x2 x3 x4 w (W.alloc o) v l := by
  have hs := h.size
  refine ⟨?_, ?_, by simp; omega, h.below.alloc (by omega) _, h.own.alloc _⟩
  · rw [Below.heap_alloc _ _ _ (by omega)]; exact h.b0
  · rw [Below.heap_alloc _ _ _ (by omega)]; exact h.b2
theorem RD.drew {H : Nat} {x0 x1 x2 x3 x4 : Value} {w W : World} {v : Value} {l : List K3} (h : RD H x0 x1 x2 x3 x4 w W v l) : RD H x0 x1 x2 x3 x4 w W.drew v l :=
  ⟨h.b0, h.b2, h.size, h.below.drew, h.own.drew⟩
theorem RD.set {H : Nat} {x0 x1 x2 x3 x4 : Value} {w W : World} {v : Value} {l : List K3} (h : RD H x0 x1 x2 x3 x4 w W v l) (i : Nat) (u y0 y1 y2 y3 y4 : Value) (e : #[x0, x1, x2, x3, x4, v].setIfInBounds i u = #[y0, y1, y2, y3, y4, v]) : RD H y0 y1 y2 y3 y4 w (W.setCell ⟨H + 1, i, none⟩ u) v l := by
  have hs := h.size
  refine ⟨?_, ?_, by simpa using hs, h.below.setCell (by simp) _, ownsRow_setCell_below h.own (by simp) _⟩
  · rw [heap_setCell_other _ _ _ _ (by simp)]; exact h.b0
  · rw [heap_setCell_same _ _ _ _ _ _ h.b2, e]
theorem RD.blk {H : Nat} {x0 x1 x2 x3 x4 : Value} {w W : World} {v : Value} {l : List K3} (h : RD H x0 x1 x2 x3 x4 w W v l) {W1 W2 : World} (o : Obj) (he : W1 = W.alloc o) (hg : W1.grownBy W2 v.ownBlock) : ∀ k, k < H + 2 → W2.heap[k]? = W.heap[k]? := by
  subst he
  have hs := h.size
  have hne : ∀ k, k < H + 2 → some k ≠ v.ownBlock := fun k hk e => by have := own_lt h.own e.symm; omega
  exact fun k hk => (hg.block k (by simp; omega) (hne k hk)).trans (Below.heap_alloc _ _ _ (by omega))
theorem RD.grown {H : Nat} {x0 x1 x2 x3 x4 : Value} {w W : World} {v : Value} {l : List K3} (h : RD H x0 x1 x2 x3 x4 w W v l) {W1 W2 : World} (o : Obj) (he : W1 = W.alloc o) (hg : W1.grownBy W2 v.ownBlock) (v' : Value) (l' : List K3) (hown : W2.ownsRow (H + 2) 58 3 v' l'.length (kcells l')) :
    RD H x0 x1 x2 x3 x4 w (W2.setCell ⟨H + 1, 5, none⟩ v') v' l' := by
  have hblk := h.blk o he hg
  subst he
  have hs := h.size
  have hz := hg.size
  refine ⟨?_, ?_, by simp at hz ⊢; omega, (((h.below.alloc (by omega) o).grown hg (by simp; omega) (fun k e => by have := own_lt h.own e; omega))).setCell (by simp) _, ownsRow_setCell_below hown (by simp) _⟩
  · rw [heap_setCell_other _ _ _ _ (by simp), hblk _ (by omega)]; exact h.b0
  · rw [heap_setCell_same _ _ _ _ _ _ ((hblk _ (by omega)).trans h.b2)]; rfl
theorem rkeysAt_of_own {W : World} {base : Nat} {v : Value} {l : List K3} (h : W.ownsRow base 58 3 v l.length (kcells l)) : KeysAt W v l := by
  rcases h.2 with ⟨rfl, h0⟩ | ⟨g, cap, cur, rfl, hb, hg, h1, h2, h3, h4⟩
  · exact .inl ⟨rfl, List.length_eq_zero_iff.1 h0⟩
  · refine .inr ⟨g, 0, cap, rfl, lt_of_block hg, fun i hi => ?_⟩
    have hc : ∀ j, j < l.length * 3 → W.cell? ⟨g, j, none⟩ = (kcells l)[j]? := fun j hj => h.cellAt j hj
    have hk := kcells_get l i hi
    rw [Nat.zero_add, hc _ (by omega), hc _ (by omega), hc _ (by omega)]
    exact hk
set_option maxRecDepth 20000 in
set_option maxHeartbeats 2000000 in
theorem rdecode_long (c0 c1 i0 i1 i2 i3 s0 s1 s2 s3 t n : UInt8) (r : List UInt8) (w : World) (hr : r.length = n.toNat * 6) :
    Calls Tryz.prog 29 #[.string (bs (c0 :: c1 :: i0 :: i1 :: i2 :: i3 :: s0 :: s1 :: s2 :: s3 :: t :: n :: r))] w fun e w' =>
      (wholeB ⟨(c0.toNat : Int), (c1.toNat : Int), n4 i0 i1 i2 i3, n4 s0 s1 s2 s3, (t.toNat : Int), readKs n.toNat r⟩ = false ∧ e = .returned (.tuple #[mval M6.zero (.slice none 0 0), .int .i64 2]) ∧ Below w.heap.size w w') ∨
      (wholeB ⟨(c0.toNat : Int), (c1.toNat : Int), n4 i0 i1 i2 i3, n4 s0 s1 s2 s3, (t.toNat : Int), readKs n.toNat r⟩ = true ∧ ∃ v, e = .returned (.tuple #[mval ⟨(c0.toNat : Int), (c1.toNat : Int), n4 i0 i1 i2 i3, n4 s0 s1 s2 s3, (t.toNat : Int), readKs n.toNat r⟩ v, .int .i64 0]) ∧ w'.ownsRow w.heap.size 58 3 v (readKs n.toNat r).length (kcells (readKs n.toNat r)) ∧ Below w.heap.size w w') := by
  have hn := n.toNat_lt
  have x1 : (bs (c0 :: c1 :: i0 :: i1 :: i2 :: i3 :: s0 :: s1 :: s2 :: s3 :: t :: n :: r)).extract 2 6 = bs [i0, i1, i2, i3] := bs_mid i0 i1 i2 i3 [c0, c1] _
  have x2 : (bs (c0 :: c1 :: i0 :: i1 :: i2 :: i3 :: s0 :: s1 :: s2 :: s3 :: t :: n :: r)).extract 6 10 = bs [s0, s1, s2, s3] := bs_mid s0 s1 s2 s3 [c0, c1, i0, i1, i2, i3] _
  have hsz : (bs (c0 :: c1 :: i0 :: i1 :: i2 :: i3 :: s0 :: s1 :: s2 :: s3 :: t :: n :: r)).size = 12 + n.toNat * 6 := by rw [bs_size]; simp [hr]; omega
  have hge : ∀ j (h : j < (bs (c0 :: c1 :: i0 :: i1 :: i2 :: i3 :: s0 :: s1 :: s2 :: s3 :: t :: n :: r)).size), (bs (c0 :: c1 :: i0 :: i1 :: i2 :: i3 :: s0 :: s1 :: s2 :: s3 :: t :: n :: r))[j] = (c0 :: c1 :: i0 :: i1 :: i2 :: i3 :: s0 :: s1 :: s2 :: s3 :: t :: n :: r).getD j 0 := fun j h => by rw [← getD_at _ _ h, bs_list]
  generalize hL : c0 :: c1 :: i0 :: i1 :: i2 :: i3 :: s0 :: s1 :: s2 :: s3 :: t :: n :: r = L at x1 x2 hsz hge ⊢
  have g0 : (bs L)[0]'(by omega) = c0 := by rw [hge 0 (by omega), ← hL]; rfl
  have g1 : (bs L)[1]'(by omega) = c1 := by rw [hge 1 (by omega), ← hL]; rfl
  have g10 : (bs L)[10]'(by omega) = t := by rw [hge 10 (by omega), ← hL]; rfl
  have g11 : (bs L)[11]'(by omega) = n := by rw [hge 11 (by omega), ← hL]; rfl
  have HGE := hide hge
  have HL := hide hL
  clear hge hL
  have hne : (((12 : Int) + (n.toNat : Int) * 6) != (12 : Int) + (6 : Int) * (n.toNat : Int)) = false := by simp; omega
  have hc0 := c0.toNat_lt
  have hc1 := c1.toNat_lt
  have ht0 := t.toNat_lt
  go_enter Tryz.func29, Tryz.ntmps29
  go_wp2_with fail
  go_cut [4] from 9 to 32 (fun p wq => p = .pointer (some ⟨w.heap.size + 1, 0, none⟩) ∧ RD w.heap.size (.int .i64 (c0.toNat : Int)) (.int .i64 (c1.toNat : Int)) (.int .i64 0) (.int .i64 0) (.int .i64 (t.toNat : Int)) w wq (.slice none 0 0) [])
  case first =>
    go_region
    all_goals go_wp2_with fail
    all_goals go_meet
    all_goals
      simp only
      refine ⟨trivial, RD.drew ⟨?_, ?_, by simp, ?_, World.ownsRow_nil _ _ _ _⟩⟩
      · rw [Below.heap_alloc _ _ _ (by simp)]; exact heap_alloc_new _ _
      · have := heap_alloc_new (w.alloc (.cells #[.int .i64 0, .int .i64 0, .int .i64 0, .int .i64 0, .int .i64 0, .slice none 0 0] 33)) (.cells #[.int .i64 (c0.toNat : Int), .int .i64 (c1.toNat : Int), .int .i64 0, .int .i64 0, .int .i64 (t.toNat : Int), .slice none 0 0] 33)
        simpa using this
      · exact ((Below.refl _ _).alloc (Nat.le_refl _) _).alloc (by simp) _
  case rest =>
    obtain ⟨rfl, Q⟩ := hcut
    clear g0 g1 g10 g11 hne hc0 hc1 ht0
    have c2 : wc.cell? ⟨w.heap.size + 1, 2, none⟩ = some (.int .i64 0) := cell_at Q.b2 2
    have cf := free_at Q.b2
    go_wp2_with fail
    clear c2 cf
    refine (number_four i0 i1 i2 i3 _).mono ?_
    rintro e w1 ⟨rfl, rfl⟩
    have c2 : w1.cell? ⟨w.heap.size + 1, 2, none⟩ = some (.int .i64 0) := cell_at Q.b2 2
    have cf := free_at Q.b2
    go_wp2_with fail
    clear c2 cf
    have Q2 := Q.set 2 (.int .i64 (n4 i0 i1 i2 i3)) _ _ _ _ _ rfl
    clear Q
    generalize w1.setCell _ _ = w2 at Q2 ⊢
    refine (number_four s0 s1 s2 s3 _).mono ?_
    rintro e w3 ⟨rfl, rfl⟩
    have c3 : w3.cell? ⟨w.heap.size + 1, 3, none⟩ = some (.int .i64 0) := cell_at Q2.b2 3
    have cf := free_at Q2.b2
    go_wp2_with fail
    clear c3 cf x1 x2
    have Q3 := Q2.set 3 (.int .i64 (n4 s0 s1 s2 s3)) _ _ _ _ _ rfl
    clear Q2
    generalize w3.setCell _ _ = w4 at Q3 ⊢
    go_loopw [5] (fun i wr => ∃ (q : Nat) (v : Value), q ≤ n.toNat ∧ i = .int .i64 (12 + 6 * (q : Int)) ∧ RD w.heap.size (.int .i64 (c0.toNat : Int)) (.int .i64 (c1.toNat : Int)) (.int .i64 (n4 i0 i1 i2 i3)) (.int .i64 (n4 s0 s1 s2 s3)) (.int .i64 (t.toNat : Int)) w wr v ((readKs n.toNat r).take q)) (fun i _ => n.toNat * 6 + 12 - (intOf i).toNat)
    case atStart => exact ⟨0, .slice none 0 0, Nat.zero_le _, rfl, Q3⟩
    case round =>
      obtain ⟨q, v, hq, rfl, R⟩ := hrel
      clear Q3
      have hkl : ((readKs n.toNat r).take q).length = q := by rw [List.length_take, readKs_len _ _ hr]; omega
      by_cases hlt : q < n.toNat
      · obtain ⟨a, b0, b1, b2, b3, c, r', h1, h2, h3⟩ := drop_six n.toNat q r hr hlt
        have hdrop : L.drop (12 + 6 * q) = a :: b0 :: b1 :: b2 :: b3 :: c :: r' := by rw [← unhide HL, ← h1]; simp [Nat.add_comm 12]
        have hext : (bs L).extract (12 + 6 * q + 1) (12 + 6 * q + 5) = bs [b0, b1, b2, b3] := by
          have hsp := split_six hdrop
          have hlen : (L.take (12 + 6 * q) ++ [a]).length = 12 + 6 * q + 1 := by
            have := bs_size L
            simp; omega
          have := bs_mid b0 b1 b2 b3 (L.take (12 + 6 * q) ++ [a]) (c :: r')
          rw [← hsp, hlen] at this
          exact this
        have hga : ∀ h, (bs L)[12 + 6 * q]'h = a := fun h => by
          rw [unhide HGE _ h]
          exact getD_drop (k := 12 + 6 * q) (j := 0) (by rw [hdrop]; rfl)
        have hgc : ∀ h, (bs L)[12 + 6 * q + 5]'h = c := fun h => by
          rw [unhide HGE _ h]
          exact getD_drop (k := 12 + 6 * q) (j := 5) (by rw [hdrop]; rfl)
        have HR := hide R
        have H3 := hide h3
        have HK := hide hkl
        have HGA := hide hga
        have HGC := hide hgc
        have HEXT := hide hext
        clear R h1 h2 h3 hkl hga hgc hext hdrop
        go_wp2_with fail
        rw [unhide HEXT]
        refine (number_four b0 b1 b2 b3 _).mono ?_
        rintro e w5 ⟨rfl, rfl⟩
        have ga := unhide HGA
        have gc := unhide HGC
        have bd0 : (0 : Int) ≤ 12 + 6 * (q : Int) := by omega
        have bd1 : (12 : Int) + 6 * (q : Int) < 12 + (n.toNat : Int) * 6 := by omega
        have bd2 : (12 : Int) + 6 * (q : Int) + 5 < 12 + (n.toNat : Int) * 6 := by omega
        have bd3 : (0 : Int) ≤ 12 + 6 * (q : Int) + 5 := by omega
        have wr5 : IntKind.i64.wrap ((12 : Int) + 6 * (q : Int) + 5) = (12 : Int) + 6 * (q : Int) + 5 := by rw [IntKind.wrap_i64]; omega
        have tn0 : ((12 : Int) + 6 * (q : Int)).toNat = 12 + 6 * q := by omega
        have tn5 : ((12 : Int) + 6 * (q : Int) + 5).toNat = 12 + 6 * q + 5 := by omega
        go_wp2_with fail
        go_cut [7] from 41 to 70 (fun p wq => p = .pointer (some ⟨w5.heap.size, 0, none⟩) ∧ RD w.heap.size (.int .i64 (c0.toNat : Int)) (.int .i64 (c1.toNat : Int)) (.int .i64 (n4 i0 i1 i2 i3)) (.int .i64 (n4 s0 s1 s2 s3)) (.int .i64 (t.toNat : Int)) w wq v ((readKs n.toNat r).take q) ∧ wq.heap[w5.heap.size]? = some (.cells #[.int .i64 (a.toNat : Int), .int .i64 (n4 b0 b1 b2 b3), .int .i64 (c.toNat : Int)] 58 (0, 0)))
        case first =>
          go_region
          all_goals go_wp2_with fail
          all_goals go_meet
          all_goals
            simp only [wbyte]
            exact ⟨trivial, ((unhide HR).alloc _).drew, heap_alloc_new _ _⟩
        case rest =>
          obtain ⟨rfl, R2, hkv⟩ := hcut
          clear ga gc bd0 bd1 bd2 bd3 wr5 tn0 tn5 HGA HGC HEXT HR
          generalize w5.heap.size = nk at hkv ⊢
          have k0 : wc.cell? ⟨nk, 0, none⟩ = some (.int .i64 (a.toNat : Int)) := cell_at hkv 0
          have k1 : wc.cell? ⟨nk, 1, none⟩ = some (.int .i64 (n4 b0 b1 b2 b3)) := cell_at hkv 1
          have k2 : wc.cell? ⟨nk, 2, none⟩ = some (.int .i64 (c.toNat : Int)) := cell_at hkv 2
          have m5 : wc.cell? ⟨w.heap.size + 1, 5, none⟩ = some v := cell_at R2.b2 5
          have hsz2 := R2.size
          have hownq : wc.ownsRow (w.heap.size + 2) 58 3 v q (kcells ((readKs n.toNat r).take q)) := by
            have h := R2.own
            rw [unhide HK] at h
            exact h
          have HOQ := hide hownq
          have HR2 := hide R2
          clear R2 hkv hownq
          obtain ⟨ti, hti, hz0, hz1, hz2⟩ := info_parts Tryz.infoRKey
          go_wp2_with (at_builtin; refine wpList_append_own _ rfl _ _ 31 rfl (w.heap.size + 2) 58 ti (.agg #[.int .i64 0, .int .i64 0, .int .i64 0]) 3 24 Tryz.underlying31 hti hz0 hz1 hz2 rfl (by decide) v q _ rfl ((unhide HOQ).alloc _) ⟨wc.heap.size, 0, none⟩ 1 1 [.int .i64 (a.toNat : Int), .int .i64 (n4 b0 b1 b2 b3), .int .i64 (c.toNat : Int)] rfl rfl ?c1 ?c2 ?c3 ?c4 ?c5 ?_)
          case c1 => exact World.news_of_block (heap_alloc_new wc (.cells #[.int .i64 (a.toNat : Int), .int .i64 (n4 b0 b1 b2 b3), .int .i64 (c.toNat : Int)] 58))
          case c2 => intro u hu; simp at hu; rcases hu with rfl | rfl | rfl <;> rfl
          case c3 => unfold maxLen; omega
          case c4 => omega
          case c5 => simp; omega
          intro v' w6 hown' hgrow _
          have hLq : ((readKs n.toNat r).take (q + 1)).length = q + 1 := by rw [List.length_take, readKs_len _ _ hr]; omega
          have hown2 : w6.ownsRow (w.heap.size + 2) 58 3 v' ((readKs n.toNat r).take (q + 1)).length (kcells ((readKs n.toNat r).take (q + 1))) := by
            rw [hLq, unhide H3, kcells_append]
            exact hown'
          have S7 := (unhide HR2).grown _ rfl hgrow v' _ hown2
          have hbm := ((unhide HR2).blk _ rfl hgrow (w.heap.size + 1) (by omega)).trans (unhide HR2).b2
          have hm5 : w6.cell? ⟨w.heap.size + 1, 5, none⟩ = some v := cell_at hbm 5
          have hm5f : w6.frozen? ⟨w.heap.size + 1, 5, none⟩ = false := free_at hbm 5
          obtain ⟨ao', cap', hv'⟩ := own_form hown2
          rw [hLq] at hv'
          subst hv'
          have HS7 := hide S7
          clear S7 hbm HR2 hown' hown2 hgrow k0 k1 k2 m5 HOQ hLq
          go_wp2
          go_roundw
          case rel =>
            exact ⟨q + 1, .slice ao' (q + 1) cap', by omega, by go_num, unhide HS7⟩
          case measure => simp [intOf]; omega
      · have e : q = n.toNat := by omega
        have hR := R
        rw [e, List.take_of_length_le (by rw [readKs_len _ _ hr]; omega)] at hR
        obtain ⟨ao', cap', rfl⟩ := own_form hR.own
        have m0 := cell_at R.b2 0
        have m1 := cell_at R.b2 1
        have m2 := cell_at R.b2 2
        have m3 := cell_at R.b2 3
        have m4 := cell_at R.b2 4
        have m5 := cell_at R.b2 5
        simp only [List.getElem?_toArray, List.getElem?_cons_zero, List.getElem?_cons_succ] at m0 m1 m2 m3 m4 m5
        have hlen : (readKs n.toNat r).length ≤ 1000000 := by rw [readKs_len _ _ hr]; omega
        have HR := hide hR
        clear R hR hkl HGE HL
        go_wp2_with fail
        have hW := rwhole_any ⟨(c0.toNat : Int), (c1.toNat : Int), n4 i0 i1 i2 i3, n4 s0 s1 s2 s3, (t.toNat : Int), readKs n.toNat r⟩ (.slice ao' (readKs n.toNat r).length cap') wr (rkeysAt_of_own (unhide HR).own) hlen
        refine hW.mono ?_
        clear hW
        rintro e w7 ⟨rfl, hb7⟩
        have hz7 := hb7.size
        have hsr := (unhide HR).size
        have hq0 := (hb7.block w.heap.size (by omega)).trans (unhide HR).b0
        have hq2 := (hb7.block (w.heap.size + 1) (by omega)).trans (unhide HR).b2
        have hown7 := own_below (unhide HR).own hb7
        have hB7 := (unhide HR).below.trans (hb7.mono (by omega))
        have f0 : w7.cell? ⟨w.heap.size, 0, none⟩ = some (.int .i64 0) := cell_at hq0 0
        have f1 : w7.cell? ⟨w.heap.size, 1, none⟩ = some (.int .i64 0) := cell_at hq0 1
        have f2 : w7.cell? ⟨w.heap.size, 2, none⟩ = some (.int .i64 0) := cell_at hq0 2
        have f3 : w7.cell? ⟨w.heap.size, 3, none⟩ = some (.int .i64 0) := cell_at hq0 3
        have f4 : w7.cell? ⟨w.heap.size, 4, none⟩ = some (.int .i64 0) := cell_at hq0 4
        have f5 : w7.cell? ⟨w.heap.size, 5, none⟩ = some (.slice none 0 0) := cell_at hq0 5
        have fz : ∀ j, w7.frozen? ⟨w.heap.size, j, none⟩ = false := free_at hq0
        have q0 : w7.cell? ⟨w.heap.size + 1, 0, none⟩ = some (.int .i64 (c0.toNat : Int)) := cell_at hq2 0
        have q1 : w7.cell? ⟨w.heap.size + 1, 1, none⟩ = some (.int .i64 (c1.toNat : Int)) := cell_at hq2 1
        have q2 : w7.cell? ⟨w.heap.size + 1, 2, none⟩ = some (.int .i64 (n4 i0 i1 i2 i3)) := cell_at hq2 2
        have q3 : w7.cell? ⟨w.heap.size + 1, 3, none⟩ = some (.int .i64 (n4 s0 s1 s2 s3)) := cell_at hq2 3
        have q4 : w7.cell? ⟨w.heap.size + 1, 4, none⟩ = some (.int .i64 (t.toNat : Int)) := cell_at hq2 4
        have q5 : w7.cell? ⟨w.heap.size + 1, 5, none⟩ = some (.slice ao' (readKs n.toNat r).length cap') := cell_at hq2 5
        have HO7 := hide hown7
        have HB7 := hide hB7
        clear hb7 hq0 hq2 hown7 hB7 HR m0 m1 m2 m3 m4 m5
        generalize hWB : wholeB ⟨(c0.toNat : Int), (c1.toNat : Int), n4 i0 i1 i2 i3, n4 s0 s1 s2 s3, (t.toNat : Int), readKs n.toNat r⟩ = wbit
        have HWB := hide hWB
        clear hWB
        cases wbit
        · go_wp2
          refine bodyPost_ret (v := .tuple #[mval M6.zero (.slice none 0 0), .int .i64 2]) (by simp [results, Tryz.results29, go_sem, f0, f1, f2, f3, f4, f5, mval, M6.zero]) rfl (.inl ⟨unhide HWB, rfl, ?_⟩)
          exact ((((((unhide HB7).setCell (Nat.le_refl _) _).setCell (Nat.le_refl _) _).setCell (Nat.le_refl _) _).setCell (Nat.le_refl _) _).setCell (Nat.le_refl _) _).setCell (Nat.le_refl _) _
        · go_wp2
          refine bodyPost_ret (v := .tuple #[mval ⟨(c0.toNat : Int), (c1.toNat : Int), n4 i0 i1 i2 i3, n4 s0 s1 s2 s3, (t.toNat : Int), readKs n.toNat r⟩ (.slice ao' (readKs n.toNat r).length cap'), .int .i64 0]) (by simp [results, Tryz.results29, go_sem, f0, f1, f2, f3, f4, f5, mval]) rfl (.inr ⟨unhide HWB, _, rfl, ?_, ?_⟩)
          · exact own_mono (ownsRow_setCell_below (ownsRow_setCell_below (ownsRow_setCell_below (ownsRow_setCell_below (ownsRow_setCell_below (ownsRow_setCell_below (unhide HO7) (by simp) _) (by simp) _) (by simp) _) (by simp) _) (by simp) _) (by simp) _) (by omega)
          · exact ((((((unhide HB7).setCell (Nat.le_refl _) _).setCell (Nat.le_refl _) _).setCell (Nat.le_refl _) _).setCell (Nat.le_refl _) _).setCell (Nat.le_refl _) _).setCell (Nat.le_refl _) _
theorem rdecode_no (l : List UInt8) (w : World) (hl : l.length ≤ maxLen) (hd : decB l = false) :
    Calls Tryz.prog 29 #[.string (bs l)] w fun e w' => e = .returned (.tuple #[mval M6.zero (.slice none 0 0), .int .i64 2]) ∧ Below w.heap.size w w' := by
  cases hr : rightB l
  · exact rdecode_short l w hl hr
  · have hw : wholeB (readM l) = false := by simpa [decB, hr] using hd
    obtain ⟨c0, c1, i0, i1, i2, i3, s0, s1, s2, s3, t, n, r, rfl, hr'⟩ := right_form hr
    refine (rdecode_long c0 c1 i0 i1 i2 i3 s0 s1 s2 s3 t n r w hr').mono ?_
    rintro e w' (⟨_, h⟩ | ⟨h, _⟩)
    · exact h
    · simp only [readM] at hw
      rw [hw] at h
      cases h
theorem rdecode_yes (l : List UInt8) (w : World) (hd : decB l = true) :
    Calls Tryz.prog 29 #[.string (bs l)] w fun e w' => ∃ v, e = .returned (.tuple #[mval (readM l) v, .int .i64 0]) ∧ w'.ownsRow w.heap.size 58 3 v (readM l).ups.length (kcells (readM l).ups) ∧ Below w.heap.size w w' := by
  simp only [decB, Bool.and_eq_true] at hd
  obtain ⟨hr, hw⟩ := hd
  obtain ⟨c0, c1, i0, i1, i2, i3, s0, s1, s2, s3, t, n, r, rfl, hr'⟩ := right_form hr
  refine (rdecode_long c0 c1 i0 i1 i2 i3 s0 s1 s2 s3 t n r w hr').mono ?_
  rintro e w' (⟨h, _⟩ | ⟨_, h⟩)
  · simp only [readM] at hw
    rw [hw] at h
    cases h
  · exact h
end Go.Proofs.YtnneljcbelgoeaaGreatDoor.wire
