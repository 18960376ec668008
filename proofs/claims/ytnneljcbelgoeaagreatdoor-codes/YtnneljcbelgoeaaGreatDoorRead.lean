import Derived.Test.YtnneljcbelgoeaaGreatDoorTake2
import Derived.Test.YtnneljcbelgoeaaGreatDoorWhole
import Derived.Deep.AppendLies
namespace Go.Proofs.YtnneljcbelgoeaaGreatDoor.wire
open Go.RowKit
/-- The keys that bytes hold. -/
def readKs : Nat → List UInt8 → List K3
  | 0, _ => []
  | n + 1, a :: b0 :: b1 :: b2 :: b3 :: c :: r => ⟨(a.toNat : Int), n4 b0 b1 b2 b3, (c.toNat : Int)⟩ :: readKs n r
  | _ + 1, _ => []
theorem kcells_len (l : List K3) : (kcells l).length = l.length * 3 := by
  induction l with
  | nil => rfl
  | cons k r ih => simp [kcells, ih]; omega
theorem kcells_append (a b : List K3) : kcells (a ++ b) = kcells a ++ kcells b := by
  induction a with
  | nil => rfl
  | cons k r ih => simp [kcells, ih]
theorem kcells_get : ∀ (l : List K3) (i : Nat) (h : i < l.length), (kcells l)[i * 3]? = some (.int .i64 l[i].id) ∧ (kcells l)[i * 3 + 1]? = some (.int .i64 l[i].inc) ∧ (kcells l)[i * 3 + 2]? = some (.int .i64 l[i].st)
  | k :: r, 0, _ => ⟨rfl, rfl, rfl⟩
  | k :: r, i + 1, h => by
    have := kcells_get r i (by simpa using h)
    rw [show (i + 1) * 3 = i * 3 + 3 from by omega]
    exact this
theorem readKs_len : ∀ (n : Nat) (l : List UInt8), l.length = n * 6 → (readKs n l).length = n
  | 0, _, _ => rfl
  | n + 1, a :: b0 :: b1 :: b2 :: b3 :: c :: r, h => by
    simp only [readKs, List.length_cons] at h ⊢
    rw [readKs_len n r (by omega)]
  | n + 1, [], h => by simp at h
  | n + 1, [_], h => by simp at h; omega
  | n + 1, [_, _], h => by simp at h; omega
  | n + 1, [_, _, _], h => by simp at h; omega
  | n + 1, [_, _, _, _], h => by simp at h; omega
  | n + 1, [_, _, _, _, _], h => by simp at h; omega
theorem drop_six : ∀ (n k : Nat) (l : List UInt8), l.length = n * 6 → k < n → ∃ a b0 b1 b2 b3 c r, l.drop (6 * k) = a :: b0 :: b1 :: b2 :: b3 :: c :: r ∧ l.drop (6 * (k + 1)) = r ∧ (readKs n l).take (k + 1) = (readKs n l).take k ++ [⟨(a.toNat : Int), n4 b0 b1 b2 b3, (c.toNat : Int)⟩]
  | 0, k, _, _, hk => by omega
  | n + 1, k, a :: b0 :: b1 :: b2 :: b3 :: c :: r, h, hk => by
    cases k with
    | zero => exact ⟨a, b0, b1, b2, b3, c, r, rfl, rfl, by simp [readKs]⟩
    | succ k =>
      obtain ⟨a', b0', b1', b2', b3', c', r', h1, h2, h3⟩ := drop_six n k r (by simp at h; omega) (by omega)
      refine ⟨a', b0', b1', b2', b3', c', r', ?_, ?_, ?_⟩
      · rw [show 6 * (k + 1) = 6 * k + 6 from by omega]; simpa using h1
      · rw [show 6 * (k + 1 + 1) = 6 * (k + 1) + 6 from by omega]; simpa using h2
      · simp only [readKs, List.take_succ_cons, List.cons_append]; rw [h3]
  | n + 1, _, [], h, _ => by simp at h
  | n + 1, _, [_], h, _ => by simp at h; omega
  | n + 1, _, [_, _], h, _ => by simp at h; omega
  | n + 1, _, [_, _, _], h, _ => by simp at h; omega
  | n + 1, _, [_, _, _, _], h, _ => by simp at h; omega
  | n + 1, _, [_, _, _, _, _], h, _ => by simp at h; omega
/-- What stands while the keys are read. -/
structure RI (H : Nat) (x0 x1 x2 x3 x4 : Value) (w wr : World) (v : Value) (rest : List UInt8) (l : List K3) : Prop where
  b0 : wr.heap[H]? = some (.cells #[.int .i64 0, .int .i64 0, .int .i64 0, .int .i64 0, .int .i64 0, .slice none 0 0] 68 (0, 0))
  b1 : wr.heap[H + 1]? = some (.cells #[.string (bs rest)] 191 (0, 0))
  b2 : wr.heap[H + 1 + 1]? = some (.cells #[x0, x1, x2, x3, x4, v] 68 (0, 0))
  size : H + 3 ≤ wr.heap.size
  below : Below H w wr
  own : wr.ownsRow (H + 3) 76 3 v l.length (kcells l)
theorem cell_at {w : World} {b : Nat} {cs : Array Value} {t : TypeId} (h : w.heap[b]? = some (.cells cs t (0, 0))) (j : Nat) : w.cell? ⟨b, j, none⟩ = cs[j]? := cell_of_row w b j cs t (0, 0) h
theorem free_at {w : World} {b : Nat} {cs : Array Value} {t : TypeId} (h : w.heap[b]? = some (.cells cs t (0, 0))) (j : Nat) : w.frozen? ⟨b, j, none⟩ = false := by simp [World.frozen?, h]
theorem Tryz.infoKey : (Tryz.prog.info? 76).map (fun i => (i.zero, i.size, i.bytes)) = some (some (.agg #[.int .i64 0, .int .i64 0, .int .i64 0]), 3, 24) := by kernel_rfl
/-- The same with a key's variable, in block nk. -/
structure SK (H nk : Nat) (x0 x1 x2 x3 x4 : Value) (w W : World) (v : Value) (rest : List UInt8) (l : List K3) (p q r : Value) : Prop where
  ri : RI H x0 x1 x2 x3 x4 w W v rest l
  bk : W.heap[nk]? = some (.cells #[p, q, r] 76 (0, 0))
  lo : H + 3 ≤ nk
  ne : v.ownBlock ≠ some nk
theorem own_lt {w : World} {base : Nat} {e : TypeId} {size : Nat} {v : Value} {n : Nat} {xs : List Value} (h : w.ownsRow base e size v n xs) {k : Nat} (hk : v.ownBlock = some k) : base ≤ k ∧ k < w.heap.size := by
  rcases h.2 with ⟨rfl, _⟩ | ⟨g, cap, cur, rfl, hb, hg, _⟩
  · simp [Value.ownBlock] at hk
  · simp [Value.ownBlock] at hk; subst hk; exact ⟨hb, lt_of_block hg⟩
section
variable {H nk : Nat} {x0 x1 x2 x3 x4 : Value} {w W : World} {v : Value} {rest : List UInt8} {l : List K3} {p q r : Value}
theorem RI.var (h : RI H x0 x1 x2 x3 x4 w W v rest l) (p q r : Value) : SK H W.heap.size x0 x1 x2 x3 x4 w (W.alloc (.cells #[p, q, r] 76)) v rest l p q r := by
  have hs := h.size
  refine ⟨⟨?_, ?_, ?_, ?_, h.below.alloc (by omega) _, h.own.alloc _⟩, heap_alloc_new _ _, by omega, fun e => ?_⟩
  · rw [Below.heap_alloc _ _ _ (by omega)]; exact h.b0
  · rw [Below.heap_alloc _ _ _ (by omega)]; exact h.b1
  · rw [Below.heap_alloc _ _ _ (by omega)]; exact h.b2
  · simp; omega
  · have := own_lt h.own e; omega
theorem SK.read (h : SK H nk x0 x1 x2 x3 x4 w W v rest l p q r) (rest' : List UInt8) : SK H nk x0 x1 x2 x3 x4 w (W.setCell ⟨H + 1, 0, none⟩ (.string (bs rest'))) v rest' l p q r := by
  have hs := h.ri.size
  have hl := h.lo
  refine ⟨⟨?_, ?_, ?_, by simpa using hs, h.ri.below.setCell (by simp) _, ownsRow_setCell_below h.ri.own (by simp) _⟩, ?_, hl, h.ne⟩
  · rw [heap_setCell_other _ _ _ _ (by simp)]; exact h.ri.b0
  · exact one_setCell h.ri.b1
  · rw [heap_setCell_other _ _ _ _ (by simp)]; exact h.ri.b2
  · rw [heap_setCell_other _ _ _ _ (by simp; omega)]; exact h.bk
theorem SK.put (h : SK H nk x0 x1 x2 x3 x4 w W v rest l p q r) (i : Nat) (u p' q' r' : Value) (e : #[p, q, r].setIfInBounds i u = #[p', q', r']) : SK H nk x0 x1 x2 x3 x4 w (W.setCell ⟨nk, i, none⟩ u) v rest l p' q' r' := by
  have hs := h.ri.size
  have hl := h.lo
  refine ⟨⟨?_, ?_, ?_, by simpa using hs, h.ri.below.setCell (by simp; omega) _, ownsRow_setCell_other h.ri.own (by simpa using h.ne) _⟩, ?_, hl, h.ne⟩
  · rw [heap_setCell_other _ _ _ _ (by simp; omega)]; exact h.ri.b0
  · rw [heap_setCell_other _ _ _ _ (by simp; omega)]; exact h.ri.b1
  · rw [heap_setCell_other _ _ _ _ (by simp; omega)]; exact h.ri.b2
  · rw [heap_setCell_same _ _ _ _ _ _ h.bk, e]
theorem SK.grown (h : SK H nk x0 x1 x2 x3 x4 w W v rest l p q r) {W1 W2 : World} (o : Obj) (he : W1 = W.alloc o) (hg : W1.grownBy W2 v.ownBlock) (v' : Value) (l' : List K3) (hown : W2.ownsRow (H + 3) 76 3 v' l'.length (kcells l')) :
    RI H x0 x1 x2 x3 x4 w (W2.setCell ⟨H + 1 + 1, 5, none⟩ v') v' rest l' := by
  subst he
  have hs := h.ri.size
  have hz := hg.size
  have hne : ∀ k, k < H + 3 → some k ≠ v.ownBlock := fun k hk e => by have := own_lt h.ri.own e.symm; omega
  have hblk : ∀ k, k < H + 3 → W2.heap[k]? = W.heap[k]? := fun k hk => (hg.block k (by simp; omega) (hne k hk)).trans (Below.heap_alloc _ _ _ (by omega))
  refine ⟨?_, ?_, ?_, by simp at hz ⊢; omega, (((h.ri.below.alloc (by omega) o).grown hg (by simp; omega) (fun k e => by have := own_lt h.ri.own e; omega))).setCell (by simp; omega) _, ownsRow_setCell_below hown (by simp) _⟩
  · rw [heap_setCell_other _ _ _ _ (by simp; omega), hblk _ (by omega)]; exact h.ri.b0
  · rw [heap_setCell_other _ _ _ _ (by simp), hblk _ (by omega)]; exact h.ri.b1
  · rw [heap_setCell_same _ _ _ _ _ _ ((hblk _ (by omega)).trans h.ri.b2)]; rfl
end
theorem SK.grown_at {H nk : Nat} {x0 x1 x2 x3 x4 : Value} {w W : World} {v : Value} {rest : List UInt8} {l : List K3} {p q r : Value} (h : SK H nk x0 x1 x2 x3 x4 w W v rest l p q r) {W1 W2 : World} (o : Obj) (he : W1 = W.alloc o) (hg : W1.grownBy W2 v.ownBlock) :
    W2.heap[H + 1 + 1]? = some (.cells #[x0, x1, x2, x3, x4, v] 68 (0, 0)) := by
  subst he
  have hs := h.ri.size
  have hne : some (H + 1 + 1) ≠ v.ownBlock := fun e => by have := own_lt h.ri.own e.symm; omega
  exact ((hg.block _ (by simp; omega) hne).trans (Below.heap_alloc _ _ _ (by omega))).trans h.ri.b2
theorem keysAt_of_own {W : World} {base : Nat} {v : Value} {l : List K3} (h : W.ownsRow base 76 3 v l.length (kcells l)) : KeysAt W v l := by
  rcases h.2 with ⟨rfl, h0⟩ | ⟨g, cap, cur, rfl, hb, hg, h1, h2, h3, h4⟩
  · exact .inl ⟨rfl, List.length_eq_zero_iff.1 h0⟩
  · refine .inr ⟨g, 0, cap, rfl, lt_of_block hg, fun i hi => ?_⟩
    have hc : ∀ j, j < l.length * 3 → W.cell? ⟨g, j, none⟩ = (kcells l)[j]? := fun j hj => h.cellAt j hj
    have hk := kcells_get l i hi
    rw [Nat.zero_add, hc _ (by omega), hc _ (by omega), hc _ (by omega)]
    exact hk
theorem own_mono {w : World} {base base' : Nat} {e : TypeId} {size : Nat} {v : Value} {n : Nat} {xs : List Value} (h : w.ownsRow base e size v n xs) (hb : base' ≤ base) : w.ownsRow base' e size v n xs := by
  obtain ⟨hl, h⟩ := h
  refine ⟨hl, ?_⟩
  rcases h with h | ⟨g, cap, cur, hv, hg, h⟩
  · exact .inl h
  · exact .inr ⟨g, cap, cur, hv, Nat.le_trans hb hg, h⟩
theorem own_below {w w' : World} {base : Nat} {e : TypeId} {size : Nat} {v : Value} {n : Nat} {xs : List Value} (h : w.ownsRow base e size v n xs) (hb : Below w.heap.size w w') : w'.ownsRow base e size v n xs := by
  obtain ⟨hl, h⟩ := h
  refine ⟨hl, ?_⟩
  rcases h with h | ⟨g, cap, cur, hv, hg, hh, h⟩
  · exact .inl h
  · exact .inr ⟨g, cap, cur, hv, hg, (hb.block g (lt_of_block hh)).trans hh, h⟩
theorem own_form {w : World} {base : Nat} {e : TypeId} {size : Nat} {v : Value} {n : Nat} {xs : List Value} (h : w.ownsRow base e size v n xs) : ∃ ao cap, v = .slice ao n cap := by
  rcases h.2 with ⟨rfl, rfl⟩ | ⟨g, cap, cur, rfl, _⟩
  · exact ⟨none, 0, rfl⟩
  · exact ⟨_, cap, rfl⟩
set_option maxHeartbeats 4000000 in
theorem read_any (c0 c1 i0 i1 i2 i3 s0 s1 s2 s3 t n : UInt8) (l : List UInt8) (w : World) (hl : l.length = n.toNat * 6) :
    Calls Tryz.prog 81 #[.string (bs (c0 :: c1 :: i0 :: i1 :: i2 :: i3 :: s0 :: s1 :: s2 :: s3 :: t :: n :: l))] w fun e w' => ∃ v, e = .returned (mval ⟨(c0.toNat : Int), (c1.toNat : Int), n4 i0 i1 i2 i3, n4 s0 s1 s2 s3, (t.toNat : Int), readKs n.toNat l⟩ v) ∧ w'.ownsRow w.heap.size 76 3 v (readKs n.toNat l).length (kcells (readKs n.toNat l)) ∧ Below w.heap.size w w' := by
  have hn := n.toNat_lt
  have hll : l.length < 10000 := by omega
  go_enter Tryz.func81, Tryz.ntmps81
  go_wp2_with fail
  refine Calls.mono (take_one c0 (c1 :: i0 :: i1 :: i2 :: i3 :: s0 :: s1 :: s2 :: s3 :: t :: n :: l) _ _ (by first | omega | (simp; omega)) (by simp [go_sem]) (by simp [go_sem])) ?_
  rintro e w1 ⟨rfl, rfl⟩
  go_wp2_with fail
  refine Calls.mono (take_one c1 (i0 :: i1 :: i2 :: i3 :: s0 :: s1 :: s2 :: s3 :: t :: n :: l) _ _ (by first | omega | (simp; omega)) (by simp [go_sem]) (by simp [go_sem])) ?_
  rintro e w1 ⟨rfl, rfl⟩
  go_wp2_with fail
  refine Calls.mono (take_four i0 i1 i2 i3 (s0 :: s1 :: s2 :: s3 :: t :: n :: l) _ _ (by first | omega | (simp; omega)) (by simp [go_sem]) (by simp [go_sem])) ?_
  rintro e w1 ⟨rfl, rfl⟩
  go_wp2_with fail
  refine Calls.mono (take_four s0 s1 s2 s3 (t :: n :: l) _ _ (by first | omega | (simp; omega)) (by simp [go_sem]) (by simp [go_sem])) ?_
  rintro e w1 ⟨rfl, rfl⟩
  go_wp2_with fail
  refine Calls.mono (take_one t (n :: l) _ _ (by first | omega | (simp; omega)) (by simp [go_sem]) (by simp [go_sem])) ?_
  rintro e w1 ⟨rfl, rfl⟩
  go_wp2_with fail
  refine Calls.mono (take_one n l _ _ (by first | omega | (simp; omega)) (by simp [go_sem]) (by simp [go_sem])) ?_
  rintro e w1 ⟨rfl, rfl⟩
  go_wp2_with fail
  go_loopw [19] (fun i wr => ∃ (k : Nat) (v : Value), k ≤ n.toNat ∧ i = .int .i64 k ∧ RI w.heap.size (.int .i64 (c0.toNat : Int)) (.int .i64 (c1.toNat : Int)) (.int .i64 (n4 i0 i1 i2 i3)) (.int .i64 (n4 s0 s1 s2 s3)) (.int .i64 (t.toNat : Int)) w wr v (l.drop (6 * k)) ((readKs n.toNat l).take k)) (fun i _ => n.toNat - (intOf i).toNat)
  case atStart =>
    refine ⟨0, .slice none 0 0, Nat.zero_le _, rfl, ?_⟩
    refine ⟨?_, ?_, ?_, by simp, (((Below.refl _ _).alloc (Nat.le_refl _) _).alloc (by simp) _).alloc (by simp; omega) _, World.ownsRow_nil _ _ _ _⟩
    · rw [Below.heap_alloc _ _ _ (by simp; omega), Below.heap_alloc _ _ _ (by simp)]; exact heap_alloc_new _ _
    · rw [Below.heap_alloc _ _ _ (by simp)]
      have := heap_alloc_new (w.alloc (.cells #[.int .i64 0, .int .i64 0, .int .i64 0, .int .i64 0, .int .i64 0, .slice none 0 0] 68)) (.cells #[.string (bs l)] 191)
      simpa using this
    · have := heap_alloc_new ((w.alloc (.cells #[.int .i64 0, .int .i64 0, .int .i64 0, .int .i64 0, .int .i64 0, .slice none 0 0] 68)).alloc (.cells #[.string (bs l)] 191)) (.cells #[.int .i64 (c0.toNat : Int), .int .i64 (c1.toNat : Int), .int .i64 (n4 i0 i1 i2 i3), .int .i64 (n4 s0 s1 s2 s3), .int .i64 (t.toNat : Int), .slice none 0 0] 68)
      simpa using this
  case round =>
    obtain ⟨k, v, hk, rfl, R⟩ := hrel
    have hkl : ((readKs n.toNat l).take k).length = k := by rw [List.length_take, readKs_len _ _ hl]; omega
    by_cases hlt : k < n.toNat
    · obtain ⟨a, b0, b1, b2, b3, c, r, h1, h2, h3⟩ := drop_six n.toNat k l hl hlt
      have hrl : r.length < 10000 := by rw [← h2]; simp; omega
      rw [h1] at R
      have H2 := hide h2
      have H3 := hide h3
      have HK := hide hkl
      clear h1 h2 h3 hkl
      have S0 := R.var (.int .i64 0) (.int .i64 0) (.int .i64 0)
      clear R
      go_wp2_with fail
      generalize hW1 : wr.alloc _ = W1 at S0 ⊢
      generalize wr.heap.size = nk at S0 ⊢
      clear hW1
      refine Calls.mono (take_one a (b0 :: b1 :: b2 :: b3 :: c :: r) _ _ (by simp; omega) (cell_of_one S0.ri.b1) (free_of_one S0.ri.b1)) ?_
      rintro e w1 ⟨rfl, rfl⟩
      have S1 := S0.read (b0 :: b1 :: b2 :: b3 :: c :: r)
      clear S0
      generalize W1.setCell _ _ = W2 at S1 ⊢
      have k0 : W2.cell? ⟨nk, 0, none⟩ = some (.int .i64 0) := cell_at S1.bk 0
      have kf := free_at S1.bk
      go_wp2_with fail
      clear k0 kf
      have S2 := S1.put 0 (.int .i64 (a.toNat : Int)) _ _ _ rfl
      clear S1
      generalize W2.setCell _ _ = W3 at S2 ⊢
      refine Calls.mono (take_four b0 b1 b2 b3 (c :: r) _ _ (by simp; omega) (cell_of_one S2.ri.b1) (free_of_one S2.ri.b1)) ?_
      rintro e w1 ⟨rfl, rfl⟩
      have S3 := S2.read (c :: r)
      clear S2
      generalize W3.setCell _ _ = W4 at S3 ⊢
      have k0 : W4.cell? ⟨nk, 1, none⟩ = some (.int .i64 0) := cell_at S3.bk 1
      have kf := free_at S3.bk
      go_wp2_with fail
      clear k0 kf
      have S4 := S3.put 1 (.int .i64 (n4 b0 b1 b2 b3)) _ _ _ rfl
      clear S3
      generalize W4.setCell _ _ = W5 at S4 ⊢
      refine Calls.mono (take_one c r _ _ (by omega) (cell_of_one S4.ri.b1) (free_of_one S4.ri.b1)) ?_
      rintro e w1 ⟨rfl, rfl⟩
      have S5 := S4.read r
      clear S4
      generalize W5.setCell _ _ = W6 at S5 ⊢
      have S6 := S5.put 2 (.int .i64 (c.toNat : Int)) _ _ _ rfl
      have k2 : W6.cell? ⟨nk, 2, none⟩ = some (.int .i64 0) := cell_at S5.bk 2
      have k2f : W6.frozen? ⟨nk, 2, none⟩ = false := free_at S5.bk 2
      have k0 : (W6.setCell ⟨nk, 2, none⟩ (.int .i64 (c.toNat : Int))).cell? ⟨nk, 0, none⟩ = some (.int .i64 (a.toNat : Int)) := cell_at S6.bk 0
      have k1 : (W6.setCell ⟨nk, 2, none⟩ (.int .i64 (c.toNat : Int))).cell? ⟨nk, 1, none⟩ = some (.int .i64 (n4 b0 b1 b2 b3)) := cell_at S6.bk 1
      have k3 : (W6.setCell ⟨nk, 2, none⟩ (.int .i64 (c.toNat : Int))).cell? ⟨nk, 2, none⟩ = some (.int .i64 (c.toNat : Int)) := cell_at S6.bk 2
      have m5 : (W6.setCell ⟨nk, 2, none⟩ (.int .i64 (c.toNat : Int))).cell? ⟨w.heap.size + 1 + 1, 5, none⟩ = some v := cell_at S6.ri.b2 5
      have HS6 := hide S6
      clear S5 S6
      obtain ⟨ti, hi, hz0, hz1, hz2⟩ := info_parts Tryz.infoKey
      have hb6 := (unhide HS6).ri.size
      simp only [World.size_setCell] at hb6
      go_wp2_with (at_builtin; refine wpList_append_own _ rfl _ _ 46 rfl (w.heap.size + 3) 76 ti (.agg #[.int .i64 0, .int .i64 0, .int .i64 0]) 3 24 Tryz.underlying46 hi hz0 hz1 hz2 rfl (by decide) v _ _ rfl ((unhide HS6).ri.own.alloc _) ⟨W6.heap.size, 0, none⟩ 1 1 [.int .i64 (a.toNat : Int), .int .i64 (n4 b0 b1 b2 b3), .int .i64 (c.toNat : Int)] rfl rfl ?c1 ?c2 ?c3 ?c4 ?c5 ?_)
      case c1 =>
        have hh := heap_alloc_new (W6.setCell ⟨nk, 2, none⟩ (.int .i64 (c.toNat : Int))) (.cells #[.int .i64 (a.toNat : Int), .int .i64 (n4 b0 b1 b2 b3), .int .i64 (c.toNat : Int)] 76)
        rw [World.size_setCell] at hh
        exact World.news_of_block hh
      case c2 => intro u hu; simp at hu; rcases hu with rfl | rfl | rfl <;> rfl
      case c3 => rw [unhide HK]; unfold maxLen; omega
      case c4 => rw [unhide HK]; omega
      case c5 => simp; omega
      intro v' w1 hown' hgrow _
      have hl' : min k (readKs n.toNat l).length + 1 = (List.take (k + 1) (readKs n.toNat l)).length := by rw [unhide H3]; simp
      rw [hl', show kcells (List.take k (readKs n.toNat l)) ++ [Value.int .i64 (a.toNat : Int), .int .i64 (n4 b0 b1 b2 b3), .int .i64 (c.toNat : Int)] = kcells (List.take (k + 1) (readKs n.toNat l)) from by rw [unhide H3, kcells_append]; rfl] at hown'
      have S7 := (unhide HS6).grown _ rfl hgrow v' _ hown'
      have hbm := (unhide HS6).grown_at _ rfl hgrow
      have hm5 : w1.cell? ⟨w.heap.size + 1 + 1, 5, none⟩ = some v := cell_at hbm 5
      have hm5f : w1.frozen? ⟨w.heap.size + 1 + 1, 5, none⟩ = false := free_at hbm 5
      have hL : (List.take (k + 1) (readKs n.toNat l)).length = k + 1 := by rw [List.length_take, readKs_len _ _ hl]; omega
      obtain ⟨ao', cap', hv'⟩ := own_form hown'
      rw [hL] at hv'
      subst hv'
      clear hL
      have HS7 := hide S7
      clear S7 hbm HS6 hown' hgrow k0 k1 k2 k3 k2f m5 hl'
      go_wp2
      go_roundw
      case rel =>
        refine ⟨k + 1, .slice ao' (k + 1) cap', by omega, by go_num, ?_⟩
        rw [unhide H2]
        exact unhide HS7
      case measure => simp [intOf]; omega
    · have e : k = n.toNat := by omega
      have hR := R
      rw [e, List.take_of_length_le (by rw [readKs_len _ _ hl]; omega)] at hR
      have m0 := cell_at R.b2 0
      have m1 := cell_at R.b2 1
      have m2 := cell_at R.b2 2
      have m3 := cell_at R.b2 3
      have m4 := cell_at R.b2 4
      have m5 := cell_at R.b2 5
      have f0 := cell_at R.b0 0
      have f1 := cell_at R.b0 1
      have f2 := cell_at R.b0 2
      have f3 := cell_at R.b0 3
      have f4 := cell_at R.b0 4
      have f5 := cell_at R.b0 5
      have fz := free_at R.b0
      simp at m0 m1 m2 m3 m4 m5 f0 f1 f2 f3 f4 f5
      have HR := hide hR
      clear R hR e
      obtain ⟨ao', cap', rfl⟩ := own_form (unhide HR).own
      go_wp2
      have hbel := (unhide HR).below
      have hsz := (unhide HR).size
      refine bodyPost_ret (v := mval ⟨(c0.toNat : Int), (c1.toNat : Int), n4 i0 i1 i2 i3, n4 s0 s1 s2 s3, (t.toNat : Int), readKs n.toNat l⟩ (.slice ao' (readKs n.toNat l).length cap')) (by simp [results, Tryz.results81, go_sem, f0, f1, f2, f3, f4, f5]) rfl ⟨_, rfl, ?_, ?_⟩
      · have hown := ((((((unhide HR).own |> (ownsRow_setCell_below · (a := ⟨w.heap.size, 0, none⟩) (by simp) (.int .i64 (c0.toNat : Int)))) |> (ownsRow_setCell_below · (a := ⟨w.heap.size, 1, none⟩) (by simp) (.int .i64 (c1.toNat : Int)))) |> (ownsRow_setCell_below · (a := ⟨w.heap.size, 2, none⟩) (by simp) (.int .i64 (n4 i0 i1 i2 i3)))) |> (ownsRow_setCell_below · (a := ⟨w.heap.size, 3, none⟩) (by simp) (.int .i64 (n4 s0 s1 s2 s3)))) |> (ownsRow_setCell_below · (a := ⟨w.heap.size, 4, none⟩) (by simp) (.int .i64 (t.toNat : Int)))) |> (ownsRow_setCell_below · (a := ⟨w.heap.size, 5, none⟩) (by simp) (.slice ao' (readKs n.toNat l).length cap'))
        exact own_mono hown (by omega)
      · exact (((((hbel.setCell (Nat.le_refl _) _).setCell (Nat.le_refl _) _).setCell (Nat.le_refl _) _).setCell (Nat.le_refl _) _).setCell (Nat.le_refl _) _).setCell (Nat.le_refl _) _
end Go.Proofs.YtnneljcbelgoeaaGreatDoor.wire
