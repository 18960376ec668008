import Derived.Test.YtnneljcbelgoeaaGreatPick
import Derived.Test.YtnneljcbelgoeaaGreatWire
import Derived.WalkSpells
import Derived.StillTactics
import Derived.Deep.RegionHeld3
import Derived.Deep.DrawnRows
import Derived.Deep.DeepCutAuto
namespace Go.Proofs.YtnneljcbelgoeaaGreat.wire
open Go.RowKit
attribute [local go_sem ↓] Go.wp_at_zero Go.wp_at_succ

def isI64 (x : Int) : Prop := -9223372036854775808 ≤ x ∧ x ≤ 9223372036854775807
/-- Raw keys that came in. -/
def RawAt (w : World) (ao : Option Addr) (l : List K3) : Prop := 0 < l.length → ∃ b off, ao = some ⟨b, off, none⟩ ∧ b < w.heap.size ∧ keysFrom w b off l
def pickK (k : K3) : K3 := ⟨1 + pickI k.id 250, 1 + pickI k.inc 1073741824, 1 + pickI k.st 4⟩
def mostOf (k : Int) : Nat := if k < 4 then 4 else 8
/-- gossipkeep's message: one that is whole, of raw numbers. -/
def msgOf (k f i s t : Int) (l : List K3) : M6 :=
  ⟨1 + pickI k 5, 1 + pickI f 250, 1 + pickI i 1073741824, pickI s 4294967296, if 1 + pickI k 5 < 4 then 1 + pickI t 250 else 0, (l.take (mostOf (1 + pickI k 5))).map pickK⟩
/-- What stands while a message is made: its raw numbers in block H, the result's block, the message's own. -/
structure QI (H : Nat) (raw : Array Value) (x0 x1 x2 x3 x4 : Value) (w W : World) (v : Value) (l : List K3) : Prop where
  bx : W.heap[H]? = some (.cells raw 48 (0, 0))
  b0 : W.heap[H + 1]? = some (.cells #[.int .i64 0, .int .i64 0, .int .i64 0, .int .i64 0, .int .i64 0, .slice none 0 0] 29 (0, 0))
  b2 : W.heap[H + 1 + 1]? = some (.cells #[x0, x1, x2, x3, x4, v] 29 (0, 0))
  size : H + 3 ≤ W.heap.size
  below : Below H w W
  own : W.ownsRow (H + 3) 31 3 v l.length (kcells l)
section
variable {H : Nat} {raw : Array Value} {x0 x1 x2 x3 x4 : Value} {w W : World} {v : Value} {l : List K3}
theorem QI.alloc (h : QI H raw x0 x1 x2 x3 x4 w W v l) (o : Obj) : QI H raw x0 x1 x2 x3 x4 w (W.alloc o) v l := by
  have hs := h.size
  refine ⟨?_, ?_, ?_, by simp; omega, h.below.alloc (by omega) _, h.own.alloc _⟩
  · rw [Below.heap_alloc _ _ _ (by omega)]; exact h.bx
  · rw [Below.heap_alloc _ _ _ (by omega)]; exact h.b0
  · rw [Below.heap_alloc _ _ _ (by omega)]; exact h.b2
theorem QI.target (h : QI H raw x0 x1 x2 x3 x4 w W v l) (x : Value) : QI H raw x0 x1 x2 x3 x w (W.setCell ⟨H + 1 + 1, 4, none⟩ x) v l := by
  have hs := h.size
  refine ⟨?_, ?_, ?_, by simpa using hs, h.below.setCell (by simp; omega) _, ownsRow_setCell_below h.own (by simp) _⟩
  · rw [heap_setCell_other _ _ _ _ (by simp; omega)]; exact h.bx
  · rw [heap_setCell_other _ _ _ _ (by simp)]; exact h.b0
  · rw [heap_setCell_same _ _ _ _ _ _ h.b2]; rfl
theorem QI.blk (h : QI H raw x0 x1 x2 x3 x4 w W v l) {W1 W2 : World} (o : Obj) (he : W1 = W.alloc o) (hg : W1.grownBy W2 v.ownBlock) : ∀ k, k < H + 3 → W2.heap[k]? = W.heap[k]? := by
  subst he
  have hs := h.size
  have hne : ∀ k, k < H + 3 → some k ≠ v.ownBlock := fun k hk e => by have := own_lt h.own e.symm; omega
  exact fun k hk => (hg.block k (by simp; omega) (hne k hk)).trans (Below.heap_alloc _ _ _ (by omega))
theorem QI.grown (h : QI H raw x0 x1 x2 x3 x4 w W v l) {W1 W2 : World} (o : Obj) (he : W1 = W.alloc o) (hg : W1.grownBy W2 v.ownBlock) (v' : Value) (l' : List K3) (hown : W2.ownsRow (H + 3) 31 3 v' l'.length (kcells l')) :
    QI H raw x0 x1 x2 x3 x4 w (W2.setCell ⟨H + 1 + 1, 5, none⟩ v') v' l' := by
  have hblk := h.blk o he hg
  subst he
  have hs := h.size
  have hz := hg.size
  refine ⟨?_, ?_, ?_, by simp at hz ⊢; omega, (((h.below.alloc (by omega) o).grown hg (by simp; omega) (fun k e => by have := own_lt h.own e; omega))).setCell (by simp; omega) _, ownsRow_setCell_below hown (by simp) _⟩
  · rw [heap_setCell_other _ _ _ _ (by simp; omega), hblk _ (by omega)]; exact h.bx
  · rw [heap_setCell_other _ _ _ _ (by simp), hblk _ (by omega)]; exact h.b0
  · rw [heap_setCell_same _ _ _ _ _ _ ((hblk _ (by omega)).trans h.b2)]; rfl
end
theorem QI.drew {H : Nat} {raw : Array Value} {x0 x1 x2 x3 x4 : Value} {w W : World} {v : Value} {l : List K3} (h : QI H raw x0 x1 x2 x3 x4 w W v l) : QI H raw x0 x1 x2 x3 x4 w W.drew v l :=
  ⟨h.bx, h.b0, h.b2, h.size, h.below.drew, h.own.drew⟩
set_option maxRecDepth 100000 in
set_option maxHeartbeats 4000000 in
theorem message_any (k f i s t : Int) (ao : Option Addr) (l : List K3) (cap : Nat) (w : World) (hk : isI64 k) (hf : isI64 f) (hi : isI64 i) (hs : isI64 s) (ht : isI64 t)
    (hl : l.length ≤ maxLen) (hr : RawAt w ao l) (hks : ∀ x ∈ l, isI64 x.id ∧ isI64 x.inc ∧ isI64 x.st) :
    Calls Tryz.prog 14 #[.agg #[.int .i64 k, .int .i64 f, .int .i64 i, .int .i64 s, .int .i64 t, .slice ao l.length cap]] w fun e w' => ∃ v, e = .returned (mval (msgOf k f i s t l) v) ∧
      w'.ownsRow w.heap.size 31 3 v (msgOf k f i s t l).ups.length (kcells (msgOf k f i s t l).ups) ∧ Below w.heap.size w w' := by
  obtain ⟨hk0, hk1⟩ := hk
  obtain ⟨hf0, hf1⟩ := hf
  obtain ⟨hi0, hi1⟩ := hi
  obtain ⟨hs0, hs1⟩ := hs
  obtain ⟨ht0, ht1⟩ := ht
  unfold maxLen at hl
  have pk := pickI_bd k 5 (by omega)
  have pf := pickI_bd f 250 (by omega)
  have pi := pickI_bd i 1073741824 (by omega)
  have ps := pickI_bd s 4294967296 (by omega)
  have pt := pickI_bd t 250 (by omega)
  obtain ⟨ups, hups⟩ : ∃ u, u = l.map pickK := ⟨_, rfl⟩
  have hul : ups.length = l.length := by rw [hups]; simp
  have HUPS := hide hups
  have HUL := hide hul
  clear hups hul
  have HR := hide hr
  have HKS := hide hks
  clear hr hks
  go_enter Tryz.func14, Tryz.ntmps14
  go_wp2_with fail
  refine (pick_any k 5 _ hk0 hk1 (by omega) (by omega)).mono ?_
  rintro e w1 ⟨rfl, rfl⟩
  go_wp2_with fail
  have b1 : ((w.alloc (.cells #[.int .i64 k, .int .i64 f, .int .i64 i, .int .i64 s, .int .i64 t, .slice ao l.length cap] 48)).alloc (.cells #[.int .i64 0, .int .i64 0, .int .i64 0, .int .i64 0, .int .i64 0, .slice none 0 0] 29)).cell? ⟨w.heap.size, 1, none⟩ = some (.int .i64 f) := by simp [go_sem]
  have b2 : ((w.alloc (.cells #[.int .i64 k, .int .i64 f, .int .i64 i, .int .i64 s, .int .i64 t, .slice ao l.length cap] 48)).alloc (.cells #[.int .i64 0, .int .i64 0, .int .i64 0, .int .i64 0, .int .i64 0, .slice none 0 0] 29)).cell? ⟨w.heap.size, 2, none⟩ = some (.int .i64 i) := by simp [go_sem]
  have b3 : ((w.alloc (.cells #[.int .i64 k, .int .i64 f, .int .i64 i, .int .i64 s, .int .i64 t, .slice ao l.length cap] 48)).alloc (.cells #[.int .i64 0, .int .i64 0, .int .i64 0, .int .i64 0, .int .i64 0, .slice none 0 0] 29)).cell? ⟨w.heap.size, 3, none⟩ = some (.int .i64 s) := by simp [go_sem]
  generalize hW : (w.alloc (.cells #[.int .i64 k, .int .i64 f, .int .i64 i, .int .i64 s, .int .i64 t, .slice ao l.length cap] 48)).alloc (.cells #[.int .i64 0, .int .i64 0, .int .i64 0, .int .i64 0, .int .i64 0, .slice none 0 0] 29) = W at b1 b2 b3 ⊢
  have HW := hide hW
  have hz : W.heap.size = w.heap.size + 1 + 1 := by rw [← hW]; simp
  have hzl : w.heap.size < W.heap.size := by omega
  have HZ := hide hz
  clear hW hz
  have wf : IntKind.i64.wrap (1 + pickI f 250) = 1 + pickI f 250 := by rw [IntKind.wrap_i64]; omega
  have wi : IntKind.i64.wrap (1 + pickI i 1073741824) = 1 + pickI i 1073741824 := by rw [IntKind.wrap_i64]; omega
  have Q0 : QI w.heap.size #[.int .i64 k, .int .i64 f, .int .i64 i, .int .i64 s, .int .i64 t, .slice ao l.length cap] (.int .i64 (1 + pickI k 5)) (.int .i64 (1 + pickI f 250)) (.int .i64 (1 + pickI i 1073741824)) (.int .i64 (pickI s 4294967296)) (.int .i64 0) w (W.alloc (.cells #[.int .i64 (1 + pickI k 5), .int .i64 (1 + pickI f 250), .int .i64 (1 + pickI i 1073741824), .int .i64 (pickI s 4294967296), .int .i64 0, .slice none 0 0] 29)) (.slice none 0 0) [] := by
    have hzz := unhide HZ
    have hWW := unhide HW
    refine ⟨?_, ?_, ?_, by simp; omega, ?_, World.ownsRow_nil _ _ _ _⟩
    · rw [Below.heap_alloc _ _ _ (by omega), ← hWW, Below.heap_alloc _ _ _ (by simp)]; exact heap_alloc_new _ _
    · rw [Below.heap_alloc _ _ _ (by omega), ← hWW]
      have := heap_alloc_new (w.alloc (.cells #[.int .i64 k, .int .i64 f, .int .i64 i, .int .i64 s, .int .i64 t, .slice ao l.length cap] 48)) (.cells #[.int .i64 0, .int .i64 0, .int .i64 0, .int .i64 0, .int .i64 0, .slice none 0 0] 29)
      simpa using this
    · rw [← hzz]; exact heap_alloc_new _ _
    · rw [← hWW]
      exact (((Below.refl _ _).alloc (Nat.le_refl _) _).alloc (by simp) _).alloc (by simp; omega) _
  have HQ0 := hide Q0
  clear Q0
  go_cut [4] from 15 to 27 (fun p wq => p = .pointer (some ⟨w.heap.size + 1 + 1, 0, none⟩) ∧ QI w.heap.size #[.int .i64 k, .int .i64 f, .int .i64 i, .int .i64 s, .int .i64 t, .slice ao l.length cap] (.int .i64 (1 + pickI k 5)) (.int .i64 (1 + pickI f 250)) (.int .i64 (1 + pickI i 1073741824)) (.int .i64 (pickI s 4294967296)) (.int .i64 0) w wq (.slice none 0 0) [])
  case first =>
    go_region_held3 (fun w' => w'.cell? ⟨w.heap.size, 1, none⟩ = some (.int .i64 f) ∧ w'.cell? ⟨w.heap.size, 2, none⟩ = some (.int .i64 i) ∧ w'.cell? ⟨w.heap.size, 3, none⟩ = some (.int .i64 s)) (go_keep)
      (first
        | (go_at_call_of 9 (Value.int IntKind.i64 f); refine (pick_any f 250 _ hf0 hf1 (by omega) (by omega)).mono ?_; rintro e w1 ⟨rfl, rfl⟩)
        | (go_at_call_of 9 (Value.int IntKind.i64 i); refine (pick_any i 1073741824 _ hi0 hi1 (by omega) (by omega)).mono ?_; rintro e w1 ⟨rfl, rfl⟩)
        | (go_at_call_of 9 (Value.int IntKind.i64 s); refine (pick_any s 4294967296 _ hs0 hs1 (by omega) (by omega)).mono ?_; rintro e w1 ⟨rfl, rfl⟩))
    all_goals (go_wp2_with fail; go_meet)
    all_goals
      exact ⟨by rw [unhide HZ], (unhide HQ0).drew⟩
  case rest =>
    obtain ⟨rfl, Q⟩ := hcut
    clear HQ0 HW HZ b1 b2 b3 hzl
    have c4 : wc.cell? ⟨w.heap.size, 4, none⟩ = some (.int .i64 t) := cell_at Q.bx 4
    have o4 : wc.cell? ⟨w.heap.size + 1 + 1, 4, none⟩ = some (.int .i64 0) := cell_at Q.b2 4
    have of4 : wc.frozen? ⟨w.heap.size + 1 + 1, 4, none⟩ = false := free_at Q.b2 4
    have HQ := hide Q
    clear Q
    by_cases hk4 : 1 + pickI k 5 < 4
    · go_wp2_with fail
      refine (pick_any t 250 _ ht0 ht1 (by omega) (by omega)).mono ?_
      rintro e w1 ⟨rfl, rfl⟩
      go_wp2_with fail
      have Q5 := (unhide HQ).target (.int .i64 (1 + pickI t 250))
      generalize w1.setCell _ _ = wl at Q5 ⊢
      clear HQ c4 o4 of4
      have HMO : Hid (mostOf (1 + pickI k 5) = 4) := hide (by unfold mostOf; rw [if_pos hk4])
      have HTG : Hid ((if 1 + pickI k 5 < 4 then 1 + pickI t 250 else 0) = (1 + pickI t 250)) := hide (by rw [if_pos hk4])
      go_loopw [6] (fun q wr => ∃ (j : Nat) (v : Value), j ≤ l.length ∧ j ≤ 4 ∧ q = .int .i64 j ∧ QI w.heap.size #[.int .i64 k, .int .i64 f, .int .i64 i, .int .i64 s, .int .i64 t, .slice ao l.length cap] (.int .i64 (1 + pickI k 5)) (.int .i64 (1 + pickI f 250)) (.int .i64 (1 + pickI i 1073741824)) (.int .i64 (pickI s 4294967296)) (.int .i64 (1 + pickI t 250)) w wr v (ups.take j)) (fun q _ => 4 - (intOf q).toNat)
      case atStart => exact ⟨0, .slice none 0 0, Nat.zero_le _, by omega, rfl, by simpa using Q5⟩
      case round =>
        obtain ⟨j, v, hj, hj4, rfl, R⟩ := hrel
        clear Q5
        have c5 : wr.cell? ⟨w.heap.size, 5, none⟩ = some (.slice ao l.length cap) := cell_at R.bx 5
        by_cases hlt : j < l.length ∧ j < 4
        · obtain ⟨hlt, hm⟩ := hlt
          obtain ⟨kb, koff, rfl, hkb, hkf⟩ := (unhide HR) (by omega)
          obtain ⟨d0, d1, d2⟩ := hkf j hlt
          have c0 := (R.below.cell (p := ⟨kb, koff + j * 3, none⟩) hkb).trans d0
          have c1 := (R.below.cell (p := ⟨kb, koff + j * 3 + 1, none⟩) hkb).trans d1
          have c2 := (R.below.cell (p := ⟨kb, koff + j * 3 + 2, none⟩) hkb).trans d2
          clear d0 d1 d2 hkf
          obtain ⟨⟨ka0, ka1⟩, ⟨kb0, kb1⟩, ⟨kc0, kc1⟩⟩ := (unhide HKS) l[j] (List.getElem_mem hlt)
          generalize hK : l[j] = K at c0 c1 c2 ka0 ka1 kb0 kb1 kc0 kc1
          have HK := hide hK
          clear hK
          have pa := pickI_bd K.id 250 (by omega)
          have pb := pickI_bd K.inc 1073741824 (by omega)
          have pc := pickI_bd K.st 4 (by omega)
          have m5 : wr.cell? ⟨w.heap.size + 1 + 1, 5, none⟩ = some v := cell_at R.b2 5
          have hsz := R.size
          have hs2 : w.heap.size + 1 + 1 < wr.heap.size := by omega
          have HR1 := hide R
          clear R
          obtain ⟨ti, hti, hz0, hz1, hz2⟩ := info_parts Tryz.infoKey
          go_wp2_with fail
          refine (pick_any K.id 250 _ ka0 ka1 (by omega) (by omega)).mono ?_
          rintro e w1 ⟨rfl, rfl⟩
          go_wp2_with fail
          refine (pick_any K.inc 1073741824 _ kb0 kb1 (by omega) (by omega)).mono ?_
          rintro e w1 ⟨rfl, rfl⟩
          go_wp2_with fail
          refine (pick_any K.st 4 _ kc0 kc1 (by omega) (by omega)).mono ?_
          rintro e w1 ⟨rfl, rfl⟩
          have hownj : wr.ownsRow (w.heap.size + 3) 31 3 v j (kcells (ups.take j)) := by
            have h := (unhide HR1).own
            rw [List.length_take, Nat.min_eq_left (by have := unhide HUL; omega)] at h
            exact h
          have HOJ := hide hownj
          clear hownj
          go_wp2_with (at_builtin; refine wpList_append_own _ rfl _ _ 27 rfl (w.heap.size + 3) 31 ti (.agg #[.int .i64 0, .int .i64 0, .int .i64 0]) 3 24 Tryz.underlying27 hti hz0 hz1 hz2 rfl (by decide) v j _ rfl (((unhide HOJ).alloc (.cells #[.int .i64 K.id, .int .i64 K.inc, .int .i64 K.st] 31)).alloc _) ⟨wr.heap.size + 1, 0, none⟩ 1 1 [.int .i64 (1 + pickI K.id 250), .int .i64 (1 + pickI K.inc 1073741824), .int .i64 (1 + pickI K.st 4)] rfl rfl ?c14 ?c24 ?c34 ?c44 ?c54 ?_)
          case c14 =>
            have hh := heap_alloc_new (wr.alloc (.cells #[.int .i64 K.id, .int .i64 K.inc, .int .i64 K.st] 31)) (.cells #[.int .i64 (1 + pickI K.id 250), .int .i64 (1 + pickI K.inc 1073741824), .int .i64 (1 + pickI K.st 4)] 31)
            rw [World.size_alloc] at hh
            exact World.news_of_block hh
          case c24 => intro u hu; simp at hu; rcases hu with rfl | rfl | rfl <;> rfl
          case c34 => unfold maxLen; omega
          case c44 => omega
          case c54 => simp; omega
          intro v' w1 hown' hgrow _
          have hL : (ups.take (j + 1)).length = j + 1 := by rw [List.length_take, unhide HUL]; omega
          have hS : ups.take (j + 1) = ups.take j ++ [pickK K] := by
            rw [unhide HUPS, ← unhide HK, List.take_succ_eq_append_getElem (by simpa using hlt)]; simp
          have hown2 : w1.ownsRow (w.heap.size + 3) 31 3 v' (ups.take (j + 1)).length (kcells (ups.take (j + 1))) := by
            rw [hL, hS, kcells_append]
            exact hown'
          have S7 := ((unhide HR1).alloc (.cells #[.int .i64 K.id, .int .i64 K.inc, .int .i64 K.st] 31)).grown _ rfl hgrow v' _ hown2
          have hbm := (((unhide HR1).alloc (.cells #[.int .i64 K.id, .int .i64 K.inc, .int .i64 K.st] 31)).blk _ rfl hgrow (w.heap.size + 1 + 1) (by omega)).trans ((unhide HR1).alloc (.cells #[.int .i64 K.id, .int .i64 K.inc, .int .i64 K.st] 31)).b2
          have hm5 : w1.cell? ⟨w.heap.size + 1 + 1, 5, none⟩ = some v := cell_at hbm 5
          have hm5f : w1.frozen? ⟨w.heap.size + 1 + 1, 5, none⟩ = false := free_at hbm 5
          obtain ⟨ao', cap', hv'⟩ := own_form hown2
          rw [hL] at hv'
          subst hv'
          have HS7 := hide S7
          clear S7 hbm HR1 hown' hown2 hgrow c0 c1 c2 m5 hL hS HOJ
          go_wp2
          go_roundw
          case rel => exact ⟨j + 1, .slice ao' (j + 1) cap', by omega, by omega, by go_num, unhide HS7⟩
          case measure => simp [intOf]; omega
        · by_cases hlt2 : j < l.length
          · have hnm : ¬ j < 4 := fun h => hlt ⟨hlt2, h⟩
            clear hlt
            have m0 := cell_at R.b2 0
            have m1 := cell_at R.b2 1
            have m2 := cell_at R.b2 2
            have m3 := cell_at R.b2 3
            have m4 := cell_at R.b2 4
            have m5 := cell_at R.b2 5
            have f0 := cell_at R.b0 0
            have f1 := cell_at R.b0 1
            have f2 := cell_at R.b0 2
            have f3 := cell_at R.b0 3
            have f4 := cell_at R.b0 4
            have f5 := cell_at R.b0 5
            have fz := free_at R.b0
            simp only [List.getElem?_toArray, List.getElem?_cons_zero, List.getElem?_cons_succ] at m0 m1 m2 m3 m4 m5 f0 f1 f2 f3 f4 f5
            obtain ⟨ao', cap', hv'⟩ := own_form R.own
            rw [List.length_take, Nat.min_eq_left (by have := unhide HUL; omega)] at hv'
            subst hv'
            have HR1 := hide R
            clear R
            go_wp2
            have hR := unhide HR1
            have hLk : (msgOf k f i s t l).ups = ups.take j := by
              simp only [msgOf, unhide HMO]
              rw [unhide HUPS, ← List.map_take, show l.take 4 = l.take j from by rw [List.take_eq_take_iff]; omega]
            have hMs : msgOf k f i s t l = ⟨1 + pickI k 5, 1 + pickI f 250, 1 + pickI i 1073741824, pickI s 4294967296, 1 + pickI t 250, ups.take j⟩ := by
              rw [← hLk]; simp [msgOf, HTG.out]
            rw [hMs]
            refine bodyPost_ret (v := mval ⟨1 + pickI k 5, 1 + pickI f 250, 1 + pickI i 1073741824, pickI s 4294967296, 1 + pickI t 250, ups.take j⟩ (.slice ao' j cap')) (by simp [results, Tryz.results14, go_sem, f0, f1, f2, f3, f4, f5]) rfl ⟨_, rfl, ?_, ?_⟩
            · have hown := ownsRow_setCell_below (ownsRow_setCell_below (ownsRow_setCell_below (ownsRow_setCell_below (ownsRow_setCell_below (ownsRow_setCell_below hR.own (a := ⟨w.heap.size + 1, 0, none⟩) (by simp) (.int .i64 (1 + pickI k 5))) (a := ⟨w.heap.size + 1, 1, none⟩) (by simp) (.int .i64 (1 + pickI f 250))) (a := ⟨w.heap.size + 1, 2, none⟩) (by simp) (.int .i64 (1 + pickI i 1073741824))) (a := ⟨w.heap.size + 1, 3, none⟩) (by simp) (.int .i64 (pickI s 4294967296))) (a := ⟨w.heap.size + 1, 4, none⟩) (by simp) (.int .i64 (1 + pickI t 250))) (a := ⟨w.heap.size + 1, 5, none⟩) (by simp) (.slice ao' j cap')
              exact own_mono hown (by omega)
            · exact (((((hR.below.setCell (by simp) _).setCell (by simp) _).setCell (by simp) _).setCell (by simp) _).setCell (by simp) _).setCell (by simp) _

          · clear hlt
            have m0 := cell_at R.b2 0
            have m1 := cell_at R.b2 1
            have m2 := cell_at R.b2 2
            have m3 := cell_at R.b2 3
            have m4 := cell_at R.b2 4
            have m5 := cell_at R.b2 5
            have f0 := cell_at R.b0 0
            have f1 := cell_at R.b0 1
            have f2 := cell_at R.b0 2
            have f3 := cell_at R.b0 3
            have f4 := cell_at R.b0 4
            have f5 := cell_at R.b0 5
            have fz := free_at R.b0
            simp only [List.getElem?_toArray, List.getElem?_cons_zero, List.getElem?_cons_succ] at m0 m1 m2 m3 m4 m5 f0 f1 f2 f3 f4 f5
            obtain ⟨ao', cap', hv'⟩ := own_form R.own
            rw [List.length_take, Nat.min_eq_left (by have := unhide HUL; omega)] at hv'
            subst hv'
            have HR1 := hide R
            clear R
            go_wp2
            have hR := unhide HR1
            have hLk : (msgOf k f i s t l).ups = ups.take j := by
              simp only [msgOf, unhide HMO]
              rw [unhide HUPS, ← List.map_take, show l.take 4 = l.take j from by rw [List.take_eq_take_iff]; omega]
            have hMs : msgOf k f i s t l = ⟨1 + pickI k 5, 1 + pickI f 250, 1 + pickI i 1073741824, pickI s 4294967296, 1 + pickI t 250, ups.take j⟩ := by
              rw [← hLk]; simp [msgOf, HTG.out]
            rw [hMs]
            refine bodyPost_ret (v := mval ⟨1 + pickI k 5, 1 + pickI f 250, 1 + pickI i 1073741824, pickI s 4294967296, 1 + pickI t 250, ups.take j⟩ (.slice ao' j cap')) (by simp [results, Tryz.results14, go_sem, f0, f1, f2, f3, f4, f5]) rfl ⟨_, rfl, ?_, ?_⟩
            · have hown := ownsRow_setCell_below (ownsRow_setCell_below (ownsRow_setCell_below (ownsRow_setCell_below (ownsRow_setCell_below (ownsRow_setCell_below hR.own (a := ⟨w.heap.size + 1, 0, none⟩) (by simp) (.int .i64 (1 + pickI k 5))) (a := ⟨w.heap.size + 1, 1, none⟩) (by simp) (.int .i64 (1 + pickI f 250))) (a := ⟨w.heap.size + 1, 2, none⟩) (by simp) (.int .i64 (1 + pickI i 1073741824))) (a := ⟨w.heap.size + 1, 3, none⟩) (by simp) (.int .i64 (pickI s 4294967296))) (a := ⟨w.heap.size + 1, 4, none⟩) (by simp) (.int .i64 (1 + pickI t 250))) (a := ⟨w.heap.size + 1, 5, none⟩) (by simp) (.slice ao' j cap')
              exact own_mono hown (by omega)
            · exact (((((hR.below.setCell (by simp) _).setCell (by simp) _).setCell (by simp) _).setCell (by simp) _).setCell (by simp) _).setCell (by simp) _

    · go_wp2_with fail
      have Q5 := unhide HQ
      clear HQ c4 o4 of4
      have HMO : Hid (mostOf (1 + pickI k 5) = 8) := hide (by unfold mostOf; rw [if_neg (by omega)])
      have HTG : Hid ((if 1 + pickI k 5 < 4 then 1 + pickI t 250 else 0) = (0)) := hide (by rw [if_neg (by omega)])
      go_loopw [6] (fun q wr => ∃ (j : Nat) (v : Value), j ≤ l.length ∧ j ≤ 8 ∧ q = .int .i64 j ∧ QI w.heap.size #[.int .i64 k, .int .i64 f, .int .i64 i, .int .i64 s, .int .i64 t, .slice ao l.length cap] (.int .i64 (1 + pickI k 5)) (.int .i64 (1 + pickI f 250)) (.int .i64 (1 + pickI i 1073741824)) (.int .i64 (pickI s 4294967296)) (.int .i64 (0)) w wr v (ups.take j)) (fun q _ => 8 - (intOf q).toNat)
      case atStart => exact ⟨0, .slice none 0 0, Nat.zero_le _, by omega, rfl, by simpa using Q5⟩
      case round =>
        obtain ⟨j, v, hj, hj4, rfl, R⟩ := hrel
        clear Q5
        have c5 : wr.cell? ⟨w.heap.size, 5, none⟩ = some (.slice ao l.length cap) := cell_at R.bx 5
        by_cases hlt : j < l.length ∧ j < 8
        · obtain ⟨hlt, hm⟩ := hlt
          obtain ⟨kb, koff, rfl, hkb, hkf⟩ := (unhide HR) (by omega)
          obtain ⟨d0, d1, d2⟩ := hkf j hlt
          have c0 := (R.below.cell (p := ⟨kb, koff + j * 3, none⟩) hkb).trans d0
          have c1 := (R.below.cell (p := ⟨kb, koff + j * 3 + 1, none⟩) hkb).trans d1
          have c2 := (R.below.cell (p := ⟨kb, koff + j * 3 + 2, none⟩) hkb).trans d2
          clear d0 d1 d2 hkf
          obtain ⟨⟨ka0, ka1⟩, ⟨kb0, kb1⟩, ⟨kc0, kc1⟩⟩ := (unhide HKS) l[j] (List.getElem_mem hlt)
          generalize hK : l[j] = K at c0 c1 c2 ka0 ka1 kb0 kb1 kc0 kc1
          have HK := hide hK
          clear hK
          have pa := pickI_bd K.id 250 (by omega)
          have pb := pickI_bd K.inc 1073741824 (by omega)
          have pc := pickI_bd K.st 4 (by omega)
          have m5 : wr.cell? ⟨w.heap.size + 1 + 1, 5, none⟩ = some v := cell_at R.b2 5
          have hsz := R.size
          have hs2 : w.heap.size + 1 + 1 < wr.heap.size := by omega
          have HR1 := hide R
          clear R
          obtain ⟨ti, hti, hz0, hz1, hz2⟩ := info_parts Tryz.infoKey
          go_wp2_with fail
          refine (pick_any K.id 250 _ ka0 ka1 (by omega) (by omega)).mono ?_
          rintro e w1 ⟨rfl, rfl⟩
          go_wp2_with fail
          refine (pick_any K.inc 1073741824 _ kb0 kb1 (by omega) (by omega)).mono ?_
          rintro e w1 ⟨rfl, rfl⟩
          go_wp2_with fail
          refine (pick_any K.st 4 _ kc0 kc1 (by omega) (by omega)).mono ?_
          rintro e w1 ⟨rfl, rfl⟩
          have hownj : wr.ownsRow (w.heap.size + 3) 31 3 v j (kcells (ups.take j)) := by
            have h := (unhide HR1).own
            rw [List.length_take, Nat.min_eq_left (by have := unhide HUL; omega)] at h
            exact h
          have HOJ := hide hownj
          clear hownj
          go_wp2_with (at_builtin; refine wpList_append_own _ rfl _ _ 27 rfl (w.heap.size + 3) 31 ti (.agg #[.int .i64 0, .int .i64 0, .int .i64 0]) 3 24 Tryz.underlying27 hti hz0 hz1 hz2 rfl (by decide) v j _ rfl (((unhide HOJ).alloc (.cells #[.int .i64 K.id, .int .i64 K.inc, .int .i64 K.st] 31)).alloc _) ⟨wr.heap.size + 1, 0, none⟩ 1 1 [.int .i64 (1 + pickI K.id 250), .int .i64 (1 + pickI K.inc 1073741824), .int .i64 (1 + pickI K.st 4)] rfl rfl ?c18 ?c28 ?c38 ?c48 ?c58 ?_)
          case c18 =>
            have hh := heap_alloc_new (wr.alloc (.cells #[.int .i64 K.id, .int .i64 K.inc, .int .i64 K.st] 31)) (.cells #[.int .i64 (1 + pickI K.id 250), .int .i64 (1 + pickI K.inc 1073741824), .int .i64 (1 + pickI K.st 4)] 31)
            rw [World.size_alloc] at hh
            exact World.news_of_block hh
          case c28 => intro u hu; simp at hu; rcases hu with rfl | rfl | rfl <;> rfl
          case c38 => unfold maxLen; omega
          case c48 => omega
          case c58 => simp; omega
          intro v' w1 hown' hgrow _
          have hL : (ups.take (j + 1)).length = j + 1 := by rw [List.length_take, unhide HUL]; omega
          have hS : ups.take (j + 1) = ups.take j ++ [pickK K] := by
            rw [unhide HUPS, ← unhide HK, List.take_succ_eq_append_getElem (by simpa using hlt)]; simp
          have hown2 : w1.ownsRow (w.heap.size + 3) 31 3 v' (ups.take (j + 1)).length (kcells (ups.take (j + 1))) := by
            rw [hL, hS, kcells_append]
            exact hown'
          have S7 := ((unhide HR1).alloc (.cells #[.int .i64 K.id, .int .i64 K.inc, .int .i64 K.st] 31)).grown _ rfl hgrow v' _ hown2
          have hbm := (((unhide HR1).alloc (.cells #[.int .i64 K.id, .int .i64 K.inc, .int .i64 K.st] 31)).blk _ rfl hgrow (w.heap.size + 1 + 1) (by omega)).trans ((unhide HR1).alloc (.cells #[.int .i64 K.id, .int .i64 K.inc, .int .i64 K.st] 31)).b2
          have hm5 : w1.cell? ⟨w.heap.size + 1 + 1, 5, none⟩ = some v := cell_at hbm 5
          have hm5f : w1.frozen? ⟨w.heap.size + 1 + 1, 5, none⟩ = false := free_at hbm 5
          obtain ⟨ao', cap', hv'⟩ := own_form hown2
          rw [hL] at hv'
          subst hv'
          have HS7 := hide S7
          clear S7 hbm HR1 hown' hown2 hgrow c0 c1 c2 m5 hL hS HOJ
          go_wp2
          go_roundw
          case rel => exact ⟨j + 1, .slice ao' (j + 1) cap', by omega, by omega, by go_num, unhide HS7⟩
          case measure => simp [intOf]; omega
        · by_cases hlt2 : j < l.length
          · have hnm : ¬ j < 8 := fun h => hlt ⟨hlt2, h⟩
            clear hlt
            have m0 := cell_at R.b2 0
            have m1 := cell_at R.b2 1
            have m2 := cell_at R.b2 2
            have m3 := cell_at R.b2 3
            have m4 := cell_at R.b2 4
            have m5 := cell_at R.b2 5
            have f0 := cell_at R.b0 0
            have f1 := cell_at R.b0 1
            have f2 := cell_at R.b0 2
            have f3 := cell_at R.b0 3
            have f4 := cell_at R.b0 4
            have f5 := cell_at R.b0 5
            have fz := free_at R.b0
            simp only [List.getElem?_toArray, List.getElem?_cons_zero, List.getElem?_cons_succ] at m0 m1 m2 m3 m4 m5 f0 f1 f2 f3 f4 f5
            obtain ⟨ao', cap', hv'⟩ := own_form R.own
            rw [List.length_take, Nat.min_eq_left (by have := unhide HUL; omega)] at hv'
            subst hv'
            have HR1 := hide R
            clear R
            go_wp2
            have hR := unhide HR1
            have hLk : (msgOf k f i s t l).ups = ups.take j := by
              simp only [msgOf, unhide HMO]
              rw [unhide HUPS, ← List.map_take, show l.take 8 = l.take j from by rw [List.take_eq_take_iff]; omega]
            have hMs : msgOf k f i s t l = ⟨1 + pickI k 5, 1 + pickI f 250, 1 + pickI i 1073741824, pickI s 4294967296, 0, ups.take j⟩ := by
              rw [← hLk]; simp [msgOf, HTG.out]
            rw [hMs]
            refine bodyPost_ret (v := mval ⟨1 + pickI k 5, 1 + pickI f 250, 1 + pickI i 1073741824, pickI s 4294967296, 0, ups.take j⟩ (.slice ao' j cap')) (by simp [results, Tryz.results14, go_sem, f0, f1, f2, f3, f4, f5]) rfl ⟨_, rfl, ?_, ?_⟩
            · have hown := ownsRow_setCell_below (ownsRow_setCell_below (ownsRow_setCell_below (ownsRow_setCell_below (ownsRow_setCell_below (ownsRow_setCell_below hR.own (a := ⟨w.heap.size + 1, 0, none⟩) (by simp) (.int .i64 (1 + pickI k 5))) (a := ⟨w.heap.size + 1, 1, none⟩) (by simp) (.int .i64 (1 + pickI f 250))) (a := ⟨w.heap.size + 1, 2, none⟩) (by simp) (.int .i64 (1 + pickI i 1073741824))) (a := ⟨w.heap.size + 1, 3, none⟩) (by simp) (.int .i64 (pickI s 4294967296))) (a := ⟨w.heap.size + 1, 4, none⟩) (by simp) (.int .i64 (0))) (a := ⟨w.heap.size + 1, 5, none⟩) (by simp) (.slice ao' j cap')
              exact own_mono hown (by omega)
            · exact (((((hR.below.setCell (by simp) _).setCell (by simp) _).setCell (by simp) _).setCell (by simp) _).setCell (by simp) _).setCell (by simp) _

          · clear hlt
            have m0 := cell_at R.b2 0
            have m1 := cell_at R.b2 1
            have m2 := cell_at R.b2 2
            have m3 := cell_at R.b2 3
            have m4 := cell_at R.b2 4
            have m5 := cell_at R.b2 5
            have f0 := cell_at R.b0 0
            have f1 := cell_at R.b0 1
            have f2 := cell_at R.b0 2
            have f3 := cell_at R.b0 3
            have f4 := cell_at R.b0 4
            have f5 := cell_at R.b0 5
            have fz := free_at R.b0
            simp only [List.getElem?_toArray, List.getElem?_cons_zero, List.getElem?_cons_succ] at m0 m1 m2 m3 m4 m5 f0 f1 f2 f3 f4 f5
            obtain ⟨ao', cap', hv'⟩ := own_form R.own
            rw [List.length_take, Nat.min_eq_left (by have := unhide HUL; omega)] at hv'
            subst hv'
            have HR1 := hide R
            clear R
            go_wp2
            have hR := unhide HR1
            have hLk : (msgOf k f i s t l).ups = ups.take j := by
              simp only [msgOf, unhide HMO]
              rw [unhide HUPS, ← List.map_take, show l.take 8 = l.take j from by rw [List.take_eq_take_iff]; omega]
            have hMs : msgOf k f i s t l = ⟨1 + pickI k 5, 1 + pickI f 250, 1 + pickI i 1073741824, pickI s 4294967296, 0, ups.take j⟩ := by
              rw [← hLk]; simp [msgOf, HTG.out]
            rw [hMs]
            refine bodyPost_ret (v := mval ⟨1 + pickI k 5, 1 + pickI f 250, 1 + pickI i 1073741824, pickI s 4294967296, 0, ups.take j⟩ (.slice ao' j cap')) (by simp [results, Tryz.results14, go_sem, f0, f1, f2, f3, f4, f5]) rfl ⟨_, rfl, ?_, ?_⟩
            · have hown := ownsRow_setCell_below (ownsRow_setCell_below (ownsRow_setCell_below (ownsRow_setCell_below (ownsRow_setCell_below (ownsRow_setCell_below hR.own (a := ⟨w.heap.size + 1, 0, none⟩) (by simp) (.int .i64 (1 + pickI k 5))) (a := ⟨w.heap.size + 1, 1, none⟩) (by simp) (.int .i64 (1 + pickI f 250))) (a := ⟨w.heap.size + 1, 2, none⟩) (by simp) (.int .i64 (1 + pickI i 1073741824))) (a := ⟨w.heap.size + 1, 3, none⟩) (by simp) (.int .i64 (pickI s 4294967296))) (a := ⟨w.heap.size + 1, 4, none⟩) (by simp) (.int .i64 (0))) (a := ⟨w.heap.size + 1, 5, none⟩) (by simp) (.slice ao' j cap')
              exact own_mono hown (by omega)
            · exact (((((hR.below.setCell (by simp) _).setCell (by simp) _).setCell (by simp) _).setCell (by simp) _).setCell (by simp) _).setCell (by simp) _

end Go.Proofs.YtnneljcbelgoeaaGreat.wire
