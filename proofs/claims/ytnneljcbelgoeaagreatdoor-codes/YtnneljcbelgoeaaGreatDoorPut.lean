import Derived.Test.YtnneljcbelgoeaaGreatDoorRead
import Derived.WalkSpells
import Derived.StillTactics
import Derived.Deep.RegionLaw
import Derived.Deep.DrawnRows
namespace Go.Proofs.YtnneljcbelgoeaaGreatDoor.wire
open Go.RowKit
attribute [local go_sem ↓] Go.wp_at_zero Go.wp_at_succ

/-- Byte i of a number. -/
def byteAt (n : Int) (i : Nat) : UInt8 := UInt8.ofNat ((n / 2 ^ (8 * i)) % 256).toNat
/-- The bytes of a number from place width - 1 down to place j. -/
def hiB (n : Int) : Nat → Nat → List UInt8
  | 0, _ => []
  | w + 1, j => if w + 1 ≤ j then [] else byteAt n w :: hiB n w j
def putB (width : Nat) (n : Int) : List UInt8 := hiB n width 0
def ucells (l : List UInt8) : List Value := l.map fun c => .int .u8 (c.toNat : Int)
theorem Tryz.infoU8 : (Tryz.prog.info? 5).map (fun i => (i.zero, i.size, i.bytes)) = some (some (.int .u8 0), 1, 1) := by kernel_rfl
theorem byteAt_int (n : Int) (i : Nat) : ((byteAt n i).toNat : Int) = (n / 2 ^ (8 * i)) % 256 := by
  unfold byteAt
  have h0 : 0 ≤ (n / 2 ^ (8 * i)) % 256 := Int.emod_nonneg _ (by omega)
  have h1 : (n / 2 ^ (8 * i)) % 256 < 256 := Int.emod_lt_of_pos _ (by omega)
  generalize (n / 2 ^ (8 * i)) % 256 = y at h0 h1
  obtain ⟨k, rfl⟩ := Int.eq_ofNat_of_zero_le h0
  simp
  omega
theorem wrap8q (q : Nat) (h : (q : Int) < 4) : IntKind.i64.wrap (8 * (q : Int)) = 8 * (q : Int) := by rw [IntKind.wrap_i64]; omega
theorem low8 (x : Int) (q : Nat) : IntKind.u8.wrap (x / 2 ^ (8 * (q : Int)).toNat) = ((byteAt x q).toNat : Int) := by
  rw [IntKind.wrap_u8, byteAt_int, show (8 * (q : Int)).toNat = 8 * q from by omega]
/-- What a writer's put leaves. -/
structure Puts (b : Nat) (v v' : Value) (W W' : World) : Prop where
  os : W'.os = W.os
  tape : W'.tape = W.tape
  output : W'.output = W.output
  size : W.heap.size ≤ W'.heap.size
  block : ∀ k, k < W.heap.size → k ≠ b → some k ≠ v.ownBlock → W'.heap[k]? = W.heap[k]?
  lies : v'.ownBlock = v.ownBlock ∨ ∃ g, v'.ownBlock = some g ∧ W.heap.size ≤ g
theorem Puts.refl (b : Nat) (v : Value) (W : World) : Puts b v v W W := ⟨rfl, rfl, rfl, Nat.le_refl _, fun _ _ _ _ => rfl, .inl rfl⟩
theorem Puts.trans {b : Nat} {v v' v'' : Value} {W W' W'' : World} (h : Puts b v v' W W') (k : Puts b v' v'' W' W'') : Puts b v v'' W W'' := by
  refine ⟨k.os.trans h.os, k.tape.trans h.tape, k.output.trans h.output, Nat.le_trans h.size k.size, fun j hj hb hv => ?_, ?_⟩
  · rw [k.block j (Nat.lt_of_lt_of_le hj h.size) hb ?_, h.block j hj hb hv]
    rcases h.lies with e | ⟨g, e, hg⟩
    · rw [e]; exact hv
    · rw [e]; intro e'; simp at e'; omega
  · rcases k.lies with e | ⟨g, e, hg⟩
    · rw [e]; exact h.lies
    · exact .inr ⟨g, e, Nat.le_trans h.size hg⟩
/-- A writer in block b, whose row owns the bytes l. -/
structure WI (b base : Nat) (W : World) (v : Value) (l : List UInt8) : Prop where
  blk : W.heap[b]? = some (.cells #[v] 141 (0, 0))
  own : W.ownsRow base 5 1 v l.length (ucells l)
  lt : b < base
  le : base ≤ W.heap.size
theorem hiB_len (n : Int) : ∀ (w j : Nat), j ≤ w → (hiB n w j).length = w - j
  | 0, j, h => by simp [hiB]
  | w + 1, j, h => by
    by_cases e : w + 1 ≤ j
    · simp [hiB, e]
    · simp only [hiB, if_neg e, List.length_cons]; rw [hiB_len n w j (by omega)]; omega
theorem hiB_self (n : Int) (w : Nat) : hiB n w w = [] := by cases w <;> simp [hiB]
theorem hiB_snoc (n : Int) : ∀ (w j : Nat), j < w → hiB n w j = hiB n w (j + 1) ++ [byteAt n j]
  | 0, j, h => by omega
  | w + 1, j, h => by
    by_cases e : w = j
    · subst e
      rw [hiB_self, hiB, if_neg (by omega), hiB_self]; rfl
    · rw [hiB, if_neg (by omega), hiB, if_neg (by omega), hiB_snoc n w j (by omega)]; rfl
theorem putB_len (w : Nat) (n : Int) : (putB w n).length = w := by unfold putB; rw [hiB_len n w 0 (by omega)]; rfl
theorem ucells_len (l : List UInt8) : (ucells l).length = l.length := by simp [ucells]
theorem ucells_append (a b : List UInt8) : ucells (a ++ b) = ucells a ++ ucells b := by simp [ucells]
theorem flat_len (w : Nat) (l : List Int) : (l.flatMap (putB w)).length = l.length * w := by
  induction l with
  | nil => simp
  | cons a r ih => simp [putB_len, ih, Nat.add_mul]; omega
theorem flat_snoc (w : Nat) (l : List Int) (k : Nat) (h : k < l.length) : (l.take (k + 1)).flatMap (putB w) = (l.take k).flatMap (putB w) ++ putB w l[k] := by
  rw [List.take_succ_eq_append_getElem h, List.flatMap_append]; simp
theorem WI.step {b base : Nat} {W W0 W1 : World} {v v' : Value} {l : List UInt8} {c : UInt8} {o : Obj} (h : WI b base W v l) (e0 : W0 = (W.alloc o).drew) (hg : W0.grownBy W1 v.ownBlock) (hown : W1.ownsRow base 5 1 v' (l.length + 1) (ucells l ++ [.int .u8 (c.toNat : Int)])) (hat : v'.ownBlock = v.ownBlock ∨ v'.ownBlock = some (W.heap.size + 1)) :
    WI b base (W1.setCell ⟨b, 0, none⟩ v') v' (l ++ [c]) ∧ Puts b v v' W (W1.setCell ⟨b, 0, none⟩ v') := by
  subst e0
  have hle := h.le
  have hlt := h.lt
  have hz : W.heap.size + 1 ≤ W1.heap.size := by have := hg.size; simpa [heap_drew] using this
  have hnb : some b ≠ v.ownBlock := fun e => by have := own_lt h.own e.symm; omega
  have hblk : ∀ k, k < W.heap.size → some k ≠ v.ownBlock → W1.heap[k]? = W.heap[k]? := fun k hk hv => (hg.block k (by simp [heap_drew]; omega) hv).trans (by rw [heap_drew]; exact Below.heap_alloc _ _ _ hk)
  have hb1 := (hblk b (by omega) hnb).trans h.blk
  refine ⟨⟨one_setCell hb1, ?_, hlt, by simp; omega⟩, ⟨?_, ?_, ?_, by simp; omega, ?_, ?_⟩⟩
  · have := ownsRow_setCell_below hown (a := ⟨b, 0, none⟩) hlt v'
    rw [ucells_append, List.length_append]
    exact this
  · exact hg.os
  · exact hg.tape
  · exact hg.output
  · intro k hk hkb hv
    rw [heap_setCell_other _ _ _ _ (by simpa using hkb)]
    exact hblk k hk hv
  · rcases hat with e | e
    · exact .inl e
    · exact .inr ⟨_, e, by omega⟩
set_option maxRecDepth 100000 in
set_option maxHeartbeats 4000000 in
theorem put_any (b base g c width : Nat) (nums : List Int) (l : List UInt8) (v : Value) (w : World) (hI : WI b base w v l) (hw : width ≤ 4) (hn : nums.length ≤ 2) (hl : l.length ≤ 100000)
    (hg : g < w.heap.size) (hgb : g ≠ b) (hgv : some g ≠ v.ownBlock) (hc : ∀ (i : Nat) (h : i < nums.length), w.cell? ⟨g, i, none⟩ = some (.int .i64 nums[i])) :
    Calls Tryz.prog 78 #[.pointer (some ⟨b, 0, none⟩), .int .i64 width, .slice (some ⟨g, 0, none⟩) nums.length c] w fun e w' => e = .returned (.tuple #[]) ∧ ∃ v', WI b base w' v' (l ++ nums.flatMap (putB width)) ∧ Puts b v v' w w' := by
  obtain ⟨ti, hi, hz0, hz1, hz2⟩ := info_parts Tryz.infoU8
  go_enter Tryz.func78, Tryz.ntmps78
  go_wp2
  go_loopw [11] (fun i wr => ∃ (k : Nat) (v' : Value), k ≤ nums.length ∧ i = .int .i64 k ∧ WI b base wr v' (l ++ (nums.take k).flatMap (putB width)) ∧ Puts b v v' w wr) (fun i _ => nums.length - (intOf i).toNat)
  case atStart => exact ⟨0, v, Nat.zero_le _, rfl, by simpa using hI, Puts.refl _ _ _⟩
  case round =>
    obtain ⟨k, v1, hk, rfl, I1, P1⟩ := hrel
    by_cases hlt : k < nums.length
    · have hcell : wr.cell? ⟨g, k, none⟩ = some (.int .i64 nums[k]) := (World.cell?_of_block (a := ⟨g, k, none⟩) (P1.block g hg hgb hgv)).trans (hc k hlt)
      generalize hx : nums[k] = x at hcell
      have HX := hide hx
      clear hx
      go_wp2
      go_loopw [8] (fun i wq => ∃ (z : Int) (v' : Value), -1 ≤ z ∧ z < width ∧ i = .int .i64 z ∧ WI b base wq v' (l ++ (nums.take k).flatMap (putB width) ++ hiB x width (z + 1).toNat) ∧ Puts b v v' w wq) (fun i _ => (intOf i + 1).toNat)
      case atStart => exact ⟨(width : Int) - 1, v1, by omega, by omega, rfl, by rw [show ((width : Int) - 1 + 1).toNat = width from by omega, hiB_self]; simpa using I1, P1⟩
      case round =>
        obtain ⟨z, v2, hz, hzw, rfl, I2, P2⟩ := hrel
        by_cases hj0 : 0 ≤ z
        · obtain ⟨q, rfl⟩ := Int.eq_ofNat_of_zero_le hj0
          have hq4 : (q : Int) < 4 := by omega
          have cb : wr.cell? ⟨b, 0, none⟩ = some v2 := cell_of_one I2.blk
          have fb : wr.frozen? ⟨b, 0, none⟩ = false := free_of_one I2.blk
          have hbl : b < wr.heap.size := Nat.lt_of_lt_of_le I2.lt I2.le
          have hnb : v2.ownBlock ≠ some b := fun e => by have := own_lt I2.own e; have := I2.lt; omega
          generalize hL : l ++ (nums.take k).flatMap (putB width) ++ hiB x width ((q : Int) + 1).toNat = L at I2
          have HL := hide hL
          have hLl : L.length ≤ 200000 := by rw [← hL, List.length_append, List.length_append, flat_len, hiB_len x width _ (by omega)]; have := Nat.mul_le_mul (show (nums.take k).length ≤ 2 by simp; omega) hw; omega
          clear hL
          obtain ⟨ao2, cap2, rfl⟩ := own_form I2.own
          have HI := hide I2
          have HP := hide P2
          have HP1 := hide P1
          have HI1 := hide I1
          clear I2 P2 P1 I1 hcell
          have h8a := wrap8q q hq4
          have h8c := low8 x q
          go_wp2_with fail
          go_region_law
            ((refine step_append_lies _ (by rfl) _ _ _ (by rfl) base 5 ti (.int .u8 0) 1 1 Tryz.underlying56 hi hz0 hz1 hz2 rfl (by omega) _ _ _ (by rfl) (((unhide HI).own.alloc _).drew) ⟨wr.heap.size, 0, none⟩ 1 1 [.int .u8 ((byteAt x q).toNat : Int)] (by rfl) (by rfl) (World.news_of_block (cs := #[.int .u8 ((byteAt x q).toNat : Int)]) (t := 5) (fr := (0, 0)) (heap_alloc_new wr _)) (by simp [Value.oneCell']) (by omega) (by unfold maxLen; omega) (by omega) (by have := (unhide HI).le; simp; omega) (wr.heap.size + 1) (by simp) ?_; intro gg cap w1 hown1 hgrow hat hlt; have hfz1 : w1.frozen? ⟨b, 0, none⟩ = false := (hgrow.frozen_far _ (by simp; omega) (Ne.symm hnb)).trans ((World.frozen?_of_block (a := ⟨b, 0, none⟩) (Below.heap_alloc wr _ b hbl)).trans fb); have hc1 : w1.cell? ⟨b, 0, none⟩ = some (.slice ao2 L.length cap2) := (hgrow.cell_far _ (by simp; omega) (Ne.symm hnb)).trans ((World.cell?_of_block (a := ⟨b, 0, none⟩) (Below.heap_alloc wr _ b hbl)).trans cb)))
          all_goals
            have hst := (unhide HI).step rfl hgrow hown1 (hat.imp (fun e => by rw [e]; rfl) (fun e => by rw [e]; rfl))
            have HST := hide hst
            clear hst hgrow hown1 hat hfz1 hc1 h8a h8c cb fb
            go_wp2
            go_roundw
            case rel =>
              refine ⟨(q : Int) - 1, .slice (some ⟨gg, 0, none⟩) (L.length + 1) cap, by omega, by omega, by go_num, ?_, (unhide HP).trans (unhide HST).2⟩
              have h1 := (unhide HST).1
              have hl2 : L ++ [byteAt x q] = l ++ (nums.take k).flatMap (putB width) ++ hiB x width q := by rw [← unhide HL, show ((q : Int) + 1).toNat = q + 1 from by omega, List.append_assoc, ← hiB_snoc x width q (by omega)]
              rw [hl2] at h1
              rw [show ((q : Int) - 1 + 1).toNat = q from by omega]
              exact h1
            case measure => simp [intOf]
        · have hz' : z = -1 := by omega
          subst hz'
          have hI2 : WI b base wr v2 (l ++ (nums.take (k + 1)).flatMap (putB width)) := by
            rw [flat_snoc width nums k hlt, unhide HX]
            simpa [putB] using I2
          have HI := hide hI2
          have HP := hide P2
          have HP1 := hide P1
          have HI1 := hide I1
          clear I2 P2 P1 I1 hcell hI2
          go_wp2
          go_roundw
          case rel => exact ⟨k + 1, v2, by omega, by go_num, unhide HI, unhide HP⟩
          case measure => simp [intOf]; omega
    · have e : k = nums.length := by omega
      have hI1 := I1
      rw [e, List.take_length] at hI1
      have HI := hide hI1
      have HP := hide P1
      clear I1 P1 hI1 e
      go_wp2
      go_end0
      exact ⟨rfl, v1, unhide HI, unhide HP⟩
end Go.Proofs.YtnneljcbelgoeaaGreatDoor.wire
