import Derived.Test.YtnneljcbelgoeaaGreatDoorG12
import Derived.Test.YtnneljcbelgoeaaGreatDoorG05
import Derived.Test.YtnneljcbelgoeaaGreatDoorG02
import Derived.Test.YtnneljcbelgoeaaGreatDoorG04
import Derived.BigRegion
/- A tick: suspects whose time is up (P9). -/
namespace Go.Proofs.YtnneljcbelgoeaaGreatDoor.wire
open Go.RowKit Go.Maps

set_option maxHeartbeats 1000000 in
set_option maxRecDepth 100000 in
theorem over_any {x : Nd} {nb mb : Nat} {cb : Dk} {pv rv : Value} {W : World} (hn : NAt W nb mb cb pv rv x) (m : Mem) :
    Calls Tryz.prog 96 #[.pointer (some ⟨nb, 0, none⟩), memv m] W fun e w' => e = .returned (.bool (overB x.clock m)) ∧ Below W.heap.size W w' := by
  have c1 := hn.c_clock
  have l1 := hn.lt
  clear hn
  by_cases h : m.k.st = 2
  · have h1 : (m.k.st == 2) = true := by simp [h]
    have e1 : overB x.clock m = decide (m.due ≤ x.clock) := by simp [overB, h]
    rw [e1]
    go_enter Tryz.func96, Tryz.ntmps96
    go_wp2
    go_quiet (fail)
    go_wp2
    go_ret
    exact ⟨rfl, bdrewN ((Below.refl _ _).alloc (Nat.le_refl _) _) _⟩
  · have h1 : (m.k.st == 2) = false := by simp [h]
    have e1 : overB x.clock m = false := by simp [overB, h]
    rw [e1]
    go_enter Tryz.func96, Tryz.ntmps96
    go_wp2
    go_quiet (fail)
    go_wp2
    go_ret
    exact ⟨rfl, bdrewN ((Below.refl _ _).alloc (Nat.le_refl _) _) _⟩
/-- What stands while suspects are ended. -/
structure EsI (W wr : World) (nb mb : Nat) (cb : Dk) (pv rv : Value) (l : List Mem) (v : Value) (y : Nd) : Prop where
  nto : NTo W wr nb mb cb pv rv y
  row : wr.ownsRow W.heap.size 150 5 v l.length (l.flatMap memC)
theorem EsI.below {W wr w' : World} {nb mb : Nat} {cb : Dk} {pv rv : Value} {l : List Mem} {v : Value} {y : Nd} (h : EsI W wr nb mb cb pv rv l v y) (hb : Below wr.heap.size wr w') : EsI W w' nb mb cb pv rv l v y := by
  obtain ⟨pv1, rv1, hn, hf, hs⟩ := h.nto
  exact ⟨⟨pv1, rv1, hn.below hb, hf.step hb, hs⟩, own_below2 h.row hb⟩
theorem EsI.hear {W wr : World} {nb mb : Nat} {cb : Dk} {pv rv : Value} {l : List Mem} {v : Value} {y : Nd} (h : EsI W wr nb mb cb pv rv l v y) (hy : NdOk y) (hB : NdB Big y) (k : K3) (hk : isKeyB k = true) :
    Calls Tryz.prog 84 #[.pointer (some ⟨nb, 0, none⟩), .agg #[.int .i64 k.id, .int .i64 k.inc, .int .i64 k.st]] wr fun e w' => e = .returned (.tuple #[]) ∧ EsI W w' nb mb cb pv rv l v (y.hear k) := by
  obtain ⟨pv1, rv1, hn, hf, hs⟩ := h.nto
  refine (hear_any hy hB hn k hk).mono ?_
  rintro e w' ⟨rfl, hto⟩
  refine ⟨rfl, ?_⟩
  have hr := h.row
  obtain ⟨pv2, rv2, hn2, hf2, hs2⟩ := hto
  refine ⟨NTo.trans hf hs ⟨pv2, rv2, hn2, hf2, hs2⟩, own_frm hr hf2 (fun k hk => ?_)⟩
  obtain ⟨cs, hcs⟩ := own_blk hr hk
  exact hn.not_feet hcs (by decide) (by decide) (by decide) (by decide)
theorem deads_snoc (x : Nd) (l : List Mem) (k : Nat) (h : k < l.length) : (l.take (k + 1)).foldl (fun y m => y.hear m.dead) x = ((l.take k).foldl (fun y m => y.hear m.dead) x).hear l[k].dead := by
  rw [List.take_succ_eq_append_getElem h, List.foldl_append]; rfl
set_option maxHeartbeats 2000000 in
set_option maxRecDepth 100000 in
theorem endSuspects_any {x : Nd} (hx : NdOk x) (hB : NdB Bg x) {nb mb : Nat} {cb : Dk} {pv rv : Value} {W : World} (hn : NAt W nb mb cb pv rv x) :
    Calls Tryz.prog 69 #[.pointer (some ⟨nb, 0, none⟩)] W fun e w' => e = .returned (.tuple #[]) ∧ NTo W w' nb mb cb pv rv x.endSuspects := by
  have hlen := hx.len
  have HM := hide (members_any hx hn)
  have HN := hide hn
  have hE1 := enters_of Tryz.func96 (by kernel_rfl) rfl
  obtain ⟨l, hL⟩ : ∃ l, l = x.tab.filter (overB x.clock) := ⟨_, rfl⟩
  have he : x.endSuspects = l.foldl (fun y m => y.hear m.dead) x := by rw [hL]; rfl
  have hkeys : ∀ m ∈ x.tab.filter (overB x.clock), isKeyB m.k = true := fun m hm => hx.keys m (List.mem_filter.1 hm).1
  have hl8 : (x.tab.filter (overB x.clock)).length ≤ 8 := Nat.le_trans (List.length_filter_le _ _) hlen
  have HX := hide hx
  have HB := hide hB
  rw [he]
  rw [← hL] at hkeys hl8
  have HL := hide hL
  clear hx hn hB he hL
  go_enter Tryz.func69, Tryz.ntmps69
  go_wp2_with fail
  refine (unhide HM).mono ?_
  rintro e w1 ⟨v1, rfl, ho1, hb1⟩
  have HO1 := hide ho1
  have HB1 := hide hb1
  clear ho1 hb1 HM
  go_wp2_with fail
  refine (keepM_any x.tab (overB x.clock) 96 #[.pointer (some ⟨nb, 0, none⟩)] #[] (unhide HO1) (by omega) hE1 (fun m W' hW' => over_any (((unhide HN).below (unhide HB1)).below hW') m)).mono ?_
  rintro e w2 ⟨v2, rfl, ho2, hb2⟩
  rw [← unhide HL] at ho2
  have hi2 : EsI W w2 nb mb cb pv rv l v2 x := ⟨NTo.here (unhide HN) ((unhide HB1).trans (hb2.mono (unhide HB1).size)), own_mono ho2 (unhide HB1).size⟩
  obtain ⟨ao, cap, rfl⟩ := own_form ho2
  have HI2 := hide hi2
  have HKS := hide hkeys
  clear ho2 hb2 hi2 HO1 HB1 HN hkeys
  go_wp2
  go_loopw [10] (fun i wr => ∃ k : Nat, k ≤ l.length ∧ i = .int .i64 k ∧ Hid (EsI W wr nb mb cb pv rv l (.slice ao l.length cap) ((l.take k).foldl (fun y m => y.hear m.dead) x))) (fun i _ => l.length - (Go.RowKit.intOf i).toNat)
  case atStart => exact ⟨0, Nat.zero_le _, rfl, HI2⟩
  case round =>
    obtain ⟨k, hk, rfl, HI⟩ := hrel
    by_cases hlt : k < l.length
    · rcases (unhide HI).row.2 with ⟨_, h0⟩ | ⟨b, cap', cur, e, _, hg, _⟩
      · omega
      cases e
      obtain ⟨c0, c1, c2, c3, c4⟩ := rowM (unhide HI).row k hlt
      have hbl := lt_blk hg
      have hok := deads_ok (l.take k) (unhide HX) (fun m hm => (unhide HKS) m (List.mem_of_mem_take hm))
      have hbk := (deads_b (l.take k) (unhide HB)).mono (C := Big) (by simp only [Bg, Big, List.length_take]; omega)
      have hkk := dead_key ((unhide HKS) l[k] (List.getElem_mem hlt))
      have HC := fun w' (hb : Below wr.heap.size wr w') => hide (((unhide HI).below hb).hear hok hbk l[k].dead hkk)
      have hsn := deads_snoc x l k hlt
      rw [← hsn] at HC
      clear hsn hok hbk hkk hg
      generalize l[k] = K at c0 c1 c2 c3 c4 HC
      have hb4 : Below wr.heap.size wr (wr.alloc (.cells #[.int .i64 K.k.id, .int .i64 K.k.inc, .int .i64 3, .int .i64 K.due, .int .i64 K.sends] 150)) := (Below.refl _ _).alloc (Nat.le_refl _) _
      have HC4 := HC _ hb4
      simp only [Nat.zero_add] at c0 c1 c2 c3 c4
      clear HC hb4
      go_wp2_with fail
      refine (unhide HC4).mono ?_
      rintro e w4 ⟨rfl, h4⟩
      have H4 := hide h4
      clear h4 HC4 c0 c1 c2 c3 c4
      go_wp2
      go_roundw
      case rel => exact ⟨k + 1, by omega, by go_num, H4⟩
      case measure => simp [Go.RowKit.intOf]; omega
    · have e : k = l.length := by omega
      subst e
      rw [List.take_length] at HI
      go_wp2
      go_end0
      exact ⟨rfl, (unhide HI).nto⟩
end Go.Proofs.YtnneljcbelgoeaaGreatDoor.wire
/- Package list: Keep of keys, Turn of keys into ids. (Written by wip/gen/mklist.py.) -/
namespace Go.Proofs.YtnneljcbelgoeaaGreatDoor.wire
open Go.RowKit Go.Maps

def rowsK (w : World) (b off : Nat) (l : List K3) : Prop := ∀ (i : Nat) (h : i < l.length), w.cell? ⟨b, off + i * 3, none⟩ = some (.int .i64 l[i].id) ∧ w.cell? ⟨b, off + i * 3 + 1, none⟩ = some (.int .i64 l[i].inc) ∧ w.cell? ⟨b, off + i * 3 + 2, none⟩ = some (.int .i64 l[i].st)
theorem lenK (l : List K3) : (l.flatMap keyC).length = l.length * 3 := by
  induction l with
  | nil => rfl
  | cons a r ih => simp only [List.flatMap_cons, List.length_append, ih, List.length_cons, keyC, List.length_nil]; omega
theorem getK : ∀ (l : List K3) (i : Nat) (h : i < l.length) (j : Nat), j < 3 → (l.flatMap keyC)[i * 3 + j]? = (keyC l[i])[j]?
  | a :: r, 0, _, j, hj => by
    rw [List.flatMap_cons, List.getElem?_append_left (by simp [keyC]; omega)]; simp
  | a :: r, i + 1, h, j, hj => by
    rw [List.flatMap_cons, List.getElem?_append_right (by simp [keyC]; omega)]
    have := getK r i (by simpa using h) j hj
    simp only [List.getElem_cons_succ]
    rw [← this]
    congr 1
    simp [keyC]; omega
theorem rowK {w : World} {base b cap n : Nat} {l : List K3} (h : w.ownsRow base 76 3 (.slice (some ⟨b, 0, none⟩) n cap) l.length (l.flatMap keyC)) : rowsK w b 0 l := by
  intro i hi
  rcases h.2 with ⟨e, _⟩ | ⟨g, cap', cur, e, hb, hg, h1, h2, h3, h4⟩
  · cases e
  · cases e
    have hc : ∀ j, j < 3 → w.cell? ⟨b, 0 + i * 3 + j, none⟩ = (keyC l[i])[j]? := fun j hj => by
      rw [cell_at hg, ← getK l i hi j hj, ← h4, List.getElem?_take, if_pos (by have : (i + 1) * 3 ≤ l.length * 3 := Nat.mul_le_mul_right _ hi; omega), Array.getElem?_toList, Nat.zero_add]
    exact ⟨hc 0 (by omega), hc 1 (by omega), hc 2 (by omega)⟩
set_option maxHeartbeats 2000000 in
theorem keepK_at (l : List K3) (p : K3 → Bool) (g : Nat) (pre lb : Array Value) (b off cap : Nat) (w : World) (hb : b < w.heap.size) (hl : l.length ≤ 1000) (hrow : rowsK w b off l) (eg : ∀ args w, (callFunc g args).run Tryz.prog w = .ok (.enter g args) w)
    (hp : ∀ m W, Below w.heap.size w W → Calls Tryz.prog g (pre ++ #[.agg #[.int .i64 m.id, .int .i64 m.inc, .int .i64 m.st]] ++ lb) W fun e w' => e = .returned (.bool (p m)) ∧ Below W.heap.size W w') :
    Calls Tryz.prog 136 #[.slice (some ⟨b, off, none⟩) l.length cap, .func (.func g) pre lb] w fun e w' => ∃ v', e = .returned v' ∧ w'.ownsRow w.heap.size 76 3 v' (l.filter p).length ((l.filter p).flatMap keyC) ∧ Below w.heap.size w w' := by
  obtain ⟨ti, hti, hz0, hz1, hz2⟩ := info_parts Tryz.infoKL
  have HP := hide hp
  clear hp
  go_enter Tryz.func136, Tryz.ntmps136
  go_wp2
  go_loopw [5, 10] (fun o i wr => ∃ k : Nat, k ≤ l.length ∧ i = .int .i64 k ∧ Hid (wr.ownsRow w.heap.size 76 3 o ((l.take k).filter p).length (((l.take k).filter p).flatMap keyC)) ∧ Below w.heap.size w wr) (fun _ i _ => l.length - (Go.RowKit.intOf i).toNat)
  case atStart => exact ⟨0, Nat.zero_le _, rfl, ⟨rfl, .inl ⟨rfl, rfl⟩⟩, Below.refl _ _⟩
  case round =>
    rename_i o i
    obtain ⟨k, hk, rfl, HO, hbel⟩ := hrel
    by_cases hlt : k < l.length
    · have hrk := hrow k hlt
      have hsz := hbel.size
      have hfl : ((l.take k).filter p).length ≤ 1000 := Nat.le_trans (List.length_filter_le _ _) (by simp; omega)
      have hft : (l.take (k + 1)).filter p = (l.take k).filter p ++ (if p l[k] then [l[k]] else []) := by
        rw [List.take_succ_eq_append_getElem hlt, List.filter_append]; cases h : p l[k] <;> simp [h]
      have HFT := hide hft
      clear hft
      generalize l[k] = K at hrk HFT
      obtain ⟨c0, c1, c2⟩ := hrk
      have d0 := (hbel.cell (p := ⟨b, off + k * 3, none⟩) hb).trans c0
      have d1 := (hbel.cell (p := ⟨b, off + k * 3 + 1, none⟩) hb).trans c1
      have d2 := (hbel.cell (p := ⟨b, off + k * 3 + 2, none⟩) hb).trans c2
      clear c0 c1 c2
      cases hq : p K
      all_goals
        have HQ := hide hq
        clear hq
        have hB0 := hide (heap_alloc_new wr (.cells #[.int .i64 K.id, .int .i64 K.inc, .int .i64 K.st] 76))
        go_wp2_with fail
        refine ((unhide HP) K _ (hbel.alloc hsz _)).mono ?_
        rw [unhide HQ]
        rintro e w1 ⟨rfl, hb1⟩
        have hbx := (hb1.block wr.heap.size (by simp)).trans (unhide hB0)
        clear hB0
        have e0 := cell_at hbx 0
        have e1 := cell_at hbx 1
        have e2 := cell_at hbx 2
        simp only [List.getElem?_toArray, List.getElem?_cons_zero, List.getElem?_cons_succ] at e0 e1 e2
        clear hbx
        have hbel1 : Below w.heap.size w w1 := (hbel.alloc (by have := hbel.size; omega) _).trans (hb1.mono (by simp; omega))
        have HO1 := hide (own_below2 (HO.out.alloc _) hb1)
        have HB := hide hbel1
        have hs1 := hbel1.size
        clear hb1 hbel1 d0 d1 d2 HO
      · go_wp2
        go_roundw
        case rel =>
          refine ⟨k + 1, by omega, by go_num, ?_, unhide HB⟩
          rw [unhide HFT, unhide HQ]
          exact hide (by simpa using unhide HO1)
        case measure => simp [Go.RowKit.intOf]; omega
      · go_wp2_with (at_builtin; refine wpList_append_own _ rfl _ _ 46 rfl w.heap.size 76 ti (.agg #[.int .i64 0, .int .i64 0, .int .i64 0]) 3 24 Tryz.underlying46 hti hz0 hz1 hz2 rfl (by decide) _ _ _ rfl ((unhide HO1).alloc _) ⟨w1.heap.size, 0, none⟩ 1 1 [.int .i64 K.id, .int .i64 K.inc, .int .i64 K.st] rfl rfl ?c1 ?c2 ?c3 ?c4 ?c5 ?_)
        case c1 => exact World.news_of_block (heap_alloc_new w1 _)
        case c2 => intro u hu; simp at hu; rcases hu with rfl | rfl | rfl <;> rfl
        case c3 => unfold maxLen; omega
        case c4 => omega
        case c5 => simp; omega
        intro v' w2 hown' hgrow _
        have hbel2 : Below w.heap.size w w2 := ((unhide HB).alloc hs1 _).grown hgrow (by simp; omega) (fun j hj => (own_lt (unhide HO1) hj).1)
        have HO2 := hide hown'
        have HB2 := hide hbel2
        clear hown' hgrow hbel2
        go_wp2
        go_roundw
        case rel =>
          refine ⟨k + 1, by omega, by go_num, ?_, unhide HB2⟩
          rw [unhide HFT, unhide HQ]
          exact hide (by simpa [keyC] using unhide HO2)
        case measure => simp [Go.RowKit.intOf]; omega
    · have e : k = l.length := by omega
      rw [e, List.take_length] at HO
      go_wp2
      go_ret
      exact ⟨_, rfl, HO.out, hbel⟩
theorem keepK_nil (p : K3 → Bool) (fv : Value) (w : World) : Calls Tryz.prog 136 #[.slice none 0 0, fv] w fun e w' => ∃ v', e = .returned v' ∧ w'.ownsRow w.heap.size 76 3 v' (([] : List K3).filter p).length ((([] : List K3).filter p).flatMap keyC) ∧ Below w.heap.size w w' := by
  go_enter Tryz.func136, Tryz.ntmps136
  go_wp2
  refine wp_loop_rounds 1 ?_
  rw [rounds_succ]
  go_wp2
  go_ret
  exact ⟨_, rfl, ⟨rfl, .inl ⟨rfl, rfl⟩⟩, Below.refl _ _⟩
theorem keepK_any (l : List K3) (p : K3 → Bool) (g : Nat) (pre lb : Array Value) {v : Value} {w : World} {base : Nat} (hv : w.ownsRow base 76 3 v l.length (l.flatMap keyC)) (hl : l.length ≤ 1000) (eg : ∀ args w, (callFunc g args).run Tryz.prog w = .ok (.enter g args) w)
    (hp : ∀ m W, Below w.heap.size w W → Calls Tryz.prog g (pre ++ #[.agg #[.int .i64 m.id, .int .i64 m.inc, .int .i64 m.st]] ++ lb) W fun e w' => e = .returned (.bool (p m)) ∧ Below W.heap.size W w') :
    Calls Tryz.prog 136 #[v, .func (.func g) pre lb] w fun e w' => ∃ v', e = .returned v' ∧ w'.ownsRow w.heap.size 76 3 v' (l.filter p).length ((l.filter p).flatMap keyC) ∧ Below w.heap.size w w' := by
  have hv0 := hv
  rcases hv.2 with ⟨rfl, h0⟩ | ⟨b, cap, cur, rfl, hb, hg, _⟩
  · obtain rfl : l = [] := List.length_eq_zero_iff.1 h0
    exact keepK_nil p _ w
  · exact keepK_at l p g pre lb b 0 cap w (lt_blk hg) hl (rowK hv0) eg hp
set_option maxHeartbeats 2000000 in
theorem turnKI_at (l : List K3) (f : K3 → Int) (g : Nat) (pre lb : Array Value) (b off cap : Nat) (w : World) (hb : b < w.heap.size) (hl : l.length ≤ 1000) (hrow : rowsK w b off l) (eg : ∀ args w, (callFunc g args).run Tryz.prog w = .ok (.enter g args) w)
    (hp : ∀ m ∈ l, ∀ W, Below w.heap.size w W → Calls Tryz.prog g (pre ++ #[.agg #[.int .i64 m.id, .int .i64 m.inc, .int .i64 m.st]] ++ lb) W fun e w' => e = .returned (.int .i64 (f m)) ∧ Below W.heap.size W w') :
    Calls Tryz.prog 135 #[.slice (some ⟨b, off, none⟩) l.length cap, .func (.func g) pre lb] w fun e w' => ∃ v', e = .returned v' ∧ w'.ownsRow w.heap.size 3 1 v' (l.map f).length ((l.map f).flatMap intC) ∧ Below w.heap.size w w' := by
  obtain ⟨ti, hti, hz0, hz1, hz2⟩ := info_parts Tryz.infoIL
  have HP := hide hp
  clear hp
  go_enter Tryz.func135, Tryz.ntmps135
  go_wp2
  go_loopw [5, 10] (fun o i wr => ∃ k : Nat, k ≤ l.length ∧ i = .int .i64 k ∧ Hid (wr.ownsRow w.heap.size 3 1 o k (((l.take k).map f).flatMap intC)) ∧ Below w.heap.size w wr) (fun _ i _ => l.length - (Go.RowKit.intOf i).toNat)
  case atStart => exact ⟨0, Nat.zero_le _, rfl, ⟨rfl, .inl ⟨rfl, rfl⟩⟩, Below.refl _ _⟩
  case round =>
    rename_i o i
    obtain ⟨k, hk, rfl, HO, hbel⟩ := hrel
    by_cases hlt : k < l.length
    · have hrk := hrow k hlt
      have hsz := hbel.size
      have hft : (l.take (k + 1)).map f = (l.take k).map f ++ [f l[k]] := by
        rw [List.take_succ_eq_append_getElem hlt, List.map_append]; rfl
      have HFT := hide hft
      have HC := hide ((unhide HP) l[k] (List.getElem_mem hlt))
      clear hft
      generalize l[k] = K at hrk HFT HC
      obtain ⟨c0, c1, c2⟩ := hrk
      have d0 := (hbel.cell (p := ⟨b, off + k * 3, none⟩) hb).trans c0
      have d1 := (hbel.cell (p := ⟨b, off + k * 3 + 1, none⟩) hb).trans c1
      have d2 := (hbel.cell (p := ⟨b, off + k * 3 + 2, none⟩) hb).trans c2
      clear c0 c1 c2
      go_wp2_with fail
      refine ((unhide HC) _ (hbel.alloc hsz _)).mono ?_
      rintro e w1 ⟨rfl, hb1⟩
      have hbel1 : Below w.heap.size w w1 := (hbel.alloc (by have := hbel.size; omega) _).trans (hb1.mono (by simp; omega))
      have HO1 := hide (own_below2 (HO.out.alloc _) hb1)
      have HB := hide hbel1
      have hs1 := hbel1.size
      clear hb1 hbel1 d0 d1 d2 HO HC
      go_wp2_with (at_builtin; refine wpList_append_own _ rfl _ _ 24 rfl w.heap.size 3 ti (.int .i64 0) 1 8 Tryz.underlying24 hti hz0 hz1 hz2 rfl (by decide) _ _ _ rfl ((unhide HO1).alloc _) ⟨w1.heap.size, 0, none⟩ 1 1 [.int .i64 (f K)] rfl rfl ?c1 ?c2 ?c3 ?c4 ?c5 ?_)
      case c1 => exact World.news_of_block (heap_alloc_new w1 _)
      case c2 => intro u hu; simp at hu; subst hu; rfl
      case c3 => unfold maxLen; omega
      case c4 => omega
      case c5 => simp; omega
      intro v' w2 hown' hgrow _
      have hbel2 : Below w.heap.size w w2 := ((unhide HB).alloc hs1 _).grown hgrow (by simp; omega) (fun j hj => (own_lt (unhide HO1) hj).1)
      have HO2 := hide hown'
      have HB2 := hide hbel2
      clear hown' hgrow hbel2
      go_wp2
      go_roundw
      case rel =>
        refine ⟨k + 1, by omega, by go_num, ?_, unhide HB2⟩
        rw [unhide HFT]
        exact hide (by simpa [intC] using unhide HO2)
      case measure => simp [Go.RowKit.intOf]; omega
    · have e : k = l.length := by omega
      rw [e, List.take_length] at HO
      go_wp2
      go_ret
      exact ⟨_, rfl, by simpa using HO.out, hbel⟩
theorem turnKI_nil (f : K3 → Int) (fv : Value) (w : World) : Calls Tryz.prog 135 #[.slice none 0 0, fv] w fun e w' => ∃ v', e = .returned v' ∧ w'.ownsRow w.heap.size 3 1 v' (([] : List K3).map f).length ((([] : List K3).map f).flatMap intC) ∧ Below w.heap.size w w' := by
  go_enter Tryz.func135, Tryz.ntmps135
  go_wp2
  refine wp_loop_rounds 1 ?_
  rw [rounds_succ]
  go_wp2
  go_ret
  exact ⟨_, rfl, ⟨rfl, .inl ⟨rfl, rfl⟩⟩, Below.refl _ _⟩
theorem turnKI_any (l : List K3) (f : K3 → Int) (g : Nat) (pre lb : Array Value) {v : Value} {w : World} {base : Nat} (hv : w.ownsRow base 76 3 v l.length (l.flatMap keyC)) (hl : l.length ≤ 1000) (eg : ∀ args w, (callFunc g args).run Tryz.prog w = .ok (.enter g args) w)
    (hp : ∀ m ∈ l, ∀ W, Below w.heap.size w W → Calls Tryz.prog g (pre ++ #[.agg #[.int .i64 m.id, .int .i64 m.inc, .int .i64 m.st]] ++ lb) W fun e w' => e = .returned (.int .i64 (f m)) ∧ Below W.heap.size W w') :
    Calls Tryz.prog 135 #[v, .func (.func g) pre lb] w fun e w' => ∃ v', e = .returned v' ∧ w'.ownsRow w.heap.size 3 1 v' (l.map f).length ((l.map f).flatMap intC) ∧ Below w.heap.size w w' := by
  have hv0 := hv
  rcases hv.2 with ⟨rfl, h0⟩ | ⟨b, cap, cur, rfl, hb, hg, _⟩
  · obtain rfl : l = [] := List.length_eq_zero_iff.1 h0
    exact turnKI_nil f _ w
  · exact turnKI_at l f g pre lb b 0 cap w (lt_blk hg) hl (rowK hv0) eg hp
end Go.Proofs.YtnneljcbelgoeaaGreatDoor.wire
/- A tick: present, isProbing, the end of a probe (P9). -/
namespace Go.Proofs.YtnneljcbelgoeaaGreatDoor.wire
open Go.RowKit Go.Maps

theorem idOf_any (k : K3) (W : World) : Calls Tryz.prog 138 #[.agg #[.int .i64 k.id, .int .i64 k.inc, .int .i64 k.st]] W fun e w' => e = .returned (.int .i64 k.id) ∧ Below W.heap.size W w' := by
  go_enter Tryz.func138, Tryz.ntmps138
  go_wp2
  go_ret
  exact ⟨rfl, (Below.refl _ _).alloc (Nat.le_refl _) _⟩
set_option maxHeartbeats 1000000 in
theorem present_any {x : Nd} (hx : NdOk x) {nb mb : Nat} {cb : Dk} {pv rv : Value} {W : World} (hn : NAt W nb mb cb pv rv x) :
    Calls Tryz.prog 101 #[.pointer (some ⟨nb, 0, none⟩)] W fun e w' => ∃ v, e = .returned v ∧ w'.ownsRow W.heap.size 3 1 v x.present.length (x.present.flatMap intC) ∧ Below W.heap.size W w' := by
  have hlen := hx.len
  have hlen1 : x.others.length ≤ 1000 := by
    unfold Nd.others
    rw [List.length_map]
    exact Nat.le_trans (List.length_filter_le _ _) (by omega)
  have hlen2 : (x.others.filter thereB).length ≤ 1000 := Nat.le_trans (List.length_filter_le _ _) hlen1
  have hE1 := enters_of Tryz.func137 (by kernel_rfl) rfl
  have hE2 := enters_of Tryz.func138 (by kernel_rfl) rfl
  have HM := hide (others_any hx hn)
  have hoth : x.present = (x.others.filter thereB).map K3.id := rfl
  rw [hoth]
  clear hx hn hoth
  go_enter Tryz.func101, Tryz.ntmps101
  go_wp2_with fail
  refine (unhide HM).mono ?_
  rintro e w1 ⟨v1, rfl, ho1, hb1⟩
  have HO1 := hide ho1
  have HB1 := hide hb1
  clear ho1 hb1 HM
  go_wp2_with fail
  refine (keepK_any x.others thereB 137 #[] #[] (unhide HO1) hlen1 hE1 (fun k W' _ => there_any k W')).mono ?_
  rintro e w2 ⟨v2, rfl, ho2, hb2⟩
  have HO2 := hide ho2
  have HB2 := hide ((unhide HB1).trans (hb2.mono (unhide HB1).size))
  clear ho2 hb2 HO1 HB1
  go_wp2_with fail
  refine (turnKI_any (x.others.filter thereB) K3.id 138 #[] #[] (unhide HO2) hlen2 hE2 (fun k _ W' _ => idOf_any k W')).mono ?_
  rintro e w3 ⟨v3, rfl, ho3, hb3⟩
  have HO3 := hide (own_mono ho3 (unhide HB2).size)
  have HB3 := hide ((unhide HB2).trans (hb3.mono (unhide HB2).size))
  clear ho3 hb3 HO2 HB2
  go_wp2
  go_ret
  exact ⟨v3, rfl, unhide HO3, unhide HB3⟩
theorem probing_any {x : Nd} {nb mb : Nat} {cb : Dk} {pv rv : Value} {W : World} (hn : NAt W nb mb cb pv rv x) :
    Calls Tryz.prog 97 #[.pointer (some ⟨nb, 0, none⟩)] W fun e w' => e = .returned (.bool (!(x.ptgt == 0))) ∧ Below W.heap.size W w' := by
  have c0 := hn.c_ptgt
  have hlt := hn.lt
  clear hn
  go_enter Tryz.func97, Tryz.ntmps97
  go_wp2
  go_ret
  exact ⟨rfl, Below.refl _ _⟩
end Go.Proofs.YtnneljcbelgoeaaGreatDoor.wire
/- A tick: the end of a probe (P9). -/
namespace Go.Proofs.YtnneljcbelgoeaaGreatDoor.wire
open Go.RowKit Go.Maps

/-- No probe is left. -/
theorem NAt.idle {W : World} {nb mb : Nat} {cb : Dk} {pv rv : Value} {x : Nd} (h : NAt W nb mb cb pv rv x) :
    NAt ((((W.setCell ⟨nb, 10, none⟩ (.int .i64 0)).setCell ⟨nb, 11, none⟩ (.int .i64 0)).setCell ⟨nb, 12, none⟩ (.int .i64 0)).setCell ⟨nb, 13, none⟩ (.bool false)) nb mb cb pv rv x.idle ∧ Frm [nb] W ((((W.setCell ⟨nb, 10, none⟩ (.int .i64 0)).setCell ⟨nb, 11, none⟩ (.int .i64 0)).setCell ⟨nb, 12, none⟩ (.int .i64 0)).setCell ⟨nb, 13, none⟩ (.bool false)) := by
  obtain ⟨a1, b1⟩ := h.set 10 (.int .i64 0) (x' := { x with ptgt := 0 }) rfl rfl rfl rfl rfl
  obtain ⟨a2, b2⟩ := a1.set 11 (.int .i64 0) (x' := { x with ptgt := 0, pnum := 0 }) rfl rfl rfl rfl rfl
  obtain ⟨a3, b3⟩ := a2.set 12 (.int .i64 0) (x' := { x with ptgt := 0, pnum := 0, pst := 0 }) rfl rfl rfl rfl rfl
  obtain ⟨a4, b4⟩ := a3.set 13 (.bool false) (x' := x.idle) rfl rfl rfl rfl rfl
  exact ⟨a4, ((b1.trans b2 (by simp)).trans b3 (by simp)).trans b4 (by simp)⟩
set_option maxHeartbeats 1000000 in
set_option maxRecDepth 100000 in
theorem endProbe_any {x : Nd} (hx : NdOk x) (hB : NdB Big x) {nb mb : Nat} {cb : Dk} {pv rv : Value} {W : World} (hn : NAt W nb mb cb pv rv x) :
    Calls Tryz.prog 99 #[.pointer (some ⟨nb, 0, none⟩)] W fun e w' => e = .returned (.tuple #[]) ∧ NTo W w' nb mb cb pv rv x.endProbe := by
  have q0 := hn.c_ptgt
  have q1 := hn.c_pnum
  have q2 := hn.c_pst
  have q3 := hn.c_pack
  have f0 := free_at hn.blk 10
  have f1 := free_at hn.blk 11
  have f2 := free_at hn.blk 12
  have f3 := free_at hn.blk 13
  have hlt := hn.lt
  have htgt : 0 ≤ x.ptgt ∧ x.ptgt ≤ 250 := by have := hx.pass.tgt; omega
  have hid := hn.idle
  have HID := hide hid
  have HX := hide hx
  have HB := hide hB
  obtain ⟨T, hT⟩ : ∃ T, T = atM x.ptgt x.tab := ⟨_, rfl⟩
  have HT := hide hT
  clear hn hx hB hid hT
  go_enter Tryz.func99, Tryz.ntmps99
  go_wp2
  generalize hw : ((((W.setCell ⟨nb, 10, none⟩ (.int .i64 0)).setCell ⟨nb, 11, none⟩ (.int .i64 0)).setCell ⟨nb, 12, none⟩ (.int .i64 0)).setCell ⟨nb, 13, none⟩ (.bool false)) = w0 at HID ⊢
  have hz0 : w0.heap.size = W.heap.size := by rw [← hw]; simp
  have HZ0 := hide hz0
  generalize hw1 : w0.alloc (.cells #[.int .i64 x.ptgt, .int .i64 x.pnum, .int .i64 x.pst, .bool x.pack] 119) = w1
  have hn1 : NAt w1 nb mb cb pv rv x.idle := by rw [← hw1]; exact (unhide HID).1.alloc _
  have hf1 : Frm [nb] W w1 := by rw [← hw1]; exact (unhide HID).2.alloc _
  have hbx : w1.heap[W.heap.size]? = some (.cells #[.int .i64 x.ptgt, .int .i64 x.pnum, .int .i64 x.pst, .bool x.pack] 119 (0, 0)) := by rw [← hw1, ← hz0]; exact heap_alloc_new w0 _
  clear hw hw1 HID hz0 HZ0 q0 q1 q2 q3 f0 f1 f2 f3
  have e0 := cell_at hbx 0
  have e3 := cell_at hbx 3
  simp only [List.getElem?_toArray, List.getElem?_cons_zero, List.getElem?_cons_succ] at e0 e3
  have c8 := hn1.c_map
  have hl0 := look_at hn1.map.drew (i := x.ptgt) (by omega) (by omega)
  have hl1 := fun o => look_at (hn1.alloc o).map.drew (i := x.ptgt) (by omega) (by omega)
  have hit : x.idle.tab = x.tab := rfl
  rw [hit, ← unhide HT] at hl0 hl1
  simp only [memv] at hl0 hl1
  have hfk := field_key
  have l1 := lt_blk hbx
  have l2 := hn1.lt
  have HN1 := hide hn1
  have HF1 := hide hf1
  have HBX := hide hbx
  clear hn1 hf1 hbx hit
  go_region
  all_goals
    clear hl0 hl1 hfk c8 e0 e3
    generalize hw2 : (w1.alloc (.cells #[.int .i64 T.k.id, .int .i64 T.k.inc, .int .i64 T.k.st] 76)).drew = w2
    have hn2 : NAt w2 nb mb cb pv rv x.idle := by rw [← hw2]; exact ((unhide HN1).alloc _).drew
    have hf2 : Frm [nb] W w2 := by rw [← hw2]; exact (unhide HF1).step (bdrew ((Below.refl _ _).alloc (Nat.le_refl _) _))
    have hk2 : w2.heap[w1.heap.size]? = some (.cells #[.int .i64 T.k.id, .int .i64 T.k.inc, .int .i64 T.k.st] 76 (0, 0)) := by rw [← hw2]; exact heap_alloc_new w1 _
    have hx2 : w2.heap[W.heap.size]? = some (.cells #[.int .i64 x.ptgt, .int .i64 x.pnum, .int .i64 x.pst, .bool x.pack] 119 (0, 0)) := by rw [← hw2]; exact (Below.heap_alloc w1 _ _ l1).trans (unhide HBX)
    have e3 := cell_at hx2 3
    have k0 := cell_at hk2 0
    have k1 := cell_at hk2 1
    have k2 := cell_at hk2 2
    have kf := free_at hk2 2
    simp only [List.getElem?_toArray, List.getElem?_cons_zero, List.getElem?_cons_succ] at e3 k0 k1 k2
    have hk3 := heap_setCell_same w2 w1.heap.size 2 _ _ (.int .i64 2) hk2
    have b0 := cell_at hk3 0
    have b1 := cell_at hk3 1
    have b2 := cell_at hk3 2
    simp only [List.setIfInBounds_toArray, List.set_cons_succ, List.set_cons_zero, List.getElem?_toArray, List.getElem?_cons_zero, List.getElem?_cons_succ] at b0 b1 b2
    have hft2 : Frm (feet nb mb cb pv rv) W w2 := (Frm.refl _ W).trans hf2 (by simp [feet])
    have hto2 : NTo W w2 nb mb cb pv rv x.idle := ⟨pv, rv, hn2, hft2, fun j hj => .inl hj⟩
    have hfk3 : Frm [w1.heap.size] w2 (w2.setCell ⟨w1.heap.size, 2, none⟩ (.int .i64 2)) := by
      have hb := (Below.refl 0 w2).setCell (p := ⟨w1.heap.size, 2, none⟩) (Nat.zero_le _) (.int .i64 2)
      exact ⟨hb.os, hb.tape, hb.output, hb.size, fun k _ hk => heap_setCell_other w2 ⟨w1.heap.size, 2, none⟩ k _ (by simpa using hk)⟩
    have hn3 : NAt (w2.setCell ⟨w1.heap.size, 2, none⟩ (.int .i64 2)) nb mb cb pv rv x.idle := hn2.frm hfk3 (fun k hk => by
      have := (unhide HN1).feet_lt k hk
      simp; omega)
    have hf3 : Frm (feet nb mb cb pv rv) W (w2.setCell ⟨w1.heap.size, 2, none⟩ (.int .i64 2)) := hft2.trans hfk3 (by simp; omega)
    have HN3 := hide hn3
    have HF3 := hide hf3
    have HTO := hide hto2
    clear hw2 hn2 hf2 hk2 hx2 hk3 hft2 hto2 hfk3 hn3 hf3 HN1 HF1 HBX
    rcases hp : x.pack with _ | _
    · rw [hp] at e3
      by_cases hs : T.k.st = 1
      · have hs' : (T.k.st == 1) = true := by simp [hs]
        have hep : x.endProbe = x.idle.hear ⟨T.k.id, T.k.inc, 2⟩ := by
          have h := unhide HT
          rw [h] at hs ⊢
          simp [Nd.endProbe, hp, hs]
        have hky : isKeyB ⟨T.k.id, T.k.inc, 2⟩ = true := by
          have h := unhide HT
          rw [h] at hs ⊢
          exact sus_key (unhide HX) hs
        have HC := hide (hear_any (idle_ok (unhide HX)) (idle_b (unhide HB)) (unhide HN3) ⟨T.k.id, T.k.inc, 2⟩ hky)
        rw [← hep] at HC
        clear hep hky
        go_wp2_with fail
        refine (unhide HC).mono ?_
        rintro e w4 ⟨rfl, h4⟩
        have H4 := hide (NTo.trans (unhide HF3) (fun k hk => .inl hk) h4)
        clear h4 HC b0 b1 b2 k0 k1 k2 kf e3
        go_wp2
        go_end0
        exact ⟨rfl, unhide H4⟩
      · have hs' : (T.k.st == 1) = false := by simp [hs]
        have hep : x.endProbe = x.idle := by
          have h := unhide HT
          rw [h] at hs
          simp [Nd.endProbe, hs]
        go_wp2
        refine bodyPost_ret (results_none rfl _ _ _) rfl ?_
        rw [hep]
        exact ⟨rfl, unhide HTO⟩
    · rw [hp] at e3
      have hep : x.endProbe = x.idle := by simp [Nd.endProbe, hp]
      go_wp2
      refine bodyPost_ret (results_none rfl _ _ _) rfl ?_
      rw [hep]
      exact ⟨rfl, unhide HTO⟩
end Go.Proofs.YtnneljcbelgoeaaGreatDoor.wire
/- A draw (P9): the function that a node keeps. -/
namespace Go.Proofs.YtnneljcbelgoeaaGreatDoor.wire
open Go.RowKit Go.Maps

/-- The count of draws is written. -/
theorem NAt.setDat {W : World} {nb mb : Nat} {cb : Dk} {pv rv : Value} {x : Nd} (h : NAt W nb mb cb pv rv x) (n : Nat) :
    NAt (W.setCell ⟨cb.ab, 0, none⟩ (.int .i64 n)) nb mb cb pv rv { x with dat := n } ∧ Frm [cb.ab] W (W.setCell ⟨cb.ab, 0, none⟩ (.int .i64 n)) := by
  have hf : Frm [cb.ab] W (W.setCell ⟨cb.ab, 0, none⟩ (.int .i64 n)) := by
    have hb := (Below.refl 0 W).setCell (p := ⟨cb.ab, 0, none⟩) (Nat.zero_le _) (.int .i64 n)
    exact ⟨hb.os, hb.tape, hb.output, hb.size, fun k _ hk => heap_setCell_other W ⟨cb.ab, 0, none⟩ k _ (by simpa using hk)⟩
  obtain ⟨n1, n2, n3⟩ := h.not_draw
  simp only [Dk.all, List.mem_cons, not_or] at n1 n2 n3
  obtain ⟨s, r, hc⟩ := h.chan
  refine ⟨⟨(hf.block nb h.lt (by simpa using n1.2.1)).trans h.blk, map_frm h.map hf (by simpa using n2.2.1), ⟨s, r, (hf.block cb.c h.lt_cb (by simpa using n3.2.1)).trans hc⟩, h.pass.frm hf (fun k hk e => h.draw.sepp (by simp at e; rw [← e]; exact hk)), own_frm h.rel hf (fun k hk e => h.rel_draw hk (by simp at e; simp [Dk.all, e])), ⟨?_, ?_, own_frm h.draw.row hf (fun k hk e => h.draw.sep (by simp at e; rw [← e]; exact hk)), h.draw.sep, h.draw.sepp⟩⟩, hf⟩
  · refine (hf.block cb.ob (heap_lt h.draw.ob) ?_).trans h.draw.ob
    simp only [List.mem_singleton]
    intro e
    have h1 := h.draw.ob
    rw [e, h.draw.ab] at h1
    injection h1 with h1
    injection h1 with _ h2
    exact absurd h2 (by decide)
  · rw [heap_setCell_same W cb.ab 0 _ _ _ h.draw.ab]; rfl
set_option maxHeartbeats 1000000 in
set_option maxRecDepth 100000 in
theorem draw_any {x : Nd} (hdl : DlOk x.dl) (hB : NdB Big x) {nb mb : Nat} {cb : Dk} {pv rv : Value} {W : World} (hn : NAt W nb mb cb pv rv x) (n : Int) (hn0 : 1 ≤ n) (hn1 : n ≤ 1000000) :
    Calls Tryz.prog 83 #[.int .i64 n, .pointer (some ⟨cb.ob, 0, none⟩), .pointer (some ⟨cb.ab, 0, none⟩)] W fun e w' => e = .returned (.int .i64 (x.drawn n)) ∧ NAt w' nb mb cb pv rv (x.drew n) ∧ Frm [cb.ab] W w' := by
  have ho := cell_at hn.draw.ob 0
  have ha := cell_at hn.draw.ab 0
  have fa := free_at hn.draw.ab 0
  simp only [List.getElem?_toArray, List.getElem?_cons_zero] at ho ha
  obtain ⟨ao, cap, hov⟩ := own_form hn.draw.row
  rw [hov] at ho
  have hb1 := hB.tk.2
  unfold Big at hb1
  have hl := hdl.len
  have HN := hide hn
  by_cases h0 : x.dl.length = 0
  · have e1 : x.drawn n = 0 := by simp [Nd.drawn, Nd.mute, h0]
    have e2 : x.drew n = x := by simp [Nd.drew, Nd.mute, h0]
    rw [e1, e2]
    rw [h0] at ho
    clear hn hB hdl
    go_enter Tryz.func83, Tryz.ntmps83
    go_wp2
    go_ret
    exact ⟨rfl, unhide HN, Frm.refl _ _⟩
  · have hm : x.mute n = false := by simp [Nd.mute, h0]; omega
    have e1 : x.drawn n = drawZ x.dl x.dat n := by simp [Nd.drawn, hm]
    have e2 : x.drew n = { x with dat := x.dat + 1 } := by simp [Nd.drew, hm]
    rw [e1, e2]
    have hmod : x.dat % x.dl.length < x.dl.length := Nat.mod_lt _ (by omega)
    have hrow := hn.draw.row
    rcases hrow.2 with ⟨e3, e4⟩ | ⟨g, cap', cur, e3, _, hg, _, _, _, h4⟩
    · exact absurd e4 h0
    · rw [hov] at e3
      cases e3
      have hcell : W.cell? ⟨g, x.dat % x.dl.length, none⟩ = some (.int .i64 (x.dl.getD (x.dat % x.dl.length) 0)) := by
        have := congrArg (fun q => q[x.dat % x.dl.length]?) h4
        simp only [flat_int, List.getElem?_eq_getElem hmod, Option.map_some, List.getElem?_take, Nat.mul_one, if_pos hmod] at this
        rw [cell_at hg, List.getD_eq_getElem?_getD, List.getElem?_eq_getElem hmod, Option.getD_some]
        simpa using this
      have hr := hdl.rng _ (List.getElem_mem hmod)
      have hgd : x.dl.getD (x.dat % x.dl.length) 0 = x.dl[x.dat % x.dl.length] := by rw [List.getD_eq_getElem?_getD, List.getElem?_eq_getElem hmod, Option.getD_some]
      have hs := fun q => (hn.drewN q).setDat (x.dat + 1)
      rw [show ((x.dat + 1 : Nat) : Int) = (x.dat : Int) + 1 by simp] at hs
      have HS := hide hs
      clear hs
      have hdz : drawZ x.dl x.dat n = (if x.dl.getD (x.dat % x.dl.length) 0 < 0 then -(x.dl.getD (x.dat % x.dl.length) 0 + 1) else x.dl.getD (x.dat % x.dl.length) 0).tmod n := rfl
      rw [hdz]
      rw [← hgd] at hr
      generalize x.dl.getD (x.dat % x.dl.length) 0 = z at hcell hr ⊢
      have htm : ((x.dat : Int).tmod (x.dl.length : Int)) = ((x.dat % x.dl.length : Nat) : Int) := by
        rw [Int.tmod_eq_emod_of_nonneg (by omega)]; simp
      have hlen0 : ((x.dl.length : Int) == 0) = false := by rw [beq_eq_false_iff_ne]; omega
      have hnl : ¬ n < 1 := by omega
      have hnz : (n == 0) = false := by simp; omega
      have hmi : ((x.dat % x.dl.length : Nat) : Int) < (x.dl.length : Int) := Int.ofNat_lt.2 hmod
      generalize x.dat % x.dl.length = M at hcell htm hmi hmod
      clear hn hB hdl hrow h4 hg e1 e2 hm hdz hgd
      by_cases hz : z < 0
      all_goals
        go_enter Tryz.func83, Tryz.ntmps83
        go_wp2
        go_quiet (fail)
        go_wp2
        go_ret
      · exact ⟨rfl, ((unhide HS) _).1, (Frm.of_below (S := [cb.ab]) (bdrewN (Below.refl _ _) _) (Nat.le_refl _)).trans ((unhide HS) _).2 (fun j hj => .inl hj)⟩
      · exact ⟨by rw [Int.tmod_eq_emod_of_nonneg (by omega)]; rfl, ((unhide HS) _).1, (Frm.of_below (S := [cb.ab]) (bdrewN (Below.refl _ _) _) (Nat.le_refl _)).trans ((unhide HS) _).2 (fun j hj => .inl hj)⟩
end Go.Proofs.YtnneljcbelgoeaaGreatDoor.wire
/- A tick: the order of a pass (P9). -/
namespace Go.Proofs.YtnneljcbelgoeaaGreatDoor.wire
open Go.RowKit Go.Maps

/-- Numbers at the head of a block. -/
structure IntsAt (w : World) (g : Nat) (n : Nat) (l : List Int) : Prop where
  ex : ∃ cur, w.heap[g]? = some (.cells cur 3 (0, 0)) ∧ cur.size = n ∧ ∀ (i : Nat) (h : i < l.length), cur[i]? = some (.int .i64 l[i])
theorem IntsAt.cell {w : World} {g n : Nat} {l : List Int} (h : IntsAt w g n l) (i : Nat) (hi : i < l.length) : w.cell? ⟨g, i, none⟩ = some (.int .i64 (l.getD i 0)) := by
  obtain ⟨cur, hg, _, hc⟩ := h.ex
  rw [cell_at hg, hc i hi, List.getD_eq_getElem?_getD, List.getElem?_eq_getElem hi, Option.getD_some]
theorem IntsAt.frm {S : List Nat} {w w' : World} {g n : Nat} {l : List Int} (h : IntsAt w g n l) (hf : Frm S w w') (hg : g ∉ S) : IntsAt w' g n l := by
  obtain ⟨cur, hb, hs, hc⟩ := h.ex
  exact ⟨cur, (hf.block g (lt_blk hb) hg).trans hb, hs, hc⟩
theorem IntsAt.set {w : World} {g n : Nat} {l : List Int} (h : IntsAt w g n l) (i : Nat) (hi : i < l.length) (z : Int) : IntsAt (w.setCell ⟨g, i, none⟩ (.int .i64 z)) g n (l.set i z) := by
  obtain ⟨cur, hb, hs, hc⟩ := h.ex
  refine ⟨cur.setIfInBounds i (.int .i64 z), heap_setCell_same w g i _ _ _ hb, by simp [hs], fun j hj => ?_⟩
  have hj' : j < l.length := by simpa using hj
  have hlt : i < cur.size := by
    have := hc i hi
    exact (Array.getElem?_eq_some_iff.1 this).1
  rw [Array.getElem?_setIfInBounds]
  by_cases e : i = j
  · subst e; simp [hlt]
  · rw [if_neg e, List.getElem_set_ne e]; exact hc j hj'
theorem IntsAt.lt {w : World} {g n : Nat} {l : List Int} (h : IntsAt w g n l) : g < w.heap.size := by obtain ⟨cur, hb, _⟩ := h.ex; exact lt_blk hb
theorem IntsAt.free {w : World} {g n : Nat} {l : List Int} (h : IntsAt w g n l) (i : Nat) : w.frozen? ⟨g, i, none⟩ = false := by obtain ⟨cur, hb, _⟩ := h.ex; exact free_at hb i
theorem set_frm (w : World) (g i : Nat) (v : Value) : Frm [g] w (w.setCell ⟨g, i, none⟩ v) := by
  have hb := (Below.refl 0 w).setCell (p := ⟨g, i, none⟩) (Nat.zero_le _) v
  exact ⟨hb.os, hb.tape, hb.output, hb.size, fun k _ hk => heap_setCell_other w ⟨g, i, none⟩ k v (by simpa using hk)⟩
theorem swap_at {S : List Nat} {W w1 : World} {nb mb : Nat} {cb : Dk} {pv rv : Value} {y : Nd} {g n : Nat} {L : List Int} (hn : NAt w1 nb mb cb pv rv y) (hg : IntsAt w1 g n L) (hf : Frm S W w1) (hS : g ∈ S) (hgf : g ∉ feet nb mb cb pv rv) (a b : Nat) (ha : a < L.length) (hb : b < L.length) {A1 A2 : Int} (h1 : L.getD a 0 = A1) (h2 : L.getD b 0 = A2) :
    NAt ((w1.setCell ⟨g, a, none⟩ (.int .i64 A2)).setCell ⟨g, b, none⟩ (.int .i64 A1)).drew nb mb cb pv rv y ∧ IntsAt ((w1.setCell ⟨g, a, none⟩ (.int .i64 A2)).setCell ⟨g, b, none⟩ (.int .i64 A1)).drew g n (swapL L a b) ∧ Frm S W ((w1.setCell ⟨g, a, none⟩ (.int .i64 A2)).setCell ⟨g, b, none⟩ (.int .i64 A1)).drew := by
  have hff : Frm [g] w1 ((w1.setCell ⟨g, a, none⟩ (.int .i64 A2)).setCell ⟨g, b, none⟩ (.int .i64 A1)).drew := by
    have := (set_frm w1 g a (.int .i64 A2)).trans (set_frm _ g b (.int .i64 A1)) (fun j hj => .inl hj)
    exact ⟨this.os, this.tape, this.output, this.size, this.block⟩
  refine ⟨hn.frm hff (fun k hk e => hgf (by simp at e; rw [← e]; exact hk)), ?_, hf.trans hff (by simp [hS])⟩
  have h3 := (hg.set a ha A2).set b (by simpa using hb) A1
  have e : swapL L a b = (L.set a A2).set b A1 := by unfold swapL; rw [h1, h2]
  rw [e]
  exact ⟨h3.ex⟩
set_option maxHeartbeats 2000000 in
set_option maxRecDepth 100000 in
theorem mixed_any {x : Nd} (hdl : DlOk x.dl) (hB : NdB Bg x) {nb mb : Nat} {cb : Dk} {pv rv : Value} {W : World} (hn : NAt W nb mb cb pv rv x) (l : List Int) (hl : l.length ≤ 500) (hl0 : 1 ≤ l.length) {g n cap : Nat} (hg : IntsAt W g n l) (hgf : g ∉ feet nb mb cb pv rv) (_hcap : l.length ≤ cap) :
    Calls Tryz.prog 100 #[.pointer (some ⟨nb, 0, none⟩), .slice (some ⟨g, 0, none⟩) l.length cap] W fun e w' => e = .returned (.slice (some ⟨g, 0, none⟩) l.length cap) ∧ NAt w' nb mb cb pv rv (x.mixed l).2 ∧ IntsAt w' g n (x.mixed l).1 ∧ Frm [cb.ab, g] W w' := by
  have HN := hide hn
  have HG := hide hg
  have HB := hide hB
  have HDL := hide hdl
  have hgl := hg.lt
  have hnl := hn.lt
  have hab : g ≠ cb.ab := fun e => hgf (by simp [feet, Dk.all, e])
  have hgn : g ≠ nb := fun e => hgf (by simp [feet, e])
  clear hn hg hB hdl
  obtain ⟨K0, hK0⟩ : ∃ K0 : Nat, l.length = K0 + 1 := ⟨l.length - 1, by omega⟩
  have hmx : x.mixed l = x.mixFrom K0 l := by unfold Nd.mixed; rw [hK0]; rfl
  rw [hmx]
  have e1 : ((l.length : Int) - 1) = (K0 : Int) := by omega
  have HK0 := hide hK0
  clear hmx hK0
  go_enter Tryz.func100, Tryz.ntmps100
  go_wp2
  go_loopw [5] (fun i wr => ∃ (k : Nat) (L : List Int) (y : Nd), i = .int .i64 k ∧ k ≤ K0 ∧ L.length = l.length ∧ Hid (y.mixFrom k L = x.mixFrom K0 l) ∧ Hid (NAt wr nb mb cb pv rv y) ∧ Hid (IntsAt wr g n L) ∧ Hid (Frm [cb.ab, g] W wr) ∧ Hid (y.dl = x.dl ∧ NdB (Bg + (K0 - k)) y)) (fun i _ => (Go.RowKit.intOf i).toNat)
  case atStart => exact ⟨K0, l, x, by go_num, Nat.le_refl _, rfl, rfl, HN, HG, Frm.refl _ _, rfl, (unhide HB).mono (by omega)⟩
  case round =>
    obtain ⟨k, L, y, rfl, hk, hL, HE, HN1, HG1, HF1, HD1⟩ := hrel
    have hkl : k < l.length := by have := unhide HK0; omega
    have HLL := hide hL
    by_cases h1 : 1 ≤ k
    · obtain ⟨k', rfl⟩ : ∃ k', k = k' + 1 := ⟨k - 1, by omega⟩
      have c6 := (unhide HN1).c_draw
      simp only [Dk.fn] at c6
      have l6 := (unhide HN1).lt
      obtain ⟨hyd, hyb⟩ := unhide HD1
      have HC := hide (draw_any (by rw [hyd]; exact unhide HDL) (hyb.mono (by unfold Bg Big; omega)) (unhide HN1) ((k' : Int) + 2) (by omega) (by omega))
      have hbd := drawn_bd y (n := (k' : Int) + 2) (by omega)
      obtain ⟨J, hJ⟩ : ∃ J : Nat, y.drawn ((k' : Int) + 2) = (J : Int) := ⟨(y.drawn ((k' : Int) + 2)).toNat, by omega⟩
      have hJl : J < L.length := by omega
      have hEq : y.mixFrom (k' + 1) L = (y.drew ((k' : Int) + 2)).mixFrom k' (swapL L (k' + 1) J) := by
        show (y.drew ((k' : Int) + 2)).mixFrom k' (swapL L (k' + 1) (y.drawn ((k' : Int) + 2)).toNat) = _
        rw [hJ]; rfl
      have HE2 := hide (hEq.symm.trans (unhide HE))
      rw [hJ] at HC
      have hk2 : ((k' + 1 : Nat) : Int) + 1 = (k' : Int) + 2 := by omega
      have h1' : (1 : Int) ≤ ((k' + 1 : Nat) : Int) := by omega
      have hDB := drew_b hyb ((k' : Int) + 2)
      have hDD : (y.drew ((k' : Int) + 2)).dl = x.dl := by
        obtain ⟨m, e, _⟩ := drew_ex y ((k' : Int) + 2)
        rw [e]; exact hyd
      have HDB := hide hDB
      have HDD := hide hDD
      clear hEq hbd hyd hyb hDB hDD HE HD1
      go_wp2_with fail
      refine (unhide HC).mono ?_
      rintro e w1 ⟨rfl, hn1, hf1⟩
      have hg1 := (unhide HG1).frm hf1 (by simpa using hab)
      have HF2 := hide ((unhide HF1).trans hf1 (by simp))
      have HN2 := hide hn1
      have HG2 := hide hg1
      have a1 := hg1.cell (k' + 1) (by omega)
      have a2 := hg1.cell J hJl
      have b1 := hg1.free (k' + 1)
      have b2 := hg1.free J
      have lg := hg1.lt
      obtain ⟨A1, hA1⟩ : ∃ A1, L.getD (k' + 1) 0 = A1 := ⟨_, rfl⟩
      obtain ⟨A2, hA2⟩ : ∃ A2, L.getD J 0 = A2 := ⟨_, rfl⟩
      rw [hA1] at a1
      rw [hA2] at a2
      have hA := hide (And.intro hA1 hA2)
      have i1 : (k' : Int) + 1 < (l.length : Int) := by omega
      have i2 : (J : Int) < (l.length : Int) := by omega
      have i3 : ((k' : Int) + 1).toNat = k' + 1 := by omega
      clear hn1 hf1 hg1 HC c6 HN1 HG1 HF1 hA1 hA2
      by_cases hkj : k' + 1 = J
      · subst hkj
        go_wp2
        go_region
        have hsw := swap_at (unhide HN2) (unhide HG2) (unhide HF2) (by simp) hgf (k' + 1) (k' + 1) (by omega) (by omega) (unhide hA).1 (unhide hA).1
        have HSW := hide hsw
        clear hsw HN2 HG2 HF2 a1 a2 b1 b2
        generalize ((w1.setCell ⟨g, k' + 1, none⟩ (.int .i64 A1)).setCell ⟨g, k' + 1, none⟩ (.int .i64 A1)).drew = w3 at HSW ⊢
        go_wp2
        go_roundw
        case rel => exact ⟨k', _, _, by go_num, by omega, by rw [swapL_len, hL], HE2, hide (unhide HSW).1, hide (unhide HSW).2.1, hide (unhide HSW).2.2, hide ⟨unhide HDD, (unhide HDB).mono (by omega)⟩⟩
        case measure => simp [Go.RowKit.intOf]
      · have hkj2 : ¬ J = k' + 1 := fun h => hkj h.symm
        go_wp2
        go_region
        have hsw := swap_at (unhide HN2) (unhide HG2) (unhide HF2) (by simp) hgf (k' + 1) J (by omega) (by omega) (unhide hA).1 (unhide hA).2
        have HSW := hide hsw
        clear hsw HN2 HG2 HF2 a1 a2 b1 b2
        generalize ((w1.setCell ⟨g, k' + 1, none⟩ (.int .i64 A2)).setCell ⟨g, J, none⟩ (.int .i64 A1)).drew = w3 at HSW ⊢
        go_wp2
        go_roundw
        case rel => exact ⟨k', _, _, by go_num, by omega, by rw [swapL_len, hL], HE2, hide (unhide HSW).1, hide (unhide HSW).2.1, hide (unhide HSW).2.2, hide ⟨unhide HDD, (unhide HDB).mono (by omega)⟩⟩
        case measure => simp [Go.RowKit.intOf]
    · obtain rfl : k = 0 := by omega
      go_wp2
      go_ret
      rw [← unhide HE]
      exact ⟨rfl, unhide HN1, unhide HG1, unhide HF1⟩
end Go.Proofs.YtnneljcbelgoeaaGreatDoor.wire
/- A tick: the next one is probed (P9). -/
namespace Go.Proofs.YtnneljcbelgoeaaGreatDoor.wire
open Go.RowKit Go.Maps

theorem IntsAt.of_own {w : World} {base g cap : Nat} {l : List Int} (h : w.ownsRow base 3 1 (.slice (some ⟨g, 0, none⟩) l.length cap) l.length (l.flatMap intC)) : IntsAt w g cap l ∧ base ≤ g ∧ l.length ≤ cap ∧ cap ≤ maxLen := by
  rcases h.2 with ⟨e, _⟩ | ⟨g', cap', cur, e, hb, hg, h1, h2, h3, h4⟩
  · cases e
  · cases e
    refine ⟨⟨cur, hg, by omega, fun i hi => ?_⟩, hb, h1, h2⟩
    have := congrArg (fun q => q[i]?) h4
    simp only [flat_int, List.getElem?_eq_getElem hi, Option.map_some, List.getElem?_take, Nat.mul_one, if_pos hi] at this
    simpa using this
theorem IntsAt.pass {w : World} {g n cap : Nat} {l : List Int} (h : IntsAt w g n l) (h1 : l.length ≤ cap) (h2 : cap ≤ maxLen) : PassAt w (.slice (some ⟨g, 0, none⟩) l.length cap) l := by
  obtain ⟨cur, hg, _, hc⟩ := h.ex
  exact .inr ⟨g, 0, cap, cur, rfl, hg, h1, h2, fun i hi => by simpa using hc i hi⟩
/-- mixed of what present gives. -/
theorem mixed_row {x : Nd} (hdl : DlOk x.dl) (hB : NdB Bg x) {nb mb : Nat} {cb : Dk} {pv rv : Value} {W : World} (hn : NAt W nb mb cb pv rv x) (l : List Int) (hl : l.length ≤ 500) {v : Value} {base : Nat} (ho : W.ownsRow base 3 1 v l.length (l.flatMap intC)) (hbase : ∀ k ∈ feet nb mb cb pv rv, k < base) :
    Calls Tryz.prog 100 #[.pointer (some ⟨nb, 0, none⟩), v] W fun e w' => e = .returned v ∧ NAt w' nb mb cb pv rv (x.mixed l).2 ∧ PassAt w' v (x.mixed l).1 ∧ Frm (cb.ab :: v.ownBlock.toList) W w' := by
  by_cases h0 : 1 ≤ l.length
  · rcases ho.2 with ⟨_, e0⟩ | ⟨g, cap, cur, rfl, hb, hg, h1, h2, h3, h4⟩
    · omega
    obtain ⟨hi, hb', h1', h2'⟩ := IntsAt.of_own ho
    refine (mixed_any hdl hB hn l hl h0 hi (fun hk => by have := hbase g hk; omega) h1).mono ?_
    rintro e w' ⟨rfl, hn', hi', hf'⟩
    refine ⟨rfl, hn', ?_, hf'⟩
    have hlen := (mixed_perm x l).length_eq
    rw [← hlen]
    exact hi'.pass (by omega) h2'
  · obtain rfl : l = [] := List.length_eq_zero_iff.1 (by omega)
    have e1 : x.mixed [] = ([], x) := rfl
    rw [e1]
    obtain ⟨ao, cap, rfl⟩ := own_form ho
    have hp := PassAt.of_own ho
    have HN := hide hn
    have HP := hide hp
    clear hn ho hB hdl hp hbase e1
    go_enter Tryz.func100, Tryz.ntmps100
    go_wp2
    refine wp_loop_rounds 1 ?_
    rw [rounds_succ]
    go_wp2
    go_ret
    exact ⟨rfl, unhide HN, unhide HP, Frm.refl _ _⟩
end Go.Proofs.YtnneljcbelgoeaaGreatDoor.wire
