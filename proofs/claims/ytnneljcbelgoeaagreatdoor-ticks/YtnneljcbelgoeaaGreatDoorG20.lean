import Derived.Test.YtnneljcbelgoeaaGreatDoorG10
import Derived.Test.YtnneljcbelgoeaaGreatDoorG17
import Derived.Test.YtnneljcbelgoeaaGreatDoorG07
import Derived.Test.YtnneljcbelgoeaaGreatDoorG09
import Derived.BigRegion
import Derived.Test.YtnneljcbelgoeaaGreatDoorG08
/- A tick: suspects whose time is up (P9). -/
namespace Go.Proofs.YtnneljcbelgoeaaGreatDoor.wire
open Go.RowKit Go.Maps

set_option maxHeartbeats 1000000 in
set_option maxRecDepth 100000 in
theorem over_any {x : Nd} {nb mb : Nat} {cb : Dk} {pv rv : Value} {W : World} (hn : NAt W nb mb cb pv rv x) (m : Mem) :
    Calls Tryz.prog 96 #[.pointer (some ⟨nb, 0, none⟩), memv m] W fun e w' => e = .returned (.bool (overB x.clock m)) ∧ Below W.heap.size W w' := by
  have c1 := hn.c_clock
  have l1 := hn.lt
  clear hn
  by_cases h : m.k.st = 2
  · have h1 : (m.k.st == 2) = true := by simp [h]
    have e1 : overB x.clock m = decide (m.due ≤ x.clock) := by simp [overB, h]
    rw [e1]
    go_enter Tryz.func96, Tryz.ntmps96
    go_wp2
    go_quiet (fail)
    go_wp2
    go_ret
    exact ⟨rfl, bdrewN ((Below.refl _ _).alloc (Nat.le_refl _) _) _⟩
  · have h1 : (m.k.st == 2) = false := by simp [h]
    have e1 : overB x.clock m = false := by simp [overB, h]
    rw [e1]
    go_enter Tryz.func96, Tryz.ntmps96
    go_wp2
    go_quiet (fail)
    go_wp2
    go_ret
    exact ⟨rfl, bdrewN ((Below.refl _ _).alloc (Nat.le_refl _) _) _⟩
/-- What stands while suspects are ended. -/
structure EsI (W wr : World) (nb mb : Nat) (cb : Dk) (pv rv : Value) (l : List Mem) (v : Value) (y : Nd) : Prop where
  nto : NTo W wr nb mb cb pv rv y
  row : wr.ownsRow W.heap.size 150 5 v l.length (l.flatMap memC)
theorem EsI.below {W wr w' : World} {nb mb : Nat} {cb : Dk} {pv rv : Value} {l : List Mem} {v : Value} {y : Nd} (h : EsI W wr nb mb cb pv rv l v y) (hb : Below wr.heap.size wr w') : EsI W w' nb mb cb pv rv l v y := by
  obtain ⟨pv1, rv1, hn, hf, hs⟩ := h.nto
  exact ⟨⟨pv1, rv1, hn.below hb, hf.step hb, hs⟩, own_below2 h.row hb⟩
theorem EsI.hear {W wr : World} {nb mb : Nat} {cb : Dk} {pv rv : Value} {l : List Mem} {v : Value} {y : Nd} (h : EsI W wr nb mb cb pv rv l v y) (hy : NdOk y) (hB : NdB Big y) (k : K3) (hk : isKeyB k = true) :
    Calls Tryz.prog 84 #[.pointer (some ⟨nb, 0, none⟩), .agg #[.int .i64 k.id, .int .i64 k.inc, .int .i64 k.st]] wr fun e w' => e = .returned (.tuple #[]) ∧ EsI W w' nb mb cb pv rv l v (y.hear k) := by
  obtain ⟨pv1, rv1, hn, hf, hs⟩ := h.nto
  refine (hear_any hy hB hn k hk).mono ?_
  rintro e w' ⟨rfl, hto⟩
  refine ⟨rfl, ?_⟩
  have hr := h.row
  obtain ⟨pv2, rv2, hn2, hf2, hs2⟩ := hto
  refine ⟨NTo.trans hf hs ⟨pv2, rv2, hn2, hf2, hs2⟩, own_frm hr hf2 (fun k hk => ?_)⟩
  obtain ⟨cs, hcs⟩ := own_blk hr hk
  exact hn.not_feet hcs (by decide) (by decide) (by decide) (by decide)
theorem deads_snoc (x : Nd) (l : List Mem) (k : Nat) (h : k < l.length) : (l.take (k + 1)).foldl (fun y m => y.hear m.dead) x = ((l.take k).foldl (fun y m => y.hear m.dead) x).hear l[k].dead := by
  rw [List.take_succ_eq_append_getElem h, List.foldl_append]; rfl
set_option maxHeartbeats 2000000 in
set_option maxRecDepth 100000 in
theorem endSuspects_any {x : Nd} (hx : NdOk x) (hB : NdB Bg x) {nb mb : Nat} {cb : Dk} {pv rv : Value} {W : World} (hn : NAt W nb mb cb pv rv x) :
    Calls Tryz.prog 69 #[.pointer (some ⟨nb, 0, none⟩)] W fun e w' => e = .returned (.tuple #[]) ∧ NTo W w' nb mb cb pv rv x.endSuspects := by
  have hlen := hx.len
  have HM := hide (members_any hx hn)
  have HN := hide hn
  have hE1 := enters_of Tryz.func96 (by kernel_rfl) rfl
  obtain ⟨l, hL⟩ : ∃ l, l = x.tab.filter (overB x.clock) := ⟨_, rfl⟩
  have he : x.endSuspects = l.foldl (fun y m => y.hear m.dead) x := by rw [hL]; rfl
  have hkeys : ∀ m ∈ x.tab.filter (overB x.clock), isKeyB m.k = true := fun m hm => hx.keys m (List.mem_filter.1 hm).1
  have hl8 : (x.tab.filter (overB x.clock)).length ≤ 8 := Nat.le_trans (List.length_filter_le _ _) hlen
  have HX := hide hx
  have HB := hide hB
  rw [he]
  rw [← hL] at hkeys hl8
  have HL := hide hL
  clear hx hn hB he hL
  go_enter Tryz.func69, Tryz.ntmps69
  go_wp2_with fail
  refine (unhide HM).mono ?_
  rintro e w1 ⟨v1, rfl, ho1, hb1⟩
  have HO1 := hide ho1
  have HB1 := hide hb1
  clear ho1 hb1 HM
  go_wp2_with fail
  refine (keepM_any x.tab (overB x.clock) 96 #[.pointer (some ⟨nb, 0, none⟩)] #[] (unhide HO1) (by omega) hE1 (fun m W' hW' => over_any (((unhide HN).below (unhide HB1)).below hW') m)).mono ?_
  rintro e w2 ⟨v2, rfl, ho2, hb2⟩
  rw [← unhide HL] at ho2
  have hi2 : EsI W w2 nb mb cb pv rv l v2 x := ⟨NTo.here (unhide HN) ((unhide HB1).trans (hb2.mono (unhide HB1).size)), own_mono ho2 (unhide HB1).size⟩
  obtain ⟨ao, cap, rfl⟩ := own_form ho2
  have HI2 := hide hi2
  have HKS := hide hkeys
  clear ho2 hb2 hi2 HO1 HB1 HN hkeys
  go_wp2
  go_loopw [10] (fun i wr => ∃ k : Nat, k ≤ l.length ∧ i = .int .i64 k ∧ Hid (EsI W wr nb mb cb pv rv l (.slice ao l.length cap) ((l.take k).foldl (fun y m => y.hear m.dead) x))) (fun i _ => l.length - (Go.RowKit.intOf i).toNat)
  case atStart => exact ⟨0, Nat.zero_le _, rfl, HI2⟩
  case round =>
    obtain ⟨k, hk, rfl, HI⟩ := hrel
    by_cases hlt : k < l.length
    · rcases (unhide HI).row.2 with ⟨_, h0⟩ | ⟨b, cap', cur, e, _, hg, _⟩
      · omega
      cases e
      obtain ⟨c0, c1, c2, c3, c4⟩ := rowM (unhide HI).row k hlt
      have hbl := lt_blk hg
      have hok := deads_ok (l.take k) (unhide HX) (fun m hm => (unhide HKS) m (List.mem_of_mem_take hm))
      have hbk := (deads_b (l.take k) (unhide HB)).mono (C := Big) (by simp only [Bg, Big, List.length_take]; omega)
      have hkk := dead_key ((unhide HKS) l[k] (List.getElem_mem hlt))
      have HC := fun w' (hb : Below wr.heap.size wr w') => hide (((unhide HI).below hb).hear hok hbk l[k].dead hkk)
      have hsn := deads_snoc x l k hlt
      rw [← hsn] at HC
      clear hsn hok hbk hkk hg
      generalize l[k] = K at c0 c1 c2 c3 c4 HC
      have hb4 : Below wr.heap.size wr (wr.alloc (.cells #[.int .i64 K.k.id, .int .i64 K.k.inc, .int .i64 3, .int .i64 K.due, .int .i64 K.sends] 150)) := (Below.refl _ _).alloc (Nat.le_refl _) _
      have HC4 := HC _ hb4
      simp only [Nat.zero_add] at c0 c1 c2 c3 c4
      clear HC hb4
      go_wp2_with fail
      refine (unhide HC4).mono ?_
      rintro e w4 ⟨rfl, h4⟩
      have H4 := hide h4
      clear h4 HC4 c0 c1 c2 c3 c4
      go_wp2
      go_roundw
      case rel => exact ⟨k + 1, by omega, by go_num, H4⟩
      case measure => simp [Go.RowKit.intOf]; omega
    · have e : k = l.length := by omega
      subst e
      rw [List.take_length] at HI
      go_wp2
      go_end0
      exact ⟨rfl, (unhide HI).nto⟩
end Go.Proofs.YtnneljcbelgoeaaGreatDoor.wire
/- A tick: present, isProbing, the end of a probe (P9). -/
namespace Go.Proofs.YtnneljcbelgoeaaGreatDoor.wire
open Go.RowKit Go.Maps

theorem idOf_any (k : K3) (W : World) : Calls Tryz.prog 138 #[.agg #[.int .i64 k.id, .int .i64 k.inc, .int .i64 k.st]] W fun e w' => e = .returned (.int .i64 k.id) ∧ Below W.heap.size W w' := by
  go_enter Tryz.func138, Tryz.ntmps138
  go_wp2
  go_ret
  exact ⟨rfl, (Below.refl _ _).alloc (Nat.le_refl _) _⟩
set_option maxHeartbeats 1000000 in
theorem present_any {x : Nd} (hx : NdOk x) {nb mb : Nat} {cb : Dk} {pv rv : Value} {W : World} (hn : NAt W nb mb cb pv rv x) :
    Calls Tryz.prog 101 #[.pointer (some ⟨nb, 0, none⟩)] W fun e w' => ∃ v, e = .returned v ∧ w'.ownsRow W.heap.size 3 1 v x.present.length (x.present.flatMap intC) ∧ Below W.heap.size W w' := by
  have hlen := hx.len
  have hlen1 : x.others.length ≤ 1000 := by
    unfold Nd.others
    rw [List.length_map]
    exact Nat.le_trans (List.length_filter_le _ _) (by omega)
  have hlen2 : (x.others.filter thereB).length ≤ 1000 := Nat.le_trans (List.length_filter_le _ _) hlen1
  have hE1 := enters_of Tryz.func137 (by kernel_rfl) rfl
  have hE2 := enters_of Tryz.func138 (by kernel_rfl) rfl
  have HM := hide (others_any hx hn)
  have hoth : x.present = (x.others.filter thereB).map K3.id := rfl
  rw [hoth]
  clear hx hn hoth
  go_enter Tryz.func101, Tryz.ntmps101
  go_wp2_with fail
  refine (unhide HM).mono ?_
  rintro e w1 ⟨v1, rfl, ho1, hb1⟩
  have HO1 := hide ho1
  have HB1 := hide hb1
  clear ho1 hb1 HM
  go_wp2_with fail
  refine (keepK_any x.others thereB 137 #[] #[] (unhide HO1) hlen1 hE1 (fun k W' _ => there_any k W')).mono ?_
  rintro e w2 ⟨v2, rfl, ho2, hb2⟩
  have HO2 := hide ho2
  have HB2 := hide ((unhide HB1).trans (hb2.mono (unhide HB1).size))
  clear ho2 hb2 HO1 HB1
  go_wp2_with fail
  refine (turnKI_any (x.others.filter thereB) K3.id 138 #[] #[] (unhide HO2) hlen2 hE2 (fun k _ W' _ => idOf_any k W')).mono ?_
  rintro e w3 ⟨v3, rfl, ho3, hb3⟩
  have HO3 := hide (own_mono ho3 (unhide HB2).size)
  have HB3 := hide ((unhide HB2).trans (hb3.mono (unhide HB2).size))
  clear ho3 hb3 HO2 HB2
  go_wp2
  go_ret
  exact ⟨v3, rfl, unhide HO3, unhide HB3⟩
theorem probing_any {x : Nd} {nb mb : Nat} {cb : Dk} {pv rv : Value} {W : World} (hn : NAt W nb mb cb pv rv x) :
    Calls Tryz.prog 97 #[.pointer (some ⟨nb, 0, none⟩)] W fun e w' => e = .returned (.bool (!(x.ptgt == 0))) ∧ Below W.heap.size W w' := by
  have c0 := hn.c_ptgt
  have hlt := hn.lt
  clear hn
  go_enter Tryz.func97, Tryz.ntmps97
  go_wp2
  go_ret
  exact ⟨rfl, Below.refl _ _⟩
end Go.Proofs.YtnneljcbelgoeaaGreatDoor.wire
/- A tick: the end of a probe (P9). -/
namespace Go.Proofs.YtnneljcbelgoeaaGreatDoor.wire
open Go.RowKit Go.Maps

/-- No probe is left. -/
theorem NAt.idle {W : World} {nb mb : Nat} {cb : Dk} {pv rv : Value} {x : Nd} (h : NAt W nb mb cb pv rv x) :
    NAt ((((W.setCell ⟨nb, 10, none⟩ (.int .i64 0)).setCell ⟨nb, 11, none⟩ (.int .i64 0)).setCell ⟨nb, 12, none⟩ (.int .i64 0)).setCell ⟨nb, 13, none⟩ (.bool false)) nb mb cb pv rv x.idle ∧ Frm [nb] W ((((W.setCell ⟨nb, 10, none⟩ (.int .i64 0)).setCell ⟨nb, 11, none⟩ (.int .i64 0)).setCell ⟨nb, 12, none⟩ (.int .i64 0)).setCell ⟨nb, 13, none⟩ (.bool false)) := by
  obtain ⟨a1, b1⟩ := h.set 10 (.int .i64 0) (x' := { x with ptgt := 0 }) rfl rfl rfl rfl rfl
  obtain ⟨a2, b2⟩ := a1.set 11 (.int .i64 0) (x' := { x with ptgt := 0, pnum := 0 }) rfl rfl rfl rfl rfl
  obtain ⟨a3, b3⟩ := a2.set 12 (.int .i64 0) (x' := { x with ptgt := 0, pnum := 0, pst := 0 }) rfl rfl rfl rfl rfl
  obtain ⟨a4, b4⟩ := a3.set 13 (.bool false) (x' := x.idle) rfl rfl rfl rfl rfl
  exact ⟨a4, ((b1.trans b2 (by simp)).trans b3 (by simp)).trans b4 (by simp)⟩
set_option maxHeartbeats 1000000 in
set_option maxRecDepth 100000 in
theorem endProbe_any {x : Nd} (hx : NdOk x) (hB : NdB Big x) {nb mb : Nat} {cb : Dk} {pv rv : Value} {W : World} (hn : NAt W nb mb cb pv rv x) :
    Calls Tryz.prog 99 #[.pointer (some ⟨nb, 0, none⟩)] W fun e w' => e = .returned (.tuple #[]) ∧ NTo W w' nb mb cb pv rv x.endProbe := by
  have q0 := hn.c_ptgt
  have q1 := hn.c_pnum
  have q2 := hn.c_pst
  have q3 := hn.c_pack
  have f0 := free_at hn.blk 10
  have f1 := free_at hn.blk 11
  have f2 := free_at hn.blk 12
  have f3 := free_at hn.blk 13
  have hlt := hn.lt
  have htgt : 0 ≤ x.ptgt ∧ x.ptgt ≤ 250 := by have := hx.pass.tgt; omega
  have hid := hn.idle
  have HID := hide hid
  have HX := hide hx
  have HB := hide hB
  obtain ⟨T, hT⟩ : ∃ T, T = atM x.ptgt x.tab := ⟨_, rfl⟩
  have HT := hide hT
  clear hn hx hB hid hT
  go_enter Tryz.func99, Tryz.ntmps99
  go_wp2
  generalize hw : ((((W.setCell ⟨nb, 10, none⟩ (.int .i64 0)).setCell ⟨nb, 11, none⟩ (.int .i64 0)).setCell ⟨nb, 12, none⟩ (.int .i64 0)).setCell ⟨nb, 13, none⟩ (.bool false)) = w0 at HID ⊢
  have hz0 : w0.heap.size = W.heap.size := by rw [← hw]; simp
  have HZ0 := hide hz0
  generalize hw1 : w0.alloc (.cells #[.int .i64 x.ptgt, .int .i64 x.pnum, .int .i64 x.pst, .bool x.pack] 119) = w1
  have hn1 : NAt w1 nb mb cb pv rv x.idle := by rw [← hw1]; exact (unhide HID).1.alloc _
  have hf1 : Frm [nb] W w1 := by rw [← hw1]; exact (unhide HID).2.alloc _
  have hbx : w1.heap[W.heap.size]? = some (.cells #[.int .i64 x.ptgt, .int .i64 x.pnum, .int .i64 x.pst, .bool x.pack] 119 (0, 0)) := by rw [← hw1, ← hz0]; exact heap_alloc_new w0 _
  clear hw hw1 HID hz0 HZ0 q0 q1 q2 q3 f0 f1 f2 f3
  have e0 := cell_at hbx 0
  have e3 := cell_at hbx 3
  simp only [List.getElem?_toArray, List.getElem?_cons_zero, List.getElem?_cons_succ] at e0 e3
  have c8 := hn1.c_map
  have hl0 := look_at hn1.map.drew (i := x.ptgt) (by omega) (by omega)
  have hl1 := fun o => look_at (hn1.alloc o).map.drew (i := x.ptgt) (by omega) (by omega)
  have hit : x.idle.tab = x.tab := rfl
  rw [hit, ← unhide HT] at hl0 hl1
  simp only [memv] at hl0 hl1
  have hfk := field_key
  have l1 := lt_blk hbx
  have l2 := hn1.lt
  have HN1 := hide hn1
  have HF1 := hide hf1
  have HBX := hide hbx
  clear hn1 hf1 hbx hit
  go_region
  all_goals
    clear hl0 hl1 hfk c8 e0 e3
    generalize hw2 : (w1.alloc (.cells #[.int .i64 T.k.id, .int .i64 T.k.inc, .int .i64 T.k.st] 76)).drew = w2
    have hn2 : NAt w2 nb mb cb pv rv x.idle := by rw [← hw2]; exact ((unhide HN1).alloc _).drew
    have hf2 : Frm [nb] W w2 := by rw [← hw2]; exact (unhide HF1).step (bdrew ((Below.refl _ _).alloc (Nat.le_refl _) _))
    have hk2 : w2.heap[w1.heap.size]? = some (.cells #[.int .i64 T.k.id, .int .i64 T.k.inc, .int .i64 T.k.st] 76 (0, 0)) := by rw [← hw2]; exact heap_alloc_new w1 _
    have hx2 : w2.heap[W.heap.size]? = some (.cells #[.int .i64 x.ptgt, .int .i64 x.pnum, .int .i64 x.pst, .bool x.pack] 119 (0, 0)) := by rw [← hw2]; exact (Below.heap_alloc w1 _ _ l1).trans (unhide HBX)
    have e3 := cell_at hx2 3
    have k0 := cell_at hk2 0
    have k1 := cell_at hk2 1
    have k2 := cell_at hk2 2
    have kf := free_at hk2 2
    simp only [List.getElem?_toArray, List.getElem?_cons_zero, List.getElem?_cons_succ] at e3 k0 k1 k2
    have hk3 := heap_setCell_same w2 w1.heap.size 2 _ _ (.int .i64 2) hk2
    have b0 := cell_at hk3 0
    have b1 := cell_at hk3 1
    have b2 := cell_at hk3 2
    simp only [List.setIfInBounds_toArray, List.set_cons_succ, List.set_cons_zero, List.getElem?_toArray, List.getElem?_cons_zero, List.getElem?_cons_succ] at b0 b1 b2
    have hft2 : Frm (feet nb mb cb pv rv) W w2 := (Frm.refl _ W).trans hf2 (by simp [feet])
    have hto2 : NTo W w2 nb mb cb pv rv x.idle := ⟨pv, rv, hn2, hft2, fun j hj => .inl hj⟩
    have hfk3 : Frm [w1.heap.size] w2 (w2.setCell ⟨w1.heap.size, 2, none⟩ (.int .i64 2)) := by
      have hb := (Below.refl 0 w2).setCell (p := ⟨w1.heap.size, 2, none⟩) (Nat.zero_le _) (.int .i64 2)
      exact ⟨hb.os, hb.tape, hb.output, hb.size, fun k _ hk => heap_setCell_other w2 ⟨w1.heap.size, 2, none⟩ k _ (by simpa using hk)⟩
    have hn3 : NAt (w2.setCell ⟨w1.heap.size, 2, none⟩ (.int .i64 2)) nb mb cb pv rv x.idle := hn2.frm hfk3 (fun k hk => by
      have := (unhide HN1).feet_lt k hk
      simp; omega)
    have hf3 : Frm (feet nb mb cb pv rv) W (w2.setCell ⟨w1.heap.size, 2, none⟩ (.int .i64 2)) := hft2.trans hfk3 (by simp; omega)
    have HN3 := hide hn3
    have HF3 := hide hf3
    have HTO := hide hto2
    clear hw2 hn2 hf2 hk2 hx2 hk3 hft2 hto2 hfk3 hn3 hf3 HN1 HF1 HBX
    rcases hp : x.pack with _ | _
    · rw [hp] at e3
      by_cases hs : T.k.st = 1
      · have hs' : (T.k.st == 1) = true := by simp [hs]
        have hep : x.endProbe = x.idle.hear ⟨T.k.id, T.k.inc, 2⟩ := by
          have h := unhide HT
          rw [h] at hs ⊢
          simp [Nd.endProbe, hp, hs]
        have hky : isKeyB ⟨T.k.id, T.k.inc, 2⟩ = true := by
          have h := unhide HT
          rw [h] at hs ⊢
          exact sus_key (unhide HX) hs
        have HC := hide (hear_any (idle_ok (unhide HX)) (idle_b (unhide HB)) (unhide HN3) ⟨T.k.id, T.k.inc, 2⟩ hky)
        rw [← hep] at HC
        clear hep hky
        go_wp2_with fail
        refine (unhide HC).mono ?_
        rintro e w4 ⟨rfl, h4⟩
        have H4 := hide (NTo.trans (unhide HF3) (fun k hk => .inl hk) h4)
        clear h4 HC b0 b1 b2 k0 k1 k2 kf e3
        go_wp2
        go_end0
        exact ⟨rfl, unhide H4⟩
      · have hs' : (T.k.st == 1) = false := by simp [hs]
        have hep : x.endProbe = x.idle := by
          have h := unhide HT
          rw [h] at hs
          simp [Nd.endProbe, hs]
        go_wp2
        refine bodyPost_ret (results_none rfl _ _ _) rfl ?_
        rw [hep]
        exact ⟨rfl, unhide HTO⟩
    · rw [hp] at e3
      have hep : x.endProbe = x.idle := by simp [Nd.endProbe, hp]
      go_wp2
      refine bodyPost_ret (results_none rfl _ _ _) rfl ?_
      rw [hep]
      exact ⟨rfl, unhide HTO⟩
end Go.Proofs.YtnneljcbelgoeaaGreatDoor.wire
/- A tick: the order of a pass (P9). -/
namespace Go.Proofs.YtnneljcbelgoeaaGreatDoor.wire
open Go.RowKit Go.Maps

/-- Numbers at the head of a block. -/
structure IntsAt (w : World) (g : Nat) (n : Nat) (l : List Int) : Prop where
  ex : ∃ cur, w.heap[g]? = some (.cells cur 3 (0, 0)) ∧ cur.size = n ∧ ∀ (i : Nat) (h : i < l.length), cur[i]? = some (.int .i64 l[i])
theorem IntsAt.cell {w : World} {g n : Nat} {l : List Int} (h : IntsAt w g n l) (i : Nat) (hi : i < l.length) : w.cell? ⟨g, i, none⟩ = some (.int .i64 (l.getD i 0)) := by
  obtain ⟨cur, hg, _, hc⟩ := h.ex
  rw [cell_at hg, hc i hi, List.getD_eq_getElem?_getD, List.getElem?_eq_getElem hi, Option.getD_some]
theorem IntsAt.frm {S : List Nat} {w w' : World} {g n : Nat} {l : List Int} (h : IntsAt w g n l) (hf : Frm S w w') (hg : g ∉ S) : IntsAt w' g n l := by
  obtain ⟨cur, hb, hs, hc⟩ := h.ex
  exact ⟨cur, (hf.block g (lt_blk hb) hg).trans hb, hs, hc⟩
theorem IntsAt.set {w : World} {g n : Nat} {l : List Int} (h : IntsAt w g n l) (i : Nat) (hi : i < l.length) (z : Int) : IntsAt (w.setCell ⟨g, i, none⟩ (.int .i64 z)) g n (l.set i z) := by
  obtain ⟨cur, hb, hs, hc⟩ := h.ex
  refine ⟨cur.setIfInBounds i (.int .i64 z), heap_setCell_same w g i _ _ _ hb, by simp [hs], fun j hj => ?_⟩
  have hj' : j < l.length := by simpa using hj
  have hlt : i < cur.size := by
    have := hc i hi
    exact (Array.getElem?_eq_some_iff.1 this).1
  rw [Array.getElem?_setIfInBounds]
  by_cases e : i = j
  · subst e; simp [hlt]
  · rw [if_neg e, List.getElem_set_ne e]; exact hc j hj'
theorem IntsAt.lt {w : World} {g n : Nat} {l : List Int} (h : IntsAt w g n l) : g < w.heap.size := by obtain ⟨cur, hb, _⟩ := h.ex; exact lt_blk hb
theorem IntsAt.free {w : World} {g n : Nat} {l : List Int} (h : IntsAt w g n l) (i : Nat) : w.frozen? ⟨g, i, none⟩ = false := by obtain ⟨cur, hb, _⟩ := h.ex; exact free_at hb i
theorem set_frm (w : World) (g i : Nat) (v : Value) : Frm [g] w (w.setCell ⟨g, i, none⟩ v) := by
  have hb := (Below.refl 0 w).setCell (p := ⟨g, i, none⟩) (Nat.zero_le _) v
  exact ⟨hb.os, hb.tape, hb.output, hb.size, fun k _ hk => heap_setCell_other w ⟨g, i, none⟩ k v (by simpa using hk)⟩
theorem swap_at {S : List Nat} {W w1 : World} {nb mb : Nat} {cb : Dk} {pv rv : Value} {y : Nd} {g n : Nat} {L : List Int} (hn : NAt w1 nb mb cb pv rv y) (hg : IntsAt w1 g n L) (hf : Frm S W w1) (hS : g ∈ S) (hgf : g ∉ feet nb mb cb pv rv) (a b : Nat) (ha : a < L.length) (hb : b < L.length) {A1 A2 : Int} (h1 : L.getD a 0 = A1) (h2 : L.getD b 0 = A2) :
    NAt ((w1.setCell ⟨g, a, none⟩ (.int .i64 A2)).setCell ⟨g, b, none⟩ (.int .i64 A1)).drew nb mb cb pv rv y ∧ IntsAt ((w1.setCell ⟨g, a, none⟩ (.int .i64 A2)).setCell ⟨g, b, none⟩ (.int .i64 A1)).drew g n (swapL L a b) ∧ Frm S W ((w1.setCell ⟨g, a, none⟩ (.int .i64 A2)).setCell ⟨g, b, none⟩ (.int .i64 A1)).drew := by
  have hff : Frm [g] w1 ((w1.setCell ⟨g, a, none⟩ (.int .i64 A2)).setCell ⟨g, b, none⟩ (.int .i64 A1)).drew := by
    have := (set_frm w1 g a (.int .i64 A2)).trans (set_frm _ g b (.int .i64 A1)) (fun j hj => .inl hj)
    exact ⟨this.os, this.tape, this.output, this.size, this.block⟩
  refine ⟨hn.frm hff (fun k hk e => hgf (by simp at e; rw [← e]; exact hk)), ?_, hf.trans hff (by simp [hS])⟩
  have h3 := (hg.set a ha A2).set b (by simpa using hb) A1
  have e : swapL L a b = (L.set a A2).set b A1 := by unfold swapL; rw [h1, h2]
  rw [e]
  exact ⟨h3.ex⟩
set_option maxHeartbeats 2000000 in
set_option maxRecDepth 100000 in
theorem mixed_any {x : Nd} (hdl : DlOk x.dl) (hB : NdB Bg x) {nb mb : Nat} {cb : Dk} {pv rv : Value} {W : World} (hn : NAt W nb mb cb pv rv x) (l : List Int) (hl : l.length ≤ 500) (hl0 : 1 ≤ l.length) {g n cap : Nat} (hg : IntsAt W g n l) (hgf : g ∉ feet nb mb cb pv rv) (_hcap : l.length ≤ cap) :
    Calls Tryz.prog 100 #[.pointer (some ⟨nb, 0, none⟩), .slice (some ⟨g, 0, none⟩) l.length cap] W fun e w' => e = .returned (.slice (some ⟨g, 0, none⟩) l.length cap) ∧ NAt w' nb mb cb pv rv (x.mixed l).2 ∧ IntsAt w' g n (x.mixed l).1 ∧ Frm [cb.ab, g] W w' := by
  have HN := hide hn
  have HG := hide hg
  have HB := hide hB
  have HDL := hide hdl
  have hgl := hg.lt
  have hnl := hn.lt
  have hab : g ≠ cb.ab := fun e => hgf (by simp [feet, Dk.all, e])
  have hgn : g ≠ nb := fun e => hgf (by simp [feet, e])
  clear hn hg hB hdl
  obtain ⟨K0, hK0⟩ : ∃ K0 : Nat, l.length = K0 + 1 := ⟨l.length - 1, by omega⟩
  have hmx : x.mixed l = x.mixFrom K0 l := by unfold Nd.mixed; rw [hK0]; rfl
  rw [hmx]
  have e1 : ((l.length : Int) - 1) = (K0 : Int) := by omega
  have HK0 := hide hK0
  clear hmx hK0
  go_enter Tryz.func100, Tryz.ntmps100
  go_wp2
  go_loopw [5] (fun i wr => ∃ (k : Nat) (L : List Int) (y : Nd), i = .int .i64 k ∧ k ≤ K0 ∧ L.length = l.length ∧ Hid (y.mixFrom k L = x.mixFrom K0 l) ∧ Hid (NAt wr nb mb cb pv rv y) ∧ Hid (IntsAt wr g n L) ∧ Hid (Frm [cb.ab, g] W wr) ∧ Hid (y.dl = x.dl ∧ NdB (Bg + (K0 - k)) y)) (fun i _ => (Go.RowKit.intOf i).toNat)
  case atStart => exact ⟨K0, l, x, by go_num, Nat.le_refl _, rfl, rfl, HN, HG, Frm.refl _ _, rfl, (unhide HB).mono (by omega)⟩
  case round =>
    obtain ⟨k, L, y, rfl, hk, hL, HE, HN1, HG1, HF1, HD1⟩ := hrel
    have hkl : k < l.length := by have := unhide HK0; omega
    have HLL := hide hL
    by_cases h1 : 1 ≤ k
    · obtain ⟨k', rfl⟩ : ∃ k', k = k' + 1 := ⟨k - 1, by omega⟩
      have c6 := (unhide HN1).c_draw
      simp only [Dk.fn] at c6
      have l6 := (unhide HN1).lt
      obtain ⟨hyd, hyb⟩ := unhide HD1
      have HC := hide (draw_any (by rw [hyd]; exact unhide HDL) (hyb.mono (by unfold Bg Big; omega)) (unhide HN1) ((k' : Int) + 2) (by omega) (by omega))
      have hbd := drawn_bd y (n := (k' : Int) + 2) (by omega)
      obtain ⟨J, hJ⟩ : ∃ J : Nat, y.drawn ((k' : Int) + 2) = (J : Int) := ⟨(y.drawn ((k' : Int) + 2)).toNat, by omega⟩
      have hJl : J < L.length := by omega
      have hEq : y.mixFrom (k' + 1) L = (y.drew ((k' : Int) + 2)).mixFrom k' (swapL L (k' + 1) J) := by
        show (y.drew ((k' : Int) + 2)).mixFrom k' (swapL L (k' + 1) (y.drawn ((k' : Int) + 2)).toNat) = _
        rw [hJ]; rfl
      have HE2 := hide (hEq.symm.trans (unhide HE))
      rw [hJ] at HC
      have hk2 : ((k' + 1 : Nat) : Int) + 1 = (k' : Int) + 2 := by omega
      have h1' : (1 : Int) ≤ ((k' + 1 : Nat) : Int) := by omega
      have hDB := drew_b hyb ((k' : Int) + 2)
      have hDD : (y.drew ((k' : Int) + 2)).dl = x.dl := by
        obtain ⟨m, e, _⟩ := drew_ex y ((k' : Int) + 2)
        rw [e]; exact hyd
      have HDB := hide hDB
      have HDD := hide hDD
      clear hEq hbd hyd hyb hDB hDD HE HD1
      go_wp2_with fail
      refine (unhide HC).mono ?_
      rintro e w1 ⟨rfl, hn1, hf1⟩
      have hg1 := (unhide HG1).frm hf1 (by simpa using hab)
      have HF2 := hide ((unhide HF1).trans hf1 (by simp))
      have HN2 := hide hn1
      have HG2 := hide hg1
      have a1 := hg1.cell (k' + 1) (by omega)
      have a2 := hg1.cell J hJl
      have b1 := hg1.free (k' + 1)
      have b2 := hg1.free J
      have lg := hg1.lt
      obtain ⟨A1, hA1⟩ : ∃ A1, L.getD (k' + 1) 0 = A1 := ⟨_, rfl⟩
      obtain ⟨A2, hA2⟩ : ∃ A2, L.getD J 0 = A2 := ⟨_, rfl⟩
      rw [hA1] at a1
      rw [hA2] at a2
      have hA := hide (And.intro hA1 hA2)
      have i1 : (k' : Int) + 1 < (l.length : Int) := by omega
      have i2 : (J : Int) < (l.length : Int) := by omega
      have i3 : ((k' : Int) + 1).toNat = k' + 1 := by omega
      clear hn1 hf1 hg1 HC c6 HN1 HG1 HF1 hA1 hA2
      by_cases hkj : k' + 1 = J
      · subst hkj
        go_wp2
        go_region
        have hsw := swap_at (unhide HN2) (unhide HG2) (unhide HF2) (by simp) hgf (k' + 1) (k' + 1) (by omega) (by omega) (unhide hA).1 (unhide hA).1
        have HSW := hide hsw
        clear hsw HN2 HG2 HF2 a1 a2 b1 b2
        generalize ((w1.setCell ⟨g, k' + 1, none⟩ (.int .i64 A1)).setCell ⟨g, k' + 1, none⟩ (.int .i64 A1)).drew = w3 at HSW ⊢
        go_wp2
        go_roundw
        case rel => exact ⟨k', _, _, by go_num, by omega, by rw [swapL_len, hL], HE2, hide (unhide HSW).1, hide (unhide HSW).2.1, hide (unhide HSW).2.2, hide ⟨unhide HDD, (unhide HDB).mono (by omega)⟩⟩
        case measure => simp [Go.RowKit.intOf]
      · have hkj2 : ¬ J = k' + 1 := fun h => hkj h.symm
        go_wp2
        go_region
        have hsw := swap_at (unhide HN2) (unhide HG2) (unhide HF2) (by simp) hgf (k' + 1) J (by omega) (by omega) (unhide hA).1 (unhide hA).2
        have HSW := hide hsw
        clear hsw HN2 HG2 HF2 a1 a2 b1 b2
        generalize ((w1.setCell ⟨g, k' + 1, none⟩ (.int .i64 A2)).setCell ⟨g, J, none⟩ (.int .i64 A1)).drew = w3 at HSW ⊢
        go_wp2
        go_roundw
        case rel => exact ⟨k', _, _, by go_num, by omega, by rw [swapL_len, hL], HE2, hide (unhide HSW).1, hide (unhide HSW).2.1, hide (unhide HSW).2.2, hide ⟨unhide HDD, (unhide HDB).mono (by omega)⟩⟩
        case measure => simp [Go.RowKit.intOf]
    · obtain rfl : k = 0 := by omega
      go_wp2
      go_ret
      rw [← unhide HE]
      exact ⟨rfl, unhide HN1, unhide HG1, unhide HF1⟩
end Go.Proofs.YtnneljcbelgoeaaGreatDoor.wire
/- A tick: the next one is probed (P9). -/
namespace Go.Proofs.YtnneljcbelgoeaaGreatDoor.wire
open Go.RowKit Go.Maps

theorem IntsAt.of_own {w : World} {base g cap : Nat} {l : List Int} (h : w.ownsRow base 3 1 (.slice (some ⟨g, 0, none⟩) l.length cap) l.length (l.flatMap intC)) : IntsAt w g cap l ∧ base ≤ g ∧ l.length ≤ cap ∧ cap ≤ maxLen := by
  rcases h.2 with ⟨e, _⟩ | ⟨g', cap', cur, e, hb, hg, h1, h2, h3, h4⟩
  · cases e
  · cases e
    refine ⟨⟨cur, hg, by omega, fun i hi => ?_⟩, hb, h1, h2⟩
    have := congrArg (fun q => q[i]?) h4
    simp only [flat_int, List.getElem?_eq_getElem hi, Option.map_some, List.getElem?_take, Nat.mul_one, if_pos hi] at this
    simpa using this
theorem IntsAt.pass {w : World} {g n cap : Nat} {l : List Int} (h : IntsAt w g n l) (h1 : l.length ≤ cap) (h2 : cap ≤ maxLen) : PassAt w (.slice (some ⟨g, 0, none⟩) l.length cap) l := by
  obtain ⟨cur, hg, _, hc⟩ := h.ex
  exact .inr ⟨g, 0, cap, cur, rfl, hg, h1, h2, fun i hi => by simpa using hc i hi⟩
/-- mixed of what present gives. -/
theorem mixed_row {x : Nd} (hdl : DlOk x.dl) (hB : NdB Bg x) {nb mb : Nat} {cb : Dk} {pv rv : Value} {W : World} (hn : NAt W nb mb cb pv rv x) (l : List Int) (hl : l.length ≤ 500) {v : Value} {base : Nat} (ho : W.ownsRow base 3 1 v l.length (l.flatMap intC)) (hbase : ∀ k ∈ feet nb mb cb pv rv, k < base) :
    Calls Tryz.prog 100 #[.pointer (some ⟨nb, 0, none⟩), v] W fun e w' => e = .returned v ∧ NAt w' nb mb cb pv rv (x.mixed l).2 ∧ PassAt w' v (x.mixed l).1 ∧ Frm (cb.ab :: v.ownBlock.toList) W w' := by
  by_cases h0 : 1 ≤ l.length
  · rcases ho.2 with ⟨_, e0⟩ | ⟨g, cap, cur, rfl, hb, hg, h1, h2, h3, h4⟩
    · omega
    obtain ⟨hi, hb', h1', h2'⟩ := IntsAt.of_own ho
    refine (mixed_any hdl hB hn l hl h0 hi (fun hk => by have := hbase g hk; omega) h1).mono ?_
    rintro e w' ⟨rfl, hn', hi', hf'⟩
    refine ⟨rfl, hn', ?_, hf'⟩
    have hlen := (mixed_perm x l).length_eq
    rw [← hlen]
    exact hi'.pass (by omega) h2'
  · obtain rfl : l = [] := List.length_eq_zero_iff.1 (by omega)
    have e1 : x.mixed [] = ([], x) := rfl
    rw [e1]
    obtain ⟨ao, cap, rfl⟩ := own_form ho
    have hp := PassAt.of_own ho
    have HN := hide hn
    have HP := hide hp
    clear hn ho hB hdl hp hbase e1
    go_enter Tryz.func100, Tryz.ntmps100
    go_wp2
    refine wp_loop_rounds 1 ?_
    rw [rounds_succ]
    go_wp2
    go_ret
    exact ⟨rfl, unhide HN, unhide HP, Frm.refl _ _⟩
end Go.Proofs.YtnneljcbelgoeaaGreatDoor.wire
/- A tick: the next one is probed (P9). -/
namespace Go.Proofs.YtnneljcbelgoeaaGreatDoor.wire
open Go.RowKit Go.Maps

theorem PassAt.form {w : World} {v : Value} {l : List Int} (h : PassAt w v l) : ∃ ao cap, v = .slice ao l.length cap := by
  rcases h with ⟨rfl, rfl⟩ | ⟨b, off, cap, cs, rfl, _⟩
  · exact ⟨none, 0, rfl⟩
  · exact ⟨_, _, rfl⟩
theorem renew_dl (x : Nd) : x.renew.dl = x.dl := by
  unfold Nd.renew; split
  · obtain ⟨m, e, _⟩ := mixed_ex x x.present
    rw [e]
  · rfl
theorem PassAt.tail {w : World} {b off N cap : Nat} {t : Int} {r : List Int} (h : PassAt w (.slice (some ⟨b, off, none⟩) N cap) (t :: r)) : PassAt w (.slice (some ⟨b, off + 1, none⟩) (N - 1) (cap - 1)) r ∧ (cap = 1 → PassAt w (.slice (some ⟨b, off, none⟩) (N - 1) 0) r) := by
  rcases h with ⟨e0, _⟩ | ⟨b', off', cap', cs, e0, hb, h1, h2, hcs⟩
  · cases e0
  · simp only [Value.slice.injEq, Option.some.injEq, Addr.mk.injEq, List.length_cons] at e0
    obtain ⟨⟨rfl, rfl, _⟩, rfl, rfl⟩ := e0
    simp only [List.length_cons] at h1
    refine ⟨.inr ⟨b, off + 1, cap - 1, cs, rfl, hb, by omega, by omega, fun i hi => ?_⟩, fun hc => .inr ⟨b, off, 0, cs, rfl, hb, by omega, by omega, fun i hi => by omega⟩⟩
    have := hcs (i + 1) (by simp; omega)
    rw [show off + 1 + i = off + (i + 1) by omega]
    simpa using this
/-- A probe begins. -/
def Nd.aims (y : Nd) (t : Int) : Nd := { y with num := y.num + 1, ptgt := t, pnum := y.num + 1, pst := y.clock, pack := false }
theorem NAt.aims {W : World} {nb mb : Nat} {cb : Dk} {pv rv : Value} {y : Nd} (h : NAt W nb mb cb pv rv { y with num := y.num + 1 }) (t : Int) :
    NAt ((((W.setCell ⟨nb, 10, none⟩ (.int .i64 t)).setCell ⟨nb, 11, none⟩ (.int .i64 (y.num + 1))).setCell ⟨nb, 12, none⟩ (.int .i64 y.clock)).setCell ⟨nb, 13, none⟩ (.bool false)) nb mb cb pv rv (y.aims t) ∧ Frm [nb] W ((((W.setCell ⟨nb, 10, none⟩ (.int .i64 t)).setCell ⟨nb, 11, none⟩ (.int .i64 (y.num + 1))).setCell ⟨nb, 12, none⟩ (.int .i64 y.clock)).setCell ⟨nb, 13, none⟩ (.bool false)) := by
  obtain ⟨a1, b1⟩ := h.set 10 (.int .i64 t) (x' := { y with num := y.num + 1, ptgt := t }) rfl rfl rfl rfl rfl
  obtain ⟨a2, b2⟩ := a1.set 11 (.int .i64 (y.num + 1)) (x' := { y with num := y.num + 1, ptgt := t, pnum := y.num + 1 }) rfl rfl rfl rfl rfl
  obtain ⟨a3, b3⟩ := a2.set 12 (.int .i64 y.clock) (x' := { y with num := y.num + 1, ptgt := t, pnum := y.num + 1, pst := y.clock }) rfl rfl rfl rfl rfl
  obtain ⟨a4, b4⟩ := a3.set 13 (.bool false) (x' := y.aims t) rfl rfl rfl rfl rfl
  exact ⟨a4, ((b1.trans b2 (by simp)).trans b3 (by simp)).trans b4 (by simp)⟩
set_option maxHeartbeats 2000000 in
set_option maxRecDepth 100000 in
theorem probeNext_any {x : Nd} (hx : NdOk x) (hdl : DlOk x.dl) (hB : NdB Bg x) {nb mb : Nat} {cb : Dk} {pv rv : Value} {W : World} (hn : NAt W nb mb cb pv rv x) :
    Calls Tryz.prog 71 #[.pointer (some ⟨nb, 0, none⟩)] W fun e w' => ∃ o, e = .returned o ∧ Outs W w' o x.probeNext.1 ∧ NTo W w' nb mb cb pv rv x.probeNext.2 := by
  have HP := hide (probing_any hn)
  have HX := hide hx
  have HN := hide hn
  have HB := hide hB
  have HDL := hide hdl
  have hlt := hn.lt
  clear hn hx hB hdl
  by_cases hp : x.ptgt = 0
  · have hp' : (x.ptgt == 0) = true := by simp [hp]
    rw [hp'] at HP
    go_enter Tryz.func71, Tryz.ntmps71
    go_wp2_with fail
    refine (unhide HP).mono ?_
    rintro e w1 ⟨rfl, hb1⟩
    have HB1 := hide hb1
    have HN1 := hide ((unhide HN).below hb1)
    clear hb1 HP
    go_wp2_with fail
    refine (left_any (unhide HX) (unhide HN1)).mono ?_
    rcases hL : x.left with _ | _
    · have HL := hide hL
      clear hL
      rintro e w2 ⟨rfl, hb2⟩
      have HB2 := hide ((unhide HB1).trans (hb2.mono (unhide HB1).size))
      have hn2 := (unhide HN1).below hb2
      obtain ⟨pao, pcap, hpv⟩ := hn2.pass.form
      subst hpv
      have c9 := hn2.c_pass
      have l2 := hn2.lt
      have HN2 := hide hn2
      have hpn : x.probeNext = x.renew.probeOne := by simp [Nd.probeNext, hp, unhide HL]
      have HPN := hide hpn
      have HF2 := hide (Frm.of_below (S := feet nb mb cb (.slice pao x.pass.length pcap) rv) (unhide HB2) (Nat.le_refl _))
      have HS2 := hide (fun k (hk : k ∈ feet nb mb cb (.slice pao x.pass.length pcap) rv) => (Or.inl hk : k ∈ feet nb mb cb (.slice pao x.pass.length pcap) rv ∨ W.heap.size ≤ k))
      have hz2 := (unhide HB2).size
      clear hb2 HB1 HN1 hn2 hpn HN hp hp' HL
      by_cases hl0 : x.pass.length = 0
      case' pos =>
        rw [hl0] at c9
        go_wp2_with fail
        refine (present_any (unhide HX) (unhide HN2)).mono ?_
        rintro e w3 ⟨v3, rfl, ho3, hb3⟩
        have hn3 := (unhide HN2).below hb3
        have hpl := present_len (unhide HX)
        have HM := hide (mixed_row (unhide HDL) (unhide HB) hn3 x.present (by omega) ho3 (fun k hk => (unhide HN2).feet_lt k hk))
        have HF3 := hide ((unhide HF2).step hb3)
        have HL3 := hide (fun k hk => (own_lt ho3 (k := k) hk).1)
        have hz3 := hb3.size
        have HFL := hide ((unhide HN2).feet_lt)
        have HAB := hide (heap_lt (unhide HN2).draw.ab)
        obtain ⟨ao3, cap3, hv3⟩ := own_form ho3
        obtain ⟨N, hN⟩ : ∃ N, N = x.present.length := ⟨_, rfl⟩
        rw [← hN] at hv3
        subst hv3
        clear ho3 hb3 hn3 HF2 HN2 c9 hN hpl
        go_wp2_with fail
        refine (unhide HM).mono ?_
        rintro e w4 ⟨rfl, hn4, hp4, hf4⟩
        have c9 := hn4.c_pass
        have f9 := free_at hn4.blk 9
        have l4 := hn4.lt
        have hs4 := hn4.setPass hp4 (fun e => by have h1 := (unhide HL3) _ e; have h2 := unhide HAB; omega)
        have HN5 := hide hs4.1
        have HF5 := hide (((unhide HF3).trans hf4 (fun j hj => by
          rcases List.mem_cons.1 hj with h | h
          · exact .inl (by simp [feet, Dk.all, h])
          · exact .inr (by have := (unhide HL3) j (Option.mem_toList.1 h); omega))).trans hs4.2 (by simp [feet]))
        have hry : x.renew = { (x.mixed x.present).2 with pass := (x.mixed x.present).1 } := by simp [Nd.renew, hl0]
        rw [← hry] at HN5
        have HS5 := hide (fun k (hk : k ∈ feet nb mb cb (.slice ao3 N cap3) rv) => show k ∈ feet nb mb cb (.slice pao x.pass.length pcap) rv ∨ W.heap.size ≤ k from by
          simp only [feet, List.mem_cons, List.mem_append, Option.mem_toList] at hk ⊢
          rcases hk with h | h | h | h | h | h
          · exact .inl (.inl h)
          · exact .inl (.inr (.inl h))
          · exact .inl (.inr (.inr (.inl h)))
          · exact .inr (by have := (unhide HL3) k h; omega)
          · exact .inl (.inr (.inr (.inr (.inr (.inl h)))))
          · exact .inl (.inr (.inr (.inr (.inr (.inr h))))))
        clear hn4 hp4 hf4 hs4 HM HF3 hry HS2 HL3 HFL HAB
        rcases hyp : x.renew.pass with _ | ⟨t, r⟩
        · have hN0 : N = 0 := by
            obtain ⟨ao, cap, e⟩ := (unhide HN5).pass.form
            rw [hyp] at e
            cases e; rfl
          subst hN0
          have he : x.probeNext = ([], x.renew) := by rw [unhide HPN]; simp [Nd.probeOne, hyp]
          go_wp2
          go_ret
          rw [he]
          exact ⟨_, rfl, outs_nil _ _, _, rv, unhide HN5, unhide HF5, unhide HS5⟩
        rcases (unhide HN5).pass with ⟨_, e0⟩ | ⟨b, off, cap', cs, e0, _⟩
        · rw [hyp] at e0; cases e0
        rw [hyp] at e0
        simp only [Value.slice.injEq] at e0
        obtain ⟨rfl, hNL, rfl⟩ := e0
        have hN1 : ((N : Int) == 0) = false := by rw [beq_eq_false_iff_ne, hNL]; simp; omega
        have HYP := hide hyp
        have HNL : Hid (N = r.length + 1) := hide hNL
        clear hyp hl0 hNL
        go_wp2_with fail
        generalize w4.setCell ⟨nb, 9, none⟩ (.slice (some ⟨b, off, none⟩) N cap3) = w5 at HN5 HF5 ⊢
        clear c9 f9 l4 hz3
      case' neg =>
        obtain ⟨t, r, hyp0⟩ : ∃ t r, x.pass = t :: r := by
          cases h : x.pass with
          | nil => rw [h] at hl0; exact absurd rfl hl0
          | cons t r => exact ⟨t, r, rfl⟩
        have hrx : x.renew = x := by simp [Nd.renew, hl0]
        have hyp : x.renew.pass = t :: r := by rw [hrx]; exact hyp0
        rcases (unhide HN2).pass with ⟨_, e0⟩ | ⟨b, off, cap3, cs, e0, _⟩
        · rw [hyp0] at e0; cases e0
        simp only [Value.slice.injEq] at e0
        obtain ⟨rfl, _, hcc⟩ := e0
        have hcc := hcc.symm
        subst hcc
        obtain ⟨N, hN⟩ : ∃ N, N = x.pass.length := ⟨_, rfl⟩
        have HNL : Hid (N = r.length + 1) := hide (by rw [hN, hyp0]; rfl)
        have hN1 : ((N : Int) == 0) = false := by rw [beq_eq_false_iff_ne, hN, hyp0]; simp; omega
        have HYP := hide hyp
        have HF5 := HF2
        have HN5 := hide (show NAt w2 nb mb cb (.slice (some ⟨b, off, none⟩) N cap3) rv x.renew from by rw [hrx, hN]; exact unhide HN2)
        have HS5 := hide (fun k (hk : k ∈ feet nb mb cb (.slice (some ⟨b, off, none⟩) N cap3) rv) => show k ∈ feet nb mb cb (.slice (some ⟨b, off, none⟩) x.pass.length cap3) rv ∨ W.heap.size ≤ k from by rw [hN] at hk; exact .inl hk)
        rw [← hN] at c9
        clear HN2 HF2 HS2 hyp hrx hN hyp0 hl0
        go_wp2_with fail
        generalize w2 = w5 at *
        clear c9
      all_goals
        have hn5 := unhide HN5
        have c9 := hn5.c_pass
        have c7 := hn5.c_clock
        have l5 := hn5.lt
        have hbb : b < w5.heap.size ∧ w5.cell? ⟨b, off, none⟩ = some (.int .i64 t) ∧ b ≠ nb := by
          obtain ⟨cs, hb⟩ := hn5.pass.blk (k := b) rfl
          refine ⟨lt_blk hb, ?_, (hn5.pass_ne (k := b) rfl).1⟩
          rcases hn5.pass with ⟨e0, _⟩ | ⟨b', off', cap', cs', e0, hb', _, _, hcs⟩
          · cases e0
          · simp only [Value.slice.injEq, Option.some.injEq, Addr.mk.injEq] at e0
            obtain ⟨⟨rfl, rfl, _⟩, _, _⟩ := e0
            have := hcs 0 (by rw [unhide HYP]; simp)
            rw [cell_at hb']
            simpa [unhide HYP] using this
        obtain ⟨l6, d0, hbn⟩ := hbb
        have HNX := hide (next_any (renew_b (unhide HX) (unhide HB) |>.mono (by unfold Bg Big; omega)) hn5.drew)
        have hN2 : (0 : Int) < (N : Int) := by have := unhide HNL; omega
        have hN3 : 0 < N := by have := unhide HNL; omega
        have hbn' : ¬ nb = b := fun e => hbn e.symm
        have hbn2 : ¬ b = nb := hbn
        obtain ⟨Y, hY⟩ : ∃ Y, Y = x.renew := ⟨_, rfl⟩
        rw [← hY] at c7 HNX
        have HYE := hide hY
        clear hn5 hY
        go_region_held3 (fun w' => w'.cell? ⟨nb, 9, none⟩ = some (.slice (some ⟨b, off, none⟩) N cap3) ∧ w'.cell? ⟨b, off, none⟩ = some (.int .i64 t) ∧ w'.cell? ⟨nb, 7, none⟩ = some (.int .i64 Y.clock)) (simp [*, World.cell?_setCell_other])
          (first
            | (go_at_call 60; refine (unhide HNX).mono ?_; rintro e w6 ⟨rfl, hn6, hf6⟩; have p9 := hn6.c_pass; have p7 := hn6.c_clock; have pd := ((World.cell?_of_block (hf6.block b l6 (by simpa using hbn)) : w6.cell? ⟨b, off, none⟩ = _)).trans d0; have g10 := hn6.c_ptgt; have g11 := hn6.c_pnum; have g12 := hn6.c_pst; have g13 := hn6.c_pack; have f10 := free_at hn6.blk 10; have f11 := free_at hn6.blk 11; have f12 := free_at hn6.blk 12; have f13 := free_at hn6.blk 13; have HN6 := hide hn6; have HF6 := hide ((unhide HF5).trans (S' := [nb]) ⟨hf6.os, hf6.tape, hf6.output, hf6.size, hf6.block⟩ (by simp [feet])); have l66 := hn6.lt; clear hn6 hf6))
        have HN7 := hide ((unhide HN6).aims t).1
        have HF7 := hide ((unhide HF6).trans ((unhide HN6).aims t).2 (by simp [feet]))
        clear HN6 HF6 p9 p7 pd g10 g11 g12 g13 f10 f11 f12 f13 l66 c9 c7 d0 l5 l6 HNX HN5 HF5
        generalize ((((w6.setCell ⟨nb, 10, none⟩ (.int .i64 t)).setCell ⟨nb, 11, none⟩ (.int .i64 (Y.num + 1))).setCell ⟨nb, 12, none⟩ (.int .i64 Y.clock)).setCell ⟨nb, 13, none⟩ (.bool false)) = w7 at HN7 HF7 ⊢
        have hn7 := unhide HN7
        have c9 := hn7.c_pass
        have f9 := free_at hn7.blk 9
        have l7 := hn7.lt
        have hcap : 1 ≤ cap3 := by
          rcases hn7.pass with ⟨e0, _⟩ | ⟨b', off', cap', cs', e0, hb', h1, _, hcs⟩
          · cases e0
          · simp only [Value.slice.injEq] at e0; omega
        have hNc : N ≤ cap3 := by
          rcases hn7.pass with ⟨e0, _⟩ | ⟨b', off', cap', cs', e0, hb', h1, _, hcs⟩
          · cases e0
          · simp only [Value.slice.injEq] at e0; omega
        clear hn7
        have hpt0 : PassAt w7 (.slice (some ⟨b, off, none⟩) N cap3) (t :: r) := by
          have h1 := (unhide HN7).pass
          have e : (Y.aims t).pass = t :: r := by
            show Y.pass = _
            rw [unhide HYE]; exact unhide HYP
          rw [e] at h1
          exact h1
        have hpt := hpt0.tail
        clear hpt0
        have HPT := hide hpt
        have hsp := (unhide HN7).draw.sepp
        have HSP := hide hsp
        clear hpt hsp
        by_cases hc1 : cap3 = 1
        case' pos =>
          have HS8 := hide ((unhide HN7).setPass ((unhide HPT).2 hc1) (unhide HSP))
          have HFT := hide (fun k (hk : k ∈ feet nb mb cb (.slice (some ⟨b, off, none⟩) (N - 1) 0) rv) => (unhide HS5) k hk)
          go_wp2_with fail
          generalize w7.setCell ⟨nb, 9, none⟩ (.slice (some ⟨b, off, none⟩) (N - 1) 0) = w8 at HS8 ⊢
        case' neg =>
          have HS8 := hide ((unhide HN7).setPass ((unhide HPT).1) (unhide HSP))
          have HFT := hide (fun k (hk : k ∈ feet nb mb cb (.slice (some ⟨b, off + 1, none⟩) (N - 1) (cap3 - 1)) rv) => (unhide HS5) k hk)
          go_wp2_with fail
          generalize w7.setCell ⟨nb, 9, none⟩ (.slice (some ⟨b, off + 1, none⟩) (N - 1) (cap3 - 1)) = w8 at HS8 ⊢
        all_goals
          obtain ⟨hn8, hf8⟩ := unhide HS8
          have eY : ({ Y.aims t with pass := r } : Nd) = Y.begin t r := rfl
          rw [eY] at hn8
          have hYok : NdOk (Y.begin t r) := by rw [unhide HYE]; exact begin_ok (renew_ok (unhide HX)) (unhide HYP)
          have c10 := hn8.c_ptgt
          have c11 := hn8.c_pnum
          have e10 : (Y.begin t r).ptgt = t := rfl
          have e11 : (Y.begin t r).pnum = Y.num + 1 := rfl
          rw [e10] at c10
          rw [e11] at c11
          have HDI := hide (direct_any hYok hn8.drew 1 t (Y.num + 1) t)
          have HN8 := hide hn8
          have HF8 := hide ((unhide HF7).trans hf8 (by simp [feet]))
          have hpo : x.probeNext = ([(Y.begin t r).direct 1 t (Y.num + 1) t], (Y.begin t r).along) := by
            rw [unhide HPN, unhide HYE]
            simp only [Nd.probeOne, unhide HYP]
          have HPO := hide hpo
          generalize hPK : (Y.begin t r).direct 1 t (Y.num + 1) t = PK at HDI HPO
          have l8 := hn8.lt
          clear hn8 hf8 HS8 eY hYok e10 e11 hpo hPK HN7 HF7 HPT HSP c9 f9 l7
          go_region_held3 (fun w' => w'.cell? ⟨nb, 10, none⟩ = some (.int .i64 t) ∧ w'.cell? ⟨nb, 11, none⟩ = some (.int .i64 (Y.num + 1))) (go_keep)
            (first
              | (go_at_call 102; refine (unhide HDI).mono ?_; rintro e w9 ⟨rfl, hn9, hf9⟩; have q10 : w9.cell? ⟨nb, 10, none⟩ = some (.int .i64 t) := hn9.c_ptgt; have q11 : w9.cell? ⟨nb, 11, none⟩ = some (.int .i64 (Y.num + 1)) := hn9.c_pnum; have HN9 := hide hn9; have HF9 := hide ((unhide HF8).trans (S' := [mb]) ⟨hf9.os, hf9.tape, hf9.output, hf9.size, hf9.block⟩ (by simp [feet])); clear hn9 hf9))
          go_wp2
          go_ret
          rw [unhide HPO]
          exact ⟨_, rfl, outs_one PK (unhide HF9).size, _, rv, (unhide HN9).alloc _, (unhide HF9).alloc _, unhide HFT⟩
    · rintro e w2 ⟨rfl, hb2⟩
      have HB2 := hide ((unhide HB1).trans (hb2.mono (unhide HB1).size))
      clear hb2 HB1 HN1
      have he : x.probeNext = ([], x) := by simp [Nd.probeNext, hL]
      go_wp2
      go_ret
      rw [he]
      exact ⟨_, rfl, outs_nil _ _, NTo.here (unhide HN) (unhide HB2)⟩
  · have hp' : (x.ptgt == 0) = false := by simp [hp]
    rw [hp'] at HP
    have he : x.probeNext = ([], x) := by simp [Nd.probeNext, hp]
    go_enter Tryz.func71, Tryz.ntmps71
    go_wp2_with fail
    refine (unhide HP).mono ?_
    rintro e w1 ⟨rfl, hb1⟩
    have HB1 := hide hb1
    clear hb1 HP
    go_wp2
    go_ret
    rw [he]
    exact ⟨_, rfl, outs_nil _ _, NTo.here (unhide HN) (unhide HB1)⟩
end Go.Proofs.YtnneljcbelgoeaaGreatDoor.wire
/- slices.Delete of one number. -/
namespace Go.Proofs.YtnneljcbelgoeaaGreatDoor.wire
open Go.RowKit Go.Maps Go.Sort

theorem IntsAt.holds {w : World} {g n : Nat} {l : List Int} (h : IntsAt w g n l) : Holds (Value.int .i64) w g 0 l.toArray := by
  obtain ⟨cur, hg, hs, hc⟩ := h.ex
  intro i hi
  have hi' : i < l.length := by simpa using hi
  refine ⟨?_, free_at hg _⟩
  rw [cell_at hg, Nat.zero_add, hc i hi', getElem!_pos l.toArray i hi]
  simp
theorem IntsAt.put {w : World} {g n : Nat} {l : List Int} (h : IntsAt w g n l) (d : List Int) (hd : d.length = l.length) (q : Nat) : IntsAt (putRow (Value.int .i64) (Sort.ahead w q) g 0 d.toArray) g n d ∧ Frm [g] w (putRow (Value.int .i64) (Sort.ahead w q) g 0 d.toArray) := by
  obtain ⟨cur, hg, hs, hc⟩ := h.ex
  have hlt : g < w.heap.size := lt_blk hg
  refine ⟨⟨putCells (Value.int .i64) 0 d.toArray cur, ?_, by simp [putCells, hs], fun i hi => ?_⟩, ⟨rfl, rfl, rfl, ?_, fun k hk hn => ?_⟩⟩
  · simp only [putRow, mapBlock, Sort.ahead]
    rw [Array.getElem?_modify, if_pos rfl, hg]
    rfl
  · have hcs : i < cur.size := (Array.getElem?_eq_some_iff.1 (hc i (by omega))).1
    simp only [putCells]
    rw [Array.getElem?_mapIdx, Array.getElem?_eq_getElem hcs, Option.map_some, if_pos (by simp; omega), Nat.sub_zero, getElem!_pos d.toArray i (by simpa using hi)]
    simp
  · simp [putRow, mapBlock, Sort.ahead]
  · simp only [putRow, mapBlock, Sort.ahead]
    rw [Array.getElem?_modify, if_neg (fun e => hn (by simp [e]))]
theorem delete_any {w : World} {g n cap : Nat} {l : List Int} (h : IntsAt w g n l) (hcap : l.length ≤ cap) (hm : cap ≤ maxLen) (j : Nat) (hj : j < l.length) :
    Calls Tryz.prog 134 #[.slice (some ⟨g, 0, none⟩) l.length cap, .int .i64 j, .int .i64 ((j : Int) + 1)] w fun e w' => e = .returned (.slice (some ⟨g, 0, none⟩) (l.length - 1) cap) ∧ IntsAt w' g n (l.eraseIdx j) ∧ Frm [g] w w' := by
  have hD := AnyG.slices_Delete_int Tryz.delA g 0 cap j (j + 1) l w h.holds hcap (by unfold maxLen at hm; omega) (by omega) (by omega)
  rw [show ((j + 1 : Nat) : Int) = (j : Int) + 1 by simp] at hD
  refine hD.mono ?_
  rintro e w' ⟨rfl, q, rfl⟩
  rw [show j + 1 - j = 1 by omega]
  have hlen : (l.take j ++ l.drop (j + 1) ++ List.replicate 1 (0 : Int)).length = l.length := by simp; omega
  obtain ⟨hi, hf⟩ := h.put (l.take j ++ l.drop (j + 1) ++ List.replicate 1 0) hlen q
  refine ⟨rfl, ?_, hf⟩
  obtain ⟨cur, hg, hs, hc⟩ := hi.ex
  refine ⟨cur, hg, hs, fun i hi => ?_⟩
  have hel : l.eraseIdx j = l.take j ++ l.drop (j + 1) := List.eraseIdx_eq_take_drop_succ l j
  have hi2 : i < (l.take j ++ l.drop (j + 1)).length := by rw [← hel]; exact hi
  have := hc i (by simp at hi2 ⊢; omega)
  rw [this, List.getElem_append_left hi2]
  simp only [hel]
end Go.Proofs.YtnneljcbelgoeaaGreatDoor.wire
