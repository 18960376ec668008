import Derived.Test.YtnneljcbelgoeaaGreatNTickPlain
import Derived.Test.YtnneljcbelgoeaaGreatNReceive
import Derived.Test.YtnneljcbelgoeaaGreatNList
/- A tick: present, isProbing, the end of a probe (P9). -/
namespace Go.Proofs.YtnneljcbelgoeaaGreat.wire
open Go.RowKit Go.Maps

theorem idOf_any (k : K3) (W : World) : Calls Tryz.prog 92 #[.agg #[.int .i64 k.id, .int .i64 k.inc, .int .i64 k.st]] W fun e w' => e = .returned (.int .i64 k.id) ∧ Below W.heap.size W w' := by
  go_enter Tryz.func92, Tryz.ntmps92
  go_wp2
  go_ret
  exact ⟨rfl, (Below.refl _ _).alloc (Nat.le_refl _) _⟩
set_option maxHeartbeats 1000000 in
theorem present_any {x : Nd} (hx : NdOk x) {nb mb : Nat} {cb : Dk} {pv rv : Value} {W : World} (hn : NAt W nb mb cb pv rv x) :
    Calls Tryz.prog 66 #[.pointer (some ⟨nb, 0, none⟩)] W fun e w' => ∃ v, e = .returned v ∧ w'.ownsRow W.heap.size 3 1 v x.present.length (x.present.flatMap intC) ∧ Below W.heap.size W w' := by
  have hlen := hx.len
  have hlen1 : x.others.length ≤ 1000 := by
    unfold Nd.others
    rw [List.length_map]
    exact Nat.le_trans (List.length_filter_le _ _) (by omega)
  have hlen2 : (x.others.filter thereB).length ≤ 1000 := Nat.le_trans (List.length_filter_le _ _) hlen1
  have hE1 := enters_of Tryz.func78 (by kernel_rfl) rfl
  have hE2 := enters_of Tryz.func92 (by kernel_rfl) rfl
  have HM := hide (others_any hx hn)
  have hoth : x.present = (x.others.filter thereB).map K3.id := rfl
  rw [hoth]
  clear hx hn hoth
  go_enter Tryz.func66, Tryz.ntmps66
  go_wp2_with fail
  refine (unhide HM).mono ?_
  rintro e w1 ⟨v1, rfl, ho1, hb1⟩
  have HO1 := hide ho1
  have HB1 := hide hb1
  clear ho1 hb1 HM
  go_wp2_with fail
  refine (keepK_any x.others thereB 78 #[] #[] (unhide HO1) hlen1 hE1 (fun k W' _ => there_any k W')).mono ?_
  rintro e w2 ⟨v2, rfl, ho2, hb2⟩
  have HO2 := hide ho2
  have HB2 := hide ((unhide HB1).trans (hb2.mono (unhide HB1).size))
  clear ho2 hb2 HO1 HB1
  go_wp2_with fail
  refine (turnKI_any (x.others.filter thereB) K3.id 92 #[] #[] (unhide HO2) hlen2 hE2 (fun k _ W' _ => idOf_any k W')).mono ?_
  rintro e w3 ⟨v3, rfl, ho3, hb3⟩
  have HO3 := hide (own_mono ho3 (unhide HB2).size)
  have HB3 := hide ((unhide HB2).trans (hb3.mono (unhide HB2).size))
  clear ho3 hb3 HO2 HB2
  go_wp2
  go_ret
  exact ⟨v3, rfl, unhide HO3, unhide HB3⟩
theorem probing_any {x : Nd} {nb mb : Nat} {cb : Dk} {pv rv : Value} {W : World} (hn : NAt W nb mb cb pv rv x) :
    Calls Tryz.prog 62 #[.pointer (some ⟨nb, 0, none⟩)] W fun e w' => e = .returned (.bool (!(x.ptgt == 0))) ∧ Below W.heap.size W w' := by
  have c0 := hn.c_ptgt
  have hlt := hn.lt
  clear hn
  go_enter Tryz.func62, Tryz.ntmps62
  go_wp2
  go_ret
  exact ⟨rfl, Below.refl _ _⟩
end Go.Proofs.YtnneljcbelgoeaaGreat.wire
/- A tick: the end of a probe (P9). -/
namespace Go.Proofs.YtnneljcbelgoeaaGreat.wire
open Go.RowKit Go.Maps

/-- No probe is left. -/
theorem NAt.idle {W : World} {nb mb : Nat} {cb : Dk} {pv rv : Value} {x : Nd} (h : NAt W nb mb cb pv rv x) :
    NAt ((((W.setCell ⟨nb, 10, none⟩ (.int .i64 0)).setCell ⟨nb, 11, none⟩ (.int .i64 0)).setCell ⟨nb, 12, none⟩ (.int .i64 0)).setCell ⟨nb, 13, none⟩ (.bool false)) nb mb cb pv rv x.idle ∧ Frm [nb] W ((((W.setCell ⟨nb, 10, none⟩ (.int .i64 0)).setCell ⟨nb, 11, none⟩ (.int .i64 0)).setCell ⟨nb, 12, none⟩ (.int .i64 0)).setCell ⟨nb, 13, none⟩ (.bool false)) := by
  obtain ⟨a1, b1⟩ := h.set 10 (.int .i64 0) (x' := { x with ptgt := 0 }) rfl rfl rfl rfl rfl
  obtain ⟨a2, b2⟩ := a1.set 11 (.int .i64 0) (x' := { x with ptgt := 0, pnum := 0 }) rfl rfl rfl rfl rfl
  obtain ⟨a3, b3⟩ := a2.set 12 (.int .i64 0) (x' := { x with ptgt := 0, pnum := 0, pst := 0 }) rfl rfl rfl rfl rfl
  obtain ⟨a4, b4⟩ := a3.set 13 (.bool false) (x' := x.idle) rfl rfl rfl rfl rfl
  exact ⟨a4, ((b1.trans b2 (by simp)).trans b3 (by simp)).trans b4 (by simp)⟩
set_option maxHeartbeats 1000000 in
set_option maxRecDepth 100000 in
theorem endProbe_any {x : Nd} (hx : NdOk x) (hB : NdB Big x) {nb mb : Nat} {cb : Dk} {pv rv : Value} {W : World} (hn : NAt W nb mb cb pv rv x) :
    Calls Tryz.prog 64 #[.pointer (some ⟨nb, 0, none⟩)] W fun e w' => e = .returned (.tuple #[]) ∧ NTo W w' nb mb cb pv rv x.endProbe := by
  have q0 := hn.c_ptgt
  have q1 := hn.c_pnum
  have q2 := hn.c_pst
  have q3 := hn.c_pack
  have f0 := free_at hn.blk 10
  have f1 := free_at hn.blk 11
  have f2 := free_at hn.blk 12
  have f3 := free_at hn.blk 13
  have hlt := hn.lt
  have htgt : 0 ≤ x.ptgt ∧ x.ptgt ≤ 250 := by have := hx.pass.tgt; omega
  have hid := hn.idle
  have HID := hide hid
  have HX := hide hx
  have HB := hide hB
  obtain ⟨T, hT⟩ : ∃ T, T = atM x.ptgt x.tab := ⟨_, rfl⟩
  have HT := hide hT
  clear hn hx hB hid hT
  go_enter Tryz.func64, Tryz.ntmps64
  go_wp2
  generalize hw : ((((W.setCell ⟨nb, 10, none⟩ (.int .i64 0)).setCell ⟨nb, 11, none⟩ (.int .i64 0)).setCell ⟨nb, 12, none⟩ (.int .i64 0)).setCell ⟨nb, 13, none⟩ (.bool false)) = w0 at HID ⊢
  have hz0 : w0.heap.size = W.heap.size := by rw [← hw]; simp
  have HZ0 := hide hz0
  generalize hw1 : w0.alloc (.cells #[.int .i64 x.ptgt, .int .i64 x.pnum, .int .i64 x.pst, .bool x.pack] 66) = w1
  have hn1 : NAt w1 nb mb cb pv rv x.idle := by rw [← hw1]; exact (unhide HID).1.alloc _
  have hf1 : Frm [nb] W w1 := by rw [← hw1]; exact (unhide HID).2.alloc _
  have hbx : w1.heap[W.heap.size]? = some (.cells #[.int .i64 x.ptgt, .int .i64 x.pnum, .int .i64 x.pst, .bool x.pack] 66 (0, 0)) := by rw [← hw1, ← hz0]; exact heap_alloc_new w0 _
  clear hw hw1 HID hz0 HZ0 q0 q1 q2 q3 f0 f1 f2 f3
  have e0 := cell_at hbx 0
  have e3 := cell_at hbx 3
  simp only [List.getElem?_toArray, List.getElem?_cons_zero, List.getElem?_cons_succ] at e0 e3
  have c8 := hn1.c_map
  have hl0 := look_at hn1.map.drew (i := x.ptgt) (by omega) (by omega)
  have hl1 := fun o => look_at (hn1.alloc o).map.drew (i := x.ptgt) (by omega) (by omega)
  have hit : x.idle.tab = x.tab := rfl
  rw [hit, ← unhide HT] at hl0 hl1
  simp only [memv] at hl0 hl1
  have hfk := field_key
  have l1 := lt_blk hbx
  have l2 := hn1.lt
  have HN1 := hide hn1
  have HF1 := hide hf1
  have HBX := hide hbx
  clear hn1 hf1 hbx hit
  go_region
  all_goals
    clear hl0 hl1 hfk c8 e0 e3
    generalize hw2 : (w1.alloc (.cells #[.int .i64 T.k.id, .int .i64 T.k.inc, .int .i64 T.k.st] 31)).drew = w2
    have hn2 : NAt w2 nb mb cb pv rv x.idle := by rw [← hw2]; exact ((unhide HN1).alloc _).drew
    have hf2 : Frm [nb] W w2 := by rw [← hw2]; exact (unhide HF1).step (bdrew ((Below.refl _ _).alloc (Nat.le_refl _) _))
    have hk2 : w2.heap[w1.heap.size]? = some (.cells #[.int .i64 T.k.id, .int .i64 T.k.inc, .int .i64 T.k.st] 31 (0, 0)) := by rw [← hw2]; exact heap_alloc_new w1 _
    have hx2 : w2.heap[W.heap.size]? = some (.cells #[.int .i64 x.ptgt, .int .i64 x.pnum, .int .i64 x.pst, .bool x.pack] 66 (0, 0)) := by rw [← hw2]; exact (Below.heap_alloc w1 _ _ l1).trans (unhide HBX)
    have e3 := cell_at hx2 3
    have k0 := cell_at hk2 0
    have k1 := cell_at hk2 1
    have k2 := cell_at hk2 2
    have kf := free_at hk2 2
    simp only [List.getElem?_toArray, List.getElem?_cons_zero, List.getElem?_cons_succ] at e3 k0 k1 k2
    have hk3 := heap_setCell_same w2 w1.heap.size 2 _ _ (.int .i64 2) hk2
    have b0 := cell_at hk3 0
    have b1 := cell_at hk3 1
    have b2 := cell_at hk3 2
    simp only [List.setIfInBounds_toArray, List.set_cons_succ, List.set_cons_zero, List.getElem?_toArray, List.getElem?_cons_zero, List.getElem?_cons_succ] at b0 b1 b2
    have hft2 : Frm (feet nb mb cb pv rv) W w2 := (Frm.refl _ W).trans hf2 (by simp [feet])
    have hto2 : NTo W w2 nb mb cb pv rv x.idle := ⟨pv, rv, hn2, hft2, fun j hj => .inl hj⟩
    have hfk3 : Frm [w1.heap.size] w2 (w2.setCell ⟨w1.heap.size, 2, none⟩ (.int .i64 2)) := by
      have hb := (Below.refl 0 w2).setCell (p := ⟨w1.heap.size, 2, none⟩) (Nat.zero_le _) (.int .i64 2)
      exact ⟨hb.os, hb.tape, hb.output, hb.size, fun k _ hk => heap_setCell_other w2 ⟨w1.heap.size, 2, none⟩ k _ (by simpa using hk)⟩
    have hn3 : NAt (w2.setCell ⟨w1.heap.size, 2, none⟩ (.int .i64 2)) nb mb cb pv rv x.idle := hn2.frm hfk3 (fun k hk => by
      have := (unhide HN1).feet_lt k hk
      simp; omega)
    have hf3 : Frm (feet nb mb cb pv rv) W (w2.setCell ⟨w1.heap.size, 2, none⟩ (.int .i64 2)) := hft2.trans hfk3 (by simp; omega)
    have HN3 := hide hn3
    have HF3 := hide hf3
    have HTO := hide hto2
    clear hw2 hn2 hf2 hk2 hx2 hk3 hft2 hto2 hfk3 hn3 hf3 HN1 HF1 HBX
    rcases hp : x.pack with _ | _
    · rw [hp] at e3
      by_cases hs : T.k.st = 1
      · have hs' : (T.k.st == 1) = true := by simp [hs]
        have hep : x.endProbe = x.idle.hear ⟨T.k.id, T.k.inc, 2⟩ := by
          have h := unhide HT
          rw [h] at hs ⊢
          simp [Nd.endProbe, hp, hs]
        have hky : isKeyB ⟨T.k.id, T.k.inc, 2⟩ = true := by
          have h := unhide HT
          rw [h] at hs ⊢
          exact sus_key (unhide HX) hs
        have HC := hide (hear_any (idle_ok (unhide HX)) (idle_b (unhide HB)) (unhide HN3) ⟨T.k.id, T.k.inc, 2⟩ hky)
        rw [← hep] at HC
        clear hep hky
        go_wp2_with fail
        refine (unhide HC).mono ?_
        rintro e w4 ⟨rfl, h4⟩
        have H4 := hide (NTo.trans (unhide HF3) (fun k hk => .inl hk) h4)
        clear h4 HC b0 b1 b2 k0 k1 k2 kf e3
        go_wp2
        go_end0
        exact ⟨rfl, unhide H4⟩
      · have hs' : (T.k.st == 1) = false := by simp [hs]
        have hep : x.endProbe = x.idle := by
          have h := unhide HT
          rw [h] at hs
          simp [Nd.endProbe, hs]
        go_wp2
        refine bodyPost_ret (results_none rfl _ _ _) rfl ?_
        rw [hep]
        exact ⟨rfl, unhide HTO⟩
    · rw [hp] at e3
      have hep : x.endProbe = x.idle := by simp [Nd.endProbe, hp]
      go_wp2
      refine bodyPost_ret (results_none rfl _ _ _) rfl ?_
      rw [hep]
      exact ⟨rfl, unhide HTO⟩
end Go.Proofs.YtnneljcbelgoeaaGreat.wire
