import Derived.Test.YtnneljcbelgoeaaGreatNTickPlain
import Derived.Test.YtnneljcbelgoeaaGreatNReceive
/- A tick: suspects whose time is up (P9). -/
namespace Go.Proofs.YtnneljcbelgoeaaGreat.wire
open Go.RowKit Go.Maps

set_option maxHeartbeats 1000000 in
set_option maxRecDepth 100000 in
theorem over_any {x : Nd} {nb mb : Nat} {cb : Dk} {pv rv : Value} {W : World} (hn : NAt W nb mb cb pv rv x) (m : Mem) :
    Calls Tryz.prog 61 #[.pointer (some ⟨nb, 0, none⟩), memv m] W fun e w' => e = .returned (.bool (overB x.clock m)) ∧ Below W.heap.size W w' := by
  have c1 := hn.c_clock
  have l1 := hn.lt
  clear hn
  by_cases h : m.k.st = 2
  · have h1 : (m.k.st == 2) = true := by simp [h]
    have e1 : overB x.clock m = decide (m.due ≤ x.clock) := by simp [overB, h]
    rw [e1]
    go_enter Tryz.func61, Tryz.ntmps61
    go_wp2
    go_quiet (fail)
    go_wp2
    go_ret
    exact ⟨rfl, bdrewN ((Below.refl _ _).alloc (Nat.le_refl _) _) _⟩
  · have h1 : (m.k.st == 2) = false := by simp [h]
    have e1 : overB x.clock m = false := by simp [overB, h]
    rw [e1]
    go_enter Tryz.func61, Tryz.ntmps61
    go_wp2
    go_quiet (fail)
    go_wp2
    go_ret
    exact ⟨rfl, bdrewN ((Below.refl _ _).alloc (Nat.le_refl _) _) _⟩
/-- What stands while suspects are ended. -/
structure EsI (W wr : World) (nb mb : Nat) (cb : Dk) (pv rv : Value) (l : List Mem) (v : Value) (y : Nd) : Prop where
  nto : NTo W wr nb mb cb pv rv y
  row : wr.ownsRow W.heap.size 80 5 v l.length (l.flatMap memC)
theorem EsI.below {W wr w' : World} {nb mb : Nat} {cb : Dk} {pv rv : Value} {l : List Mem} {v : Value} {y : Nd} (h : EsI W wr nb mb cb pv rv l v y) (hb : Below wr.heap.size wr w') : EsI W w' nb mb cb pv rv l v y := by
  obtain ⟨pv1, rv1, hn, hf, hs⟩ := h.nto
  exact ⟨⟨pv1, rv1, hn.below hb, hf.step hb, hs⟩, own_below2 h.row hb⟩
theorem EsI.hear {W wr : World} {nb mb : Nat} {cb : Dk} {pv rv : Value} {l : List Mem} {v : Value} {y : Nd} (h : EsI W wr nb mb cb pv rv l v y) (hy : NdOk y) (hB : NdB Big y) (k : K3) (hk : isKeyB k = true) :
    Calls Tryz.prog 23 #[.pointer (some ⟨nb, 0, none⟩), .agg #[.int .i64 k.id, .int .i64 k.inc, .int .i64 k.st]] wr fun e w' => e = .returned (.tuple #[]) ∧ EsI W w' nb mb cb pv rv l v (y.hear k) := by
  obtain ⟨pv1, rv1, hn, hf, hs⟩ := h.nto
  refine (hear_any hy hB hn k hk).mono ?_
  rintro e w' ⟨rfl, hto⟩
  refine ⟨rfl, ?_⟩
  have hr := h.row
  obtain ⟨pv2, rv2, hn2, hf2, hs2⟩ := hto
  refine ⟨NTo.trans hf hs ⟨pv2, rv2, hn2, hf2, hs2⟩, own_frm hr hf2 (fun k hk => ?_)⟩
  obtain ⟨cs, hcs⟩ := own_blk hr hk
  exact hn.not_feet hcs (by decide) (by decide) (by decide) (by decide)
theorem deads_snoc (x : Nd) (l : List Mem) (k : Nat) (h : k < l.length) : (l.take (k + 1)).foldl (fun y m => y.hear m.dead) x = ((l.take k).foldl (fun y m => y.hear m.dead) x).hear l[k].dead := by
  rw [List.take_succ_eq_append_getElem h, List.foldl_append]; rfl
set_option maxHeartbeats 2000000 in
set_option maxRecDepth 100000 in
theorem endSuspects_any {x : Nd} (hx : NdOk x) (hB : NdB Bg x) {nb mb : Nat} {cb : Dk} {pv rv : Value} {W : World} (hn : NAt W nb mb cb pv rv x) :
    Calls Tryz.prog 31 #[.pointer (some ⟨nb, 0, none⟩)] W fun e w' => e = .returned (.tuple #[]) ∧ NTo W w' nb mb cb pv rv x.endSuspects := by
  have hlen := hx.len
  have HM := hide (members_any hx hn)
  have HN := hide hn
  have hE1 := enters_of Tryz.func61 (by kernel_rfl) rfl
  obtain ⟨l, hL⟩ : ∃ l, l = x.tab.filter (overB x.clock) := ⟨_, rfl⟩
  have he : x.endSuspects = l.foldl (fun y m => y.hear m.dead) x := by rw [hL]; rfl
  have hkeys : ∀ m ∈ x.tab.filter (overB x.clock), isKeyB m.k = true := fun m hm => hx.keys m (List.mem_filter.1 hm).1
  have hl8 : (x.tab.filter (overB x.clock)).length ≤ 8 := Nat.le_trans (List.length_filter_le _ _) hlen
  have HX := hide hx
  have HB := hide hB
  rw [he]
  rw [← hL] at hkeys hl8
  have HL := hide hL
  clear hx hn hB he hL
  go_enter Tryz.func31, Tryz.ntmps31
  go_wp2_with fail
  refine (unhide HM).mono ?_
  rintro e w1 ⟨v1, rfl, ho1, hb1⟩
  have HO1 := hide ho1
  have HB1 := hide hb1
  clear ho1 hb1 HM
  go_wp2_with fail
  refine (keepM_any x.tab (overB x.clock) 61 #[.pointer (some ⟨nb, 0, none⟩)] #[] (unhide HO1) (by omega) hE1 (fun m W' hW' => over_any (((unhide HN).below (unhide HB1)).below hW') m)).mono ?_
  rintro e w2 ⟨v2, rfl, ho2, hb2⟩
  rw [← unhide HL] at ho2
  have hi2 : EsI W w2 nb mb cb pv rv l v2 x := ⟨NTo.here (unhide HN) ((unhide HB1).trans (hb2.mono (unhide HB1).size)), own_mono ho2 (unhide HB1).size⟩
  obtain ⟨ao, cap, rfl⟩ := own_form ho2
  have HI2 := hide hi2
  have HKS := hide hkeys
  clear ho2 hb2 hi2 HO1 HB1 HN hkeys
  go_wp2
  go_loopw [10] (fun i wr => ∃ k : Nat, k ≤ l.length ∧ i = .int .i64 k ∧ Hid (EsI W wr nb mb cb pv rv l (.slice ao l.length cap) ((l.take k).foldl (fun y m => y.hear m.dead) x))) (fun i _ => l.length - (Go.RowKit.intOf i).toNat)
  case atStart => exact ⟨0, Nat.zero_le _, rfl, HI2⟩
  case round =>
    obtain ⟨k, hk, rfl, HI⟩ := hrel
    by_cases hlt : k < l.length
    · rcases (unhide HI).row.2 with ⟨_, h0⟩ | ⟨b, cap', cur, e, _, hg, _⟩
      · omega
      cases e
      obtain ⟨c0, c1, c2, c3, c4⟩ := rowM (unhide HI).row k hlt
      have hbl := lt_blk hg
      have hok := deads_ok (l.take k) (unhide HX) (fun m hm => (unhide HKS) m (List.mem_of_mem_take hm))
      have hbk := (deads_b (l.take k) (unhide HB)).mono (C := Big) (by simp only [Bg, Big, List.length_take]; omega)
      have hkk := dead_key ((unhide HKS) l[k] (List.getElem_mem hlt))
      have HC := fun w' (hb : Below wr.heap.size wr w') => hide (((unhide HI).below hb).hear hok hbk l[k].dead hkk)
      have hsn := deads_snoc x l k hlt
      rw [← hsn] at HC
      clear hsn hok hbk hkk hg
      generalize l[k] = K at c0 c1 c2 c3 c4 HC
      have hb4 : Below wr.heap.size wr (wr.alloc (.cells #[.int .i64 K.k.id, .int .i64 K.k.inc, .int .i64 3, .int .i64 K.due, .int .i64 K.sends] 80)) := (Below.refl _ _).alloc (Nat.le_refl _) _
      have HC4 := HC _ hb4
      simp only [Nat.zero_add] at c0 c1 c2 c3 c4
      clear HC hb4
      go_wp2_with fail
      refine (unhide HC4).mono ?_
      rintro e w4 ⟨rfl, h4⟩
      have H4 := hide h4
      clear h4 HC4 c0 c1 c2 c3 c4
      go_wp2
      go_roundw
      case rel => exact ⟨k + 1, by omega, by go_num, H4⟩
      case measure => simp [Go.RowKit.intOf]; omega
    · have e : k = l.length := by omega
      subst e
      rw [List.take_length] at HI
      go_wp2
      go_end0
      exact ⟨rfl, (unhide HI).nto⟩
end Go.Proofs.YtnneljcbelgoeaaGreat.wire
