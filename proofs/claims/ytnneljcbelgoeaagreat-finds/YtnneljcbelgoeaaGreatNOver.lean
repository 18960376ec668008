import Derived.Test.YtnneljcbelgoeaaGreatNTickPlain
import Derived.Test.YtnneljcbelgoeaaGreatNAck
import Derived.Test.YtnneljcbelgoeaaGreatNReceive
/- A tick: relays whose time is up (P9). -/
namespace Go.Proofs.YtnneljcbelgoeaaGreat.wire
open Go.RowKit Go.Maps

set_option maxHeartbeats 1000000 in
set_option maxRecDepth 100000 in
theorem late_any {x : Nd} {nb mb : Nat} {cb : Dk} {pv rv : Value} {W : World} (hn : NAt W nb mb cb pv rv x) {p : Nat} (hp : W.heap[p]? = some (.cells #[.pointer (some ⟨nb, 0, none⟩)] 25 (0, 0))) (r : Rel) :
    Calls Tryz.prog 60 (#[] ++ #[.agg #[.int .i64 r.tgt, .int .i64 r.num, .int .i64 r.asker, .int .i64 r.under, .int .i64 r.till]] ++ #[.pointer (some ⟨p, 0, none⟩)]) W fun e w' => e = .returned (.bool (decide (r.till ≤ x.clock))) ∧ Below W.heap.size W w' := by
  have c0 := cell_at hp 0
  have c1 := hn.c_clock
  have l1 := hn.lt
  have l2 := lt_blk hp
  simp only [List.getElem?_toArray, List.getElem?_cons_zero] at c0
  show Calls Tryz.prog 60 #[.agg #[.int .i64 r.tgt, .int .i64 r.num, .int .i64 r.asker, .int .i64 r.under, .int .i64 r.till], .pointer (some ⟨p, 0, none⟩)] W _
  clear hn hp
  go_enter Tryz.func60, Tryz.ntmps60
  go_wp2
  go_quiet (fail)
  go_wp2
  go_ret
  exact ⟨rfl, bdrewN ((Below.refl _ _).alloc (Nat.le_refl _) _) _⟩
set_option maxHeartbeats 1000000 in
set_option maxRecDepth 100000 in
theorem endRelays_any {x : Nd} (hx : NdOk x) {nb mb : Nat} {cb : Dk} {pv rv : Value} {W : World} (hn : NAt W nb mb cb pv rv x) :
    Calls Tryz.prog 30 #[.pointer (some ⟨nb, 0, none⟩)] W fun e w' => e = .returned (.tuple #[]) ∧ NTo W w' nb mb cb pv rv x.endRelays := by
  obtain ⟨rao, rcap, hrv⟩ := own_form hn.rel
  subst hrv
  have hb1 : Below W.heap.size W (W.alloc (.cells #[.pointer (some ⟨nb, 0, none⟩)] 25)) := (Below.refl _ _).alloc (Nat.le_refl _) _
  have hn1 := hn.below hb1
  have bx : (W.alloc (.cells #[.pointer (some ⟨nb, 0, none⟩)] 25)).heap[W.heap.size]? = some (.cells #[.pointer (some ⟨nb, 0, none⟩)] 25 (0, 0)) := heap_alloc_new W _
  have hlt := hn.lt
  have HN1 := hide hn1
  have HB1 := hide hb1
  have p0 := cell_at bx 0
  have p12 := hn1.c_rels
  have pf := free_at hn1.blk 14
  have hrl := hx.rels
  have l1 := hn1.lt
  have l0 := lt_blk bx
  simp only [List.getElem?_toArray, List.getElem?_cons_zero] at p0
  have HD := hide (dropR_any x.rels (fun r => decide (r.till ≤ x.clock)) 60 #[] #[.pointer (some ⟨W.heap.size, 0, none⟩)] (w := (W.alloc (.cells #[.pointer (some ⟨nb, 0, none⟩)] 25)).drew) hn1.rel.drew (by omega) (enters_of Tryz.func60 (by kernel_rfl) rfl) (fun r W' hb => late_any (hn1.drew.below hb) ((hb.block _ (by simp)).trans bx) r))
  clear hn hx hb1 hn1 bx
  generalize hw1 : W.alloc (.cells #[.pointer (some ⟨nb, 0, none⟩)] 25) = w1 at HN1 HB1 p0 p12 pf l1 l0 HD
  go_enter Tryz.func30, Tryz.ntmps30
  go_wp2_with fail
  clear hw1
  go_region_with
    (refine (unhide HD).mono ?_; rintro e w3 ⟨v3, rfl, ho3, hb30⟩; obtain ⟨ao3, cap3, rfl⟩ := own_form ho3; have hb3 : Below w1.heap.size w1 w3 := ⟨hb30.os, hb30.tape, hb30.output, hb30.size, hb30.block⟩; have p0_3 := (hb3.cell (p := ⟨W.heap.size, 0, none⟩) l0).trans p0; have p12_3 := (hb3.cell (p := ⟨nb, 14, none⟩) l1).trans p12; have pf_3 := (hb3.frozen (p := ⟨nb, 14, none⟩) l1).trans pf; clear hb30)
  all_goals
    have hn3 := (unhide HN1).below (W' := w3) hb3
    have HS3 := hide (hn3.setRels (own_mono ho3 (Nat.zero_le _)))
    have HO3 := hide ho3
    have HB3 := hide ((unhide HB1).trans (hb3.mono (unhide HB1).size))
    have hz1 := (unhide HB1).size
    clear hn3 ho3 hb3 HD p0_3 p12_3 pf_3
    go_wp2
    go_end0
    obtain ⟨g1, g2⟩ := unhide HS3
    refine ⟨rfl, pv, _, g1, (Frm.of_below (S := feet nb mb cb pv (.slice rao x.rels.length rcap)) (unhide HB3) (Nat.le_refl _)).trans g2 (by simp [feet]), fun j hj => ?_⟩
    simp only [feet, List.mem_cons, List.mem_append, Option.mem_toList] at hj ⊢
    rcases hj with h | h | h | h | h | h
    · exact .inl (.inl h)
    · exact .inl (.inr (.inl h))
    · exact .inl (.inr (.inr (.inl h)))
    · exact .inl (.inr (.inr (.inr (.inl h))))
    · exact .inr (Nat.le_trans hz1 (own_lt (unhide HO3) h).1)
    · exact .inl (.inr (.inr (.inr (.inr (.inr h)))))
end Go.Proofs.YtnneljcbelgoeaaGreat.wire
/- A tick: suspects whose time is up (P9). -/
namespace Go.Proofs.YtnneljcbelgoeaaGreat.wire
open Go.RowKit Go.Maps

set_option maxHeartbeats 1000000 in
set_option maxRecDepth 100000 in
theorem over_any {x : Nd} {nb mb : Nat} {cb : Dk} {pv rv : Value} {W : World} (hn : NAt W nb mb cb pv rv x) (m : Mem) :
    Calls Tryz.prog 61 #[.pointer (some ⟨nb, 0, none⟩), memv m] W fun e w' => e = .returned (.bool (overB x.clock m)) ∧ Below W.heap.size W w' := by
  have c1 := hn.c_clock
  have l1 := hn.lt
  clear hn
  by_cases h : m.k.st = 2
  · have h1 : (m.k.st == 2) = true := by simp [h]
    have e1 : overB x.clock m = decide (m.due ≤ x.clock) := by simp [overB, h]
    rw [e1]
    go_enter Tryz.func61, Tryz.ntmps61
    go_wp2
    go_quiet (fail)
    go_wp2
    go_ret
    exact ⟨rfl, bdrewN ((Below.refl _ _).alloc (Nat.le_refl _) _) _⟩
  · have h1 : (m.k.st == 2) = false := by simp [h]
    have e1 : overB x.clock m = false := by simp [overB, h]
    rw [e1]
    go_enter Tryz.func61, Tryz.ntmps61
    go_wp2
    go_quiet (fail)
    go_wp2
    go_ret
    exact ⟨rfl, bdrewN ((Below.refl _ _).alloc (Nat.le_refl _) _) _⟩
/-- What stands while suspects are ended. -/
structure EsI (W wr : World) (nb mb : Nat) (cb : Dk) (pv rv : Value) (l : List Mem) (v : Value) (y : Nd) : Prop where
  nto : NTo W wr nb mb cb pv rv y
  row : wr.ownsRow W.heap.size 80 5 v l.length (l.flatMap memC)
theorem EsI.below {W wr w' : World} {nb mb : Nat} {cb : Dk} {pv rv : Value} {l : List Mem} {v : Value} {y : Nd} (h : EsI W wr nb mb cb pv rv l v y) (hb : Below wr.heap.size wr w') : EsI W w' nb mb cb pv rv l v y := by
  obtain ⟨pv1, rv1, hn, hf, hs⟩ := h.nto
  exact ⟨⟨pv1, rv1, hn.below hb, hf.step hb, hs⟩, own_below2 h.row hb⟩
theorem EsI.hear {W wr : World} {nb mb : Nat} {cb : Dk} {pv rv : Value} {l : List Mem} {v : Value} {y : Nd} (h : EsI W wr nb mb cb pv rv l v y) (hy : NdOk y) (hB : NdB Big y) (k : K3) (hk : isKeyB k = true) :
    Calls Tryz.prog 23 #[.pointer (some ⟨nb, 0, none⟩), .agg #[.int .i64 k.id, .int .i64 k.inc, .int .i64 k.st]] wr fun e w' => e = .returned (.tuple #[]) ∧ EsI W w' nb mb cb pv rv l v (y.hear k) := by
  obtain ⟨pv1, rv1, hn, hf, hs⟩ := h.nto
  refine (hear_any hy hB hn k hk).mono ?_
  rintro e w' ⟨rfl, hto⟩
  refine ⟨rfl, ?_⟩
  have hr := h.row
  obtain ⟨pv2, rv2, hn2, hf2, hs2⟩ := hto
  refine ⟨NTo.trans hf hs ⟨pv2, rv2, hn2, hf2, hs2⟩, own_frm hr hf2 (fun k hk => ?_)⟩
  obtain ⟨cs, hcs⟩ := own_blk hr hk
  exact hn.not_feet hcs (by decide) (by decide) (by decide) (by decide)
theorem deads_snoc (x : Nd) (l : List Mem) (k : Nat) (h : k < l.length) : (l.take (k + 1)).foldl (fun y m => y.hear m.dead) x = ((l.take k).foldl (fun y m => y.hear m.dead) x).hear l[k].dead := by
  rw [List.take_succ_eq_append_getElem h, List.foldl_append]; rfl
set_option maxHeartbeats 2000000 in
set_option maxRecDepth 100000 in
theorem endSuspects_any {x : Nd} (hx : NdOk x) (hB : NdB Bg x) {nb mb : Nat} {cb : Dk} {pv rv : Value} {W : World} (hn : NAt W nb mb cb pv rv x) :
    Calls Tryz.prog 31 #[.pointer (some ⟨nb, 0, none⟩)] W fun e w' => e = .returned (.tuple #[]) ∧ NTo W w' nb mb cb pv rv x.endSuspects := by
  have hlen := hx.len
  have HM := hide (members_any hx hn)
  have HN := hide hn
  have hE1 := enters_of Tryz.func61 (by kernel_rfl) rfl
  obtain ⟨l, hL⟩ : ∃ l, l = x.tab.filter (overB x.clock) := ⟨_, rfl⟩
  have he : x.endSuspects = l.foldl (fun y m => y.hear m.dead) x := by rw [hL]; rfl
  have hkeys : ∀ m ∈ x.tab.filter (overB x.clock), isKeyB m.k = true := fun m hm => hx.keys m (List.mem_filter.1 hm).1
  have hl8 : (x.tab.filter (overB x.clock)).length ≤ 8 := Nat.le_trans (List.length_filter_le _ _) hlen
  have HX := hide hx
  have HB := hide hB
  rw [he]
  rw [← hL] at hkeys hl8
  have HL := hide hL
  clear hx hn hB he hL
  go_enter Tryz.func31, Tryz.ntmps31
  go_wp2_with fail
  refine (unhide HM).mono ?_
  rintro e w1 ⟨v1, rfl, ho1, hb1⟩
  have HO1 := hide ho1
  have HB1 := hide hb1
  clear ho1 hb1 HM
  go_wp2_with fail
  refine (keepM_any x.tab (overB x.clock) 61 #[.pointer (some ⟨nb, 0, none⟩)] #[] (unhide HO1) (by omega) hE1 (fun m W' hW' => over_any (((unhide HN).below (unhide HB1)).below hW') m)).mono ?_
  rintro e w2 ⟨v2, rfl, ho2, hb2⟩
  rw [← unhide HL] at ho2
  have hi2 : EsI W w2 nb mb cb pv rv l v2 x := ⟨NTo.here (unhide HN) ((unhide HB1).trans (hb2.mono (unhide HB1).size)), own_mono ho2 (unhide HB1).size⟩
  obtain ⟨ao, cap, rfl⟩ := own_form ho2
  have HI2 := hide hi2
  have HKS := hide hkeys
  clear ho2 hb2 hi2 HO1 HB1 HN hkeys
  go_wp2
  go_loopw [10] (fun i wr => ∃ k : Nat, k ≤ l.length ∧ i = .int .i64 k ∧ Hid (EsI W wr nb mb cb pv rv l (.slice ao l.length cap) ((l.take k).foldl (fun y m => y.hear m.dead) x))) (fun i _ => l.length - (Go.RowKit.intOf i).toNat)
  case atStart => exact ⟨0, Nat.zero_le _, rfl, HI2⟩
  case round =>
    obtain ⟨k, hk, rfl, HI⟩ := hrel
    by_cases hlt : k < l.length
    · rcases (unhide HI).row.2 with ⟨_, h0⟩ | ⟨b, cap', cur, e, _, hg, _⟩
      · omega
      cases e
      obtain ⟨c0, c1, c2, c3, c4⟩ := rowM (unhide HI).row k hlt
      have hbl := lt_blk hg
      have hok := deads_ok (l.take k) (unhide HX) (fun m hm => (unhide HKS) m (List.mem_of_mem_take hm))
      have hbk := (deads_b (l.take k) (unhide HB)).mono (C := Big) (by simp only [Bg, Big, List.length_take]; omega)
      have hkk := dead_key ((unhide HKS) l[k] (List.getElem_mem hlt))
      have HC := fun w' (hb : Below wr.heap.size wr w') => hide (((unhide HI).below hb).hear hok hbk l[k].dead hkk)
      have hsn := deads_snoc x l k hlt
      rw [← hsn] at HC
      clear hsn hok hbk hkk hg
      generalize l[k] = K at c0 c1 c2 c3 c4 HC
      have hb4 : Below wr.heap.size wr (wr.alloc (.cells #[.int .i64 K.k.id, .int .i64 K.k.inc, .int .i64 3, .int .i64 K.due, .int .i64 K.sends] 80)) := (Below.refl _ _).alloc (Nat.le_refl _) _
      have HC4 := HC _ hb4
      simp only [Nat.zero_add] at c0 c1 c2 c3 c4
      clear HC hb4
      go_wp2_with fail
      refine (unhide HC4).mono ?_
      rintro e w4 ⟨rfl, h4⟩
      have H4 := hide h4
      clear h4 HC4 c0 c1 c2 c3 c4
      go_wp2
      go_roundw
      case rel => exact ⟨k + 1, by omega, by go_num, H4⟩
      case measure => simp [Go.RowKit.intOf]; omega
    · have e : k = l.length := by omega
      subst e
      rw [List.take_length] at HI
      go_wp2
      go_end0
      exact ⟨rfl, (unhide HI).nto⟩
end Go.Proofs.YtnneljcbelgoeaaGreat.wire
