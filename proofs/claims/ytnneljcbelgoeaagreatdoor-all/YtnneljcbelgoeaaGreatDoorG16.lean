import Derived.Test.YtnneljcbelgoeaaGreatDoorG12
import Derived.Test.YtnneljcbelgoeaaGreatDoorG15
/- A tick: relays whose time is up (P9). -/
namespace Go.Proofs.YtnneljcbelgoeaaGreatDoor.wire
open Go.RowKit Go.Maps

set_option maxHeartbeats 1000000 in
set_option maxRecDepth 100000 in
theorem late_any {x : Nd} {nb mb : Nat} {cb : Dk} {pv rv : Value} {W : World} (hn : NAt W nb mb cb pv rv x) {p : Nat} (hp : W.heap[p]? = some (.cells #[.pointer (some ⟨nb, 0, none⟩)] 79 (0, 0))) (r : Rel) :
    Calls Tryz.prog 93 (#[] ++ #[.agg #[.int .i64 r.tgt, .int .i64 r.num, .int .i64 r.asker, .int .i64 r.under, .int .i64 r.till]] ++ #[.pointer (some ⟨p, 0, none⟩)]) W fun e w' => e = .returned (.bool (decide (r.till ≤ x.clock))) ∧ Below W.heap.size W w' := by
  have c0 := cell_at hp 0
  have c1 := hn.c_clock
  have l1 := hn.lt
  have l2 := lt_blk hp
  simp only [List.getElem?_toArray, List.getElem?_cons_zero] at c0
  show Calls Tryz.prog 93 #[.agg #[.int .i64 r.tgt, .int .i64 r.num, .int .i64 r.asker, .int .i64 r.under, .int .i64 r.till], .pointer (some ⟨p, 0, none⟩)] W _
  clear hn hp
  go_enter Tryz.func93, Tryz.ntmps93
  go_wp2
  go_quiet (fail)
  go_wp2
  go_ret
  exact ⟨rfl, bdrewN ((Below.refl _ _).alloc (Nat.le_refl _) _) _⟩
set_option maxHeartbeats 1000000 in
set_option maxRecDepth 100000 in
theorem endRelays_any {x : Nd} (hx : NdOk x) {nb mb : Nat} {cb : Dk} {pv rv : Value} {W : World} (hn : NAt W nb mb cb pv rv x) :
    Calls Tryz.prog 68 #[.pointer (some ⟨nb, 0, none⟩)] W fun e w' => e = .returned (.tuple #[]) ∧ NTo W w' nb mb cb pv rv x.endRelays := by
  obtain ⟨rao, rcap, hrv⟩ := own_form hn.rel
  subst hrv
  have hb1 : Below W.heap.size W (W.alloc (.cells #[.pointer (some ⟨nb, 0, none⟩)] 79)) := (Below.refl _ _).alloc (Nat.le_refl _) _
  have hn1 := hn.below hb1
  have bx : (W.alloc (.cells #[.pointer (some ⟨nb, 0, none⟩)] 79)).heap[W.heap.size]? = some (.cells #[.pointer (some ⟨nb, 0, none⟩)] 79 (0, 0)) := heap_alloc_new W _
  have hlt := hn.lt
  have HN1 := hide hn1
  have HB1 := hide hb1
  have p0 := cell_at bx 0
  have p12 := hn1.c_rels
  have pf := free_at hn1.blk 14
  have hrl := hx.rels
  have l1 := hn1.lt
  have l0 := lt_blk bx
  simp only [List.getElem?_toArray, List.getElem?_cons_zero] at p0
  have HD := hide (dropR_any x.rels (fun r => decide (r.till ≤ x.clock)) 93 #[] #[.pointer (some ⟨W.heap.size, 0, none⟩)] (w := (W.alloc (.cells #[.pointer (some ⟨nb, 0, none⟩)] 79)).drew) hn1.rel.drew (by omega) (enters_of Tryz.func93 (by kernel_rfl) rfl) (fun r W' hb => late_any (hn1.drew.below hb) ((hb.block _ (by simp)).trans bx) r))
  clear hn hx hb1 hn1 bx
  generalize hw1 : W.alloc (.cells #[.pointer (some ⟨nb, 0, none⟩)] 79) = w1 at HN1 HB1 p0 p12 pf l1 l0 HD
  go_enter Tryz.func68, Tryz.ntmps68
  go_wp2_with fail
  clear hw1
  go_region_with
    (refine (unhide HD).mono ?_; rintro e w3 ⟨v3, rfl, ho3, hb30⟩; obtain ⟨ao3, cap3, rfl⟩ := own_form ho3; have hb3 : Below w1.heap.size w1 w3 := ⟨hb30.os, hb30.tape, hb30.output, hb30.size, hb30.block⟩; have p0_3 := (hb3.cell (p := ⟨W.heap.size, 0, none⟩) l0).trans p0; have p12_3 := (hb3.cell (p := ⟨nb, 14, none⟩) l1).trans p12; have pf_3 := (hb3.frozen (p := ⟨nb, 14, none⟩) l1).trans pf; clear hb30)
  all_goals
    have hn3 := (unhide HN1).below (W' := w3) hb3
    have HS3 := hide (hn3.setRels (own_mono ho3 (Nat.zero_le _)))
    have HO3 := hide ho3
    have HB3 := hide ((unhide HB1).trans (hb3.mono (unhide HB1).size))
    have hz1 := (unhide HB1).size
    clear hn3 ho3 hb3 HD p0_3 p12_3 pf_3
    go_wp2
    go_end0
    obtain ⟨g1, g2⟩ := unhide HS3
    refine ⟨rfl, pv, _, g1, (Frm.of_below (S := feet nb mb cb pv (.slice rao x.rels.length rcap)) (unhide HB3) (Nat.le_refl _)).trans g2 (by simp [feet]), fun j hj => ?_⟩
    simp only [feet, List.mem_cons, List.mem_append, Option.mem_toList] at hj ⊢
    rcases hj with h | h | h | h | h | h
    · exact .inl (.inl h)
    · exact .inl (.inr (.inl h))
    · exact .inl (.inr (.inr (.inl h)))
    · exact .inl (.inr (.inr (.inr (.inl h))))
    · exact .inr (Nat.le_trans hz1 (own_lt (unhide HO3) h).1)
    · exact .inl (.inr (.inr (.inr (.inr (.inr h)))))
end Go.Proofs.YtnneljcbelgoeaaGreatDoor.wire
