import Derived.Test.YtnneljcbelgoeaaGreatNJoin
import Derived.Test.YtnneljcbelgoeaaGreatNOthers
/- See (P4). (Written by wip/gen/mksee.py.) -/
namespace Go.Proofs.YtnneljcbelgoeaaGreat.wire
open Go.RowKit Go.Maps

def Nd.pending (x : Nd) : Nat := (x.tab.filter pendB).length
set_option maxHeartbeats 2000000 in
set_option maxRecDepth 100000 in
theorem see_any {x : Nd} (hx : NdOk x) {nb mb : Nat} {cb : Dk} {pv rv : Value} {W : World} (hn : NAt W nb mb cb pv rv x) :
    Calls Tryz.prog 13 #[.pointer (some ⟨nb, 0, none⟩)] W fun e w' => ∃ v, e = .returned (.agg #[.int .i64 x.clock, .int .i64 x.own.id, .int .i64 x.own.inc, .int .i64 x.own.st, v, .int .i64 x.ptgt, .int .i64 x.pending, .int .i64 x.rels.length, .int .i64 x.dropped, .int .i64 x.lost]) ∧ w'.ownsRow W.heap.size 31 3 v x.others.length (x.others.flatMap keyC) ∧ Below W.heap.size W w' := by
  obtain ⟨rao, rcap, rfl⟩ := own_form hn.rel
  have hlen := hx.len
  have hlen1 : x.tab.length ≤ 1000 := by omega
  have hrl := hx.rels
  have hlt := hn.lt
  have hne : ¬ W.heap.size = nb := by omega
  have hne' : ¬ nb = W.heap.size := by omega
  have hE3 := enters_of Tryz.func29 (by kernel_rfl) rfl
  have hn1 := (hn.alloc (.cells #[.int .i64 0, .int .i64 0, .int .i64 0, .int .i64 0, .slice none 0 0, .int .i64 0, .int .i64 0, .int .i64 0, .int .i64 0, .int .i64 0] 43)).drew
  have HS := hide (self_any hx hn1)
  have HN1 := hide hn1
  have HX1 : Hid ((W.alloc (.cells #[.int .i64 0, .int .i64 0, .int .i64 0, .int .i64 0, .slice none 0 0, .int .i64 0, .int .i64 0, .int .i64 0, .int .i64 0, .int .i64 0] 43)).drew.heap[W.heap.size]? = some (.cells #[.int .i64 0, .int .i64 0, .int .i64 0, .int .i64 0, .slice none 0 0, .int .i64 0, .int .i64 0, .int .i64 0, .int .i64 0, .int .i64 0] 43 (0, 0))) := hide (heap_alloc_new W _)
  have HB1 : Hid (Below W.heap.size W (W.alloc (.cells #[.int .i64 0, .int .i64 0, .int .i64 0, .int .i64 0, .slice none 0 0, .int .i64 0, .int .i64 0, .int .i64 0, .int .i64 0, .int .i64 0] 43)).drew) := hide ((Below.refl _ _).alloc (Nat.le_refl _) _).drew
  have HK := hide hx
  have k0 := hn1.c_clock
  have k1 := hn1.c_ptgt
  have k2 := hn1.c_rels
  have k3 := hn1.c_dropped
  have k4 := hn1.c_lost
  have hpen : x.pending = (x.tab.filter pendB).length := rfl
  rw [hpen]
  clear hn hn1 hx hpen
  generalize x.own = O at HS ⊢
  go_enter Tryz.func13, Tryz.ntmps13
  go_wp2
  go_region_held3 (fun w' => w'.cell? ⟨nb, 7, none⟩ = some (.int .i64 x.clock) ∧ w'.cell? ⟨nb, 10, none⟩ = some (.int .i64 x.ptgt) ∧ w'.cell? ⟨nb, 14, none⟩ = some (.slice rao x.rels.length rcap) ∧ w'.cell? ⟨nb, 17, none⟩ = some (.int .i64 x.dropped) ∧ w'.cell? ⟨nb, 18, none⟩ = some (.int .i64 x.lost)) (go_keep)
    (first
      | (go_at_call 25; refine (unhide HS).mono ?_; rintro e w2 ⟨rfl, hb2⟩; have HN2 := hide ((unhide HN1).below hb2); have cclock_2 := (unhide HN2).c_clock; have cptgt_2 := (unhide HN2).c_ptgt; have crels_2 := (unhide HN2).c_rels; have cdropped_2 := (unhide HN2).c_dropped; have clost_2 := (unhide HN2).c_lost; have HX2 := hide ((hb2.block W.heap.size (lt_blk (unhide HX1))).trans (unhide HX1)); have HB2 := hide ((unhide HB1).trans (hb2.mono (unhide HB1).size));  clear hb2)
      | (go_at_call 26; refine (others_any (unhide HK) (unhide HN2)).mono ?_; rintro e w3 ⟨v3, rfl, ho3, hb3⟩; have HN3 := hide ((unhide HN2).below hb3); have cclock_3 := (unhide HN3).c_clock; have cptgt_3 := (unhide HN3).c_ptgt; have crels_3 := (unhide HN3).c_rels; have cdropped_3 := (unhide HN3).c_dropped; have clost_3 := (unhide HN3).c_lost; have HX3 := hide ((hb3.block W.heap.size (lt_blk (unhide HX2))).trans (unhide HX2)); have HB3 := hide ((unhide HB2).trans (hb3.mono (unhide HB2).size)); obtain ⟨ao3, cap3, rfl⟩ := own_form ho3; have HO3 := hide ho3; clear ho3; clear hb3)
      | (go_at_call 28; refine (members_any (unhide HK) (unhide HN3)).mono ?_; rintro e w4 ⟨v4, rfl, ho4, hb4⟩; have HN4 := hide ((unhide HN3).below hb4); have cclock_4 := (unhide HN4).c_clock; have cptgt_4 := (unhide HN4).c_ptgt; have crels_4 := (unhide HN4).c_rels; have cdropped_4 := (unhide HN4).c_dropped; have clost_4 := (unhide HN4).c_lost; have HX4 := hide ((hb4.block W.heap.size (lt_blk (unhide HX3))).trans (unhide HX3)); have HB4 := hide ((unhide HB3).trans (hb4.mono (unhide HB3).size)); have HO4 := hide ho4; have HO3b := hide (own_below2 (unhide HO3) hb4); clear ho4; clear hb4)
      | (go_at_call 27; refine (keepM_any x.tab pendB 29 #[] #[] (unhide HO4) hlen1 hE3 (fun m W' _ => pend_any m W')).mono ?_; rintro e w5 ⟨v5, rfl, ho5, hb5⟩; have HN5 := hide ((unhide HN4).below hb5); have cclock_5 := (unhide HN5).c_clock; have cptgt_5 := (unhide HN5).c_ptgt; have crels_5 := (unhide HN5).c_rels; have cdropped_5 := (unhide HN5).c_dropped; have clost_5 := (unhide HN5).c_lost; have HX5 := hide ((hb5.block W.heap.size (lt_blk (unhide HX4))).trans (unhide HX4)); have HB5 := hide ((unhide HB4).trans (hb5.mono (unhide HB4).size)); obtain ⟨ao5, cap5, rfl⟩ := own_form ho5; have HO3c := hide (own_below2 (unhide HO3b) hb5); have z0 := cell_at (unhide HX5) 0; have z1 := cell_at (unhide HX5) 1; have z2 := cell_at (unhide HX5) 2; have z3 := cell_at (unhide HX5) 3; have z4 := cell_at (unhide HX5) 4; have z5 := cell_at (unhide HX5) 5; have z6 := cell_at (unhide HX5) 6; have z7 := cell_at (unhide HX5) 7; have z8 := cell_at (unhide HX5) 8; have z9 := cell_at (unhide HX5) 9; have zf := free_at (unhide HX5); simp only [List.getElem?_toArray, List.getElem?_cons_zero, List.getElem?_cons_succ] at z0 z1 z2 z3 z4 z5 z6 z7 z8 z9; clear ho5; clear hb5))
  all_goals
    go_wp2
    have hlt2 := lt_blk (unhide HX2)
    refine bodyPost_ret (v := .agg #[.int .i64 x.clock, .int .i64 O.id, .int .i64 O.inc, .int .i64 O.st, .slice ao3 x.others.length cap3, .int .i64 x.ptgt, .int .i64 (x.tab.filter pendB).length, .int .i64 x.rels.length, .int .i64 x.dropped, .int .i64 x.lost]) (by simp [results, Tryz.results13, go_sem, z0, z1, z2, z3, z4, z5, z6, z7, z8, z9]) rfl ⟨_, rfl, own_mono (ownsRow_setCell_below (ownsRow_setCell_below (ownsRow_setCell_below (ownsRow_setCell_below (ownsRow_setCell_below (ownsRow_setCell_below (ownsRow_setCell_below (ownsRow_setCell_below (ownsRow_setCell_below (ownsRow_setCell_below (unhide HO3c) (a := ⟨W.heap.size, 0, none⟩) hlt2 _) (a := ⟨W.heap.size, 1, none⟩) hlt2 _) (a := ⟨W.heap.size, 2, none⟩) hlt2 _) (a := ⟨W.heap.size, 3, none⟩) hlt2 _) (a := ⟨W.heap.size, 4, none⟩) hlt2 _) (a := ⟨W.heap.size, 5, none⟩) hlt2 _) (a := ⟨W.heap.size, 6, none⟩) hlt2 _) (a := ⟨W.heap.size, 7, none⟩) hlt2 _) (a := ⟨W.heap.size, 8, none⟩) hlt2 _) (a := ⟨W.heap.size, 9, none⟩) hlt2 _) (unhide HB2).size, ((((((((((unhide HB5).setCell (Nat.le_refl _) _).setCell (Nat.le_refl _) _).setCell (Nat.le_refl _) _).setCell (Nat.le_refl _) _).setCell (Nat.le_refl _) _).setCell (Nat.le_refl _) _).setCell (Nat.le_refl _) _).setCell (Nat.le_refl _) _).setCell (Nat.le_refl _) _).setCell (Nat.le_refl _) _⟩
end Go.Proofs.YtnneljcbelgoeaaGreat.wire
