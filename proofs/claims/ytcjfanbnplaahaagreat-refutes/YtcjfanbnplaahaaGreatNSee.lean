import Derived.Test.YtcjfanbnplaahaaGreatNJoin
/- See (P4). (Written by wip/gen/mksee.py.) -/
namespace Go.Proofs.YtcjfanbnplaahaaGreat.wire
open Go.RowKit Go.Maps

/-- The others' keys. -/
def Nd.others (x : Nd) : List K3 := (x.tab.filter (fun m => !(m.k.id == x.c.self))).map Mem.k
def Nd.pending (x : Nd) : Nat := (x.tab.filter pendB).length
set_option maxHeartbeats 2000000 in
set_option maxRecDepth 100000 in
theorem see_any {x : Nd} (hx : NdOk x) {nb mb cb : Nat} {pv rv : Value} {W : World} (hn : NAt W nb mb cb pv rv x) :
    Calls Tryz.prog 11 #[.pointer (some ⟨nb, 0, none⟩)] W fun e w' => ∃ v, e = .returned (.agg #[.int .i64 x.clock, .int .i64 x.own.id, .int .i64 x.own.inc, .int .i64 x.own.st, v, .int .i64 x.ptgt, .int .i64 x.pending, .int .i64 x.rels.length, .int .i64 x.dropped, .int .i64 x.lost]) ∧ w'.ownsRow W.heap.size 31 3 v x.others.length (x.others.flatMap keyC) ∧ Below W.heap.size W w' := by
  obtain ⟨rao, rcap, rfl⟩ := own_form hn.rel
  have hlen := hx.len
  have hlen1 : x.tab.length ≤ 1000 := by omega
  have hlen2 : (x.tab.filter (fun m => !(m.k.id == x.c.self))).length ≤ 1000 := Nat.le_trans (List.length_filter_le _ _) hlen1
  have hrl := hx.rels
  have hlt := hn.lt
  have hne : ¬ W.heap.size = nb := by omega
  have hne' : ¬ nb = W.heap.size := by omega
  have hE1 := enters_of Tryz.func27 (by kernel_rfl) rfl
  have hE2 := enters_of Tryz.func28 (by kernel_rfl) rfl
  have hE3 := enters_of Tryz.func30 (by kernel_rfl) rfl
  have hn1 := (hn.alloc (.cells #[.int .i64 0, .int .i64 0, .int .i64 0, .int .i64 0, .slice none 0 0, .int .i64 0, .int .i64 0, .int .i64 0, .int .i64 0, .int .i64 0] 43)).drew
  have HS := hide (self_any hx hn1)
  have HN1 := hide hn1
  have HX1 : Hid ((W.alloc (.cells #[.int .i64 0, .int .i64 0, .int .i64 0, .int .i64 0, .slice none 0 0, .int .i64 0, .int .i64 0, .int .i64 0, .int .i64 0, .int .i64 0] 43)).drew.heap[W.heap.size]? = some (.cells #[.int .i64 0, .int .i64 0, .int .i64 0, .int .i64 0, .slice none 0 0, .int .i64 0, .int .i64 0, .int .i64 0, .int .i64 0, .int .i64 0] 43 (0, 0))) := hide (heap_alloc_new W _)
  have HB1 : Hid (Below W.heap.size W (W.alloc (.cells #[.int .i64 0, .int .i64 0, .int .i64 0, .int .i64 0, .slice none 0 0, .int .i64 0, .int .i64 0, .int .i64 0, .int .i64 0, .int .i64 0] 43)).drew) := hide ((Below.refl _ _).alloc (Nat.le_refl _) _).drew
  have HK := hide hx
  have k0 := hn1.c_clock
  have k1 := hn1.c_ptgt
  have k2 := hn1.c_rels
  have k3 := hn1.c_dropped
  have k4 := hn1.c_lost
  have hoth : x.others = (x.tab.filter (fun m => !(m.k.id == x.c.self))).map Mem.k := rfl
  have hpen : x.pending = (x.tab.filter pendB).length := rfl
  rw [hoth, hpen]
  clear hn hn1 hx hoth hpen
  generalize x.own = O at HS ⊢
  go_enter Tryz.func11, Tryz.ntmps11
  go_wp2
  go_region_held3 (fun w' => w'.cell? ⟨nb, 6, none⟩ = some (.int .i64 x.clock) ∧ w'.cell? ⟨nb, 9, none⟩ = some (.int .i64 x.ptgt) ∧ w'.cell? ⟨nb, 12, none⟩ = some (.slice rao x.rels.length rcap) ∧ w'.cell? ⟨nb, 15, none⟩ = some (.int .i64 x.dropped) ∧ w'.cell? ⟨nb, 16, none⟩ = some (.int .i64 x.lost)) (go_keep)
    (first
      | (go_at_call 23; refine (unhide HS).mono ?_; rintro e w2 ⟨rfl, hb2⟩; have HN2 := hide ((unhide HN1).below hb2); have cclock_2 := (unhide HN2).c_clock; have cptgt_2 := (unhide HN2).c_ptgt; have crels_2 := (unhide HN2).c_rels; have cdropped_2 := (unhide HN2).c_dropped; have clost_2 := (unhide HN2).c_lost; have HX2 := hide ((hb2.block W.heap.size (lt_blk (unhide HX1))).trans (unhide HX1)); have HB2 := hide ((unhide HB1).trans (hb2.mono (unhide HB1).size));  clear hb2)
      | (go_at_call 26; refine (members_any (unhide HK) (unhide HN2)).mono ?_; rintro e w3 ⟨v3, rfl, ho3, hb3⟩; have HN3 := hide ((unhide HN2).below hb3); have cclock_3 := (unhide HN3).c_clock; have cptgt_3 := (unhide HN3).c_ptgt; have crels_3 := (unhide HN3).c_rels; have cdropped_3 := (unhide HN3).c_dropped; have clost_3 := (unhide HN3).c_lost; have HX3 := hide ((hb3.block W.heap.size (lt_blk (unhide HX2))).trans (unhide HX2)); have HB3 := hide ((unhide HB2).trans (hb3.mono (unhide HB2).size)); have HO3 := hide ho3; clear ho3; clear hb3)
      | (go_at_call 25; refine (dropM_any x.tab (fun m => m.k.id == x.c.self) 27 #[.pointer (some ⟨nb, 0, none⟩)] #[] (unhide HO3) hlen1 hE1 (fun m W' hW' => isSelf_any ((unhide HN3).below hW') m)).mono ?_; rintro e w4 ⟨v4, rfl, ho4, hb4⟩; have HN4 := hide ((unhide HN3).below hb4); have cclock_4 := (unhide HN4).c_clock; have cptgt_4 := (unhide HN4).c_ptgt; have crels_4 := (unhide HN4).c_rels; have cdropped_4 := (unhide HN4).c_dropped; have clost_4 := (unhide HN4).c_lost; have HX4 := hide ((hb4.block W.heap.size (lt_blk (unhide HX3))).trans (unhide HX3)); have HB4 := hide ((unhide HB3).trans (hb4.mono (unhide HB3).size)); have HO4 := hide ho4; clear ho4; clear hb4)
      | (go_at_call 24; refine (turnMK_any (x.tab.filter (fun m => !(m.k.id == x.c.self))) Mem.k 28 #[] #[] (unhide HO4) hlen2 hE2 (fun m _ W' _ => key_any m W')).mono ?_; rintro e w5 ⟨v5, rfl, ho5, hb5⟩; have HN5 := hide ((unhide HN4).below hb5); have cclock_5 := (unhide HN5).c_clock; have cptgt_5 := (unhide HN5).c_ptgt; have crels_5 := (unhide HN5).c_rels; have cdropped_5 := (unhide HN5).c_dropped; have clost_5 := (unhide HN5).c_lost; have HX5 := hide ((hb5.block W.heap.size (lt_blk (unhide HX4))).trans (unhide HX4)); have HB5 := hide ((unhide HB4).trans (hb5.mono (unhide HB4).size)); obtain ⟨ao5, cap5, rfl⟩ := own_form ho5; have HO5 := hide ho5; clear ho5; clear hb5)
      | (go_at_call 26; refine (members_any (unhide HK) (unhide HN5)).mono ?_; rintro e w6 ⟨v6, rfl, ho6, hb6⟩; have HN6 := hide ((unhide HN5).below hb6); have cclock_6 := (unhide HN6).c_clock; have cptgt_6 := (unhide HN6).c_ptgt; have crels_6 := (unhide HN6).c_rels; have cdropped_6 := (unhide HN6).c_dropped; have clost_6 := (unhide HN6).c_lost; have HX6 := hide ((hb6.block W.heap.size (lt_blk (unhide HX5))).trans (unhide HX5)); have HB6 := hide ((unhide HB5).trans (hb6.mono (unhide HB5).size)); have HO6 := hide ho6; have HO5b := hide (own_below2 (unhide HO5) hb6); clear ho6; clear hb6)
      | (go_at_call 29; refine (keepM_any x.tab pendB 30 #[] #[] (unhide HO6) hlen1 hE3 (fun m W' _ => pend_any m W')).mono ?_; rintro e w7 ⟨v7, rfl, ho7, hb7⟩; have HN7 := hide ((unhide HN6).below hb7); have cclock_7 := (unhide HN7).c_clock; have cptgt_7 := (unhide HN7).c_ptgt; have crels_7 := (unhide HN7).c_rels; have cdropped_7 := (unhide HN7).c_dropped; have clost_7 := (unhide HN7).c_lost; have HX7 := hide ((hb7.block W.heap.size (lt_blk (unhide HX6))).trans (unhide HX6)); have HB7 := hide ((unhide HB6).trans (hb7.mono (unhide HB6).size)); obtain ⟨ao7, cap7, rfl⟩ := own_form ho7; have HO5c := hide (own_below2 (unhide HO5b) hb7); have z0 := cell_at (unhide HX7) 0; have z1 := cell_at (unhide HX7) 1; have z2 := cell_at (unhide HX7) 2; have z3 := cell_at (unhide HX7) 3; have z4 := cell_at (unhide HX7) 4; have z5 := cell_at (unhide HX7) 5; have z6 := cell_at (unhide HX7) 6; have z7 := cell_at (unhide HX7) 7; have z8 := cell_at (unhide HX7) 8; have z9 := cell_at (unhide HX7) 9; have zf := free_at (unhide HX7); simp only [List.getElem?_toArray, List.getElem?_cons_zero, List.getElem?_cons_succ] at z0 z1 z2 z3 z4 z5 z6 z7 z8 z9; clear ho7; clear hb7))
  all_goals
    go_wp2
    have hlt4 := lt_blk (unhide HX4)
    refine bodyPost_ret (v := .agg #[.int .i64 x.clock, .int .i64 O.id, .int .i64 O.inc, .int .i64 O.st, .slice ao5 ((x.tab.filter (fun m => !(m.k.id == x.c.self))).map Mem.k).length cap5, .int .i64 x.ptgt, .int .i64 (x.tab.filter pendB).length, .int .i64 x.rels.length, .int .i64 x.dropped, .int .i64 x.lost]) (by simp [results, Tryz.results11, go_sem, z0, z1, z2, z3, z4, z5, z6, z7, z8, z9]) rfl ⟨_, rfl, own_mono (ownsRow_setCell_below (ownsRow_setCell_below (ownsRow_setCell_below (ownsRow_setCell_below (ownsRow_setCell_below (ownsRow_setCell_below (ownsRow_setCell_below (ownsRow_setCell_below (ownsRow_setCell_below (ownsRow_setCell_below (unhide HO5c) (a := ⟨W.heap.size, 0, none⟩) hlt4 _) (a := ⟨W.heap.size, 1, none⟩) hlt4 _) (a := ⟨W.heap.size, 2, none⟩) hlt4 _) (a := ⟨W.heap.size, 3, none⟩) hlt4 _) (a := ⟨W.heap.size, 4, none⟩) hlt4 _) (a := ⟨W.heap.size, 5, none⟩) hlt4 _) (a := ⟨W.heap.size, 6, none⟩) hlt4 _) (a := ⟨W.heap.size, 7, none⟩) hlt4 _) (a := ⟨W.heap.size, 8, none⟩) hlt4 _) (a := ⟨W.heap.size, 9, none⟩) hlt4 _) (unhide HB4).size, ((((((((((unhide HB7).setCell (Nat.le_refl _) _).setCell (Nat.le_refl _) _).setCell (Nat.le_refl _) _).setCell (Nat.le_refl _) _).setCell (Nat.le_refl _) _).setCell (Nat.le_refl _) _).setCell (Nat.le_refl _) _).setCell (Nat.le_refl _) _).setCell (Nat.le_refl _) _).setCell (Nat.le_refl _) _⟩
end Go.Proofs.YtcjfanbnplaahaaGreat.wire
