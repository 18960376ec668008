import Derived.Test.YtnneljcbelgoeaaGreatDoorG05
import Derived.Test.YtnneljcbelgoeaaGreatDoorG04
import Derived.Laws.EntriesVeiled
import Derived.Conc.SmallLaws
import Derived.Deep.RegionHeld3
import Derived.StillTailTactics
import Derived.Test.YtnneljcbelgoeaaGreatDoorG00
/- See (P4). (Written by wip/gen/mksee.py.) -/
namespace Go.Proofs.YtnneljcbelgoeaaGreatDoor.wire
open Go.RowKit Go.Maps

def Nd.pending (x : Nd) : Nat := (x.tab.filter pendB).length
set_option maxHeartbeats 2000000 in
set_option maxRecDepth 100000 in
theorem see_any {x : Nd} (hx : NdOk x) {nb mb : Nat} {cb : Dk} {pv rv : Value} {W : World} (hn : NAt W nb mb cb pv rv x) :
    Calls Tryz.prog 76 #[.pointer (some ⟨nb, 0, none⟩)] W fun e w' => ∃ v, e = .returned (.agg #[.int .i64 x.clock, .int .i64 x.own.id, .int .i64 x.own.inc, .int .i64 x.own.st, v, .int .i64 x.ptgt, .int .i64 x.pending, .int .i64 x.rels.length, .int .i64 x.dropped, .int .i64 x.lost]) ∧ w'.ownsRow W.heap.size 76 3 v x.others.length (x.others.flatMap keyC) ∧ Below W.heap.size W w' := by
  obtain ⟨rao, rcap, rfl⟩ := own_form hn.rel
  have hlen := hx.len
  have hlen1 : x.tab.length ≤ 1000 := by omega
  have hrl := hx.rels
  have hlt := hn.lt
  have hne : ¬ W.heap.size = nb := by omega
  have hne' : ¬ nb = W.heap.size := by omega
  have hE3 := enters_of Tryz.func110 (by kernel_rfl) rfl
  have hn1 := (hn.alloc (.cells #[.int .i64 0, .int .i64 0, .int .i64 0, .int .i64 0, .slice none 0 0, .int .i64 0, .int .i64 0, .int .i64 0, .int .i64 0, .int .i64 0] 137)).drew
  have HS := hide (self_any hx hn1)
  have HN1 := hide hn1
  have HX1 : Hid ((W.alloc (.cells #[.int .i64 0, .int .i64 0, .int .i64 0, .int .i64 0, .slice none 0 0, .int .i64 0, .int .i64 0, .int .i64 0, .int .i64 0, .int .i64 0] 137)).drew.heap[W.heap.size]? = some (.cells #[.int .i64 0, .int .i64 0, .int .i64 0, .int .i64 0, .slice none 0 0, .int .i64 0, .int .i64 0, .int .i64 0, .int .i64 0, .int .i64 0] 137 (0, 0))) := hide (heap_alloc_new W _)
  have HB1 : Hid (Below W.heap.size W (W.alloc (.cells #[.int .i64 0, .int .i64 0, .int .i64 0, .int .i64 0, .slice none 0 0, .int .i64 0, .int .i64 0, .int .i64 0, .int .i64 0, .int .i64 0] 137)).drew) := hide ((Below.refl _ _).alloc (Nat.le_refl _) _).drew
  have HK := hide hx
  have k0 := hn1.c_clock
  have k1 := hn1.c_ptgt
  have k2 := hn1.c_rels
  have k3 := hn1.c_dropped
  have k4 := hn1.c_lost
  have hpen : x.pending = (x.tab.filter pendB).length := rfl
  rw [hpen]
  clear hn hn1 hx hpen
  generalize x.own = O at HS ⊢
  go_enter Tryz.func76, Tryz.ntmps76
  go_wp2
  go_region_held3 (fun w' => w'.cell? ⟨nb, 7, none⟩ = some (.int .i64 x.clock) ∧ w'.cell? ⟨nb, 10, none⟩ = some (.int .i64 x.ptgt) ∧ w'.cell? ⟨nb, 14, none⟩ = some (.slice rao x.rels.length rcap) ∧ w'.cell? ⟨nb, 17, none⟩ = some (.int .i64 x.dropped) ∧ w'.cell? ⟨nb, 18, none⟩ = some (.int .i64 x.lost)) (go_keep)
    (first
      | (go_at_call 65; refine (unhide HS).mono ?_; rintro e w2 ⟨rfl, hb2⟩; have HN2 := hide ((unhide HN1).below hb2); have cclock_2 := (unhide HN2).c_clock; have cptgt_2 := (unhide HN2).c_ptgt; have crels_2 := (unhide HN2).c_rels; have cdropped_2 := (unhide HN2).c_dropped; have clost_2 := (unhide HN2).c_lost; have HX2 := hide ((hb2.block W.heap.size (lt_blk (unhide HX1))).trans (unhide HX1)); have HB2 := hide ((unhide HB1).trans (hb2.mono (unhide HB1).size));  clear hb2)
      | (go_at_call 109; refine (others_any (unhide HK) (unhide HN2)).mono ?_; rintro e w3 ⟨v3, rfl, ho3, hb3⟩; have HN3 := hide ((unhide HN2).below hb3); have cclock_3 := (unhide HN3).c_clock; have cptgt_3 := (unhide HN3).c_ptgt; have crels_3 := (unhide HN3).c_rels; have cdropped_3 := (unhide HN3).c_dropped; have clost_3 := (unhide HN3).c_lost; have HX3 := hide ((hb3.block W.heap.size (lt_blk (unhide HX2))).trans (unhide HX2)); have HB3 := hide ((unhide HB2).trans (hb3.mono (unhide HB2).size)); obtain ⟨ao3, cap3, rfl⟩ := own_form ho3; have HO3 := hide ho3; clear ho3; clear hb3)
      | (go_at_call 95; refine (members_any (unhide HK) (unhide HN3)).mono ?_; rintro e w4 ⟨v4, rfl, ho4, hb4⟩; have HN4 := hide ((unhide HN3).below hb4); have cclock_4 := (unhide HN4).c_clock; have cptgt_4 := (unhide HN4).c_ptgt; have crels_4 := (unhide HN4).c_rels; have cdropped_4 := (unhide HN4).c_dropped; have clost_4 := (unhide HN4).c_lost; have HX4 := hide ((hb4.block W.heap.size (lt_blk (unhide HX3))).trans (unhide HX3)); have HB4 := hide ((unhide HB3).trans (hb4.mono (unhide HB3).size)); have HO4 := hide ho4; have HO3b := hide (own_below2 (unhide HO3) hb4); clear ho4; clear hb4)
      | (go_at_call 94; refine (keepM_any x.tab pendB 110 #[] #[] (unhide HO4) hlen1 hE3 (fun m W' _ => pend_any m W')).mono ?_; rintro e w5 ⟨v5, rfl, ho5, hb5⟩; have HN5 := hide ((unhide HN4).below hb5); have cclock_5 := (unhide HN5).c_clock; have cptgt_5 := (unhide HN5).c_ptgt; have crels_5 := (unhide HN5).c_rels; have cdropped_5 := (unhide HN5).c_dropped; have clost_5 := (unhide HN5).c_lost; have HX5 := hide ((hb5.block W.heap.size (lt_blk (unhide HX4))).trans (unhide HX4)); have HB5 := hide ((unhide HB4).trans (hb5.mono (unhide HB4).size)); obtain ⟨ao5, cap5, rfl⟩ := own_form ho5; have HO3c := hide (own_below2 (unhide HO3b) hb5); have z0 := cell_at (unhide HX5) 0; have z1 := cell_at (unhide HX5) 1; have z2 := cell_at (unhide HX5) 2; have z3 := cell_at (unhide HX5) 3; have z4 := cell_at (unhide HX5) 4; have z5 := cell_at (unhide HX5) 5; have z6 := cell_at (unhide HX5) 6; have z7 := cell_at (unhide HX5) 7; have z8 := cell_at (unhide HX5) 8; have z9 := cell_at (unhide HX5) 9; have zf := free_at (unhide HX5); simp only [List.getElem?_toArray, List.getElem?_cons_zero, List.getElem?_cons_succ] at z0 z1 z2 z3 z4 z5 z6 z7 z8 z9; clear ho5; clear hb5))
  all_goals
    go_wp2
    have hlt2 := lt_blk (unhide HX2)
    refine bodyPost_ret (v := .agg #[.int .i64 x.clock, .int .i64 O.id, .int .i64 O.inc, .int .i64 O.st, .slice ao3 x.others.length cap3, .int .i64 x.ptgt, .int .i64 (x.tab.filter pendB).length, .int .i64 x.rels.length, .int .i64 x.dropped, .int .i64 x.lost]) (by simp [results, Tryz.results76, go_sem, z0, z1, z2, z3, z4, z5, z6, z7, z8, z9]) rfl ⟨_, rfl, own_mono (ownsRow_setCell_below (ownsRow_setCell_below (ownsRow_setCell_below (ownsRow_setCell_below (ownsRow_setCell_below (ownsRow_setCell_below (ownsRow_setCell_below (ownsRow_setCell_below (ownsRow_setCell_below (ownsRow_setCell_below (unhide HO3c) (a := ⟨W.heap.size, 0, none⟩) hlt2 _) (a := ⟨W.heap.size, 1, none⟩) hlt2 _) (a := ⟨W.heap.size, 2, none⟩) hlt2 _) (a := ⟨W.heap.size, 3, none⟩) hlt2 _) (a := ⟨W.heap.size, 4, none⟩) hlt2 _) (a := ⟨W.heap.size, 5, none⟩) hlt2 _) (a := ⟨W.heap.size, 6, none⟩) hlt2 _) (a := ⟨W.heap.size, 7, none⟩) hlt2 _) (a := ⟨W.heap.size, 8, none⟩) hlt2 _) (a := ⟨W.heap.size, 9, none⟩) hlt2 _) (unhide HB2).size, ((((((((((unhide HB5).setCell (Nat.le_refl _) _).setCell (Nat.le_refl _) _).setCell (Nat.le_refl _) _).setCell (Nat.le_refl _) _).setCell (Nat.le_refl _) _).setCell (Nat.le_refl _) _).setCell (Nat.le_refl _) _).setCell (Nat.le_refl _) _).setCell (Nat.le_refl _) _).setCell (Nat.le_refl _) _⟩
end Go.Proofs.YtnneljcbelgoeaaGreatDoor.wire
/- New (P4). -/
namespace Go.Proofs.YtnneljcbelgoeaaGreatDoor.wire
open Go.RowKit Go.Maps

set_option maxHeartbeats 2000000 in
set_option maxRecDepth 100000 in
theorem order_any (c : Cfg) (hp : -9223372036854775806 ≤ c.period) (hp2 : c.period ≤ 9223372036854775807) (W : World) : Calls Tryz.prog 82 #[.agg #[.int .i64 c.self, .int .i64 c.period, .int .i64 c.wait, .int .i64 c.suspect, .int .i64 c.proxies, .int .i64 c.sends]] W fun e w' => e = .returned (.bool (cfgB c)) ∧ Below W.heap.size W w' := by
  have hb : Below W.heap.size W (W.alloc (.cells #[.int .i64 c.self, .int .i64 c.period, .int .i64 c.wait, .int .i64 c.suspect, .int .i64 c.proxies, .int .i64 c.sends] 82)) := (Below.refl _ _).alloc (Nat.le_refl _) _
  have HB := hide hb
  clear hb
  unfold cfgB
  cases h1 : isIdB c.self
  case false =>
    go_enter Tryz.func82, Tryz.ntmps82
    go_wp2_with (go_at_call 58; refine (isId_any _ _).mono ?_; rintro e w' ⟨rfl, rfl⟩)
    go_ret
    exact ⟨by simp, unhide HB⟩
  have HH1 := hide h1
  clear h1
  cases h2 : (decide (4 ≤ c.period) && decide (c.period ≤ 50))
  case false =>
    have H2 := hide h2
    clear h2
    go_enter Tryz.func82, Tryz.ntmps82
    go_wp2_with fail
    refine (isId_any _ _).mono ?_
    rw [unhide HH1]
    rintro e w' ⟨rfl, rfl⟩
    go_wp2_with fail
    refine (within_any c.period 4 50 _).mono ?_
    rw [unhide H2]
    rintro e w' ⟨rfl, rfl⟩
    go_wp2
    go_ret
    exact ⟨rfl, unhide HB⟩
  have H2 := hide h2
  clear h2
  cases h3 : (decide (1 ≤ c.wait) && decide (c.wait ≤ c.period - 2))
  case false =>
    have H3 := hide h3
    clear h3
    go_enter Tryz.func82, Tryz.ntmps82
    go_wp2_with fail
    refine (isId_any _ _).mono ?_
    rw [unhide HH1]
    rintro e w' ⟨rfl, rfl⟩
    go_wp2_with fail
    refine (within_any c.period 4 50 _).mono ?_
    rw [unhide H2]
    rintro e w' ⟨rfl, rfl⟩
    go_wp2_with fail
    refine (within_any c.wait 1 (c.period - 2) _).mono ?_
    rw [unhide H3]
    rintro e w' ⟨rfl, rfl⟩
    go_wp2
    go_ret
    exact ⟨rfl, unhide HB⟩
  have H3 := hide h3
  clear h3
  cases h4 : (decide (1 ≤ c.suspect) && decide (c.suspect ≤ 500))
  case false =>
    have H4 := hide h4
    clear h4
    go_enter Tryz.func82, Tryz.ntmps82
    go_wp2_with fail
    refine (isId_any _ _).mono ?_
    rw [unhide HH1]
    rintro e w' ⟨rfl, rfl⟩
    go_wp2_with fail
    refine (within_any c.period 4 50 _).mono ?_
    rw [unhide H2]
    rintro e w' ⟨rfl, rfl⟩
    go_wp2_with fail
    refine (within_any c.wait 1 (c.period - 2) _).mono ?_
    rw [unhide H3]
    rintro e w' ⟨rfl, rfl⟩
    go_wp2_with fail
    refine (within_any c.suspect 1 500 _).mono ?_
    rw [unhide H4]
    rintro e w' ⟨rfl, rfl⟩
    go_wp2
    go_ret
    exact ⟨rfl, unhide HB⟩
  have H4 := hide h4
  clear h4
  cases h5 : (decide (0 ≤ c.proxies) && decide (c.proxies ≤ 3))
  case false =>
    have H5 := hide h5
    clear h5
    go_enter Tryz.func82, Tryz.ntmps82
    go_wp2_with fail
    refine (isId_any _ _).mono ?_
    rw [unhide HH1]
    rintro e w' ⟨rfl, rfl⟩
    go_wp2_with fail
    refine (within_any c.period 4 50 _).mono ?_
    rw [unhide H2]
    rintro e w' ⟨rfl, rfl⟩
    go_wp2_with fail
    refine (within_any c.wait 1 (c.period - 2) _).mono ?_
    rw [unhide H3]
    rintro e w' ⟨rfl, rfl⟩
    go_wp2_with fail
    refine (within_any c.suspect 1 500 _).mono ?_
    rw [unhide H4]
    rintro e w' ⟨rfl, rfl⟩
    go_wp2_with fail
    refine (within_any c.proxies 0 3 _).mono ?_
    rw [unhide H5]
    rintro e w' ⟨rfl, rfl⟩
    go_wp2
    go_ret
    exact ⟨rfl, unhide HB⟩
  have H5 := hide h5
  clear h5
  cases h6 : (decide (1 ≤ c.sends) && decide (c.sends ≤ 8))
  case false =>
    have H6 := hide h6
    clear h6
    go_enter Tryz.func82, Tryz.ntmps82
    go_wp2_with fail
    refine (isId_any _ _).mono ?_
    rw [unhide HH1]
    rintro e w' ⟨rfl, rfl⟩
    go_wp2_with fail
    refine (within_any c.period 4 50 _).mono ?_
    rw [unhide H2]
    rintro e w' ⟨rfl, rfl⟩
    go_wp2_with fail
    refine (within_any c.wait 1 (c.period - 2) _).mono ?_
    rw [unhide H3]
    rintro e w' ⟨rfl, rfl⟩
    go_wp2_with fail
    refine (within_any c.suspect 1 500 _).mono ?_
    rw [unhide H4]
    rintro e w' ⟨rfl, rfl⟩
    go_wp2_with fail
    refine (within_any c.proxies 0 3 _).mono ?_
    rw [unhide H5]
    rintro e w' ⟨rfl, rfl⟩
    go_wp2_with fail
    refine (within_any c.sends 1 8 _).mono ?_
    rw [unhide H6]
    rintro e w' ⟨rfl, rfl⟩
    go_wp2
    go_ret
    exact ⟨rfl, unhide HB⟩
  have H6 := hide h6
  clear h6
  go_enter Tryz.func82, Tryz.ntmps82
  go_wp2_with fail
  refine (isId_any _ _).mono ?_
  rw [unhide HH1]
  rintro e w' ⟨rfl, rfl⟩
  go_wp2_with fail
  refine (within_any c.period 4 50 _).mono ?_
  rw [unhide H2]
  rintro e w' ⟨rfl, rfl⟩
  go_wp2_with fail
  refine (within_any c.wait 1 (c.period - 2) _).mono ?_
  rw [unhide H3]
  rintro e w' ⟨rfl, rfl⟩
  go_wp2_with fail
  refine (within_any c.suspect 1 500 _).mono ?_
  rw [unhide H4]
  rintro e w' ⟨rfl, rfl⟩
  go_wp2_with fail
  refine (within_any c.proxies 0 3 _).mono ?_
  rw [unhide H5]
  rintro e w' ⟨rfl, rfl⟩
  go_wp2_with fail
  refine (within_any c.sends 1 8 _).mono ?_
  rw [unhide H6]
  rintro e w' ⟨rfl, rfl⟩
  go_wp2
  go_ret
  exact ⟨rfl, unhide HB⟩
theorem Tryz.infoIntL0 : (Tryz.prog.info? 3).map (fun i => (i.zero, i.size, i.bytes)) = some (some (.int .i64 0), 1, 8) := by kernel_rfl
theorem Tryz.infoKeyB : (Tryz.prog.info? 76).map (fun i => i.bytes) = some 24 := by kernel_rfl
theorem mk8 (w : World) : (Instr.makeChan 121 (.int .i64 8)).run Tryz.prog w = .ok (.chan (some w.heap.size)) (w.alloc (.chan 8 #[] false 0 0 false)) := by
  obtain ⟨i, hi, hb⟩ := Option.map_eq_some_iff.1 Tryz.infoKeyB
  simpa using Go.Conc.run_makeChan (P := Tryz.prog) (w := w) Tryz.underlying121 hi .i64 8 (by omega) (by rw [hb]; omega)
theorem own_empty {w : World} {mb : Nat} (h : w.heap[mb]? = some (.map #[] 0)) : w.ownsMap Tryz.prog 3 RH mb 0 (tabD []) := by
  obtain ⟨es, clock, hb, F, hs, hD⟩ := World.ownsMap_made w Tryz.prog 3 RH
  have := (heap_alloc_new w (.map #[] 0)).symm.trans hb
  cases this
  exact ⟨#[], 0, h, F, hs, hD⟩
theorem drawC {W : World} {d : Dk} {pv : Value} {l : List Int} {n : Nat} (h : DrawAt W d pv l n) (c : Nat) : DrawAt W { d with c := c } pv l n := ⟨h.ob, h.ab, h.row, h.sep, h.sepp⟩
/-- The draws, as they are handed in. -/
def DrawsAt (w : World) (v : Value) (l : List Int) : Prop := w.ownsRow 0 3 1 v l.length (l.flatMap intC)
set_option maxHeartbeats 1000000 in
set_option maxRecDepth 100000 in
theorem draws_any (l : List Int) (hl : l.length ≤ 1000000) {v : Value} {W : World} (hv : DrawsAt W v l) :
    Calls Tryz.prog 54 #[v] W fun e w' => ∃ d : Dk, e = .returned d.fn ∧ DrawAt w' d (.slice none 0 0) l 0 ∧ (∀ k ∈ d.all, W.heap.size ≤ k) ∧ Below W.heap.size W w' := by
  have hv0 : W.ownsRow 0 3 1 v l.length (l.flatMap intC) := hv
  obtain ⟨ao, cap, rfl⟩ := own_form hv0
  have HV := hide hv0
  clear hv hv0
  obtain ⟨ti, hti, hz0, hz1, hz2⟩ := info_parts Tryz.infoIntL0
  have hone : ∀ u ∈ l.flatMap intC, u.oneCell' = true := by
    intro u hu
    obtain ⟨a, _, h2⟩ := List.mem_flatMap.1 hu
    simp [intC] at h2; subst h2; rfl
  go_enter Tryz.func54, Tryz.ntmps54
  go_wp2_with (at_builtin; refine wpList_append_copy rfl _ _ 24 rfl 0 3 ti (.int .i64 0) 1 8 Tryz.underlying24 hti hz0 hz1 hz2 rfl (by decide) _ l.length (l.flatMap intC) rfl rfl (unhide HV) hone (by unfold maxLen; omega) (by omega) ?_)
  intro v1 w1 hown hb1
  obtain ⟨ao1, cap1, rfl⟩ := own_form hown
  have HB1 := hide hb1
  have HO1 := hide hown
  clear hown hb1
  go_wp2
  go_ret
  have hb1 := unhide HB1
  have ho1 := unhide HO1
  have hz := hb1.size
  refine ⟨⟨0, w1.heap.size, w1.heap.size + 1, .slice ao1 l.length cap1⟩, rfl, ⟨?_, ?_, ?_, ?_, by simp [Value.ownBlock]⟩, ?_, (hb1.alloc hz _).alloc (by simp; omega) _⟩
  · exact (Below.heap_alloc _ _ _ (by simp)).trans (heap_alloc_new w1 _)
  · have := heap_alloc_new (w1.alloc (.cells #[.slice ao1 l.length cap1] 24)) (.cells #[.int .i64 0] 3)
    rw [World.size_alloc] at this
    exact this
  · exact (own_mono ((ho1.alloc _).alloc _) (Nat.zero_le _))
  · intro e
    have h : w1.heap.size + 1 < w1.heap.size := (own_lt ho1 e).2
    omega
  · intro k hk
    simp only [Dk.all, List.mem_cons, Option.mem_toList] at hk
    rcases hk with rfl | rfl | hk
    · exact hz
    · show W.heap.size ≤ w1.heap.size + 1
      omega
    · exact (own_lt ho1 hk).1
set_option maxHeartbeats 1000000 in
set_option maxRecDepth 100000 in
theorem new_yes (c : Cfg) (hc : cfgB c = true) (W : World) (d : Dk) (dl : List Int) (hd : DrawAt W d (.slice none 0 0) dl 0) :
    Calls Tryz.prog 53 #[.agg #[.int .i64 c.self, .int .i64 c.period, .int .i64 c.wait, .int .i64 c.suspect, .int .i64 c.proxies, .int .i64 c.sends], d.fn] W fun e w' => ∃ (nb mb : Nat) (cb : Dk), e = .returned (.tuple #[.pointer (some ⟨nb, 0, none⟩), .nilIface]) ∧ W.heap.size ≤ nb ∧ W.heap.size ≤ mb ∧ W.heap.size ≤ cb.c ∧ cb.all = d.all ∧ NAt w' nb mb cb (.slice none 0 0) (.slice none 0 0) (Nd.new c dl) ∧ Below W.heap.size W w' := by
  have hO := fun w => order_any c (by have := hc; simp only [cfgB, Bool.and_eq_true, decide_eq_true_eq] at this; omega) (by have := hc; simp only [cfgB, Bool.and_eq_true, decide_eq_true_eq] at this; omega) w
  rw [hc] at hO
  have HO := hide hO
  have HC := hide hc
  have HD := hide hd
  simp only [Dk.fn]
  clear hO hc hd
  go_enter Tryz.func53, Tryz.ntmps53
  go_wp2_with fail
  refine ((unhide HO) _).mono ?_
  rintro e w1 ⟨rfl, hb1⟩
  have bc := (hb1.block W.heap.size (by simp)).trans (heap_alloc_new W (.cells #[.int .i64 c.self, .int .i64 c.period, .int .i64 c.wait, .int .i64 c.suspect, .int .i64 c.proxies, .int .i64 c.sends] 82))
  have hz1 := hb1.size
  rw [World.size_alloc] at hz1
  have k0 := cell_at bc 0
  have k1 := cell_at bc 1
  have k2 := cell_at bc 2
  have k3 := cell_at bc 3
  have k4 := cell_at bc 4
  have k5 := cell_at bc 5
  simp only [List.getElem?_toArray, List.getElem?_cons_zero, List.getElem?_cons_succ] at k0 k1 k2 k3 k4 k5
  have HB1 := hide (((Below.refl _ _).alloc (Nat.le_refl _) _ : Below W.heap.size W (W.alloc (.cells #[.int .i64 c.self, .int .i64 c.period, .int .i64 c.wait, .int .i64 c.suspect, .int .i64 c.proxies, .int .i64 c.sends] 82))).trans (hb1.mono (by simp)))
  have HBC := hide bc
  clear hb1 bc HO
  have hmm := @run_makeMap Tryz.prog
  have hmc := mk8
  have hlow : ∀ (o1 o2 o3 : Obj) (i : Nat), (((w1.alloc o1).alloc o2).alloc o3).cell? ⟨W.heap.size, i, none⟩ = w1.cell? ⟨W.heap.size, i, none⟩ := fun o1 o2 o3 i => by
    rw [World.cell?_alloc_lt _ _ _ (by simp; omega), World.cell?_alloc_lt _ _ _ (by simp; omega), World.cell?_alloc_lt _ _ _ (by show W.heap.size < _; omega)]
  go_wp2_with fail
  go_region_held3 (fun w' => w'.cell? ⟨W.heap.size, 0, none⟩ = some (.int .i64 c.self) ∧ w'.cell? ⟨W.heap.size, 1, none⟩ = some (.int .i64 c.period) ∧ w'.cell? ⟨W.heap.size, 2, none⟩ = some (.int .i64 c.wait) ∧ w'.cell? ⟨W.heap.size, 3, none⟩ = some (.int .i64 c.suspect) ∧ w'.cell? ⟨W.heap.size, 4, none⟩ = some (.int .i64 c.proxies) ∧ w'.cell? ⟨W.heap.size, 5, none⟩ = some (.int .i64 c.sends)) (go_keep) (fail)
  · generalize hw2 : World.drew _ = w2
    have bn : w2.heap[w1.heap.size + 1 + 1]? = some (.cells (ndC ⟨c, 0, [], [], 0, 0, 0, false, [], 0, [], 0, 0, dl, 0⟩ (w1.heap.size) { d with c := w1.heap.size + 1 } (.slice none 0 0) (.slice none 0 0)) 123 (0, 0)) := by
      rw [← hw2]
      have h := heap_alloc_new ((w1.alloc (.map #[] 0)).alloc (.chan 8 #[] false 0 0 false)) (.cells #[.int .i64 c.self, .int .i64 c.period, .int .i64 c.wait, .int .i64 c.suspect, .int .i64 c.proxies, .int .i64 c.sends, .func (.func 83) #[] #[.pointer (some ⟨d.ob, 0, none⟩), .pointer (some ⟨d.ab, 0, none⟩)], .int .i64 0, .map (some (w1.heap.size)), .slice none 0 0, .int .i64 0, .int .i64 0, .int .i64 0, .bool false, .slice none 0 0, .int .i64 0, .chan (some (w1.heap.size + 1)), .int .i64 0, .int .i64 0] 123)
      simp only [World.size_alloc] at h
      exact h
    have bm : w2.heap[w1.heap.size]? = some (.map #[] 0) := by
      rw [← hw2]
      refine (Below.heap_alloc _ _ _ (by simp; try omega)).trans ?_
      exact (Below.heap_alloc _ _ _ (by simp)).trans (heap_alloc_new w1 _)
    have bch : w2.heap[w1.heap.size + 1]? = some (.chan 8 #[] false 0 0 false) := by
      rw [← hw2]
      refine (Below.heap_alloc _ _ _ (by simp; try omega)).trans ?_
      have h := heap_alloc_new (w1.alloc (.map #[] 0)) (.chan 8 #[] false 0 0 false)
      rw [World.size_alloc] at h
      exact h
    have hb02 : Below W.heap.size W w2 := by
      rw [← hw2]
      exact ((((unhide HB1).alloc (by omega) _).alloc (by simp; omega) _).alloc (by simp; omega) _).drew
    have s0 : w2.cell? ⟨W.heap.size, 0, none⟩ = some (.int .i64 c.self) := by
      rw [← hw2]
      exact (hlow _ _ _ 0).trans k0
    have hself : 1 ≤ c.self ∧ c.self ≤ 250 := by have := unhide HC; simp only [cfgB, Bool.and_eq_true] at this; exact isId_of this.1
    have hn0 : NAt w2 (w1.heap.size + 1 + 1) (w1.heap.size) { d with c := w1.heap.size + 1 } (.slice none 0 0) (.slice none 0 0) ⟨c, 0, [], [], 0, 0, 0, false, [], 0, [], 0, 0, dl, 0⟩ :=
      ⟨bn, own_empty bm, ⟨0, 0, bch⟩, .inl ⟨rfl, rfl⟩, ⟨rfl, .inl ⟨rfl, rfl⟩⟩, drawC ((unhide HD).frm (S := []) (Frm.of_below hb02 (Nat.le_refl _)) (by simp)) _⟩
    obtain ⟨w3, hrun, hown, hg⟩ := hn0.drew.map.update law Tryz.underlying117 (key := .int .i64 c.self) (val := memv ⟨⟨c.self, 1, 1⟩, 0, 0⟩) (by show 0 < maxLen; unfold maxLen; omega) (key_wf (by omega) (by omega)) (d := .held (memv ⟨⟨c.self, 1, 1⟩, 0, 0⟩)) (ps := []) rfl
    have hn3 := hn0.drew.put (List.Pairwise.nil) ⟨⟨c.self, 1, 1⟩, 0, 0⟩ hown hg
    have HN3 := hide hn3
    have HB3 := hide (hb02.drew.grown hg hb02.size (fun j hj => by simp at hj; omega))
    have c7 := hn0.c_map
    simp only [memv] at hrun
    clear hn0 hn3 bn bm bch hb02 hw2 hown hg hlow hmm hmc k0 k1 k2 k3 k4 k5
    go_wp2
    refine wp_region_still_tail 10 (by kernel_rfl) (by kernel_rfl) ?_
    simp only [List.take_succ_cons, List.take_zero, List.drop_succ_cons, List.drop_zero]
    change wpStill _ _ w2.drew (fun a' => wpList _ _ _ _ a' w2.drew) _ _
    repeat still_step
    refine wpStill_nil ?_
    go_wp2
    go_ret2
    exact ⟨_, w1.heap.size, { d with c := w1.heap.size + 1 }, rfl, by omega, by omega, by show W.heap.size ≤ w1.heap.size + 1; omega, rfl, unhide HN3, unhide HB3⟩
  · generalize hw2 : World.drew _ = w2
    have bn : w2.heap[w1.heap.size + 1 + 1]? = some (.cells (ndC ⟨c, 0, [], [], 0, 0, 0, false, [], 0, [], 0, 0, dl, 0⟩ (w1.heap.size + 1) { d with c := w1.heap.size } (.slice none 0 0) (.slice none 0 0)) 123 (0, 0)) := by
      rw [← hw2]
      have h := heap_alloc_new ((w1.alloc (.chan 8 #[] false 0 0 false)).alloc (.map #[] 0)) (.cells #[.int .i64 c.self, .int .i64 c.period, .int .i64 c.wait, .int .i64 c.suspect, .int .i64 c.proxies, .int .i64 c.sends, .func (.func 83) #[] #[.pointer (some ⟨d.ob, 0, none⟩), .pointer (some ⟨d.ab, 0, none⟩)], .int .i64 0, .map (some (w1.heap.size + 1)), .slice none 0 0, .int .i64 0, .int .i64 0, .int .i64 0, .bool false, .slice none 0 0, .int .i64 0, .chan (some (w1.heap.size)), .int .i64 0, .int .i64 0] 123)
      simp only [World.size_alloc] at h
      exact h
    have bm : w2.heap[w1.heap.size + 1]? = some (.map #[] 0) := by
      rw [← hw2]
      refine (Below.heap_alloc _ _ _ (by simp; try omega)).trans ?_
      have h := heap_alloc_new (w1.alloc (.chan 8 #[] false 0 0 false)) (.map #[] 0)
      rw [World.size_alloc] at h
      exact h
    have bch : w2.heap[w1.heap.size]? = some (.chan 8 #[] false 0 0 false) := by
      rw [← hw2]
      refine (Below.heap_alloc _ _ _ (by simp; try omega)).trans ?_
      exact (Below.heap_alloc _ _ _ (by simp)).trans (heap_alloc_new w1 _)
    have hb02 : Below W.heap.size W w2 := by
      rw [← hw2]
      exact ((((unhide HB1).alloc (by omega) _).alloc (by simp; omega) _).alloc (by simp; omega) _).drew
    have s0 : w2.cell? ⟨W.heap.size, 0, none⟩ = some (.int .i64 c.self) := by
      rw [← hw2]
      exact (hlow _ _ _ 0).trans k0
    have hself : 1 ≤ c.self ∧ c.self ≤ 250 := by have := unhide HC; simp only [cfgB, Bool.and_eq_true] at this; exact isId_of this.1
    have hn0 : NAt w2 (w1.heap.size + 1 + 1) (w1.heap.size + 1) { d with c := w1.heap.size } (.slice none 0 0) (.slice none 0 0) ⟨c, 0, [], [], 0, 0, 0, false, [], 0, [], 0, 0, dl, 0⟩ :=
      ⟨bn, own_empty bm, ⟨0, 0, bch⟩, .inl ⟨rfl, rfl⟩, ⟨rfl, .inl ⟨rfl, rfl⟩⟩, drawC ((unhide HD).frm (S := []) (Frm.of_below hb02 (Nat.le_refl _)) (by simp)) _⟩
    obtain ⟨w3, hrun, hown, hg⟩ := hn0.drew.map.update law Tryz.underlying117 (key := .int .i64 c.self) (val := memv ⟨⟨c.self, 1, 1⟩, 0, 0⟩) (by show 0 < maxLen; unfold maxLen; omega) (key_wf (by omega) (by omega)) (d := .held (memv ⟨⟨c.self, 1, 1⟩, 0, 0⟩)) (ps := []) rfl
    have hn3 := hn0.drew.put (List.Pairwise.nil) ⟨⟨c.self, 1, 1⟩, 0, 0⟩ hown hg
    have HN3 := hide hn3
    have HB3 := hide (hb02.drew.grown hg hb02.size (fun j hj => by simp at hj; omega))
    have c7 := hn0.c_map
    simp only [memv] at hrun
    clear hn0 hn3 bn bm bch hb02 hw2 hown hg hlow hmm hmc k0 k1 k2 k3 k4 k5
    go_wp2
    refine wp_region_still_tail 10 (by kernel_rfl) (by kernel_rfl) ?_
    simp only [List.take_succ_cons, List.take_zero, List.drop_succ_cons, List.drop_zero]
    change wpStill _ _ w2.drew (fun a' => wpList _ _ _ _ a' w2.drew) _ _
    repeat still_step
    refine wpStill_nil ?_
    go_wp2
    go_ret2
    exact ⟨_, w1.heap.size + 1, { d with c := w1.heap.size }, rfl, by omega, by omega, by show W.heap.size ≤ w1.heap.size; omega, rfl, unhide HN3, unhide HB3⟩
end Go.Proofs.YtnneljcbelgoeaaGreatDoor.wire
/- Several nodes in memory. -/
namespace Go.Proofs.YtnneljcbelgoeaaGreatDoor.wire
open Go.RowKit Go.Maps

/-- A node, and where it lies. -/
structure Nn where
  nb : Nat
  mb : Nat
  cb : Dk
  pv : Value
  rv : Value
  x : Nd
def Nn.feet (n : Nn) : List Nat := wire.feet n.nb n.mb n.cb n.pv n.rv
def Nn.At (W : World) (n : Nn) : Prop := NAt W n.nb n.mb n.cb n.pv n.rv n.x
structure Nodes (W : World) (L : List Nn) : Prop where
  here : ∀ (i : Nat) (h : i < L.length), (L[i]).At W
  apart : ∀ (i j : Nat) (hi : i < L.length) (hj : j < L.length), i ≠ j → ∀ k ∈ (L[i]).feet, k ∉ (L[j]).feet
theorem Nodes.nil (W : World) : Nodes W [] := ⟨fun _ h => absurd h (by simp), fun _ _ h => absurd h (by simp)⟩
theorem Nodes.below {W W' : World} {L : List Nn} (h : Nodes W L) (hb : Below W.heap.size W W') : Nodes W' L := ⟨fun i hi => (h.here i hi).below hb, h.apart⟩
theorem Nodes.push {W W' : World} {L : List Nn} (h : Nodes W L) (hb : Below W.heap.size W W') {n : Nn} (hn : n.At W') (hf : ∀ k ∈ n.feet, W.heap.size ≤ k) : Nodes W' (L ++ [n]) := by
  have hlt : ∀ (i : Nat) (hi : i < L.length), ∀ k ∈ (L[i]).feet, k < W.heap.size := fun i hi => (h.here i hi).feet_lt
  refine ⟨fun i hi => ?_, fun i j hi hj hne k hk => ?_⟩
  · by_cases h1 : i < L.length
    · rw [List.getElem_append_left h1]; exact (h.here i h1).below hb
    · have : i = L.length := by simp at hi; omega
      subst this; simpa using hn
  · by_cases h1 : i < L.length
    · rw [List.getElem_append_left h1] at hk
      by_cases h2 : j < L.length
      · rw [List.getElem_append_left h2]; exact h.apart i j h1 h2 hne k hk
      · have : j = L.length := by simp at hj; omega
        subst this
        intro hk2
        have a := hlt i h1 k hk
        have b := hf k (by simpa using hk2)
        omega
    · have : i = L.length := by simp at hi; omega
      subst this
      have h2 : j < L.length := by simp at hj; omega
      rw [List.getElem_append_left h2]
      intro hk2
      have a := hlt j h2 k hk2
      have b := hf k (by simpa using hk)
      omega
/-- A call on one of them. -/
theorem Nodes.step {W W' : World} {L : List Nn} (h : Nodes W L) (i : Nat) (hi : i < L.length) {x' : Nd} (ht : NTo W W' (L[i]).nb (L[i]).mb (L[i]).cb (L[i]).pv (L[i]).rv x') :
    ∃ pv rv, Nodes W' (L.set i ⟨(L[i]).nb, (L[i]).mb, (L[i]).cb, pv, rv, x'⟩) ∧ ∀ k ∈ wire.feet (L[i]).nb (L[i]).mb (L[i]).cb pv rv, k ∈ (L[i]).feet ∨ W.heap.size ≤ k := by
  obtain ⟨pv, rv, hn, hf, hs⟩ := ht
  refine ⟨pv, rv, ⟨fun j hj => ?_, fun j k hj hk hne q hq => ?_⟩, hs⟩
  · have hj' : j < L.length := by simpa using hj
    by_cases e : i = j
    · subst e; rw [List.getElem_set_self]; exact hn
    · rw [List.getElem_set_ne e]
      exact (h.here j hj').frm hf (fun k hk hk' => h.apart i j hi hj' e k hk' hk)
  · have hj' : j < L.length := by simpa using hj
    have hk' : k < L.length := by simpa using hk
    by_cases e : i = j
    · subst e
      rw [List.getElem_set_self] at hq
      rw [List.getElem_set_ne hne]
      intro hq2
      rcases hs q hq with h1 | h1
      · exact h.apart i k hi hk' hne q h1 hq2
      · have := (h.here k hk').feet_lt q hq2; omega
    · rw [List.getElem_set_ne e] at hq
      by_cases e2 : i = k
      · subst e2
        rw [List.getElem_set_self]
        intro hq2
        rcases hs q hq2 with h1 | h1
        · exact h.apart j i hj' hi (Ne.symm e) q hq h1
        · have := (h.here j hj').feet_lt q hq; omega
      · rw [List.getElem_set_ne e2]
        exact h.apart j k hj' hk' hne q hq
end Go.Proofs.YtnneljcbelgoeaaGreatDoor.wire
/- Things in memory that lie apart from one another. -/
namespace Go.Proofs.YtnneljcbelgoeaaGreatDoor.wire
open Go.RowKit Go.Maps

/-- A thing in memory: the blocks that it lies in, what it reads there. -/
structure Th where
  feet : List Nat
  rd : World → Prop
  frm : ∀ {S : List Nat} {W W' : World}, rd W → Frm S W W' → (∀ k ∈ feet, k ∉ S) → rd W'
  lt : ∀ {W : World}, rd W → ∀ k ∈ feet, k < W.heap.size
/-- No thing. -/
def Th.no : Th := ⟨[], fun _ => True, fun _ _ _ => trivial, fun _ _ h => absurd h (by simp)⟩
/-- A block. -/
def cellsT (b : Nat) (cs : Array Value) (t : TypeId) : Th :=
  ⟨[b], fun W => W.heap[b]? = some (.cells cs t (0, 0)), fun h hf hn => (hf.block b (lt_blk h) (hn b (by simp))).trans h, fun h k hk => by simp at hk; subst hk; exact lt_blk h⟩
/-- A row. -/
def rowT (e : TypeId) (z : Nat) (v : Value) (n : Nat) (xs : List Value) : Th :=
  ⟨v.ownBlock.toList, fun W => W.ownsRow 0 e z v n xs, fun h hf hn => own_frm h hf (fun k hk => hn k (by simp [hk])), fun h k hk => (own_lt h (Option.mem_toList.1 hk)).2⟩
/-- A node of the program. -/
def nodeT (n : Nn) : Th := ⟨n.feet, n.At, fun h hf hn => NAt.frm h hf hn, fun h k hk => NAt.feet_lt h k hk⟩
/-- A node of the document, its draws left out. -/
def refT (b : Nat) (v : Rv) (r : Rn) : Th :=
  ⟨rfeet b v, fun W => W.heap[b]? = some (.cells (refC r v) 93 (0, 0)) ∧ RRows0 W v r,
    fun h hf hn => ⟨(hf.block b (lt_blk h.1) (hn b (by simp [rfeet]))).trans h.1, h.2.frm hf (fun k hk => hn k (by simp [rfeet, hk]))⟩,
    fun h k hk => by
      rcases List.mem_cons.1 hk with rfl | hk
      · exact lt_blk h.1
      · exact h.2.lt hk⟩
/-- Lists of draws: nobody writes them. -/
def roT (ds : List (Value × List Int)) : Th :=
  ⟨ds.flatMap (fun p => p.1.ownBlock.toList), fun W => ∀ p ∈ ds, W.ownsRow 0 3 1 p.1 p.2.length (p.2.flatMap intC),
    fun h hf hn p hp => own_frm (h p hp) hf (fun k hk => hn k (List.mem_flatMap.2 ⟨p, hp, by simp [hk]⟩)),
    fun h k hk => by
      obtain ⟨p, hp, hk⟩ := List.mem_flatMap.1 hk
      exact (own_lt (h p hp) (Option.mem_toList.1 hk)).2⟩
/-- All of a family lie apart, from block base on; what was below base is as it was in w. -/
structure Sep {ι : Type} (base : Nat) (w W : World) (T : ι → Th) : Prop where
  rd : ∀ i, (T i).rd W
  apart : ∀ i j, i ≠ j → ∀ k ∈ (T i).feet, k ∉ (T j).feet
  low : ∀ i, ∀ k ∈ (T i).feet, base ≤ k
  below : Below base w W
  top : base ≤ W.heap.size
theorem Sep.mono {ι : Type} {base : Nat} {w W W' : World} {T : ι → Th} (h : Sep base w W T) (hb : Below W.heap.size W W') : Sep base w W' T :=
  ⟨fun i => (T i).frm (h.rd i) (Frm.of_below (S := []) hb (Nat.le_refl _)) (by simp), h.apart, h.low, h.below.trans (hb.mono h.top), Nat.le_trans h.top hb.size⟩
theorem Sep.alloc {ι : Type} {base : Nat} {w W : World} {T : ι → Th} (h : Sep base w W T) (o : Obj) : Sep base w (W.alloc o) T := h.mono ((Below.refl _ _).alloc (Nat.le_refl _) o)
theorem Sep.drewN {ι : Type} {base : Nat} {w W : World} {T : ι → Th} (h : Sep base w W T) (n : Nat) : Sep base w (W.drewN n) T := h.mono (bdrewN (Below.refl _ _) n)
theorem Sep.lt {ι : Type} {base : Nat} {w W : World} {T : ι → Th} (h : Sep base w W T) (i : ι) : ∀ k ∈ (T i).feet, k < W.heap.size := (T i).lt (h.rd i)
/-- One thing turns. -/
theorem Sep.upd {ι : Type} {base : Nat} {w W W' : World} {T T' : ι → Th} (h : Sep base w W T) (i : ι) (hf : Frm (T i).feet W W') (hr : (T' i).rd W') (hs : ∀ k ∈ (T' i).feet, k ∈ (T i).feet ∨ W.heap.size ≤ k) (he : ∀ j, j ≠ i → T' j = T j) : Sep base w W' T' := by
  have hnew : ∀ j, j ≠ i → ∀ k ∈ (T j).feet, k ∉ (T' i).feet := fun j hj k hk hk2 => by
    rcases hs k hk2 with h1 | h1
    · exact h.apart j i hj k hk h1
    · have := h.lt j k hk; omega
  refine ⟨fun j => ?_, fun j j' hne k hk => ?_, fun j k hk => ?_, ?_, Nat.le_trans h.top hf.size⟩
  · by_cases e : j = i
    · subst e; exact hr
    · rw [he j e]; exact (T j).frm (h.rd j) hf (fun k hk hk2 => h.apart j i e k hk hk2)
  · by_cases e : j = i
    · subst e
      rw [he j' (Ne.symm hne)]
      intro hk2
      exact hnew j' (Ne.symm hne) k hk2 hk
    · rw [he j e] at hk
      by_cases e' : j' = i
      · subst e'; exact hnew j e k hk
      · rw [he j' e']; exact h.apart j j' hne k hk
  · by_cases e : j = i
    · subst e
      rcases hs k hk with h1 | h1
      · exact h.low j k h1
      · exact Nat.le_trans h.top h1
    · rw [he j e] at hk; exact h.low j k hk
  · refine h.below.trans ⟨hf.os, hf.tape, hf.output, hf.size, fun k hk => hf.block k (Nat.lt_of_lt_of_le hk h.top) (fun hm => ?_)⟩
    have := h.low i k hm
    omega
/-- A thing more, where there was none. -/
theorem Sep.new {ι : Type} {base : Nat} {w W : World} {T T' : ι → Th} (h : Sep base w W T) (i : ι) (hr : (T' i).rd W) (hs : ∀ k ∈ (T' i).feet, base ≤ k ∧ ∀ j, j ≠ i → k ∉ (T j).feet) (he : ∀ j, j ≠ i → T' j = T j) : Sep base w W T' := by
  refine ⟨fun j => ?_, fun j j' hne k hk => ?_, fun j k hk => ?_, h.below, h.top⟩
  · by_cases e : j = i
    · subst e; exact hr
    · rw [he j e]; exact h.rd j
  · by_cases e : j = i
    · subst e
      rw [he j' (Ne.symm hne)]
      exact (hs k hk).2 j' (Ne.symm hne)
    · rw [he j e] at hk
      by_cases e' : j' = i
      · subst e'
        intro hk2
        exact (hs k hk2).2 j e hk
      · rw [he j' e']; exact h.apart j j' hne k hk
  · by_cases e : j = i
    · subst e; exact (hs k hk).1
    · rw [he j e] at hk; exact h.low j k hk
/-- A block that is none of theirs may turn. -/
theorem Sep.aside {ι : Type} {base : Nat} {w W W' : World} {T : ι → Th} (h : Sep base w W T) {S : List Nat} (hf : Frm S W W') (hS : ∀ k ∈ S, base ≤ k ∧ ∀ i, k ∉ (T i).feet) : Sep base w W' T := by
  refine ⟨fun i => (T i).frm (h.rd i) hf (fun k hk hk2 => (hS k hk2).2 i hk), h.apart, h.low, ?_, Nat.le_trans h.top hf.size⟩
  refine h.below.trans ⟨hf.os, hf.tape, hf.output, hf.size, fun k hk => hf.block k (Nat.lt_of_lt_of_le hk h.top) (fun hm => ?_)⟩
  have := (hS k hm).1
  omega
end Go.Proofs.YtnneljcbelgoeaaGreatDoor.wire
