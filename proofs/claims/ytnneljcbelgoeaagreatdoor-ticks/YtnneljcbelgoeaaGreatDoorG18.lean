import Derived.Test.YtnneljcbelgoeaaGreatDoorG10
import Derived.Test.YtnneljcbelgoeaaGreatDoorG11
import Derived.Laws.EntriesVeiled
import Derived.Conc.SmallLaws
import Derived.Deep.RegionHeld3
import Derived.StillTailTactics
import Derived.Test.YtnneljcbelgoeaaGreatDoorG17
/- New (P4). -/
namespace Go.Proofs.YtnneljcbelgoeaaGreatDoor.wire
open Go.RowKit Go.Maps

set_option maxHeartbeats 2000000 in
set_option maxRecDepth 100000 in
theorem order_any (c : Cfg) (hp : -9223372036854775806 ≤ c.period) (hp2 : c.period ≤ 9223372036854775807) (W : World) : Calls Tryz.prog 82 #[.agg #[.int .i64 c.self, .int .i64 c.period, .int .i64 c.wait, .int .i64 c.suspect, .int .i64 c.proxies, .int .i64 c.sends]] W fun e w' => e = .returned (.bool (cfgB c)) ∧ Below W.heap.size W w' := by
  have hb : Below W.heap.size W (W.alloc (.cells #[.int .i64 c.self, .int .i64 c.period, .int .i64 c.wait, .int .i64 c.suspect, .int .i64 c.proxies, .int .i64 c.sends] 82)) := (Below.refl _ _).alloc (Nat.le_refl _) _
  have HB := hide hb
  clear hb
  unfold cfgB
  cases h1 : isIdB c.self
  case false =>
    go_enter Tryz.func82, Tryz.ntmps82
    go_wp2_with (go_at_call 58; refine (isId_any _ _).mono ?_; rintro e w' ⟨rfl, rfl⟩)
    go_ret
    exact ⟨by simp, unhide HB⟩
  have HH1 := hide h1
  clear h1
  cases h2 : (decide (4 ≤ c.period) && decide (c.period ≤ 50))
  case false =>
    have H2 := hide h2
    clear h2
    go_enter Tryz.func82, Tryz.ntmps82
    go_wp2_with fail
    refine (isId_any _ _).mono ?_
    rw [unhide HH1]
    rintro e w' ⟨rfl, rfl⟩
    go_wp2_with fail
    refine (within_any c.period 4 50 _).mono ?_
    rw [unhide H2]
    rintro e w' ⟨rfl, rfl⟩
    go_wp2
    go_ret
    exact ⟨rfl, unhide HB⟩
  have H2 := hide h2
  clear h2
  cases h3 : (decide (1 ≤ c.wait) && decide (c.wait ≤ c.period - 2))
  case false =>
    have H3 := hide h3
    clear h3
    go_enter Tryz.func82, Tryz.ntmps82
    go_wp2_with fail
    refine (isId_any _ _).mono ?_
    rw [unhide HH1]
    rintro e w' ⟨rfl, rfl⟩
    go_wp2_with fail
    refine (within_any c.period 4 50 _).mono ?_
    rw [unhide H2]
    rintro e w' ⟨rfl, rfl⟩
    go_wp2_with fail
    refine (within_any c.wait 1 (c.period - 2) _).mono ?_
    rw [unhide H3]
    rintro e w' ⟨rfl, rfl⟩
    go_wp2
    go_ret
    exact ⟨rfl, unhide HB⟩
  have H3 := hide h3
  clear h3
  cases h4 : (decide (1 ≤ c.suspect) && decide (c.suspect ≤ 500))
  case false =>
    have H4 := hide h4
    clear h4
    go_enter Tryz.func82, Tryz.ntmps82
    go_wp2_with fail
    refine (isId_any _ _).mono ?_
    rw [unhide HH1]
    rintro e w' ⟨rfl, rfl⟩
    go_wp2_with fail
    refine (within_any c.period 4 50 _).mono ?_
    rw [unhide H2]
    rintro e w' ⟨rfl, rfl⟩
    go_wp2_with fail
    refine (within_any c.wait 1 (c.period - 2) _).mono ?_
    rw [unhide H3]
    rintro e w' ⟨rfl, rfl⟩
    go_wp2_with fail
    refine (within_any c.suspect 1 500 _).mono ?_
    rw [unhide H4]
    rintro e w' ⟨rfl, rfl⟩
    go_wp2
    go_ret
    exact ⟨rfl, unhide HB⟩
  have H4 := hide h4
  clear h4
  cases h5 : (decide (0 ≤ c.proxies) && decide (c.proxies ≤ 3))
  case false =>
    have H5 := hide h5
    clear h5
    go_enter Tryz.func82, Tryz.ntmps82
    go_wp2_with fail
    refine (isId_any _ _).mono ?_
    rw [unhide HH1]
    rintro e w' ⟨rfl, rfl⟩
    go_wp2_with fail
    refine (within_any c.period 4 50 _).mono ?_
    rw [unhide H2]
    rintro e w' ⟨rfl, rfl⟩
    go_wp2_with fail
    refine (within_any c.wait 1 (c.period - 2) _).mono ?_
    rw [unhide H3]
    rintro e w' ⟨rfl, rfl⟩
    go_wp2_with fail
    refine (within_any c.suspect 1 500 _).mono ?_
    rw [unhide H4]
    rintro e w' ⟨rfl, rfl⟩
    go_wp2_with fail
    refine (within_any c.proxies 0 3 _).mono ?_
    rw [unhide H5]
    rintro e w' ⟨rfl, rfl⟩
    go_wp2
    go_ret
    exact ⟨rfl, unhide HB⟩
  have H5 := hide h5
  clear h5
  cases h6 : (decide (1 ≤ c.sends) && decide (c.sends ≤ 8))
  case false =>
    have H6 := hide h6
    clear h6
    go_enter Tryz.func82, Tryz.ntmps82
    go_wp2_with fail
    refine (isId_any _ _).mono ?_
    rw [unhide HH1]
    rintro e w' ⟨rfl, rfl⟩
    go_wp2_with fail
    refine (within_any c.period 4 50 _).mono ?_
    rw [unhide H2]
    rintro e w' ⟨rfl, rfl⟩
    go_wp2_with fail
    refine (within_any c.wait 1 (c.period - 2) _).mono ?_
    rw [unhide H3]
    rintro e w' ⟨rfl, rfl⟩
    go_wp2_with fail
    refine (within_any c.suspect 1 500 _).mono ?_
    rw [unhide H4]
    rintro e w' ⟨rfl, rfl⟩
    go_wp2_with fail
    refine (within_any c.proxies 0 3 _).mono ?_
    rw [unhide H5]
    rintro e w' ⟨rfl, rfl⟩
    go_wp2_with fail
    refine (within_any c.sends 1 8 _).mono ?_
    rw [unhide H6]
    rintro e w' ⟨rfl, rfl⟩
    go_wp2
    go_ret
    exact ⟨rfl, unhide HB⟩
  have H6 := hide h6
  clear h6
  go_enter Tryz.func82, Tryz.ntmps82
  go_wp2_with fail
  refine (isId_any _ _).mono ?_
  rw [unhide HH1]
  rintro e w' ⟨rfl, rfl⟩
  go_wp2_with fail
  refine (within_any c.period 4 50 _).mono ?_
  rw [unhide H2]
  rintro e w' ⟨rfl, rfl⟩
  go_wp2_with fail
  refine (within_any c.wait 1 (c.period - 2) _).mono ?_
  rw [unhide H3]
  rintro e w' ⟨rfl, rfl⟩
  go_wp2_with fail
  refine (within_any c.suspect 1 500 _).mono ?_
  rw [unhide H4]
  rintro e w' ⟨rfl, rfl⟩
  go_wp2_with fail
  refine (within_any c.proxies 0 3 _).mono ?_
  rw [unhide H5]
  rintro e w' ⟨rfl, rfl⟩
  go_wp2_with fail
  refine (within_any c.sends 1 8 _).mono ?_
  rw [unhide H6]
  rintro e w' ⟨rfl, rfl⟩
  go_wp2
  go_ret
  exact ⟨rfl, unhide HB⟩
theorem Tryz.infoIntL0 : (Tryz.prog.info? 3).map (fun i => (i.zero, i.size, i.bytes)) = some (some (.int .i64 0), 1, 8) := by kernel_rfl
theorem Tryz.infoKeyB : (Tryz.prog.info? 76).map (fun i => i.bytes) = some 24 := by kernel_rfl
theorem mk8 (w : World) : (Instr.makeChan 121 (.int .i64 8)).run Tryz.prog w = .ok (.chan (some w.heap.size)) (w.alloc (.chan 8 #[] false 0 0 false)) := by
  obtain ⟨i, hi, hb⟩ := Option.map_eq_some_iff.1 Tryz.infoKeyB
  simpa using Go.Conc.run_makeChan (P := Tryz.prog) (w := w) Tryz.underlying121 hi .i64 8 (by omega) (by rw [hb]; omega)
theorem own_empty {w : World} {mb : Nat} (h : w.heap[mb]? = some (.map #[] 0)) : w.ownsMap Tryz.prog 3 RH mb 0 (tabD []) := by
  obtain ⟨es, clock, hb, F, hs, hD⟩ := World.ownsMap_made w Tryz.prog 3 RH
  have := (heap_alloc_new w (.map #[] 0)).symm.trans hb
  cases this
  exact ⟨#[], 0, h, F, hs, hD⟩
theorem drawC {W : World} {d : Dk} {pv : Value} {l : List Int} {n : Nat} (h : DrawAt W d pv l n) (c : Nat) : DrawAt W { d with c := c } pv l n := ⟨h.ob, h.ab, h.row, h.sep, h.sepp⟩
/-- The draws, as they are handed in. -/
def DrawsAt (w : World) (v : Value) (l : List Int) : Prop := w.ownsRow 0 3 1 v l.length (l.flatMap intC)
set_option maxHeartbeats 1000000 in
set_option maxRecDepth 100000 in
theorem draws_any (l : List Int) (hl : l.length ≤ 1000000) {v : Value} {W : World} (hv : DrawsAt W v l) :
    Calls Tryz.prog 54 #[v] W fun e w' => ∃ d : Dk, e = .returned d.fn ∧ DrawAt w' d (.slice none 0 0) l 0 ∧ (∀ k ∈ d.all, W.heap.size ≤ k) ∧ Below W.heap.size W w' := by
  have hv0 : W.ownsRow 0 3 1 v l.length (l.flatMap intC) := hv
  obtain ⟨ao, cap, rfl⟩ := own_form hv0
  have HV := hide hv0
  clear hv hv0
  obtain ⟨ti, hti, hz0, hz1, hz2⟩ := info_parts Tryz.infoIntL0
  have hone : ∀ u ∈ l.flatMap intC, u.oneCell' = true := by
    intro u hu
    obtain ⟨a, _, h2⟩ := List.mem_flatMap.1 hu
    simp [intC] at h2; subst h2; rfl
  go_enter Tryz.func54, Tryz.ntmps54
  go_wp2_with (at_builtin; refine wpList_append_copy rfl _ _ 24 rfl 0 3 ti (.int .i64 0) 1 8 Tryz.underlying24 hti hz0 hz1 hz2 rfl (by decide) _ l.length (l.flatMap intC) rfl rfl (unhide HV) hone (by unfold maxLen; omega) (by omega) ?_)
  intro v1 w1 hown hb1
  obtain ⟨ao1, cap1, rfl⟩ := own_form hown
  have HB1 := hide hb1
  have HO1 := hide hown
  clear hown hb1
  go_wp2
  go_ret
  have hb1 := unhide HB1
  have ho1 := unhide HO1
  have hz := hb1.size
  refine ⟨⟨0, w1.heap.size, w1.heap.size + 1, .slice ao1 l.length cap1⟩, rfl, ⟨?_, ?_, ?_, ?_, by simp [Value.ownBlock]⟩, ?_, (hb1.alloc hz _).alloc (by simp; omega) _⟩
  · exact (Below.heap_alloc _ _ _ (by simp)).trans (heap_alloc_new w1 _)
  · have := heap_alloc_new (w1.alloc (.cells #[.slice ao1 l.length cap1] 24)) (.cells #[.int .i64 0] 3)
    rw [World.size_alloc] at this
    exact this
  · exact (own_mono ((ho1.alloc _).alloc _) (Nat.zero_le _))
  · intro e
    have h : w1.heap.size + 1 < w1.heap.size := (own_lt ho1 e).2
    omega
  · intro k hk
    simp only [Dk.all, List.mem_cons, Option.mem_toList] at hk
    rcases hk with rfl | rfl | hk
    · exact hz
    · show W.heap.size ≤ w1.heap.size + 1
      omega
    · exact (own_lt ho1 hk).1
set_option maxHeartbeats 1000000 in
set_option maxRecDepth 100000 in
theorem new_yes (c : Cfg) (hc : cfgB c = true) (W : World) (d : Dk) (dl : List Int) (hd : DrawAt W d (.slice none 0 0) dl 0) :
    Calls Tryz.prog 53 #[.agg #[.int .i64 c.self, .int .i64 c.period, .int .i64 c.wait, .int .i64 c.suspect, .int .i64 c.proxies, .int .i64 c.sends], d.fn] W fun e w' => ∃ (nb mb : Nat) (cb : Dk), e = .returned (.tuple #[.pointer (some ⟨nb, 0, none⟩), .nilIface]) ∧ W.heap.size ≤ nb ∧ W.heap.size ≤ mb ∧ W.heap.size ≤ cb.c ∧ cb.all = d.all ∧ NAt w' nb mb cb (.slice none 0 0) (.slice none 0 0) (Nd.new c dl) ∧ Below W.heap.size W w' := by
  have hO := fun w => order_any c (by have := hc; simp only [cfgB, Bool.and_eq_true, decide_eq_true_eq] at this; omega) (by have := hc; simp only [cfgB, Bool.and_eq_true, decide_eq_true_eq] at this; omega) w
  rw [hc] at hO
  have HO := hide hO
  have HC := hide hc
  have HD := hide hd
  simp only [Dk.fn]
  clear hO hc hd
  go_enter Tryz.func53, Tryz.ntmps53
  go_wp2_with fail
  refine ((unhide HO) _).mono ?_
  rintro e w1 ⟨rfl, hb1⟩
  have bc := (hb1.block W.heap.size (by simp)).trans (heap_alloc_new W (.cells #[.int .i64 c.self, .int .i64 c.period, .int .i64 c.wait, .int .i64 c.suspect, .int .i64 c.proxies, .int .i64 c.sends] 82))
  have hz1 := hb1.size
  rw [World.size_alloc] at hz1
  have k0 := cell_at bc 0
  have k1 := cell_at bc 1
  have k2 := cell_at bc 2
  have k3 := cell_at bc 3
  have k4 := cell_at bc 4
  have k5 := cell_at bc 5
  simp only [List.getElem?_toArray, List.getElem?_cons_zero, List.getElem?_cons_succ] at k0 k1 k2 k3 k4 k5
  have HB1 := hide (((Below.refl _ _).alloc (Nat.le_refl _) _ : Below W.heap.size W (W.alloc (.cells #[.int .i64 c.self, .int .i64 c.period, .int .i64 c.wait, .int .i64 c.suspect, .int .i64 c.proxies, .int .i64 c.sends] 82))).trans (hb1.mono (by simp)))
  have HBC := hide bc
  clear hb1 bc HO
  have hmm := @run_makeMap Tryz.prog
  have hmc := mk8
  have hlow : ∀ (o1 o2 o3 : Obj) (i : Nat), (((w1.alloc o1).alloc o2).alloc o3).cell? ⟨W.heap.size, i, none⟩ = w1.cell? ⟨W.heap.size, i, none⟩ := fun o1 o2 o3 i => by
    rw [World.cell?_alloc_lt _ _ _ (by simp; omega), World.cell?_alloc_lt _ _ _ (by simp; omega), World.cell?_alloc_lt _ _ _ (by show W.heap.size < _; omega)]
  go_wp2_with fail
  go_region_held3 (fun w' => w'.cell? ⟨W.heap.size, 0, none⟩ = some (.int .i64 c.self) ∧ w'.cell? ⟨W.heap.size, 1, none⟩ = some (.int .i64 c.period) ∧ w'.cell? ⟨W.heap.size, 2, none⟩ = some (.int .i64 c.wait) ∧ w'.cell? ⟨W.heap.size, 3, none⟩ = some (.int .i64 c.suspect) ∧ w'.cell? ⟨W.heap.size, 4, none⟩ = some (.int .i64 c.proxies) ∧ w'.cell? ⟨W.heap.size, 5, none⟩ = some (.int .i64 c.sends)) (go_keep) (fail)
  · generalize hw2 : World.drew _ = w2
    have bn : w2.heap[w1.heap.size + 1 + 1]? = some (.cells (ndC ⟨c, 0, [], [], 0, 0, 0, false, [], 0, [], 0, 0, dl, 0⟩ (w1.heap.size) { d with c := w1.heap.size + 1 } (.slice none 0 0) (.slice none 0 0)) 123 (0, 0)) := by
      rw [← hw2]
      have h := heap_alloc_new ((w1.alloc (.map #[] 0)).alloc (.chan 8 #[] false 0 0 false)) (.cells #[.int .i64 c.self, .int .i64 c.period, .int .i64 c.wait, .int .i64 c.suspect, .int .i64 c.proxies, .int .i64 c.sends, .func (.func 83) #[] #[.pointer (some ⟨d.ob, 0, none⟩), .pointer (some ⟨d.ab, 0, none⟩)], .int .i64 0, .map (some (w1.heap.size)), .slice none 0 0, .int .i64 0, .int .i64 0, .int .i64 0, .bool false, .slice none 0 0, .int .i64 0, .chan (some (w1.heap.size + 1)), .int .i64 0, .int .i64 0] 123)
      simp only [World.size_alloc] at h
      exact h
    have bm : w2.heap[w1.heap.size]? = some (.map #[] 0) := by
      rw [← hw2]
      refine (Below.heap_alloc _ _ _ (by simp; try omega)).trans ?_
      exact (Below.heap_alloc _ _ _ (by simp)).trans (heap_alloc_new w1 _)
    have bch : w2.heap[w1.heap.size + 1]? = some (.chan 8 #[] false 0 0 false) := by
      rw [← hw2]
      refine (Below.heap_alloc _ _ _ (by simp; try omega)).trans ?_
      have h := heap_alloc_new (w1.alloc (.map #[] 0)) (.chan 8 #[] false 0 0 false)
      rw [World.size_alloc] at h
      exact h
    have hb02 : Below W.heap.size W w2 := by
      rw [← hw2]
      exact ((((unhide HB1).alloc (by omega) _).alloc (by simp; omega) _).alloc (by simp; omega) _).drew
    have s0 : w2.cell? ⟨W.heap.size, 0, none⟩ = some (.int .i64 c.self) := by
      rw [← hw2]
      exact (hlow _ _ _ 0).trans k0
    have hself : 1 ≤ c.self ∧ c.self ≤ 250 := by have := unhide HC; simp only [cfgB, Bool.and_eq_true] at this; exact isId_of this.1
    have hn0 : NAt w2 (w1.heap.size + 1 + 1) (w1.heap.size) { d with c := w1.heap.size + 1 } (.slice none 0 0) (.slice none 0 0) ⟨c, 0, [], [], 0, 0, 0, false, [], 0, [], 0, 0, dl, 0⟩ :=
      ⟨bn, own_empty bm, ⟨0, 0, bch⟩, .inl ⟨rfl, rfl⟩, ⟨rfl, .inl ⟨rfl, rfl⟩⟩, drawC ((unhide HD).frm (S := []) (Frm.of_below hb02 (Nat.le_refl _)) (by simp)) _⟩
    obtain ⟨w3, hrun, hown, hg⟩ := hn0.drew.map.update law Tryz.underlying117 (key := .int .i64 c.self) (val := memv ⟨⟨c.self, 1, 1⟩, 0, 0⟩) (by show 0 < maxLen; unfold maxLen; omega) (key_wf (by omega) (by omega)) (d := .held (memv ⟨⟨c.self, 1, 1⟩, 0, 0⟩)) (ps := []) rfl
    have hn3 := hn0.drew.put (List.Pairwise.nil) ⟨⟨c.self, 1, 1⟩, 0, 0⟩ hown hg
    have HN3 := hide hn3
    have HB3 := hide (hb02.drew.grown hg hb02.size (fun j hj => by simp at hj; omega))
    have c7 := hn0.c_map
    simp only [memv] at hrun
    clear hn0 hn3 bn bm bch hb02 hw2 hown hg hlow hmm hmc k0 k1 k2 k3 k4 k5
    go_wp2
    refine wp_region_still_tail 10 (by kernel_rfl) (by kernel_rfl) ?_
    simp only [List.take_succ_cons, List.take_zero, List.drop_succ_cons, List.drop_zero]
    change wpStill _ _ w2.drew (fun a' => wpList _ _ _ _ a' w2.drew) _ _
    repeat still_step
    refine wpStill_nil ?_
    go_wp2
    go_ret2
    exact ⟨_, w1.heap.size, { d with c := w1.heap.size + 1 }, rfl, by omega, by omega, by show W.heap.size ≤ w1.heap.size + 1; omega, rfl, unhide HN3, unhide HB3⟩
  · generalize hw2 : World.drew _ = w2
    have bn : w2.heap[w1.heap.size + 1 + 1]? = some (.cells (ndC ⟨c, 0, [], [], 0, 0, 0, false, [], 0, [], 0, 0, dl, 0⟩ (w1.heap.size + 1) { d with c := w1.heap.size } (.slice none 0 0) (.slice none 0 0)) 123 (0, 0)) := by
      rw [← hw2]
      have h := heap_alloc_new ((w1.alloc (.chan 8 #[] false 0 0 false)).alloc (.map #[] 0)) (.cells #[.int .i64 c.self, .int .i64 c.period, .int .i64 c.wait, .int .i64 c.suspect, .int .i64 c.proxies, .int .i64 c.sends, .func (.func 83) #[] #[.pointer (some ⟨d.ob, 0, none⟩), .pointer (some ⟨d.ab, 0, none⟩)], .int .i64 0, .map (some (w1.heap.size + 1)), .slice none 0 0, .int .i64 0, .int .i64 0, .int .i64 0, .bool false, .slice none 0 0, .int .i64 0, .chan (some (w1.heap.size)), .int .i64 0, .int .i64 0] 123)
      simp only [World.size_alloc] at h
      exact h
    have bm : w2.heap[w1.heap.size + 1]? = some (.map #[] 0) := by
      rw [← hw2]
      refine (Below.heap_alloc _ _ _ (by simp; try omega)).trans ?_
      have h := heap_alloc_new (w1.alloc (.chan 8 #[] false 0 0 false)) (.map #[] 0)
      rw [World.size_alloc] at h
      exact h
    have bch : w2.heap[w1.heap.size]? = some (.chan 8 #[] false 0 0 false) := by
      rw [← hw2]
      refine (Below.heap_alloc _ _ _ (by simp; try omega)).trans ?_
      exact (Below.heap_alloc _ _ _ (by simp)).trans (heap_alloc_new w1 _)
    have hb02 : Below W.heap.size W w2 := by
      rw [← hw2]
      exact ((((unhide HB1).alloc (by omega) _).alloc (by simp; omega) _).alloc (by simp; omega) _).drew
    have s0 : w2.cell? ⟨W.heap.size, 0, none⟩ = some (.int .i64 c.self) := by
      rw [← hw2]
      exact (hlow _ _ _ 0).trans k0
    have hself : 1 ≤ c.self ∧ c.self ≤ 250 := by have := unhide HC; simp only [cfgB, Bool.and_eq_true] at this; exact isId_of this.1
    have hn0 : NAt w2 (w1.heap.size + 1 + 1) (w1.heap.size + 1) { d with c := w1.heap.size } (.slice none 0 0) (.slice none 0 0) ⟨c, 0, [], [], 0, 0, 0, false, [], 0, [], 0, 0, dl, 0⟩ :=
      ⟨bn, own_empty bm, ⟨0, 0, bch⟩, .inl ⟨rfl, rfl⟩, ⟨rfl, .inl ⟨rfl, rfl⟩⟩, drawC ((unhide HD).frm (S := []) (Frm.of_below hb02 (Nat.le_refl _)) (by simp)) _⟩
    obtain ⟨w3, hrun, hown, hg⟩ := hn0.drew.map.update law Tryz.underlying117 (key := .int .i64 c.self) (val := memv ⟨⟨c.self, 1, 1⟩, 0, 0⟩) (by show 0 < maxLen; unfold maxLen; omega) (key_wf (by omega) (by omega)) (d := .held (memv ⟨⟨c.self, 1, 1⟩, 0, 0⟩)) (ps := []) rfl
    have hn3 := hn0.drew.put (List.Pairwise.nil) ⟨⟨c.self, 1, 1⟩, 0, 0⟩ hown hg
    have HN3 := hide hn3
    have HB3 := hide (hb02.drew.grown hg hb02.size (fun j hj => by simp at hj; omega))
    have c7 := hn0.c_map
    simp only [memv] at hrun
    clear hn0 hn3 bn bm bch hb02 hw2 hown hg hlow hmm hmc k0 k1 k2 k3 k4 k5
    go_wp2
    refine wp_region_still_tail 10 (by kernel_rfl) (by kernel_rfl) ?_
    simp only [List.take_succ_cons, List.take_zero, List.drop_succ_cons, List.drop_zero]
    change wpStill _ _ w2.drew (fun a' => wpList _ _ _ _ a' w2.drew) _ _
    repeat still_step
    refine wpStill_nil ?_
    go_wp2
    go_ret2
    exact ⟨_, w1.heap.size + 1, { d with c := w1.heap.size }, rfl, by omega, by omega, by show W.heap.size ≤ w1.heap.size; omega, rfl, unhide HN3, unhide HB3⟩
end Go.Proofs.YtnneljcbelgoeaaGreatDoor.wire
/- Several nodes in memory. -/
namespace Go.Proofs.YtnneljcbelgoeaaGreatDoor.wire
open Go.RowKit Go.Maps

/-- A node, and where it lies. -/
structure Nn where
  nb : Nat
  mb : Nat
  cb : Dk
  pv : Value
  rv : Value
  x : Nd
def Nn.feet (n : Nn) : List Nat := wire.feet n.nb n.mb n.cb n.pv n.rv
def Nn.At (W : World) (n : Nn) : Prop := NAt W n.nb n.mb n.cb n.pv n.rv n.x
structure Nodes (W : World) (L : List Nn) : Prop where
  here : ∀ (i : Nat) (h : i < L.length), (L[i]).At W
  apart : ∀ (i j : Nat) (hi : i < L.length) (hj : j < L.length), i ≠ j → ∀ k ∈ (L[i]).feet, k ∉ (L[j]).feet
theorem Nodes.nil (W : World) : Nodes W [] := ⟨fun _ h => absurd h (by simp), fun _ _ h => absurd h (by simp)⟩
theorem Nodes.below {W W' : World} {L : List Nn} (h : Nodes W L) (hb : Below W.heap.size W W') : Nodes W' L := ⟨fun i hi => (h.here i hi).below hb, h.apart⟩
theorem Nodes.push {W W' : World} {L : List Nn} (h : Nodes W L) (hb : Below W.heap.size W W') {n : Nn} (hn : n.At W') (hf : ∀ k ∈ n.feet, W.heap.size ≤ k) : Nodes W' (L ++ [n]) := by
  have hlt : ∀ (i : Nat) (hi : i < L.length), ∀ k ∈ (L[i]).feet, k < W.heap.size := fun i hi => (h.here i hi).feet_lt
  refine ⟨fun i hi => ?_, fun i j hi hj hne k hk => ?_⟩
  · by_cases h1 : i < L.length
    · rw [List.getElem_append_left h1]; exact (h.here i h1).below hb
    · have : i = L.length := by simp at hi; omega
      subst this; simpa using hn
  · by_cases h1 : i < L.length
    · rw [List.getElem_append_left h1] at hk
      by_cases h2 : j < L.length
      · rw [List.getElem_append_left h2]; exact h.apart i j h1 h2 hne k hk
      · have : j = L.length := by simp at hj; omega
        subst this
        intro hk2
        have a := hlt i h1 k hk
        have b := hf k (by simpa using hk2)
        omega
    · have : i = L.length := by simp at hi; omega
      subst this
      have h2 : j < L.length := by simp at hj; omega
      rw [List.getElem_append_left h2]
      intro hk2
      have a := hlt j h2 k hk2
      have b := hf k (by simpa using hk)
      omega
/-- A call on one of them. -/
theorem Nodes.step {W W' : World} {L : List Nn} (h : Nodes W L) (i : Nat) (hi : i < L.length) {x' : Nd} (ht : NTo W W' (L[i]).nb (L[i]).mb (L[i]).cb (L[i]).pv (L[i]).rv x') :
    ∃ pv rv, Nodes W' (L.set i ⟨(L[i]).nb, (L[i]).mb, (L[i]).cb, pv, rv, x'⟩) ∧ ∀ k ∈ wire.feet (L[i]).nb (L[i]).mb (L[i]).cb pv rv, k ∈ (L[i]).feet ∨ W.heap.size ≤ k := by
  obtain ⟨pv, rv, hn, hf, hs⟩ := ht
  refine ⟨pv, rv, ⟨fun j hj => ?_, fun j k hj hk hne q hq => ?_⟩, hs⟩
  · have hj' : j < L.length := by simpa using hj
    by_cases e : i = j
    · subst e; rw [List.getElem_set_self]; exact hn
    · rw [List.getElem_set_ne e]
      exact (h.here j hj').frm hf (fun k hk hk' => h.apart i j hi hj' e k hk' hk)
  · have hj' : j < L.length := by simpa using hj
    have hk' : k < L.length := by simpa using hk
    by_cases e : i = j
    · subst e
      rw [List.getElem_set_self] at hq
      rw [List.getElem_set_ne hne]
      intro hq2
      rcases hs q hq with h1 | h1
      · exact h.apart i k hi hk' hne q h1 hq2
      · have := (h.here k hk').feet_lt q hq2; omega
    · rw [List.getElem_set_ne e] at hq
      by_cases e2 : i = k
      · subst e2
        rw [List.getElem_set_self]
        intro hq2
        rcases hs q hq2 with h1 | h1
        · exact h.apart j i hj' hi (Ne.symm e) q hq h1
        · have := (h.here j hj').feet_lt q hq; omega
      · rw [List.getElem_set_ne e2]
        exact h.apart j k hj' hk' hne q hq
end Go.Proofs.YtnneljcbelgoeaaGreatDoor.wire
