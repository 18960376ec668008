import Derived.Test.YtnneljcbelgoeaaGreatDoorG18
import Derived.Test.YtnneljcbelgoeaaGreatDoorG34
import Derived.Deep.RegionHeld3
/- plain.New, in order or refused; gossiplaw's config. -/
namespace Go.Proofs.YtnneljcbelgoeaaGreatDoor.wire
open Go.RowKit Go.Maps
set_option maxHeartbeats 1000000 in
set_option maxRecDepth 100000 in
theorem order_all (c : Cfg) (hp2 : c.period ≤ 9223372036854775807) (W : World) : Calls Tryz.prog 82 #[.agg #[.int .i64 c.self, .int .i64 c.period, .int .i64 c.wait, .int .i64 c.suspect, .int .i64 c.proxies, .int .i64 c.sends]] W fun e w' => e = .returned (.bool (cfgB c)) ∧ Below W.heap.size W w' := by
  by_cases hp : 4 ≤ c.period
  · exact order_any c (by omega) hp2 W
  · have hb : Below W.heap.size W (W.alloc (.cells #[.int .i64 c.self, .int .i64 c.period, .int .i64 c.wait, .int .i64 c.suspect, .int .i64 c.proxies, .int .i64 c.sends] 82)) := (Below.refl _ _).alloc (Nat.le_refl _) _
    have HB := hide hb
    clear hb
    have hf : cfgB c = false := by simp [cfgB, hp]
    rw [hf]
    cases h1 : isIdB c.self
    case false =>
      go_enter Tryz.func82, Tryz.ntmps82
      go_wp2_with fail
      refine (isId_any _ _).mono ?_
      rw [h1]
      rintro e w' ⟨rfl, rfl⟩
      go_wp2
      go_ret
      exact ⟨rfl, unhide HB⟩
    have HH1 := hide h1
    clear h1
    have h2 : (decide (4 ≤ c.period) && decide (c.period ≤ 50)) = false := by simp [hp]
    have H2 := hide h2
    clear h2
    go_enter Tryz.func82, Tryz.ntmps82
    go_wp2_with fail
    refine (isId_any _ _).mono ?_
    rw [unhide HH1]
    rintro e w' ⟨rfl, rfl⟩
    go_wp2_with fail
    refine (within_any c.period 4 50 _).mono ?_
    rw [unhide H2]
    rintro e w' ⟨rfl, rfl⟩
    go_wp2
    go_ret
    exact ⟨rfl, unhide HB⟩
set_option maxHeartbeats 1000000 in
set_option maxRecDepth 100000 in
theorem new_no (c : Cfg) (hc : cfgB c = false) (hp2 : c.period ≤ 9223372036854775807) (f : Value) (W : World) :
    Calls Tryz.prog 53 #[.agg #[.int .i64 c.self, .int .i64 c.period, .int .i64 c.wait, .int .i64 c.suspect, .int .i64 c.proxies, .int .i64 c.sends], f] W fun e w' => e = .returned (.tuple #[.pointer none, .iface 108 (.int .i64 1)]) ∧ Below W.heap.size W w' := by
  have hO := fun w => order_all c hp2 w
  rw [hc] at hO
  have HO := hide hO
  have HB0 := hide ((Below.refl W.heap.size W).alloc (Nat.le_refl _) (.cells #[.int .i64 c.self, .int .i64 c.period, .int .i64 c.wait, .int .i64 c.suspect, .int .i64 c.proxies, .int .i64 c.sends] 82))
  clear hO hc
  go_enter Tryz.func53, Tryz.ntmps53
  go_wp2_with fail
  refine ((unhide HO) _).mono ?_
  rintro e w1 ⟨rfl, hb1⟩
  have HB1 := hide ((unhide HB0).trans (hb1.mono (unhide HB0).size))
  clear hb1 HO
  go_wp2
  go_ret2
  exact ⟨rfl, unhide HB1⟩
set_option maxHeartbeats 1000000 in
set_option maxRecDepth 100000 in
theorem pnew_yes (c : Cfg) (hc : cfgB c = true) (l : List Int) (hl : l.length ≤ 1000000) {v : Value} {W : World} (hv : DrawsAt W v l) :
    Calls Tryz.prog 32 #[.agg #[.int .i64 c.self, .int .i64 c.period, .int .i64 c.wait, .int .i64 c.suspect, .int .i64 c.proxies, .int .i64 c.sends], v] W fun e w' => ∃ (nb mb : Nat) (cb : Dk), e = .returned (.tuple #[.pointer (some ⟨nb, 0, none⟩), .nilIface]) ∧ W.heap.size ≤ nb ∧ W.heap.size ≤ mb ∧ (W.heap.size ≤ cb.c ∧ ∀ k ∈ cb.all, W.heap.size ≤ k) ∧ NAt w' nb mb cb (.slice none 0 0) (.slice none 0 0) (Nd.new c l) ∧ Below W.heap.size W w' := by
  have hv0 : W.ownsRow 0 3 1 v l.length (l.flatMap intC) := hv
  obtain ⟨ao, cap, rfl⟩ := own_form hv0
  have HD := hide (draws_any l hl (W := (W.alloc (.cells #[.int .i64 c.self, .int .i64 c.period, .int .i64 c.wait, .int .i64 c.suspect, .int .i64 c.proxies, .int .i64 c.sends] 82)).drew) (v := .slice ao l.length cap) (hv0.alloc _))
  have hbx : (W.alloc (.cells #[.int .i64 c.self, .int .i64 c.period, .int .i64 c.wait, .int .i64 c.suspect, .int .i64 c.proxies, .int .i64 c.sends] 82)).drew.heap[W.heap.size]? = some (.cells #[.int .i64 c.self, .int .i64 c.period, .int .i64 c.wait, .int .i64 c.suspect, .int .i64 c.proxies, .int .i64 c.sends] 82 (0, 0)) := heap_alloc_new W _
  have HBX := hide hbx
  have HB0 : Hid (Below W.heap.size W (W.alloc (.cells #[.int .i64 c.self, .int .i64 c.period, .int .i64 c.wait, .int .i64 c.suspect, .int .i64 c.proxies, .int .i64 c.sends] 82)).drew) := hide ((Below.refl _ _).alloc (Nat.le_refl _) _).drew
  have HC := hide hc
  clear hv hv0 hbx hc
  go_enter Tryz.func32, Tryz.ntmps32
  go_wp2
  go_region_held3 (fun w' => w'.cell? ⟨W.heap.size, 0, none⟩ = some (.int .i64 c.self) ∧ w'.cell? ⟨W.heap.size, 1, none⟩ = some (.int .i64 c.period) ∧ w'.cell? ⟨W.heap.size, 2, none⟩ = some (.int .i64 c.wait) ∧ w'.cell? ⟨W.heap.size, 3, none⟩ = some (.int .i64 c.suspect) ∧ w'.cell? ⟨W.heap.size, 4, none⟩ = some (.int .i64 c.proxies) ∧ w'.cell? ⟨W.heap.size, 5, none⟩ = some (.int .i64 c.sends)) (go_keep)
    (first
      | (go_at_call 54; refine (unhide HD).mono ?_; rintro e w2 ⟨d, rfl, hda, hdk, hb2⟩; have HDA := hide hda; have HDK := hide hdk; clear hda hdk; have HX2 := hide ((hb2.block W.heap.size (lt_blk (unhide HBX))).trans (unhide HBX)); have q0 := cell_at (unhide HX2) 0; have q1 := cell_at (unhide HX2) 1; have q2 := cell_at (unhide HX2) 2; have q3 := cell_at (unhide HX2) 3; have q4 := cell_at (unhide HX2) 4; have q5 := cell_at (unhide HX2) 5; simp only [List.getElem?_toArray, List.getElem?_cons_zero, List.getElem?_cons_succ] at q0 q1 q2 q3 q4 q5; have HB2 := hide ((unhide HB0).trans (hb2.mono (unhide HB0).size)); clear hb2)
      | (go_at_call 53; refine (new_yes c (unhide HC) _ d l (unhide HDA)).mono ?_; rintro e w3 ⟨nb, mb, cb, rfl, l1, l2, l3, l4, hn3, hb3⟩; have HX3 := hide ((hb3.block W.heap.size (lt_blk (unhide HX2))).trans (unhide HX2)); have s0 := cell_at (unhide HX3) 0; have s1 := cell_at (unhide HX3) 1; have s2 := cell_at (unhide HX3) 2; have s3 := cell_at (unhide HX3) 3; have s4 := cell_at (unhide HX3) 4; have s5 := cell_at (unhide HX3) 5; simp only [List.getElem?_toArray, List.getElem?_cons_zero, List.getElem?_cons_succ] at s0 s1 s2 s3 s4 s5; have HN3 := hide hn3; have HB3 := hide ((unhide HB2).trans (hb3.mono (unhide HB2).size)); have hs2 := (unhide HB2).size; clear hn3 hb3))
  all_goals
    go_wp2
    go_ret2
    exact ⟨nb, mb, cb, rfl, by omega, by omega, ⟨by omega, fun k hk => by rw [l4] at hk; have := unhide HDK k hk; have := (unhide HB0).size; omega⟩, unhide HN3, unhide HB3⟩
set_option maxHeartbeats 1000000 in
set_option maxRecDepth 100000 in
theorem pnew_no (c : Cfg) (hc : cfgB c = false) (hp2 : c.period ≤ 9223372036854775807) (l : List Int) (hl : l.length ≤ 1000000) {v : Value} {W : World} (hv : DrawsAt W v l) :
    Calls Tryz.prog 32 #[.agg #[.int .i64 c.self, .int .i64 c.period, .int .i64 c.wait, .int .i64 c.suspect, .int .i64 c.proxies, .int .i64 c.sends], v] W fun e w' => e = .returned (.tuple #[.pointer none, .iface 108 (.int .i64 1)]) ∧ Below W.heap.size W w' := by
  have hv0 : W.ownsRow 0 3 1 v l.length (l.flatMap intC) := hv
  obtain ⟨ao, cap, rfl⟩ := own_form hv0
  have HD := hide (draws_any l hl (W := (W.alloc (.cells #[.int .i64 c.self, .int .i64 c.period, .int .i64 c.wait, .int .i64 c.suspect, .int .i64 c.proxies, .int .i64 c.sends] 82)).drew) (v := .slice ao l.length cap) (hv0.alloc _))
  have hbx : (W.alloc (.cells #[.int .i64 c.self, .int .i64 c.period, .int .i64 c.wait, .int .i64 c.suspect, .int .i64 c.proxies, .int .i64 c.sends] 82)).drew.heap[W.heap.size]? = some (.cells #[.int .i64 c.self, .int .i64 c.period, .int .i64 c.wait, .int .i64 c.suspect, .int .i64 c.proxies, .int .i64 c.sends] 82 (0, 0)) := heap_alloc_new W _
  have HBX := hide hbx
  have HB0 : Hid (Below W.heap.size W (W.alloc (.cells #[.int .i64 c.self, .int .i64 c.period, .int .i64 c.wait, .int .i64 c.suspect, .int .i64 c.proxies, .int .i64 c.sends] 82)).drew) := hide ((Below.refl _ _).alloc (Nat.le_refl _) _).drew
  have HC := hide hc
  clear hv hv0 hbx hc
  go_enter Tryz.func32, Tryz.ntmps32
  go_wp2
  go_region_held3 (fun w' => w'.cell? ⟨W.heap.size, 0, none⟩ = some (.int .i64 c.self) ∧ w'.cell? ⟨W.heap.size, 1, none⟩ = some (.int .i64 c.period) ∧ w'.cell? ⟨W.heap.size, 2, none⟩ = some (.int .i64 c.wait) ∧ w'.cell? ⟨W.heap.size, 3, none⟩ = some (.int .i64 c.suspect) ∧ w'.cell? ⟨W.heap.size, 4, none⟩ = some (.int .i64 c.proxies) ∧ w'.cell? ⟨W.heap.size, 5, none⟩ = some (.int .i64 c.sends)) (go_keep)
    (first
      | (go_at_call 54; refine (unhide HD).mono ?_; rintro e w2 ⟨d, rfl, hda, hdk, hb2⟩; have HDA := hide hda; have HDK := hide hdk; clear hda hdk; have HX2 := hide ((hb2.block W.heap.size (lt_blk (unhide HBX))).trans (unhide HBX)); have q0 := cell_at (unhide HX2) 0; have q1 := cell_at (unhide HX2) 1; have q2 := cell_at (unhide HX2) 2; have q3 := cell_at (unhide HX2) 3; have q4 := cell_at (unhide HX2) 4; have q5 := cell_at (unhide HX2) 5; simp only [List.getElem?_toArray, List.getElem?_cons_zero, List.getElem?_cons_succ] at q0 q1 q2 q3 q4 q5; have HB2 := hide ((unhide HB0).trans (hb2.mono (unhide HB0).size)); clear hb2)
      | (go_at_call 53; refine (new_no c (unhide HC) hp2 d.fn _).mono ?_; rintro e w3 ⟨rfl, hb3⟩; have HX3 := hide ((hb3.block W.heap.size (lt_blk (unhide HX2))).trans (unhide HX2)); have s0 := cell_at (unhide HX3) 0; have s1 := cell_at (unhide HX3) 1; have s2 := cell_at (unhide HX3) 2; have s3 := cell_at (unhide HX3) 3; have s4 := cell_at (unhide HX3) 4; have s5 := cell_at (unhide HX3) 5; simp only [List.getElem?_toArray, List.getElem?_cons_zero, List.getElem?_cons_succ] at s0 s1 s2 s3 s4 s5; have HB3 := hide ((unhide HB2).trans (hb3.mono (unhide HB2).size)); have hs2 := (unhide HB2).size; clear hb3))
  all_goals
    go_wp2
    go_ret2
    exact ⟨rfl, unhide HB3⟩
set_option maxHeartbeats 1000000 in
set_option maxRecDepth 100000 in
theorem lconfig_any (c : Cfg) (W : World) : Calls Tryz.prog 33 #[cfgV c] W fun e w' => e = .returned (cfgV c) ∧ Below W.heap.size W w' := by
  simp only [cfgV]
  go_enter Tryz.func33, Tryz.ntmps33
  go_wp2
  refine bodyPost_ret (v := cfgV c) (by simp [results, Tryz.results33, go_sem, cfgV]) rfl ⟨rfl, ?_⟩
  exact ((Below.refl _ _).alloc (Nat.le_refl _) _).alloc (by simp) _
end Go.Proofs.YtnneljcbelgoeaaGreatDoor.wire
