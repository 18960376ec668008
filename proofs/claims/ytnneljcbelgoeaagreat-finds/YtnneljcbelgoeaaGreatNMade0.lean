import Derived.Test.YtnneljcbelgoeaaGreatNNew
import Derived.Test.YtnneljcbelgoeaaGreatPick
import Derived.Deep.RegionHeld3
/- plain.New; gossipkeep's few and config. -/
namespace Go.Proofs.YtnneljcbelgoeaaGreat.wire
open Go.RowKit Go.Maps

set_option maxHeartbeats 1000000 in
set_option maxRecDepth 100000 in
theorem pnew_any (c : Cfg) (hc : cfgB c = true) (l : List Int) (hl : l.length ≤ 1000000) {v : Value} {W : World} (hv : DrawsAt W v l) :
    Calls Tryz.prog 19 #[.agg #[.int .i64 c.self, .int .i64 c.period, .int .i64 c.wait, .int .i64 c.suspect, .int .i64 c.proxies, .int .i64 c.sends], v] W fun e w' => ∃ (nb mb : Nat) (cb : Dk), e = .returned (.tuple #[.pointer (some ⟨nb, 0, none⟩), .nilIface]) ∧ W.heap.size ≤ nb ∧ W.heap.size ≤ mb ∧ (W.heap.size ≤ cb.c ∧ ∀ k ∈ cb.all, W.heap.size ≤ k) ∧ NAt w' nb mb cb (.slice none 0 0) (.slice none 0 0) (Nd.new c l) ∧ Below W.heap.size W w' := by
  have hv0 : W.ownsRow 0 3 1 v l.length (l.flatMap intC) := hv
  obtain ⟨ao, cap, rfl⟩ := own_form hv0
  have HD := hide (draws_any l hl (W := (W.alloc (.cells #[.int .i64 c.self, .int .i64 c.period, .int .i64 c.wait, .int .i64 c.suspect, .int .i64 c.proxies, .int .i64 c.sends] 53)).drew) (v := .slice ao l.length cap) (hv0.alloc _))
  have hbx : (W.alloc (.cells #[.int .i64 c.self, .int .i64 c.period, .int .i64 c.wait, .int .i64 c.suspect, .int .i64 c.proxies, .int .i64 c.sends] 53)).drew.heap[W.heap.size]? = some (.cells #[.int .i64 c.self, .int .i64 c.period, .int .i64 c.wait, .int .i64 c.suspect, .int .i64 c.proxies, .int .i64 c.sends] 53 (0, 0)) := heap_alloc_new W _
  have HBX := hide hbx
  have HB0 : Hid (Below W.heap.size W (W.alloc (.cells #[.int .i64 c.self, .int .i64 c.period, .int .i64 c.wait, .int .i64 c.suspect, .int .i64 c.proxies, .int .i64 c.sends] 53)).drew) := hide ((Below.refl _ _).alloc (Nat.le_refl _) _).drew
  have HC := hide hc
  clear hv hv0 hbx hc
  go_enter Tryz.func19, Tryz.ntmps19
  go_wp2
  go_region_held3 (fun w' => w'.cell? ⟨W.heap.size, 0, none⟩ = some (.int .i64 c.self) ∧ w'.cell? ⟨W.heap.size, 1, none⟩ = some (.int .i64 c.period) ∧ w'.cell? ⟨W.heap.size, 2, none⟩ = some (.int .i64 c.wait) ∧ w'.cell? ⟨W.heap.size, 3, none⟩ = some (.int .i64 c.suspect) ∧ w'.cell? ⟨W.heap.size, 4, none⟩ = some (.int .i64 c.proxies) ∧ w'.cell? ⟨W.heap.size, 5, none⟩ = some (.int .i64 c.sends)) (go_keep)
    (first
      | (go_at_call 35; refine (unhide HD).mono ?_; rintro e w2 ⟨d, rfl, hda, hdk, hb2⟩; have HDA := hide hda; have HDK := hide hdk; clear hda hdk; have HX2 := hide ((hb2.block W.heap.size (lt_blk (unhide HBX))).trans (unhide HBX)); have q0 := cell_at (unhide HX2) 0; have q1 := cell_at (unhide HX2) 1; have q2 := cell_at (unhide HX2) 2; have q3 := cell_at (unhide HX2) 3; have q4 := cell_at (unhide HX2) 4; have q5 := cell_at (unhide HX2) 5; simp only [List.getElem?_toArray, List.getElem?_cons_zero, List.getElem?_cons_succ] at q0 q1 q2 q3 q4 q5; have HB2 := hide ((unhide HB0).trans (hb2.mono (unhide HB0).size)); clear hb2)
      | (go_at_call 34; refine (new_yes c (unhide HC) _ d l (unhide HDA)).mono ?_; rintro e w3 ⟨nb, mb, cb, rfl, l1, l2, l3, l4, hn3, hb3⟩; have HX3 := hide ((hb3.block W.heap.size (lt_blk (unhide HX2))).trans (unhide HX2)); have s0 := cell_at (unhide HX3) 0; have s1 := cell_at (unhide HX3) 1; have s2 := cell_at (unhide HX3) 2; have s3 := cell_at (unhide HX3) 3; have s4 := cell_at (unhide HX3) 4; have s5 := cell_at (unhide HX3) 5; simp only [List.getElem?_toArray, List.getElem?_cons_zero, List.getElem?_cons_succ] at s0 s1 s2 s3 s4 s5; have HN3 := hide hn3; have HB3 := hide ((unhide HB2).trans (hb3.mono (unhide HB2).size)); have hs2 := (unhide HB2).size; clear hn3 hb3))
  all_goals
    go_wp2
    go_ret2
    exact ⟨nb, mb, cb, rfl, by omega, by omega, ⟨by omega, fun k hk => by rw [l4] at hk; have := unhide HDK k hk; have := (unhide HB0).size; omega⟩, unhide HN3, unhide HB3⟩
/-- gossipkeep's configuration. -/
def cfgZ (s c : Int) : Cfg := ⟨s, 4 + (pickI c 1073741824).tmod 8, 1 + pickI c 1073741824 / 8 % (4 + (pickI c 1073741824).tmod 8 - 2), 1 + pickI c 1073741824 / 64 % 40, pickI c 1073741824 / 4096 % 4, 1 + pickI c 1073741824 / 16384 % 8⟩
set_option maxHeartbeats 1000000 in
set_option maxRecDepth 100000 in
theorem config_any (s c : Int) (hs : 1 ≤ s ∧ s ≤ 250) (h0 : -9223372036854775808 ≤ c) (h1 : c ≤ 9223372036854775807) (W : World) :
    Calls Tryz.prog 17 #[.int .i64 s, .int .i64 c] W fun e w' => ∃ g : Cfg, g = cfgZ s c ∧ e = .returned (.agg #[.int .i64 g.self, .int .i64 g.period, .int .i64 g.wait, .int .i64 g.suspect, .int .i64 g.proxies, .int .i64 g.sends]) ∧ g.self = s ∧ cfgB g = true ∧ Below W.heap.size W w' := by
  have hz : cfgZ s c = ⟨s, 4 + (pickI c 1073741824).tmod 8, 1 + pickI c 1073741824 / 8 % (4 + (pickI c 1073741824).tmod 8 - 2), 1 + pickI c 1073741824 / 64 % 40, pickI c 1073741824 / 4096 % 4, 1 + pickI c 1073741824 / 16384 % 8⟩ := rfl
  have hp := pickI_bd c 1073741824 (by omega)
  have HP := fun w => hide (pick_any c 1073741824 w h0 h1 (by omega) (by omega))
  generalize pickI c 1073741824 = v at hp HP hz
  obtain ⟨p0, p1⟩ := hp
  have m8 : 0 ≤ v.tmod 8 ∧ v.tmod 8 < 8 := by rw [Int.tmod_eq_emod_of_nonneg p0]; omega
  generalize hM : v.tmod 8 = M at m8 hz
  obtain ⟨a0, a1⟩ := m8
  have r1a : 0 ≤ v / 8 % (4 + M - 2) := Int.emod_nonneg _ (by omega)
  have r1b : v / 8 % (4 + M - 2) < 4 + M - 2 := Int.emod_lt_of_pos _ (by omega)
  have r2a : 0 ≤ v / 64 % 40 := by omega
  have r2b : v / 64 % 40 < 40 := by omega
  have r3a : 0 ≤ v / 4096 % 4 := by omega
  have r3b : v / 4096 % 4 < 4 := by omega
  have r4a : 0 ≤ v / 16384 % 8 := by omega
  have r4b : v / 16384 % 8 < 8 := by omega
  have nz : (4 + M - 2 == 0) = false := by simp; omega
  have HM := hide hM
  have HZ := hide hz
  clear hz
  go_enter Tryz.func17, Tryz.ntmps17
  go_wp2_with (go_at_call 9; refine (unhide (HP _)).mono ?_; rintro e w' ⟨rfl, rfl⟩)
  refine bodyPost_ret (v := .agg #[.int .i64 s, .int .i64 (4 + M), .int .i64 (1 + v / 8 % (4 + M - 2)), .int .i64 (1 + v / 64 % 40), .int .i64 (v / 4096 % 4), .int .i64 (1 + v / 16384 % 8)]) (by simp [results, Tryz.results17, go_sem]) rfl ⟨⟨s, 4 + M, 1 + v / 8 % (4 + M - 2), 1 + v / 64 % 40, v / 4096 % 4, 1 + v / 16384 % 8⟩, (unhide HZ).symm, rfl, rfl, ?_, (Below.refl _ _).alloc (Nat.le_refl _) _⟩
  generalize v / 8 % (4 + M - 2) = R1 at r1a r1b
  generalize v / 64 % 40 = R2 at r2a r2b
  generalize v / 4096 % 4 = R3 at r3a r3b
  generalize v / 16384 % 8 = R4 at r4a r4b
  simp only [cfgB, isIdB, Bool.and_eq_true, decide_eq_true_eq]
  omega
/-- Numbers that came in. -/
def RawI (W : World) (ao : Option Addr) (l : List Int) : Prop := 0 < l.length → ∃ b off, ao = some ⟨b, off, none⟩ ∧ b < W.heap.size ∧ ∀ (i : Nat) (h : i < l.length), W.cell? ⟨b, off + i, none⟩ = some (.int .i64 l[i])
set_option maxHeartbeats 1000000 in
set_option maxRecDepth 100000 in
/-- The first numbers of a list. -/
theorem few_any (l : List Int) (hl : l.length ≤ maxLen) {ao : Option Addr} {cap : Nat} {W : World} (hv : RawI W ao l) :
    Calls Tryz.prog 18 #[.slice ao l.length cap] W fun e w' => ∃ v', e = .returned v' ∧ w'.ownsRow W.heap.size 3 1 v' (l.take 50).length ((l.take 50).flatMap intC) ∧ Below W.heap.size W w' := by
  obtain ⟨ti, hti, hz0, hz1, hz2⟩ := info_parts Tryz.infoIntL0
  have HV := hide hv
  have hlb : (l.length : Int) ≤ 9223372036854775807 := by unfold maxLen at hl; omega
  clear hv
  go_enter Tryz.func18, Tryz.ntmps18
  go_wp2
  go_loopw [3, 4] (fun o i wr => ∃ k : Nat, k ≤ l.length ∧ k ≤ 50 ∧ i = .int .i64 k ∧ Hid (wr.ownsRow W.heap.size 3 1 o k ((l.take k).flatMap intC)) ∧ Below W.heap.size W wr) (fun _ i _ => 50 - (Go.RowKit.intOf i).toNat)
  case atStart => exact ⟨0, Nat.zero_le _, Nat.zero_le _, rfl, ⟨rfl, .inl ⟨rfl, rfl⟩⟩, Below.refl _ _⟩
  case round =>
    rename_i o i
    obtain ⟨k, hk, hk50, rfl, HO, hbel⟩ := hrel
    by_cases hlt : k < l.length
    · by_cases h50 : k < 50
      · have hsz := hbel.size
        obtain ⟨g, off, e0, hg, hcl⟩ := (unhide HV) (by omega)
        · subst e0
          have c0 : wr.cell? ⟨g, off + k, none⟩ = some (.int .i64 l[k]) := (hbel.cell (p := ⟨g, off + k, none⟩) hg).trans (hcl k hlt)
          have hft : (l.take (k + 1)).flatMap intC = (l.take k).flatMap intC ++ [.int .i64 l[k]] := by
            rw [List.take_succ_eq_append_getElem hlt, List.flatMap_append]; simp [intC]
          have HFT := hide hft
          clear hft hg hcl
          generalize l[k] = K at c0 HFT
          have hk50' : (k : Int) < 50 := by omega
          have hlt' : (k : Int) < (l.length : Int) := by omega
          have HB := hide hbel
          clear hbel
          go_wp2_with (at_builtin; refine wpList_append_own _ rfl _ _ 22 rfl W.heap.size 3 ti (.int .i64 0) 1 8 Tryz.underlying22 hti hz0 hz1 hz2 rfl (by decide) _ _ _ rfl (HO.out.alloc _) ⟨wr.heap.size, 0, none⟩ 1 1 [.int .i64 K] rfl rfl ?c1 ?c2 ?c3 ?c4 ?c5 ?_)
          case c1 => exact World.news_of_block (heap_alloc_new wr _)
          case c2 => intro u hu; simp at hu; subst hu; rfl
          case c3 => unfold maxLen; omega
          case c4 => omega
          case c5 => simp; omega
          intro v' w2 hown' hgrow _
          have hbel2 : Below W.heap.size W w2 := ((unhide HB).alloc hsz _).grown hgrow (by simp; omega) (fun j hj => (own_lt HO.out hj).1)
          have HO2 := hide hown'
          have HB2 := hide hbel2
          clear hown' hgrow hbel2
          go_wp2
          go_roundw
          case rel =>
            refine ⟨k + 1, by omega, by omega, by go_num, ?_, unhide HB2⟩
            rw [unhide HFT]
            exact HO2
          case measure => simp [Go.RowKit.intOf]; omega
      · have e : k = 50 := by omega
        subst e
        have hlt' : (50 : Int) < (l.length : Int) := by omega
        go_wp2
        go_ret
        refine ⟨_, rfl, ?_, hbel⟩
        rw [List.length_take, Nat.min_eq_left (by omega)]
        exact HO.out
    · have e : k = l.length := by omega
      subst e
      have hlt' : ¬ (l.length : Int) < (l.length : Int) := by omega
      go_wp2
      go_ret
      refine ⟨_, rfl, ?_, hbel⟩
      rw [List.take_of_length_le (by omega)]
      have := HO.out
      rwa [List.take_length] at this
end Go.Proofs.YtnneljcbelgoeaaGreat.wire
