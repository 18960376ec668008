import Derived.Test.YtnneljcbelgoeaaGreatDoorG28
/- The document's node: New (P4). -/
namespace Go.Proofs.YtnneljcbelgoeaaGreatDoor.wire
open Go.RowKit Go.Maps

abbrev cfgV (c : Cfg) : Value := .agg #[.int .i64 c.self, .int .i64 c.period, .int .i64 c.wait, .int .i64 c.suspect, .int .i64 c.proxies, .int .i64 c.sends]
/-- A new node's rows: none but the draws. -/
def rv0 (vd : Value) : Rv := ⟨vd, .slice none 0 0, .slice none 0 0, .slice none 0 0, .slice none 0 0, .slice none 0 0, .slice none 0 0⟩
set_option maxHeartbeats 2000000 in
set_option maxRecDepth 100000 in
theorem rnew_no (c : Cfg) (vd : Value) (W : World) (hc : cfgB c = false) :
    Calls Tryz.prog 34 #[cfgV c, vd] W fun e w' => e = .returned (.tuple #[.pointer none, .int .i64 1]) ∧ Below W.heap.size W w' := by
  have HI := hide (fun w => rid_any c.self w)
  have hb := (Below.refl W.heap.size W).alloc (Nat.le_refl _) (.cells #[.int .i64 c.self, .int .i64 c.period, .int .i64 c.wait, .int .i64 c.suspect, .int .i64 c.proxies, .int .i64 c.sends] 35)
  have HB := hide hb
  clear hb
  simp only [cfgV]
  by_cases a0 : isIdB c.self = true
  case neg =>
    have a0' : isIdB c.self = false := by simpa using a0
    rw [a0'] at HI
    go_enter Tryz.func34, Tryz.ntmps34
    go_wp2_with (go_at_call 46; refine (unhide HI _).mono ?_; rintro e w2 ⟨rfl, rfl⟩)
    go_ret2
    exact ⟨rfl, unhide HB⟩
  rw [a0] at HI
  by_cases a1 : 4 ≤ c.period
  case neg =>
    have b1 : c.period < 4 := by omega
    clear a1 hc
    go_enter Tryz.func34, Tryz.ntmps34
    go_wp2_with (go_at_call 46; refine (unhide HI _).mono ?_; rintro e w2 ⟨rfl, rfl⟩)
    go_ret2
    exact ⟨rfl, unhide HB⟩
  by_cases a2 : c.period ≤ 50
  case neg =>
    have b2 : 50 < c.period := by omega
    clear a2 hc
    go_enter Tryz.func34, Tryz.ntmps34
    go_wp2_with (go_at_call 46; refine (unhide HI _).mono ?_; rintro e w2 ⟨rfl, rfl⟩)
    go_ret2
    exact ⟨rfl, unhide HB⟩
  by_cases a3 : 1 ≤ c.wait
  case neg =>
    have b3 : c.wait < 1 := by omega
    clear a3 hc
    go_enter Tryz.func34, Tryz.ntmps34
    go_wp2_with (go_at_call 46; refine (unhide HI _).mono ?_; rintro e w2 ⟨rfl, rfl⟩)
    go_ret2
    exact ⟨rfl, unhide HB⟩
  by_cases a4 : c.wait ≤ c.period - 2
  case neg =>
    have b4 : c.period - 2 < c.wait := by omega
    clear a4 hc
    go_enter Tryz.func34, Tryz.ntmps34
    go_wp2_with (go_at_call 46; refine (unhide HI _).mono ?_; rintro e w2 ⟨rfl, rfl⟩)
    go_ret2
    exact ⟨rfl, unhide HB⟩
  by_cases a5 : 1 ≤ c.suspect
  case neg =>
    have b5 : c.suspect < 1 := by omega
    clear a5 hc
    go_enter Tryz.func34, Tryz.ntmps34
    go_wp2_with (go_at_call 46; refine (unhide HI _).mono ?_; rintro e w2 ⟨rfl, rfl⟩)
    go_ret2
    exact ⟨rfl, unhide HB⟩
  by_cases a6 : c.suspect ≤ 500
  case neg =>
    have b6 : 500 < c.suspect := by omega
    clear a6 hc
    go_enter Tryz.func34, Tryz.ntmps34
    go_wp2_with (go_at_call 46; refine (unhide HI _).mono ?_; rintro e w2 ⟨rfl, rfl⟩)
    go_ret2
    exact ⟨rfl, unhide HB⟩
  by_cases a7 : 0 ≤ c.proxies
  case neg =>
    have b7 : c.proxies < 0 := by omega
    clear a7 hc
    go_enter Tryz.func34, Tryz.ntmps34
    go_wp2_with (go_at_call 46; refine (unhide HI _).mono ?_; rintro e w2 ⟨rfl, rfl⟩)
    go_ret2
    exact ⟨rfl, unhide HB⟩
  by_cases a8 : c.proxies ≤ 3
  case neg =>
    have b8 : 3 < c.proxies := by omega
    clear a8 hc
    go_enter Tryz.func34, Tryz.ntmps34
    go_wp2_with (go_at_call 46; refine (unhide HI _).mono ?_; rintro e w2 ⟨rfl, rfl⟩)
    go_ret2
    exact ⟨rfl, unhide HB⟩
  by_cases a9 : 1 ≤ c.sends
  case neg =>
    have b9 : c.sends < 1 := by omega
    clear a9 hc
    go_enter Tryz.func34, Tryz.ntmps34
    go_wp2_with (go_at_call 46; refine (unhide HI _).mono ?_; rintro e w2 ⟨rfl, rfl⟩)
    go_ret2
    exact ⟨rfl, unhide HB⟩
  by_cases a10 : c.sends ≤ 8
  case neg =>
    have b10 : 8 < c.sends := by omega
    clear a10 hc
    go_enter Tryz.func34, Tryz.ntmps34
    go_wp2_with (go_at_call 46; refine (unhide HI _).mono ?_; rintro e w2 ⟨rfl, rfl⟩)
    go_ret2
    exact ⟨rfl, unhide HB⟩
  exfalso
  have : cfgB c = true := by
    simp only [cfgB, Bool.and_eq_true, decide_eq_true_eq]
    exact ⟨a0, ⟨a1, a2⟩, ⟨a3, a4⟩, ⟨a5, a6⟩, ⟨a7, a8⟩, a9, a10⟩
  rw [this] at hc
  cases hc
set_option maxHeartbeats 2000000 in
set_option maxRecDepth 100000 in
theorem rnew_yes (c : Cfg) (dl : List Int) (ao : Option Addr) (n cap : Nat) (W : World) (hc : cfgB c = true) :
    Calls Tryz.prog 34 #[cfgV c, .slice ao n cap] W fun e w' => ∃ b, e = .returned (.tuple #[.pointer (some ⟨b, 0, none⟩), .int .i64 0]) ∧ W.heap.size ≤ b ∧ Below W.heap.size W w' ∧ w'.heap[b]? = some (.cells (refC (Rn.new c dl) (rv0 (.slice ao n cap))) 93 (0, 0)) := by
  have HI := hide (fun w => rid_any c.self w)
  simp only [cfgB, Bool.and_eq_true, decide_eq_true_eq] at hc
  obtain ⟨a0, ⟨a1, a2⟩, ⟨a3, a4⟩, ⟨a5, a6⟩, ⟨a7, a8⟩, a9, a10⟩ := hc
  rw [a0] at HI
  have hb := fun o o2 => (((Below.refl W.heap.size W).alloc (Nat.le_refl _) o).alloc (by simp) o2)
  have HB := hide hb
  clear hb
  simp only [cfgV]
  go_enter Tryz.func34, Tryz.ntmps34
  go_wp2_with (go_at_call 46; refine (unhide HI _).mono ?_; rintro e w2 ⟨rfl, rfl⟩)
  go_ret2
  exact ⟨W.heap.size + 1, rfl, by omega, unhide HB _ _, heap_new2 W _ _⟩
end Go.Proofs.YtnneljcbelgoeaaGreatDoor.wire
