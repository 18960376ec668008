import Derived.Test.YtnneljcbelgoeaaGreatDoorKeys
namespace Go.Proofs.YtnneljcbelgoeaaGreatDoor.wire
open Go.RowKit

/-- The keys l lie from address a on, three cells each. -/
def keysFrom (w : World) (b off : Nat) (l : List K3) : Prop := ∀ (i : Nat) (h : i < l.length),
  w.cell? ⟨b, off + i * 3, none⟩ = some (.int .i64 l[i].id) ∧ w.cell? ⟨b, off + i * 3 + 1, none⟩ = some (.int .i64 l[i].inc) ∧ w.cell? ⟨b, off + i * 3 + 2, none⟩ = some (.int .i64 l[i].st)
theorem allB_snoc (l : List K3) (k : Nat) (h : k < l.length) : allB (l.take (k + 1)) = (allB (l.take k) && isKeyB l[k]) := by
  unfold allB; rw [List.take_succ_eq_append_getElem h, List.all_append]; simp
theorem allB_take_false (l : List K3) (k : Nat) (h : k < l.length) (hf : isKeyB l[k] = false) : allB l = false := by
  unfold allB; rw [List.all_eq_false]; exact ⟨l[k], List.getElem_mem h, by simp [hf]⟩
set_option maxHeartbeats 1000000 in
theorem allKeys_at (l : List K3) (b off cap : Nat) (w : World) (hb : b < w.heap.size) (hl : l.length ≤ 1000000) (hc : keysFrom w b off l) :
    Calls Tryz.prog 114 #[.slice (some ⟨b, off, none⟩) l.length cap] w fun e w' => e = .returned (.bool (allB l)) ∧ Below w.heap.size w w' := by
  go_enter Tryz.func114, Tryz.ntmps114
  go_wp2
  go_loopw [7] (fun i wr => ∃ k : Nat, k ≤ l.length ∧ i = .int .i64 k ∧ allB (l.take k) = true ∧ Below w.heap.size w wr) (fun i _ => l.length - (intOf i).toNat)
  case atStart => exact ⟨0, Nat.zero_le _, rfl, rfl, Below.refl _ _⟩
  case round =>
    obtain ⟨k, hk, rfl, ha, hbel⟩ := hrel
    have HA : Hid (allB (l.take k) = true) := ha
    clear ha
    by_cases hlt : k < l.length
    · obtain ⟨c0, c1, c2⟩ := hc k hlt
      have d0 := (hbel.cell (p := ⟨b, off + k * 3, none⟩) hb).trans c0
      have d1 := (hbel.cell (p := ⟨b, off + k * 3 + 1, none⟩) hb).trans c1
      have d2 := (hbel.cell (p := ⟨b, off + k * 3 + 2, none⟩) hb).trans c2
      clear c0 c1 c2
      have hsz := hbel.size
      cases hq : isKeyB l[k]
      all_goals
        have HQ : Hid (isKeyB l[k] = _) := hq
        go_wp2_with fail
        refine (isKey_any l[k] _).mono ?_
        rw [HQ.out]
        clear hq
        rintro e w1 ⟨rfl, hb1⟩
        have hw1 : Below w.heap.size w w1 := (hbel.alloc hsz _).trans (hb1.mono (by simp; omega))
        clear hb1 d0 d1 d2
        go_wp2
      · go_ret
        exact ⟨ret_bool (allB_take_false l k hlt HQ.out).symm, hw1⟩
      · go_roundw
        case rel => exact ⟨k + 1, by omega, by go_num, by rw [allB_snoc l k hlt, HA.out, HQ.out]; rfl, hw1⟩
        case measure => simp [intOf]; omega
    · go_wp2
      go_ret
      have e : k = l.length := by omega
      have h2 := HA.out
      rw [e, List.take_length] at h2
      exact ⟨ret_bool h2.symm, hbel⟩
set_option maxHeartbeats 1000000 in
theorem allKeys_nil (w : World) : Calls Tryz.prog 114 #[.slice none 0 0] w fun e w' => e = .returned (.bool true) ∧ Below w.heap.size w w' := by
  go_enter Tryz.func114, Tryz.ntmps114
  go_wp2
  refine wp_loop_rounds 1 ?_
  rw [rounds_succ]
  go_wp2
  go_ret
  exact ⟨rfl, Below.refl _ _⟩

/-- A slice value whose elements are the keys l. -/
def KeysAt (w : World) (v : Value) (l : List K3) : Prop :=
  (v = .slice none 0 0 ∧ l = []) ∨ ∃ b off cap, v = .slice (some ⟨b, off, none⟩) l.length cap ∧ b < w.heap.size ∧ keysFrom w b off l
theorem KeysAt.below {w w' : World} {v : Value} {l : List K3} (h : KeysAt w v l) (hb : Below w.heap.size w w') : KeysAt w' v l := by
  rcases h with h | ⟨b, off, cap, hv, hlt, hc⟩
  · exact .inl h
  · refine .inr ⟨b, off, cap, hv, Nat.lt_of_lt_of_le hlt hb.size, fun i h => ?_⟩
    obtain ⟨a0, a1, a2⟩ := hc i h
    exact ⟨(hb.cell (p := ⟨b, _, none⟩) hlt).trans a0, (hb.cell (p := ⟨b, _, none⟩) hlt).trans a1, (hb.cell (p := ⟨b, _, none⟩) hlt).trans a2⟩
theorem allKeys_any {l : List K3} {v : Value} {w : World} (hv : KeysAt w v l) (hl : l.length ≤ 1000000) :
    Calls Tryz.prog 114 #[v] w fun e w' => e = .returned (.bool (allB l)) ∧ Below w.heap.size w w' := by
  rcases hv with ⟨rfl, rfl⟩ | ⟨b, off, cap, rfl, hlt, hc⟩
  · exact allKeys_nil w
  · exact allKeys_at l b off cap w hlt hl hc
end Go.Proofs.YtnneljcbelgoeaaGreatDoor.wire
