import Derived.Test.YtnneljcbelgoeaaGreatNTick5
import Derived.Test.YtnneljcbelgoeaaGreatNTake
/- A tick: the next one is probed (P9). -/
namespace Go.Proofs.YtnneljcbelgoeaaGreat.wire
open Go.RowKit Go.Maps

theorem IntsAt.of_own {w : World} {base g cap : Nat} {l : List Int} (h : w.ownsRow base 3 1 (.slice (some ⟨g, 0, none⟩) l.length cap) l.length (l.flatMap intC)) : IntsAt w g cap l ∧ base ≤ g ∧ l.length ≤ cap ∧ cap ≤ maxLen := by
  rcases h.2 with ⟨e, _⟩ | ⟨g', cap', cur, e, hb, hg, h1, h2, h3, h4⟩
  · cases e
  · cases e
    refine ⟨⟨cur, hg, by omega, fun i hi => ?_⟩, hb, h1, h2⟩
    have := congrArg (fun q => q[i]?) h4
    simp only [flat_int, List.getElem?_eq_getElem hi, Option.map_some, List.getElem?_take, Nat.mul_one, if_pos hi] at this
    simpa using this
theorem IntsAt.pass {w : World} {g n cap : Nat} {l : List Int} (h : IntsAt w g n l) (h1 : l.length ≤ cap) (h2 : cap ≤ maxLen) : PassAt w (.slice (some ⟨g, 0, none⟩) l.length cap) l := by
  obtain ⟨cur, hg, _, hc⟩ := h.ex
  exact .inr ⟨g, 0, cap, cur, rfl, hg, h1, h2, fun i hi => by simpa using hc i hi⟩
/-- mixed of what present gives. -/
theorem mixed_row {x : Nd} (hdl : DlOk x.dl) (hB : NdB Bg x) {nb mb : Nat} {cb : Dk} {pv rv : Value} {W : World} (hn : NAt W nb mb cb pv rv x) (l : List Int) (hl : l.length ≤ 500) {v : Value} {base : Nat} (ho : W.ownsRow base 3 1 v l.length (l.flatMap intC)) (hbase : ∀ k ∈ feet nb mb cb pv rv, k < base) :
    Calls Tryz.prog 65 #[.pointer (some ⟨nb, 0, none⟩), v] W fun e w' => e = .returned v ∧ NAt w' nb mb cb pv rv (x.mixed l).2 ∧ PassAt w' v (x.mixed l).1 ∧ Frm (cb.ab :: v.ownBlock.toList) W w' := by
  by_cases h0 : 1 ≤ l.length
  · rcases ho.2 with ⟨_, e0⟩ | ⟨g, cap, cur, rfl, hb, hg, h1, h2, h3, h4⟩
    · omega
    obtain ⟨hi, hb', h1', h2'⟩ := IntsAt.of_own ho
    refine (mixed_any hdl hB hn l hl h0 hi (fun hk => by have := hbase g hk; omega) h1).mono ?_
    rintro e w' ⟨rfl, hn', hi', hf'⟩
    refine ⟨rfl, hn', ?_, hf'⟩
    have hlen := (mixed_perm x l).length_eq
    rw [← hlen]
    exact hi'.pass (by omega) h2'
  · obtain rfl : l = [] := List.length_eq_zero_iff.1 (by omega)
    have e1 : x.mixed [] = ([], x) := rfl
    rw [e1]
    obtain ⟨ao, cap, rfl⟩ := own_form ho
    have hp := PassAt.of_own ho
    have HN := hide hn
    have HP := hide hp
    clear hn ho hB hdl hp hbase e1
    go_enter Tryz.func65, Tryz.ntmps65
    go_wp2
    refine wp_loop_rounds 1 ?_
    rw [rounds_succ]
    go_wp2
    go_ret
    exact ⟨rfl, unhide HN, unhide HP, Frm.refl _ _⟩
end Go.Proofs.YtnneljcbelgoeaaGreat.wire
