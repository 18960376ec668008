import Derived.Test.YtnneljcbelgoeaaGreatNHear2
/- To hear a key; what a node keeps to. -/
namespace Go.Proofs.YtnneljcbelgoeaaGreat.wire
open Go.RowKit Go.Maps

set_option maxHeartbeats 1000000 in
theorem hear_any {x : Nd} (hx : NdOk x) (hB : NdB Big x) {nb mb : Nat} {cb : Dk} {pv rv : Value} {W : World} (hn : NAt W nb mb cb pv rv x) (k : K3) (hk : isKeyB k = true) :
    Calls Tryz.prog 23 #[.pointer (some ⟨nb, 0, none⟩), .agg #[.int .i64 k.id, .int .i64 k.inc, .int .i64 k.st]] W fun e w' => e = .returned (.tuple #[]) ∧ NTo W w' nb mb cb pv rv (x.hear k) := by
  have c0 := hn.c_self
  have hlt := hn.lt
  have hn1 := fun q => (hn.alloc (.cells #[.int .i64 k.id, .int .i64 k.inc, .int .i64 k.st] 31)).drewN q
  have hb1 : ∀ q, Below W.heap.size W ((W.alloc (.cells #[.int .i64 k.id, .int .i64 k.inc, .int .i64 k.st] 31)).drewN q) := fun q => bdrewN ((Below.refl _ _).alloc (Nat.le_refl _) _) q
  by_cases hs : k.id = x.c.self
  · have HS := fun q => hide (hearSelf_any hx hB (hn1 q) k hk)
    have HB1 := hide hb1
    have hs' : (k.id == x.c.self) = true := by simp [hs]
    have he : x.hear k = x.hearSelf k := by simp [Nd.hear, hs]
    have HE := hide he
    clear hn hn1 hb1 hx hB hk hs he
    go_enter Tryz.func23, Tryz.ntmps23
    go_wp2
    go_quiet (fail)
    go_wp2_with fail
    refine (unhide (HS _)).mono ?_
    rintro e w2 ⟨rfl, hn2, hf2⟩
    have HN2 := hide hn2
    have HF2 := hide ((Frm.of_below (S := [nb, mb, cb]) (unhide HB1 _) (Nat.le_refl _)).trans hf2 (fun j hj => .inl hj))
    clear hn2 hf2 HS
    go_wp2
    go_end0
    rw [unhide HE]
    exact ⟨rfl, NTo.of (unhide HN2) (unhide HF2)⟩
  · have HS := fun q => hide (hearOther_any hx hB (hn1 q) k hk)
    have HB1 := hide hb1
    have hs' : (k.id == x.c.self) = false := by simp [hs]
    have he : x.hear k = x.hearOther k := by simp [Nd.hear, hs]
    have HE := hide he
    clear hn hn1 hb1 hx hB hk hs he
    go_enter Tryz.func23, Tryz.ntmps23
    go_wp2
    go_quiet (fail)
    go_wp2_with fail
    refine (unhide (HS _)).mono ?_
    rintro e w2 ⟨rfl, hn2⟩
    have HN2 := hide (NTo.trans (Frm.of_below (S := feet nb mb cb pv rv) (unhide HB1 _) (Nat.le_refl _)) (fun j hj => .inl hj) hn2)
    clear hn2 HS
    go_wp2
    go_end0
    rw [unhide HE]
    exact ⟨rfl, unhide HN2⟩
/-! ### what stays -/
theorem change_ok {x : Nd} (hx : NdOk x) (k : K3) (hk : isKeyB k = true) (hroom : (findM k.id x.tab).isSome = true ∨ x.tab.length < 8) : NdOk (x.change k) := by
  obtain ⟨_, _, _, hs⟩ := hx.cfgs
  refine ⟨hx.cfg, putM_rise _ _ hx.rise, ?_, ?_, ?_, ?_, ?_, hx.rels, hx.pass⟩
  · show (putM _ x.tab).length ≤ 8
    rw [putM_len _ _ hx.rise]
    have := hx.len
    split
    · exact this
    · rename_i h
      rcases hroom with h' | h'
      · exact absurd h' h
      · omega
  · intro m hm
    rcases putM_mem hm with rfl | hm
    · exact hk
    · exact hx.keys m hm
  · intro m hm
    rcases putM_mem hm with rfl | hm
    · exact ⟨by show 0 ≤ x.c.sends; omega, hs.2⟩
    · exact hx.sends m hm
  · obtain ⟨m, hm⟩ := hx.self
    show ∃ m, findM x.c.self (putM _ x.tab) = some m
    rw [findM_putM _ _ _ hx.rise]
    split
    · exact ⟨_, rfl⟩
    · exact ⟨m, hm⟩
  · show (if x.evs.length < 8 then x.evs ++ [k] else x.evs).length ≤ 8
    have := hx.evs
    split
    · simp; omega
    · exact this
theorem change_b {B : Int} {x : Nd} (hB : NdB B x) (k : K3) : NdB (B + 1) (x.change k) := by
  obtain ⟨h1, h2, h3, h4, h5⟩ := hB
  refine ⟨⟨h1.1, by show x.clock ≤ _; omega⟩, ⟨h2.1, by show x.num ≤ _; omega⟩, ⟨h3.1, by show x.dropped ≤ _; omega⟩, ?_, ⟨⟨h5.1.1, by show x.pst ≤ _; omega⟩, by show (x.dat : Int) ≤ _; omega⟩⟩
  show 0 ≤ (if x.evs.length < 8 then x.lost else x.lost + 1) ∧ (if x.evs.length < 8 then x.lost else x.lost + 1) ≤ B + 1
  split <;> omega
theorem NdB.mono {B C : Int} {x : Nd} (h : NdB B x) (hc : B ≤ C) : NdB C x := ⟨⟨h.clock.1, by have := h.clock.2; omega⟩, ⟨h.num.1, by have := h.num.2; omega⟩, ⟨h.dropped.1, by have := h.dropped.2; omega⟩, ⟨h.lost.1, by have := h.lost.2; omega⟩, ⟨⟨h.tk.1.1, by have := h.tk.1.2; omega⟩, by have := h.tk.2; omega⟩⟩
theorem heard_ok {x : Nd} (hx : NdOk x) (k : K3) (hk : isKeyB k = true) (hroom : (findM k.id x.tab).isSome = true ∨ x.tab.length < 8) : NdOk (x.heard k) := by
  have h := change_ok hx k hk hroom
  unfold Nd.heard
  split
  · exact h
  · exact ⟨h.cfg, h.rise, h.len, h.keys, h.sends, h.self, h.evs, h.rels, hx.pass.filter _⟩
theorem heard_b {B : Int} {x : Nd} (hB : NdB B x) (k : K3) : NdB (B + 1) (x.heard k) := by
  have h := change_b hB k
  unfold Nd.heard
  split
  · exact h
  · exact ⟨h.clock, h.num, h.dropped, h.lost, h.tk⟩
theorem hear_ok {x : Nd} (hx : NdOk x) (k : K3) (hk : isKeyB k = true) : NdOk (x.hear k) := by
  obtain ⟨hok, hid⟩ := hx.own_key
  unfold Nd.hear
  split
  · unfold Nd.hearSelf
    split
    · exact hx
    · rename_i h
      simp only [Bool.or_eq_true, decide_eq_true_eq, not_or] at h
      obtain ⟨_, ⟨k3, k4⟩, _⟩ := key_bounds hk
      obtain ⟨⟨o1, o2⟩, _, ⟨o5, o6⟩⟩ := key_bounds hok
      refine change_ok hx _ ?_ (.inl ?_)
      · simp only [isKeyB, Bool.and_eq_true]
        exact ⟨isId_mk o1 o2, isInc_mk (by show 1 ≤ k.inc + 1; omega) (by show k.inc + 1 ≤ _; omega), isSt_mk o5 o6⟩
      · obtain ⟨m, hm⟩ := hx.self
        show (findM x.own.id x.tab).isSome = true
        rw [hid, hm]; rfl
  · unfold Nd.hearOther
    split
    · rename_i o ho
      split
      · exact heard_ok hx k hk (.inl (by rw [ho]; rfl))
      · exact hx
    · split
      · exact hx
      · exact heard_ok hx k hk (.inr (by omega))
theorem hear_b {B : Int} {x : Nd} (hB : NdB B x) (k : K3) : NdB (B + 1) (x.hear k) := by
  have hs := hB.mono (C := B + 1) (by omega)
  unfold Nd.hear Nd.hearSelf Nd.hearOther
  split
  · split
    · exact hs
    · exact change_b hB _
  · split
    · split
      · exact heard_b hB _
      · exact hs
    · split
      · exact hs
      · exact heard_b hB _
theorem hears_ok : ∀ (l : List K3) {x : Nd}, NdOk x → allB l = true → NdOk (x.hears l)
  | [], _, hx, _ => hx
  | k :: r, x, hx, hl => by
    simp only [allB, List.all_cons, Bool.and_eq_true] at hl
    exact hears_ok r (hear_ok hx k hl.1) hl.2
theorem hears_b : ∀ (l : List K3) {B : Int} {x : Nd}, NdB B x → NdB (B + l.length) (x.hears l)
  | [], B, _, hx => hx.mono (by simp)
  | k :: r, B, x, hx => (hears_b r (hear_b hx k)).mono (by simp; omega)
theorem change_c (x : Nd) (k : K3) : (x.change k).c = x.c := rfl
theorem heard_c (x : Nd) (k : K3) : (x.heard k).c = x.c := by unfold Nd.heard; split <;> rfl
theorem hear_c (x : Nd) (k : K3) : (x.hear k).c = x.c := by
  unfold Nd.hear Nd.hearSelf Nd.hearOther
  split
  · split <;> rfl
  · split
    · split
      · exact heard_c x k
      · rfl
    · split
      · rfl
      · exact heard_c x k
theorem hears_c : ∀ (l : List K3) (x : Nd), (x.hears l).c = x.c
  | [], _ => rfl
  | k :: r, x => (hears_c r (x.hear k)).trans (hear_c x k)
end Go.Proofs.YtnneljcbelgoeaaGreat.wire
