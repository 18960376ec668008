import Derived.Test.YtnneljcbelgoeaaGreatNTake
import Derived.Deep.RegionHeld3
import Derived.Laws.EntriesVeiled
/- Receive (P7). -/
namespace Go.Proofs.YtnneljcbelgoeaaGreat.wire
open Go.RowKit Go.Maps

def Bg : Int := 999999999000
structure Deeds (x : Nd) (m : M6) : Prop where
  d1 : m.kind = 1 → DeedOk 46 x m
  d2 : m.kind = 2 → DeedOk 47 x m
  d3 : m.kind = 3 → DeedOk 48 x m
  d4 : m.kind = 4 → DeedOk 49 x m
  d5 : m.kind = 5 → DeedOk 50 x m
theorem NAt.not_feet {W : World} {nb mb : Nat} {cb : Dk} {pv rv : Value} {x : Nd} (h : NAt W nb mb cb pv rv x) {b : Nat} {cs : Array Value} {t : TypeId} (hb : W.heap[b]? = some (.cells cs t (0, 0))) (h1 : t ≠ 70) (h2 : t ≠ 3) (h3 : t ≠ 107) (h4 : t ≠ 22 := by decide) : b ∉ feet nb mb cb pv rv := by
  intro hk
  simp only [feet, List.mem_cons, List.mem_append, Option.mem_toList] at hk
  rcases hk with rfl | rfl | rfl | hk | hk | hk
  · rw [h.blk] at hb; cases hb; exact h1 rfl
  · obtain ⟨es, c, hm⟩ := map_blk h.map; rw [hm] at hb; cases hb
  · obtain ⟨s, r, hm⟩ := h.chan; rw [hm] at hb; cases hb
  · obtain ⟨cs', hb'⟩ := h.pass.blk hk; rw [hb'] at hb; cases hb; exact h2 rfl
  · obtain ⟨cs', hb'⟩ := own_blk h.rel hk; rw [hb'] at hb; cases hb; exact h3 rfl
  · exact h.draw.not hb (fun cs e => by cases e; exact h4 rfl) (fun cs e => by cases e; exact h2 rfl) hk
theorem Frm.drewN {S : List Nat} {a b : World} (h : Frm S a b) (n : Nat) : Frm S a (b.drewN n) := ⟨h.os, h.tape, h.output, h.size, h.block⟩
theorem deeds_any (nb : Nat) (W : World) : Calls Tryz.prog 24 #[.pointer (some ⟨nb, 0, none⟩)] W fun e w' => e = .returned (.agg #[.nilFunc, .func (.func 46) #[.pointer (some ⟨nb, 0, none⟩)] #[], .func (.func 47) #[.pointer (some ⟨nb, 0, none⟩)] #[], .func (.func 48) #[.pointer (some ⟨nb, 0, none⟩)] #[], .func (.func 49) #[.pointer (some ⟨nb, 0, none⟩)] #[], .func (.func 50) #[.pointer (some ⟨nb, 0, none⟩)] #[]]) ∧ Below W.heap.size W w' := by
  go_enter Tryz.func24, Tryz.ntmps24
  go_wp2
  refine bodyPost_ret (v := .agg #[.nilFunc, .func (.func 46) #[.pointer (some ⟨nb, 0, none⟩)] #[], .func (.func 47) #[.pointer (some ⟨nb, 0, none⟩)] #[], .func (.func 48) #[.pointer (some ⟨nb, 0, none⟩)] #[], .func (.func 49) #[.pointer (some ⟨nb, 0, none⟩)] #[], .func (.func 50) #[.pointer (some ⟨nb, 0, none⟩)] #[]]) (by simp [results, Tryz.results24, go_sem]) rfl ⟨rfl, ?_⟩
  exact (Below.refl _ _).alloc (Nat.le_refl _) _
set_option maxHeartbeats 1000000 in
set_option maxRecDepth 100000 in
theorem receive_no {x : Nd} (hB : NdB Big x) {nb mb : Nat} {cb : Dk} {pv rv : Value} {W : World} (hn : NAt W nb mb cb pv rv x) (l : List UInt8) (hl : l.length ≤ maxLen) (ht : takesB x.c.self l = false) :
    Calls Tryz.prog 11 #[.pointer (some ⟨nb, 0, none⟩), .string (bs l)] W fun e w' => ∃ o, e = .returned o ∧ Outs W w' o (x.receive l).1 ∧ NTo W w' nb mb cb pv rv (x.receive l).2 := by
  obtain ⟨n0, n1⟩ := hB.dropped
  unfold Big at n1
  have he : x.receive l = ([], { x with dropped := x.dropped + 1 }) := by simp [Nd.receive, ht]
  rw [he]
  clear he hB
  have HN := hide hn
  have hlt := hn.lt
  cases hd : decB l
  · have HD := hide (decode_no l W hl hd)
    clear hn hd ht
    go_enter Tryz.func11, Tryz.ntmps11
    go_wp2_with fail
    refine (unhide HD).mono ?_
    rintro e w1 ⟨rfl, hb1⟩
    simp only [mval, M6.zero]
    have hn1 := fun o => ((unhide HN).below hb1).alloc o
    have hb01 := fun o => hb1.alloc hb1.size o
    have HB1 := hide hb01
    have c0 := fun o => (hn1 o).c_self
    have c15 := fun o => (hn1 o).c_dropped
    have f15 := fun o => free_at (hn1 o).blk 17
    have HS := hide (fun o => (hn1 o).set 17 (.int .i64 (x.dropped + 1)) (x' := { x with dropped := x.dropped + 1 }) rfl rfl rfl rfl rfl)
    clear hb1 hn1 hb01 HD
    go_wp2_with fail
    go_quiet (fail)
    go_wp2
    go_ret
    obtain ⟨g1, g2⟩ := (unhide HS) _
    exact ⟨_, rfl, outs_nil _ _, NTo.of (g1.drewN _) (((Frm.of_below ((unhide HB1) _) (Nat.le_refl _)).trans g2 (by simp)).drewN _)⟩
  · have hfr : (readM l).frm = x.c.self := by simpa [takesB, hd] using ht
    have HD := hide (decode_yes l W hl hd)
    have HFR := hide hfr
    clear hn hd ht hfr
    go_enter Tryz.func11, Tryz.ntmps11
    go_wp2_with fail
    refine (unhide HD).mono ?_
    rintro e w1 ⟨v, rfl, ho1, hb1⟩
    obtain ⟨ao, cap, rfl⟩ := own_form ho1
    have hfr := unhide HFR
    simp only [mval]
    generalize readM l = M at ho1 hfr ⊢
    have hfr' : (M.frm == x.c.self) = true := by simp [hfr]
    have hn1 := fun o => ((unhide HN).below hb1).alloc o
    have hb01 := fun o => hb1.alloc hb1.size o
    have HB1 := hide hb01
    have c0 := fun o => (hn1 o).c_self
    have c15 := fun o => (hn1 o).c_dropped
    have f15 := fun o => free_at (hn1 o).blk 17
    have HS := hide (fun o => (hn1 o).set 17 (.int .i64 (x.dropped + 1)) (x' := { x with dropped := x.dropped + 1 }) rfl rfl rfl rfl rfl)
    clear hb1 hn1 hb01 HD ho1 hfr HFR
    go_wp2_with fail
    go_quiet (fail)
    go_wp2
    go_ret
    obtain ⟨g1, g2⟩ := (unhide HS) _
    exact ⟨_, rfl, outs_nil _ _, NTo.of (g1.drewN _) (((Frm.of_below ((unhide HB1) _) (Nat.le_refl _)).trans g2 (by simp)).drewN _)⟩
end Go.Proofs.YtnneljcbelgoeaaGreat.wire
