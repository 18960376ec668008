import Derived.Test.YtnneljcbelgoeaaGreatDoorG10
import Derived.Deep.RegionHeld3
import Derived.Laws.EntriesVeiled
import Derived.Test.YtnneljcbelgoeaaGreatDoorG09
import Derived.Test.YtnneljcbelgoeaaGreatDoorG16
import Derived.Test.YtnneljcbelgoeaaGreatDoorG01
/- Receive (P7). -/
namespace Go.Proofs.YtnneljcbelgoeaaGreatDoor.wire
open Go.RowKit Go.Maps

def Bg : Int := 999999999000
structure Deeds (x : Nd) (m : M6) : Prop where
  d1 : m.kind = 1 → DeedOk 122 x m
  d2 : m.kind = 2 → DeedOk 123 x m
  d3 : m.kind = 3 → DeedOk 124 x m
  d4 : m.kind = 4 → DeedOk 125 x m
  d5 : m.kind = 5 → DeedOk 126 x m
theorem NAt.not_feet {W : World} {nb mb : Nat} {cb : Dk} {pv rv : Value} {x : Nd} (h : NAt W nb mb cb pv rv x) {b : Nat} {cs : Array Value} {t : TypeId} (hb : W.heap[b]? = some (.cells cs t (0, 0))) (h1 : t ≠ 123) (h2 : t ≠ 3) (h3 : t ≠ 161) (h4 : t ≠ 24 := by decide) : b ∉ feet nb mb cb pv rv := by
  intro hk
  simp only [feet, List.mem_cons, List.mem_append, Option.mem_toList] at hk
  rcases hk with rfl | rfl | rfl | hk | hk | hk
  · rw [h.blk] at hb; cases hb; exact h1 rfl
  · obtain ⟨es, c, hm⟩ := map_blk h.map; rw [hm] at hb; cases hb
  · obtain ⟨s, r, hm⟩ := h.chan; rw [hm] at hb; cases hb
  · obtain ⟨cs', hb'⟩ := h.pass.blk hk; rw [hb'] at hb; cases hb; exact h2 rfl
  · obtain ⟨cs', hb'⟩ := own_blk h.rel hk; rw [hb'] at hb; cases hb; exact h3 rfl
  · exact h.draw.not hb (fun cs e => by cases e; exact h4 rfl) (fun cs e => by cases e; exact h2 rfl) hk
theorem Frm.drewN {S : List Nat} {a b : World} (h : Frm S a b) (n : Nat) : Frm S a (b.drewN n) := ⟨h.os, h.tape, h.output, h.size, h.block⟩
theorem deeds_any (nb : Nat) (W : World) : Calls Tryz.prog 85 #[.pointer (some ⟨nb, 0, none⟩)] W fun e w' => e = .returned (.agg #[.nilFunc, .func (.func 122) #[.pointer (some ⟨nb, 0, none⟩)] #[], .func (.func 123) #[.pointer (some ⟨nb, 0, none⟩)] #[], .func (.func 124) #[.pointer (some ⟨nb, 0, none⟩)] #[], .func (.func 125) #[.pointer (some ⟨nb, 0, none⟩)] #[], .func (.func 126) #[.pointer (some ⟨nb, 0, none⟩)] #[]]) ∧ Below W.heap.size W w' := by
  go_enter Tryz.func85, Tryz.ntmps85
  go_wp2
  refine bodyPost_ret (v := .agg #[.nilFunc, .func (.func 122) #[.pointer (some ⟨nb, 0, none⟩)] #[], .func (.func 123) #[.pointer (some ⟨nb, 0, none⟩)] #[], .func (.func 124) #[.pointer (some ⟨nb, 0, none⟩)] #[], .func (.func 125) #[.pointer (some ⟨nb, 0, none⟩)] #[], .func (.func 126) #[.pointer (some ⟨nb, 0, none⟩)] #[]]) (by simp [results, Tryz.results85, go_sem]) rfl ⟨rfl, ?_⟩
  exact (Below.refl _ _).alloc (Nat.le_refl _) _
set_option maxHeartbeats 1000000 in
set_option maxRecDepth 100000 in
theorem receive_no {x : Nd} (hB : NdB Big x) {nb mb : Nat} {cb : Dk} {pv rv : Value} {W : World} (hn : NAt W nb mb cb pv rv x) (l : List UInt8) (hl : l.length ≤ maxLen) (ht : takesB x.c.self l = false) :
    Calls Tryz.prog 55 #[.pointer (some ⟨nb, 0, none⟩), .string (bs l)] W fun e w' => ∃ o, e = .returned o ∧ Outs W w' o (x.receive l).1 ∧ NTo W w' nb mb cb pv rv (x.receive l).2 := by
  obtain ⟨n0, n1⟩ := hB.dropped
  unfold Big at n1
  have he : x.receive l = ([], { x with dropped := x.dropped + 1 }) := by simp [Nd.receive, ht]
  rw [he]
  clear he hB
  have HN := hide hn
  have hlt := hn.lt
  cases hd : decB l
  · have HD := hide (decode_no l W hl hd)
    clear hn hd ht
    go_enter Tryz.func55, Tryz.ntmps55
    go_wp2_with fail
    refine (unhide HD).mono ?_
    rintro e w1 ⟨rfl, hb1⟩
    simp only [mval, M6.zero]
    have hn1 := fun o => ((unhide HN).below hb1).alloc o
    have hb01 := fun o => hb1.alloc hb1.size o
    have HB1 := hide hb01
    have c0 := fun o => (hn1 o).c_self
    have c15 := fun o => (hn1 o).c_dropped
    have f15 := fun o => free_at (hn1 o).blk 17
    have HS := hide (fun o => (hn1 o).set 17 (.int .i64 (x.dropped + 1)) (x' := { x with dropped := x.dropped + 1 }) rfl rfl rfl rfl rfl)
    clear hb1 hn1 hb01 HD
    go_wp2_with fail
    go_quiet (fail)
    go_wp2
    go_ret
    obtain ⟨g1, g2⟩ := (unhide HS) _
    exact ⟨_, rfl, outs_nil _ _, NTo.of (g1.drewN _) (((Frm.of_below ((unhide HB1) _) (Nat.le_refl _)).trans g2 (by simp)).drewN _)⟩
  · have hfr : (readM l).frm = x.c.self := by simpa [takesB, hd] using ht
    have HD := hide (decode_yes l W hl hd)
    have HFR := hide hfr
    clear hn hd ht hfr
    go_enter Tryz.func55, Tryz.ntmps55
    go_wp2_with fail
    refine (unhide HD).mono ?_
    rintro e w1 ⟨v, rfl, ho1, hb1⟩
    obtain ⟨ao, cap, rfl⟩ := own_form ho1
    have hfr := unhide HFR
    simp only [mval]
    generalize readM l = M at ho1 hfr ⊢
    have hfr' : (M.frm == x.c.self) = true := by simp [hfr]
    have hn1 := fun o => ((unhide HN).below hb1).alloc o
    have hb01 := fun o => hb1.alloc hb1.size o
    have HB1 := hide hb01
    have c0 := fun o => (hn1 o).c_self
    have c15 := fun o => (hn1 o).c_dropped
    have f15 := fun o => free_at (hn1 o).blk 17
    have HS := hide (fun o => (hn1 o).set 17 (.int .i64 (x.dropped + 1)) (x' := { x with dropped := x.dropped + 1 }) rfl rfl rfl rfl rfl)
    clear hb1 hn1 hb01 HD ho1 hfr HFR
    go_wp2_with fail
    go_quiet (fail)
    go_wp2
    go_ret
    obtain ⟨g1, g2⟩ := (unhide HS) _
    exact ⟨_, rfl, outs_nil _ _, NTo.of (g1.drewN _) (((Frm.of_below ((unhide HB1) _) (Nat.le_refl _)).trans g2 (by simp)).drewN _)⟩
end Go.Proofs.YtnneljcbelgoeaaGreatDoor.wire
/- Receive of a message (P7). -/
namespace Go.Proofs.YtnneljcbelgoeaaGreatDoor.wire
open Go.RowKit Go.Maps

theorem kcells_flat (l : List K3) : kcells l = l.flatMap keyC := by
  induction l with
  | nil => rfl
  | cons a r ih => simp [kcells, ih, keyC]
/-- What stands while a message's keys are heard: its box is block bx. -/
structure RvI (W wr : World) (nb mb : Nat) (cb : Dk) (bx : Nat) (pv rv : Value) (M : M6) (ao : Option Addr) (cap : Nat) (y : Nd) : Prop where
  nto : NTo W wr nb mb cb pv rv y
  box : wr.heap[bx]? = some (.cells #[.int .i64 M.kind, .int .i64 M.frm, .int .i64 M.inc, .int .i64 M.seq, .int .i64 M.tgt, .slice ao M.ups.length cap] 68 (0, 0))
  row : wr.ownsRow W.heap.size 76 3 (.slice ao M.ups.length cap) M.ups.length (M.ups.flatMap keyC)
theorem RvI.goes {W wr w' : World} {nb mb : Nat} {cb : Dk} {bx : Nat} {pv rv : Value} {M : M6} {ao : Option Addr} {cap : Nat} {y y' : Nd} (h : RvI W wr nb mb cb bx pv rv M ao cap y) (o : Obj)
    (hgo : ∀ pv1 rv1, NAt (wr.alloc o) nb mb cb pv1 rv1 y → NTo (wr.alloc o) w' nb mb cb pv1 rv1 y') : RvI W w' nb mb cb bx pv rv M ao cap y' := by
  obtain ⟨pv1, rv1, hn, hf, hs⟩ := h.nto
  have h1 := hgo pv1 rv1 (hn.alloc o)
  have hb := h.box
  have hr := h.row
  have hb1 : (wr.alloc o).heap[bx]? = _ := (Below.heap_alloc _ _ _ (lt_blk hb)).trans hb
  obtain ⟨pv2, rv2, hn2, hf2, hs2⟩ := h1
  refine ⟨NTo.trans (hf.alloc o) hs ⟨pv2, rv2, hn2, hf2, hs2⟩, (hf2.block bx (lt_blk hb1) ((hn.alloc o).not_feet hb1 (by decide) (by decide) (by decide) (by decide))).trans hb1, own_frm (hr.alloc o) hf2 (fun k hk => ?_)⟩
  obtain ⟨cs, hcs⟩ := own_blk (hr.alloc o) hk
  exact (hn.alloc o).not_feet hcs (by decide) (by decide) (by decide) (by decide)
/-- A key is heard, its box just laid. -/
theorem RvI.hear {W wr : World} {nb mb : Nat} {cb : Dk} {bx : Nat} {pv rv : Value} {M : M6} {ao : Option Addr} {cap : Nat} {y : Nd} (h : RvI W wr nb mb cb bx pv rv M ao cap y) (hy : NdOk y) (hB : NdB Big y) (k : K3) (hk : isKeyB k = true) (o : Obj) :
    Calls Tryz.prog 84 #[.pointer (some ⟨nb, 0, none⟩), .agg #[.int .i64 k.id, .int .i64 k.inc, .int .i64 k.st]] (wr.alloc o) fun e w' => e = .returned (.tuple #[]) ∧ RvI W w' nb mb cb bx pv rv M ao cap (y.hear k) := by
  obtain ⟨pv1, rv1, hn, hf, hs⟩ := h.nto
  refine (hear_any hy hB (hn.alloc o) k hk).mono ?_
  rintro e w' ⟨rfl, hto⟩
  refine ⟨rfl, ?_⟩
  have hb := h.box
  have hr := h.row
  have hb1 : (wr.alloc o).heap[bx]? = _ := (Below.heap_alloc _ _ _ (lt_blk hb)).trans hb
  obtain ⟨pv2, rv2, hn2, hf2, hs2⟩ := hto
  refine ⟨NTo.trans (hf.alloc o) hs ⟨pv2, rv2, hn2, hf2, hs2⟩, (hf2.block bx (lt_blk hb1) ((hn.alloc o).not_feet hb1 (by decide) (by decide) (by decide) (by decide))).trans hb1, own_frm (hr.alloc o) hf2 (fun k hk => ?_)⟩
  obtain ⟨cs, hcs⟩ := own_blk (hr.alloc o) hk
  exact (hn.alloc o).not_feet hcs (by decide) (by decide) (by decide) (by decide)
theorem RvI.hear0 {W wr : World} {nb mb : Nat} {cb : Dk} {bx : Nat} {pv rv : Value} {M : M6} {ao : Option Addr} {cap : Nat} {y : Nd} (h : RvI W wr nb mb cb bx pv rv M ao cap y) (hy : NdOk y) (hB : NdB Big y) (k : K3) (hk : isKeyB k = true) :
    Calls Tryz.prog 84 #[.pointer (some ⟨nb, 0, none⟩), .agg #[.int .i64 k.id, .int .i64 k.inc, .int .i64 k.st]] wr fun e w' => e = .returned (.tuple #[]) ∧ RvI W w' nb mb cb bx pv rv M ao cap (y.hear k) := by
  obtain ⟨pv1, rv1, hn, hf, hs⟩ := h.nto
  refine (hear_any hy hB hn k hk).mono ?_
  rintro e w' ⟨rfl, hto⟩
  refine ⟨rfl, ?_⟩
  have hb := h.box
  have hr := h.row
  obtain ⟨pv2, rv2, hn2, hf2, hs2⟩ := hto
  refine ⟨NTo.trans hf hs ⟨pv2, rv2, hn2, hf2, hs2⟩, (hf2.block bx (lt_blk hb) (hn.not_feet hb (by decide) (by decide) (by decide) (by decide))).trans hb, own_frm hr hf2 (fun k hk => ?_)⟩
  obtain ⟨cs, hcs⟩ := own_blk hr hk
  exact hn.not_feet hcs (by decide) (by decide) (by decide) (by decide)
theorem hears_snoc (x : Nd) (l : List K3) (k : Nat) (h : k < l.length) : x.hears (l.take (k + 1)) = (x.hears (l.take k)).hear l[k] := by
  unfold Nd.hears
  rw [List.take_succ_eq_append_getElem h, List.foldl_append]; rfl
theorem allB_take {l : List K3} (h : allB l = true) (k : Nat) : allB (l.take k) = true := by
  unfold allB at *
  rw [List.all_eq_true] at *
  exact fun x hx => h x (List.mem_of_mem_take hx)
theorem allB_get {l : List K3} (h : allB l = true) (k : Nat) (hk : k < l.length) : isKeyB l[k] = true := by
  unfold allB at h
  rw [List.all_eq_true] at h
  exact h _ (List.getElem_mem hk)
theorem undrew {w w' : World} (h : Below w.drew.heap.size w.drew w') : Below w.heap.size w w' := ⟨h.os, h.tape, h.output, h.size, h.block⟩
theorem index_1 (nb : Nat) (w : World) : (Instr.index 152 (.agg #[.nilFunc, .func (.func 122) #[.pointer (some ⟨nb, 0, none⟩)] #[], .func (.func 123) #[.pointer (some ⟨nb, 0, none⟩)] #[], .func (.func 124) #[.pointer (some ⟨nb, 0, none⟩)] #[], .func (.func 125) #[.pointer (some ⟨nb, 0, none⟩)] #[], .func (.func 126) #[.pointer (some ⟨nb, 0, none⟩)] #[]]) (.int .i64 1)).run Tryz.prog w = .ok (.func (.func 122) #[.pointer (some ⟨nb, 0, none⟩)] #[]) w := by kernel_rfl
theorem index_2 (nb : Nat) (w : World) : (Instr.index 152 (.agg #[.nilFunc, .func (.func 122) #[.pointer (some ⟨nb, 0, none⟩)] #[], .func (.func 123) #[.pointer (some ⟨nb, 0, none⟩)] #[], .func (.func 124) #[.pointer (some ⟨nb, 0, none⟩)] #[], .func (.func 125) #[.pointer (some ⟨nb, 0, none⟩)] #[], .func (.func 126) #[.pointer (some ⟨nb, 0, none⟩)] #[]]) (.int .i64 2)).run Tryz.prog w = .ok (.func (.func 123) #[.pointer (some ⟨nb, 0, none⟩)] #[]) w := by kernel_rfl
theorem index_3 (nb : Nat) (w : World) : (Instr.index 152 (.agg #[.nilFunc, .func (.func 122) #[.pointer (some ⟨nb, 0, none⟩)] #[], .func (.func 123) #[.pointer (some ⟨nb, 0, none⟩)] #[], .func (.func 124) #[.pointer (some ⟨nb, 0, none⟩)] #[], .func (.func 125) #[.pointer (some ⟨nb, 0, none⟩)] #[], .func (.func 126) #[.pointer (some ⟨nb, 0, none⟩)] #[]]) (.int .i64 3)).run Tryz.prog w = .ok (.func (.func 124) #[.pointer (some ⟨nb, 0, none⟩)] #[]) w := by kernel_rfl
theorem index_4 (nb : Nat) (w : World) : (Instr.index 152 (.agg #[.nilFunc, .func (.func 122) #[.pointer (some ⟨nb, 0, none⟩)] #[], .func (.func 123) #[.pointer (some ⟨nb, 0, none⟩)] #[], .func (.func 124) #[.pointer (some ⟨nb, 0, none⟩)] #[], .func (.func 125) #[.pointer (some ⟨nb, 0, none⟩)] #[], .func (.func 126) #[.pointer (some ⟨nb, 0, none⟩)] #[]]) (.int .i64 4)).run Tryz.prog w = .ok (.func (.func 125) #[.pointer (some ⟨nb, 0, none⟩)] #[]) w := by kernel_rfl
theorem index_5 (nb : Nat) (w : World) : (Instr.index 152 (.agg #[.nilFunc, .func (.func 122) #[.pointer (some ⟨nb, 0, none⟩)] #[], .func (.func 123) #[.pointer (some ⟨nb, 0, none⟩)] #[], .func (.func 124) #[.pointer (some ⟨nb, 0, none⟩)] #[], .func (.func 125) #[.pointer (some ⟨nb, 0, none⟩)] #[], .func (.func 126) #[.pointer (some ⟨nb, 0, none⟩)] #[]]) (.int .i64 5)).run Tryz.prog w = .ok (.func (.func 126) #[.pointer (some ⟨nb, 0, none⟩)] #[]) w := by kernel_rfl
set_option maxHeartbeats 2000000 in
set_option maxRecDepth 100000 in
theorem receive_yes {x : Nd} (hx : NdOk x) (hB : NdB Bg x) {nb mb : Nat} {cb : Dk} {pv rv : Value} {W : World} (hn : NAt W nb mb cb pv rv x) (l : List UInt8) (hl : l.length ≤ maxLen) (ht : takesB x.c.self l = true)
    (hdd : Deeds ((x.hear ⟨(readM l).frm, (readM l).inc, 1⟩).hears (readM l).ups) (readM l)) :
    Calls Tryz.prog 55 #[.pointer (some ⟨nb, 0, none⟩), .string (bs l)] W fun e w' => ∃ o, e = .returned o ∧ Outs W w' o (x.receive l).1 ∧ NTo W w' nb mb cb pv rv (x.receive l).2 := by
  have he : x.receive l = ((x.hear ⟨(readM l).frm, (readM l).inc, 1⟩).hears (readM l).ups).deed (readM l) := by simp [Nd.receive, ht]
  have HE := hide he
  have hd : decB l = true := by simp [takesB] at ht; exact ht.1
  have hfr : ¬ (readM l).frm = x.c.self := by simp [takesB, hd] at ht; exact ht
  have hw : wholeB (readM l) = true := by simp [decB] at hd; exact hd.2
  have HD := hide (decode_yes l W hl hd)
  have HFR := hide hfr
  have HW := hide hw
  have HX := hide hx
  have HB := hide hB
  have HN := hide hn
  have HDD := hide hdd
  clear he hd hfr hw hx hB hn hdd ht
  generalize readM l = M at HE HFR HW HD HDD
  have hul := whole_len (unhide HW)
  have hall : allB M.ups = true := by have := unhide HW; simp only [wholeB, Bool.and_eq_true] at this; exact this.2.2.2.2
  have hfk : isKeyB ⟨M.frm, M.inc, 1⟩ = true := by
    have := unhide HW
    simp only [wholeB, Bool.and_eq_true] at this
    simp only [isKeyB, Bool.and_eq_true]
    exact ⟨this.1, this.2.1, rfl⟩
  have HALL := hide hall
  have HFK := hide hfk
  clear hall hfk
  go_enter Tryz.func55, Tryz.ntmps55
  go_wp2_with fail
  refine (unhide HD).mono ?_
  rintro e w1 ⟨v, rfl, ho1, hb1⟩
  obtain ⟨ao, cap, rfl⟩ := own_form ho1
  rw [kcells_flat] at ho1
  have hfr := unhide HFR
  have hfr' : (M.frm == x.c.self) = false := by simp [hfr]
  have hlt := (unhide HN).lt
  have hri : ∀ q, RvI W ((w1.alloc (.cells #[.int .i64 M.kind, .int .i64 M.frm, .int .i64 M.inc, .int .i64 M.seq, .int .i64 M.tgt, .slice ao M.ups.length cap] 68)).drewN q) nb mb cb w1.heap.size pv rv M ao cap x := fun q =>
    ⟨NTo.here (unhide HN) (bdrewN (hb1.alloc hb1.size _) q), heap_alloc_new w1 _, ho1.alloc _⟩
  have c0 := fun o => (((unhide HN).below hb1).alloc o).c_self
  have HRI := hide hri
  simp only [mval]
  clear hb1 ho1 HD hri hfr
  go_wp2_with fail
  go_quiet (fail)
  generalize hw2 : World.drewN _ _ = w2
  have h2 : RvI W w2 nb mb cb w1.heap.size pv rv M ao cap x := by rw [← hw2]; exact unhide HRI _
  clear hw2 HRI c0
  have b1 := cell_at h2.box 1
  have b2 := cell_at h2.box 2
  simp only [List.getElem?_toArray, List.getElem?_cons_zero, List.getElem?_cons_succ] at b1 b2
  have HR2 := hide (h2.hear0 (unhide HX) ((unhide HB).mono (by decide)) ⟨M.frm, M.inc, 1⟩ (unhide HFK))
  clear h2
  go_wp2_with fail
  refine (unhide HR2).mono ?_
  rintro e w3 ⟨rfl, h3⟩
  have hx1 := hear_ok (unhide HX) ⟨M.frm, M.inc, 1⟩ (unhide HFK)
  have hB1 := hear_b (unhide HB) ⟨M.frm, M.inc, 1⟩
  generalize x.hear ⟨M.frm, M.inc, 1⟩ = x1 at h3 hx1 hB1 HE HDD
  have HX1 := hide hx1
  have HB1 := hide hB1
  clear hx1 hB1 HR2 b1 b2
  have b5 := cell_at h3.box 5
  simp only [List.getElem?_toArray, List.getElem?_cons_zero, List.getElem?_cons_succ] at b5
  have H3 := hide h3
  clear h3
  go_wp2
  clear b5
  go_loopw [43] (fun i wr => ∃ k : Nat, k ≤ M.ups.length ∧ i = .int .i64 k ∧ Hid (RvI W wr nb mb cb w1.heap.size pv rv M ao cap (x1.hears (M.ups.take k)))) (fun i _ => M.ups.length - (Go.RowKit.intOf i).toNat)
  case atStart => exact ⟨0, Nat.zero_le _, rfl, H3⟩
  case round =>
    obtain ⟨k, hk, rfl, HI⟩ := hrel
    by_cases hlt : k < M.ups.length
    · have hkeys := keys_of_row (unhide HI).row
      obtain ⟨g, goff, hao, hgl, hgk⟩ := hkeys.elem (by omega)
      subst hao
      obtain ⟨c0, c1, c2⟩ := hgk k hlt
      have hok := hears_ok (M.ups.take k) (unhide HX1) (allB_take (unhide HALL) k)
      have hbk := (hears_b (M.ups.take k) (unhide HB1)).mono (C := Big) (by simp only [Bg, Big, List.length_take]; omega)
      have HC := hide ((unhide HI).hear hok hbk M.ups[k] (allB_get (unhide HALL) k hlt) (.cells #[.int .i64 M.ups[k].id, .int .i64 M.ups[k].inc, .int .i64 M.ups[k].st] 76))
      have hsn := hears_snoc x1 M.ups k hlt
      rw [← hsn] at HC
      clear hsn hok hbk hkeys
      generalize M.ups[k] = K at c0 c1 c2 HC
      go_wp2_with fail
      refine (unhide HC).mono ?_
      rintro e w4 ⟨rfl, h4⟩
      have H4 := hide h4
      clear h4 HC c0 c1 c2
      go_wp2
      go_roundw
      case rel => exact ⟨k + 1, by omega, by go_num, H4⟩
      case measure => simp [Go.RowKit.intOf]; omega
    · have e : k = M.ups.length := by omega
      subst e
      rw [List.take_length] at HI
      go_wp2
      generalize x1.hears M.ups = y at HI HE HDD
      have hkind : M.kind = 1 ∨ M.kind = 2 ∨ M.kind = 3 ∨ M.kind = 4 ∨ M.kind = 5 := by
        have h := unhide HW
        simp only [wholeB, Bool.and_eq_true] at h
        have h2 := h.2.2.2.1
        unfold suitsB at h2
        split at h2
        · rename_i h3; simp only [lowB, Bool.and_eq_true, decide_eq_true_eq] at h3; omega
        · split at h2
          · rename_i h3; simp only [highB, Bool.and_eq_true, decide_eq_true_eq] at h3; omega
          · cases h2
      clear HX HB HFR HW hul HALL HFK HX1 HB1 H3 HN
      obtain ⟨kind, frm, inc, seq, tgt, ups⟩ := M
      dsimp only at HI HE HDD hkind
      have hI := unhide HI
      obtain ⟨pv1, rv1, hn1, hf1, hs1⟩ := hI.nto
      have hbx := lt_blk hI.box
      have b0 := cell_at hI.box 0
      have b1 := cell_at hI.box 1
      have b2 := cell_at hI.box 2
      have b3 := cell_at hI.box 3
      have b4 := cell_at hI.box 4
      have b5 := cell_at hI.box 5
      simp only [List.getElem?_toArray, List.getElem?_cons_zero, List.getElem?_cons_succ] at b0 b1 b2 b3 b4 b5
      have HROW := hide hI.row
      have HN1 := hide hn1
      have HF1 := hide hf1
      have HS1 := hide hs1
      have hfeet := hn1.not_feet hI.box (by decide) (by decide) (by decide) (by decide)
      have HFT := hide hfeet
      have hwr := hf1.size
      clear hI hn1 hf1 hs1 hfeet HI
      rcases hkind with rfl | rfl | rfl | rfl | rfl
      case inl =>
        have HC := fun w' (hb : Below wr.heap.size wr w') => hide ((unhide HDD).d1 rfl nb mb cb pv1 rv1 (.slice ao ups.length cap) w' ((unhide HN1).below hb) ((keys_of_row (unhide HROW)).below hb))
        dsimp only at HC
        have hix := index_1 nb
        go_region_held3 (fun w' => w'.cell? ⟨w1.heap.size, 0, none⟩ = some (.int .i64 1) ∧ w'.cell? ⟨w1.heap.size, 1, none⟩ = some (.int .i64 frm) ∧ w'.cell? ⟨w1.heap.size, 2, none⟩ = some (.int .i64 inc) ∧ w'.cell? ⟨w1.heap.size, 3, none⟩ = some (.int .i64 seq) ∧ w'.cell? ⟨w1.heap.size, 4, none⟩ = some (.int .i64 tgt) ∧ w'.cell? ⟨w1.heap.size, 5, none⟩ = some (.slice ao ups.length cap)) (go_keep)
          (first
            | (go_at_call 85; refine (deeds_any nb _).mono ?_; rintro e wd ⟨rfl, hbd'⟩; have hbd := undrew hbd'; have q0 := (hbd.cell (p := ⟨w1.heap.size, 0, none⟩) hbx).trans b0; have q1 := (hbd.cell (p := ⟨w1.heap.size, 1, none⟩) hbx).trans b1; have q2 := (hbd.cell (p := ⟨w1.heap.size, 2, none⟩) hbx).trans b2; have q3 := (hbd.cell (p := ⟨w1.heap.size, 3, none⟩) hbx).trans b3; have q4 := (hbd.cell (p := ⟨w1.heap.size, 4, none⟩) hbx).trans b4; have q5 := (hbd.cell (p := ⟨w1.heap.size, 5, none⟩) hbx).trans b5)
            | (go_at_call 122; refine (unhide (HC _ hbd)).mono ?_; rintro e w5 ⟨o, rfl, ho5, hn5⟩; have H5 := hide hn5; have hbk := Frm.block (Exists.choose_spec (Exists.choose_spec hn5)).2.1 w1.heap.size (Nat.lt_of_lt_of_le hbx hbd.size) (unhide HFT); have s0 := (World.cell?_of_block (a := ⟨w1.heap.size, 0, none⟩) hbk).trans q0; have s1 := (World.cell?_of_block (a := ⟨w1.heap.size, 1, none⟩) hbk).trans q1; have s2 := (World.cell?_of_block (a := ⟨w1.heap.size, 2, none⟩) hbk).trans q2; have s3 := (World.cell?_of_block (a := ⟨w1.heap.size, 3, none⟩) hbk).trans q3; have s4 := (World.cell?_of_block (a := ⟨w1.heap.size, 4, none⟩) hbk).trans q4; have s5 := (World.cell?_of_block (a := ⟨w1.heap.size, 5, none⟩) hbk).trans q5; have HO5 := hide ho5; clear hbk hn5 ho5))
        go_wp2
        go_ret
        rw [unhide HE]
        exact ⟨o, rfl, own_mono (unhide HO5) (Nat.le_trans hwr hbd.size), NTo.trans ((unhide HF1).step hbd) (unhide HS1) (unhide H5)⟩
      case inr.inl =>
        have HC := fun w' (hb : Below wr.heap.size wr w') => hide ((unhide HDD).d2 rfl nb mb cb pv1 rv1 (.slice ao ups.length cap) w' ((unhide HN1).below hb) ((keys_of_row (unhide HROW)).below hb))
        dsimp only at HC
        have hix := index_2 nb
        go_region_held3 (fun w' => w'.cell? ⟨w1.heap.size, 0, none⟩ = some (.int .i64 2) ∧ w'.cell? ⟨w1.heap.size, 1, none⟩ = some (.int .i64 frm) ∧ w'.cell? ⟨w1.heap.size, 2, none⟩ = some (.int .i64 inc) ∧ w'.cell? ⟨w1.heap.size, 3, none⟩ = some (.int .i64 seq) ∧ w'.cell? ⟨w1.heap.size, 4, none⟩ = some (.int .i64 tgt) ∧ w'.cell? ⟨w1.heap.size, 5, none⟩ = some (.slice ao ups.length cap)) (go_keep)
          (first
            | (go_at_call 85; refine (deeds_any nb _).mono ?_; rintro e wd ⟨rfl, hbd'⟩; have hbd := undrew hbd'; have q0 := (hbd.cell (p := ⟨w1.heap.size, 0, none⟩) hbx).trans b0; have q1 := (hbd.cell (p := ⟨w1.heap.size, 1, none⟩) hbx).trans b1; have q2 := (hbd.cell (p := ⟨w1.heap.size, 2, none⟩) hbx).trans b2; have q3 := (hbd.cell (p := ⟨w1.heap.size, 3, none⟩) hbx).trans b3; have q4 := (hbd.cell (p := ⟨w1.heap.size, 4, none⟩) hbx).trans b4; have q5 := (hbd.cell (p := ⟨w1.heap.size, 5, none⟩) hbx).trans b5)
            | (go_at_call 123; refine (unhide (HC _ hbd)).mono ?_; rintro e w5 ⟨o, rfl, ho5, hn5⟩; have H5 := hide hn5; have hbk := Frm.block (Exists.choose_spec (Exists.choose_spec hn5)).2.1 w1.heap.size (Nat.lt_of_lt_of_le hbx hbd.size) (unhide HFT); have s0 := (World.cell?_of_block (a := ⟨w1.heap.size, 0, none⟩) hbk).trans q0; have s1 := (World.cell?_of_block (a := ⟨w1.heap.size, 1, none⟩) hbk).trans q1; have s2 := (World.cell?_of_block (a := ⟨w1.heap.size, 2, none⟩) hbk).trans q2; have s3 := (World.cell?_of_block (a := ⟨w1.heap.size, 3, none⟩) hbk).trans q3; have s4 := (World.cell?_of_block (a := ⟨w1.heap.size, 4, none⟩) hbk).trans q4; have s5 := (World.cell?_of_block (a := ⟨w1.heap.size, 5, none⟩) hbk).trans q5; have HO5 := hide ho5; clear hbk hn5 ho5))
        go_wp2
        go_ret
        rw [unhide HE]
        exact ⟨o, rfl, own_mono (unhide HO5) (Nat.le_trans hwr hbd.size), NTo.trans ((unhide HF1).step hbd) (unhide HS1) (unhide H5)⟩
      case inr.inr.inl =>
        have HC := fun w' (hb : Below wr.heap.size wr w') => hide ((unhide HDD).d3 rfl nb mb cb pv1 rv1 (.slice ao ups.length cap) w' ((unhide HN1).below hb) ((keys_of_row (unhide HROW)).below hb))
        dsimp only at HC
        have hix := index_3 nb
        go_region_held3 (fun w' => w'.cell? ⟨w1.heap.size, 0, none⟩ = some (.int .i64 3) ∧ w'.cell? ⟨w1.heap.size, 1, none⟩ = some (.int .i64 frm) ∧ w'.cell? ⟨w1.heap.size, 2, none⟩ = some (.int .i64 inc) ∧ w'.cell? ⟨w1.heap.size, 3, none⟩ = some (.int .i64 seq) ∧ w'.cell? ⟨w1.heap.size, 4, none⟩ = some (.int .i64 tgt) ∧ w'.cell? ⟨w1.heap.size, 5, none⟩ = some (.slice ao ups.length cap)) (go_keep)
          (first
            | (go_at_call 85; refine (deeds_any nb _).mono ?_; rintro e wd ⟨rfl, hbd'⟩; have hbd := undrew hbd'; have q0 := (hbd.cell (p := ⟨w1.heap.size, 0, none⟩) hbx).trans b0; have q1 := (hbd.cell (p := ⟨w1.heap.size, 1, none⟩) hbx).trans b1; have q2 := (hbd.cell (p := ⟨w1.heap.size, 2, none⟩) hbx).trans b2; have q3 := (hbd.cell (p := ⟨w1.heap.size, 3, none⟩) hbx).trans b3; have q4 := (hbd.cell (p := ⟨w1.heap.size, 4, none⟩) hbx).trans b4; have q5 := (hbd.cell (p := ⟨w1.heap.size, 5, none⟩) hbx).trans b5)
            | (go_at_call 124; refine (unhide (HC _ hbd)).mono ?_; rintro e w5 ⟨o, rfl, ho5, hn5⟩; have H5 := hide hn5; have hbk := Frm.block (Exists.choose_spec (Exists.choose_spec hn5)).2.1 w1.heap.size (Nat.lt_of_lt_of_le hbx hbd.size) (unhide HFT); have s0 := (World.cell?_of_block (a := ⟨w1.heap.size, 0, none⟩) hbk).trans q0; have s1 := (World.cell?_of_block (a := ⟨w1.heap.size, 1, none⟩) hbk).trans q1; have s2 := (World.cell?_of_block (a := ⟨w1.heap.size, 2, none⟩) hbk).trans q2; have s3 := (World.cell?_of_block (a := ⟨w1.heap.size, 3, none⟩) hbk).trans q3; have s4 := (World.cell?_of_block (a := ⟨w1.heap.size, 4, none⟩) hbk).trans q4; have s5 := (World.cell?_of_block (a := ⟨w1.heap.size, 5, none⟩) hbk).trans q5; have HO5 := hide ho5; clear hbk hn5 ho5))
        go_wp2
        go_ret
        rw [unhide HE]
        exact ⟨o, rfl, own_mono (unhide HO5) (Nat.le_trans hwr hbd.size), NTo.trans ((unhide HF1).step hbd) (unhide HS1) (unhide H5)⟩
      case inr.inr.inr.inl =>
        have HC := fun w' (hb : Below wr.heap.size wr w') => hide ((unhide HDD).d4 rfl nb mb cb pv1 rv1 (.slice ao ups.length cap) w' ((unhide HN1).below hb) ((keys_of_row (unhide HROW)).below hb))
        dsimp only at HC
        have hix := index_4 nb
        go_region_held3 (fun w' => w'.cell? ⟨w1.heap.size, 0, none⟩ = some (.int .i64 4) ∧ w'.cell? ⟨w1.heap.size, 1, none⟩ = some (.int .i64 frm) ∧ w'.cell? ⟨w1.heap.size, 2, none⟩ = some (.int .i64 inc) ∧ w'.cell? ⟨w1.heap.size, 3, none⟩ = some (.int .i64 seq) ∧ w'.cell? ⟨w1.heap.size, 4, none⟩ = some (.int .i64 tgt) ∧ w'.cell? ⟨w1.heap.size, 5, none⟩ = some (.slice ao ups.length cap)) (go_keep)
          (first
            | (go_at_call 85; refine (deeds_any nb _).mono ?_; rintro e wd ⟨rfl, hbd'⟩; have hbd := undrew hbd'; have q0 := (hbd.cell (p := ⟨w1.heap.size, 0, none⟩) hbx).trans b0; have q1 := (hbd.cell (p := ⟨w1.heap.size, 1, none⟩) hbx).trans b1; have q2 := (hbd.cell (p := ⟨w1.heap.size, 2, none⟩) hbx).trans b2; have q3 := (hbd.cell (p := ⟨w1.heap.size, 3, none⟩) hbx).trans b3; have q4 := (hbd.cell (p := ⟨w1.heap.size, 4, none⟩) hbx).trans b4; have q5 := (hbd.cell (p := ⟨w1.heap.size, 5, none⟩) hbx).trans b5)
            | (go_at_call 125; refine (unhide (HC _ hbd)).mono ?_; rintro e w5 ⟨o, rfl, ho5, hn5⟩; have H5 := hide hn5; have hbk := Frm.block (Exists.choose_spec (Exists.choose_spec hn5)).2.1 w1.heap.size (Nat.lt_of_lt_of_le hbx hbd.size) (unhide HFT); have s0 := (World.cell?_of_block (a := ⟨w1.heap.size, 0, none⟩) hbk).trans q0; have s1 := (World.cell?_of_block (a := ⟨w1.heap.size, 1, none⟩) hbk).trans q1; have s2 := (World.cell?_of_block (a := ⟨w1.heap.size, 2, none⟩) hbk).trans q2; have s3 := (World.cell?_of_block (a := ⟨w1.heap.size, 3, none⟩) hbk).trans q3; have s4 := (World.cell?_of_block (a := ⟨w1.heap.size, 4, none⟩) hbk).trans q4; have s5 := (World.cell?_of_block (a := ⟨w1.heap.size, 5, none⟩) hbk).trans q5; have HO5 := hide ho5; clear hbk hn5 ho5))
        go_wp2
        go_ret
        rw [unhide HE]
        exact ⟨o, rfl, own_mono (unhide HO5) (Nat.le_trans hwr hbd.size), NTo.trans ((unhide HF1).step hbd) (unhide HS1) (unhide H5)⟩
      case inr.inr.inr.inr =>
        have HC := fun w' (hb : Below wr.heap.size wr w') => hide ((unhide HDD).d5 rfl nb mb cb pv1 rv1 (.slice ao ups.length cap) w' ((unhide HN1).below hb) ((keys_of_row (unhide HROW)).below hb))
        dsimp only at HC
        have hix := index_5 nb
        go_region_held3 (fun w' => w'.cell? ⟨w1.heap.size, 0, none⟩ = some (.int .i64 5) ∧ w'.cell? ⟨w1.heap.size, 1, none⟩ = some (.int .i64 frm) ∧ w'.cell? ⟨w1.heap.size, 2, none⟩ = some (.int .i64 inc) ∧ w'.cell? ⟨w1.heap.size, 3, none⟩ = some (.int .i64 seq) ∧ w'.cell? ⟨w1.heap.size, 4, none⟩ = some (.int .i64 tgt) ∧ w'.cell? ⟨w1.heap.size, 5, none⟩ = some (.slice ao ups.length cap)) (go_keep)
          (first
            | (go_at_call 85; refine (deeds_any nb _).mono ?_; rintro e wd ⟨rfl, hbd'⟩; have hbd := undrew hbd'; have q0 := (hbd.cell (p := ⟨w1.heap.size, 0, none⟩) hbx).trans b0; have q1 := (hbd.cell (p := ⟨w1.heap.size, 1, none⟩) hbx).trans b1; have q2 := (hbd.cell (p := ⟨w1.heap.size, 2, none⟩) hbx).trans b2; have q3 := (hbd.cell (p := ⟨w1.heap.size, 3, none⟩) hbx).trans b3; have q4 := (hbd.cell (p := ⟨w1.heap.size, 4, none⟩) hbx).trans b4; have q5 := (hbd.cell (p := ⟨w1.heap.size, 5, none⟩) hbx).trans b5)
            | (go_at_call 126; refine (unhide (HC _ hbd)).mono ?_; rintro e w5 ⟨o, rfl, ho5, hn5⟩; have H5 := hide hn5; have hbk := Frm.block (Exists.choose_spec (Exists.choose_spec hn5)).2.1 w1.heap.size (Nat.lt_of_lt_of_le hbx hbd.size) (unhide HFT); have s0 := (World.cell?_of_block (a := ⟨w1.heap.size, 0, none⟩) hbk).trans q0; have s1 := (World.cell?_of_block (a := ⟨w1.heap.size, 1, none⟩) hbk).trans q1; have s2 := (World.cell?_of_block (a := ⟨w1.heap.size, 2, none⟩) hbk).trans q2; have s3 := (World.cell?_of_block (a := ⟨w1.heap.size, 3, none⟩) hbk).trans q3; have s4 := (World.cell?_of_block (a := ⟨w1.heap.size, 4, none⟩) hbk).trans q4; have s5 := (World.cell?_of_block (a := ⟨w1.heap.size, 5, none⟩) hbk).trans q5; have HO5 := hide ho5; clear hbk hn5 ho5))
        go_wp2
        go_ret
        rw [unhide HE]
        exact ⟨o, rfl, own_mono (unhide HO5) (Nat.le_trans hwr hbd.size), NTo.trans ((unhide HF1).step hbd) (unhide HS1) (unhide H5)⟩
end Go.Proofs.YtnneljcbelgoeaaGreatDoor.wire
/- Join and Leave (P8). -/
namespace Go.Proofs.YtnneljcbelgoeaaGreatDoor.wire
open Go.RowKit Go.Maps

theorem num_ok {x : Nd} (h : NdOk x) (n : Int) : NdOk { x with num := n } := ⟨h.cfg, h.rise, h.len, h.keys, h.sends, h.self, h.evs, h.rels, h.pass⟩
set_option maxHeartbeats 1000000 in
set_option maxRecDepth 100000 in
theorem joins_no {x : Nd} (hx : NdOk x) {nb mb : Nat} {cb : Dk} {pv rv : Value} {W : World} (hn : NAt W nb mb cb pv rv x) (i : Int) (he : x.joinErr i ≠ 0) :
    Calls Tryz.prog 36 #[.pointer (some ⟨nb, 0, none⟩), .int .i64 i] W fun e w' => e = .returned (.tuple #[.slice none 0 0, .iface 108 (.int .i64 (x.joinErr i))]) ∧ Below W.heap.size W w' := by
  have HL := hide (left_any hx hn)
  have c0 := fun w' (hb : Below W.heap.size W w') => (hn.below hb).c_self
  cases hL : x.left
  · have he3 : x.joinErr i = 3 ∧ (isIdB i = false ∨ (isIdB i = true ∧ i = x.c.self)) := by
      simp only [Nd.joinErr, hL] at he ⊢
      cases h : isIdB i
      · simp
      · by_cases h2 : i = x.c.self
        · simp [h2]
        · simp [h, h2] at he
    rw [he3.1]
    have HLL := hide hL
    have hc := he3.2
    clear hn hx hL he he3
    rcases hc with h | ⟨h, h2⟩
    · go_enter Tryz.func36, Tryz.ntmps36
      go_wp2_with fail
      refine (unhide HL).mono ?_
      rw [unhide HLL]
      rintro e w1 ⟨rfl, hb1⟩
      have d0 := c0 w1 hb1
      have HB1 := hide hb1
      clear hb1 c0
      go_wp2_with (go_at_call 58; refine (isId_any _ _).mono ?_; rintro e w' ⟨rfl, rfl⟩)
      go_ret2
      exact ⟨rfl, unhide HB1⟩
    · have h2' : (i == x.c.self) = true := by simp [h2]
      clear h2
      go_enter Tryz.func36, Tryz.ntmps36
      go_wp2_with fail
      refine (unhide HL).mono ?_
      rw [unhide HLL]
      rintro e w1 ⟨rfl, hb1⟩
      have d0 := c0 w1 hb1
      have HB1 := hide hb1
      clear hb1 c0
      go_wp2_with (go_at_call 58; refine (isId_any _ _).mono ?_; rintro e w' ⟨rfl, rfl⟩)
      go_ret2
      exact ⟨rfl, unhide HB1⟩
  · have he4 : x.joinErr i = 4 := by simp [Nd.joinErr, hL]
    rw [he4]
    have HLL := hide hL
    clear hn hx hL he he4 c0
    go_enter Tryz.func36, Tryz.ntmps36
    go_wp2_with fail
    refine (unhide HL).mono ?_
    rw [unhide HLL]
    rintro e w1 ⟨rfl, hb1⟩
    have HB1 := hide hb1
    clear hb1
    go_wp2
    go_ret2
    exact ⟨rfl, unhide HB1⟩
set_option maxHeartbeats 1000000 in
set_option maxRecDepth 100000 in
theorem joins_yes {x : Nd} (hx : NdOk x) (hB : NdB Big x) {nb mb : Nat} {cb : Dk} {pv rv : Value} {W : World} (hn : NAt W nb mb cb pv rv x) (i : Int) (he : x.joinErr i = 0) :
    Calls Tryz.prog 36 #[.pointer (some ⟨nb, 0, none⟩), .int .i64 i] W fun e w' => ∃ o, e = .returned (.tuple #[o, .nilIface]) ∧ Outs W w' o (x.join i).1 ∧ NAt w' nb mb cb pv rv (x.join i).2 ∧ Frm [nb] W w' := by
  have HL := hide (left_any hx hn)
  have c0 := fun w' (hb : Below W.heap.size W w') => (hn.below hb).c_self
  have hc : x.left = false ∧ isIdB i = true ∧ ¬ i = x.c.self := by
    unfold Nd.joinErr at he
    split at he
    · cases he
    · rename_i h
      split at he
      · rename_i h2; simp at h2; exact ⟨by simpa using h, h2.1, h2.2⟩
      · cases he
  obtain ⟨hL, h1, h2⟩ := hc
  have h2' : (i == x.c.self) = false := by simp [h2]
  have HLL := hide hL
  have HX := hide hx
  have HB := hide hB
  have HN := hide hn
  clear hn hx hL he hB
  go_enter Tryz.func36, Tryz.ntmps36
  go_wp2_with fail
  refine (unhide HL).mono ?_
  rw [unhide HLL]
  rintro e w1 ⟨rfl, hb1⟩
  have d0 := c0 w1 hb1
  have HNX := hide (next_any (unhide HB) ((unhide HN).below hb1))
  have HB1 := hide hb1
  clear hb1 c0 HL
  go_wp2_with (go_at_call 58; refine (isId_any _ _).mono ?_; rintro e w' ⟨rfl, rfl⟩)
  refine (unhide HNX).mono ?_
  rintro e w2 ⟨rfl, hn2, hf2⟩
  have HP := hide (packet_any (num_ok (unhide HX) (x.num + 1)) hn2 i 4 (x.num + 1) 0 [] (.slice none 0 0) (.inl ⟨rfl, rfl⟩) (by simp))
  have HN2 := hide hn2
  have HF2 := hide ((Frm.of_below (S := [nb]) (unhide HB1) (Nat.le_refl _)).trans hf2 (fun j hj => .inl hj))
  clear hn2 hf2 HNX d0
  go_wp2_with fail
  refine (unhide HP).mono ?_
  generalize hPK : Nd.packet _ i 4 (x.num + 1) 0 [] = PK
  have HPK := hide hPK
  clear hPK HP
  rintro e w3 ⟨rfl, hb3⟩
  have HN3 := hide ((unhide HN2).below hb3)
  have HF3 := hide ((unhide HF2).step hb3)
  clear hb3
  go_wp2
  go_ret2
  refine ⟨_, rfl, ?_, (unhide HN3).alloc _, (unhide HF3).alloc _⟩
  have e1 : (x.join i).1 = [PK] := by rw [← unhide HPK]; rfl
  rw [e1]
  exact outs_one PK (unhide HF3).size
end Go.Proofs.YtnneljcbelgoeaaGreatDoor.wire
/- See (P4). (Written by wip/gen/mksee.py.) -/
namespace Go.Proofs.YtnneljcbelgoeaaGreatDoor.wire
open Go.RowKit Go.Maps

def Nd.pending (x : Nd) : Nat := (x.tab.filter pendB).length
set_option maxHeartbeats 2000000 in
set_option maxRecDepth 100000 in
theorem see_any {x : Nd} (hx : NdOk x) {nb mb : Nat} {cb : Dk} {pv rv : Value} {W : World} (hn : NAt W nb mb cb pv rv x) :
    Calls Tryz.prog 76 #[.pointer (some ⟨nb, 0, none⟩)] W fun e w' => ∃ v, e = .returned (.agg #[.int .i64 x.clock, .int .i64 x.own.id, .int .i64 x.own.inc, .int .i64 x.own.st, v, .int .i64 x.ptgt, .int .i64 x.pending, .int .i64 x.rels.length, .int .i64 x.dropped, .int .i64 x.lost]) ∧ w'.ownsRow W.heap.size 76 3 v x.others.length (x.others.flatMap keyC) ∧ Below W.heap.size W w' := by
  obtain ⟨rao, rcap, rfl⟩ := own_form hn.rel
  have hlen := hx.len
  have hlen1 : x.tab.length ≤ 1000 := by omega
  have hrl := hx.rels
  have hlt := hn.lt
  have hne : ¬ W.heap.size = nb := by omega
  have hne' : ¬ nb = W.heap.size := by omega
  have hE3 := enters_of Tryz.func110 (by kernel_rfl) rfl
  have hn1 := (hn.alloc (.cells #[.int .i64 0, .int .i64 0, .int .i64 0, .int .i64 0, .slice none 0 0, .int .i64 0, .int .i64 0, .int .i64 0, .int .i64 0, .int .i64 0] 137)).drew
  have HS := hide (self_any hx hn1)
  have HN1 := hide hn1
  have HX1 : Hid ((W.alloc (.cells #[.int .i64 0, .int .i64 0, .int .i64 0, .int .i64 0, .slice none 0 0, .int .i64 0, .int .i64 0, .int .i64 0, .int .i64 0, .int .i64 0] 137)).drew.heap[W.heap.size]? = some (.cells #[.int .i64 0, .int .i64 0, .int .i64 0, .int .i64 0, .slice none 0 0, .int .i64 0, .int .i64 0, .int .i64 0, .int .i64 0, .int .i64 0] 137 (0, 0))) := hide (heap_alloc_new W _)
  have HB1 : Hid (Below W.heap.size W (W.alloc (.cells #[.int .i64 0, .int .i64 0, .int .i64 0, .int .i64 0, .slice none 0 0, .int .i64 0, .int .i64 0, .int .i64 0, .int .i64 0, .int .i64 0] 137)).drew) := hide ((Below.refl _ _).alloc (Nat.le_refl _) _).drew
  have HK := hide hx
  have k0 := hn1.c_clock
  have k1 := hn1.c_ptgt
  have k2 := hn1.c_rels
  have k3 := hn1.c_dropped
  have k4 := hn1.c_lost
  have hpen : x.pending = (x.tab.filter pendB).length := rfl
  rw [hpen]
  clear hn hn1 hx hpen
  generalize x.own = O at HS ⊢
  go_enter Tryz.func76, Tryz.ntmps76
  go_wp2
  go_region_held3 (fun w' => w'.cell? ⟨nb, 7, none⟩ = some (.int .i64 x.clock) ∧ w'.cell? ⟨nb, 10, none⟩ = some (.int .i64 x.ptgt) ∧ w'.cell? ⟨nb, 14, none⟩ = some (.slice rao x.rels.length rcap) ∧ w'.cell? ⟨nb, 17, none⟩ = some (.int .i64 x.dropped) ∧ w'.cell? ⟨nb, 18, none⟩ = some (.int .i64 x.lost)) (go_keep)
    (first
      | (go_at_call 65; refine (unhide HS).mono ?_; rintro e w2 ⟨rfl, hb2⟩; have HN2 := hide ((unhide HN1).below hb2); have cclock_2 := (unhide HN2).c_clock; have cptgt_2 := (unhide HN2).c_ptgt; have crels_2 := (unhide HN2).c_rels; have cdropped_2 := (unhide HN2).c_dropped; have clost_2 := (unhide HN2).c_lost; have HX2 := hide ((hb2.block W.heap.size (lt_blk (unhide HX1))).trans (unhide HX1)); have HB2 := hide ((unhide HB1).trans (hb2.mono (unhide HB1).size));  clear hb2)
      | (go_at_call 109; refine (others_any (unhide HK) (unhide HN2)).mono ?_; rintro e w3 ⟨v3, rfl, ho3, hb3⟩; have HN3 := hide ((unhide HN2).below hb3); have cclock_3 := (unhide HN3).c_clock; have cptgt_3 := (unhide HN3).c_ptgt; have crels_3 := (unhide HN3).c_rels; have cdropped_3 := (unhide HN3).c_dropped; have clost_3 := (unhide HN3).c_lost; have HX3 := hide ((hb3.block W.heap.size (lt_blk (unhide HX2))).trans (unhide HX2)); have HB3 := hide ((unhide HB2).trans (hb3.mono (unhide HB2).size)); obtain ⟨ao3, cap3, rfl⟩ := own_form ho3; have HO3 := hide ho3; clear ho3; clear hb3)
      | (go_at_call 95; refine (members_any (unhide HK) (unhide HN3)).mono ?_; rintro e w4 ⟨v4, rfl, ho4, hb4⟩; have HN4 := hide ((unhide HN3).below hb4); have cclock_4 := (unhide HN4).c_clock; have cptgt_4 := (unhide HN4).c_ptgt; have crels_4 := (unhide HN4).c_rels; have cdropped_4 := (unhide HN4).c_dropped; have clost_4 := (unhide HN4).c_lost; have HX4 := hide ((hb4.block W.heap.size (lt_blk (unhide HX3))).trans (unhide HX3)); have HB4 := hide ((unhide HB3).trans (hb4.mono (unhide HB3).size)); have HO4 := hide ho4; have HO3b := hide (own_below2 (unhide HO3) hb4); clear ho4; clear hb4)
      | (go_at_call 94; refine (keepM_any x.tab pendB 110 #[] #[] (unhide HO4) hlen1 hE3 (fun m W' _ => pend_any m W')).mono ?_; rintro e w5 ⟨v5, rfl, ho5, hb5⟩; have HN5 := hide ((unhide HN4).below hb5); have cclock_5 := (unhide HN5).c_clock; have cptgt_5 := (unhide HN5).c_ptgt; have crels_5 := (unhide HN5).c_rels; have cdropped_5 := (unhide HN5).c_dropped; have clost_5 := (unhide HN5).c_lost; have HX5 := hide ((hb5.block W.heap.size (lt_blk (unhide HX4))).trans (unhide HX4)); have HB5 := hide ((unhide HB4).trans (hb5.mono (unhide HB4).size)); obtain ⟨ao5, cap5, rfl⟩ := own_form ho5; have HO3c := hide (own_below2 (unhide HO3b) hb5); have z0 := cell_at (unhide HX5) 0; have z1 := cell_at (unhide HX5) 1; have z2 := cell_at (unhide HX5) 2; have z3 := cell_at (unhide HX5) 3; have z4 := cell_at (unhide HX5) 4; have z5 := cell_at (unhide HX5) 5; have z6 := cell_at (unhide HX5) 6; have z7 := cell_at (unhide HX5) 7; have z8 := cell_at (unhide HX5) 8; have z9 := cell_at (unhide HX5) 9; have zf := free_at (unhide HX5); simp only [List.getElem?_toArray, List.getElem?_cons_zero, List.getElem?_cons_succ] at z0 z1 z2 z3 z4 z5 z6 z7 z8 z9; clear ho5; clear hb5))
  all_goals
    go_wp2
    have hlt2 := lt_blk (unhide HX2)
    refine bodyPost_ret (v := .agg #[.int .i64 x.clock, .int .i64 O.id, .int .i64 O.inc, .int .i64 O.st, .slice ao3 x.others.length cap3, .int .i64 x.ptgt, .int .i64 (x.tab.filter pendB).length, .int .i64 x.rels.length, .int .i64 x.dropped, .int .i64 x.lost]) (by simp [results, Tryz.results76, go_sem, z0, z1, z2, z3, z4, z5, z6, z7, z8, z9]) rfl ⟨_, rfl, own_mono (ownsRow_setCell_below (ownsRow_setCell_below (ownsRow_setCell_below (ownsRow_setCell_below (ownsRow_setCell_below (ownsRow_setCell_below (ownsRow_setCell_below (ownsRow_setCell_below (ownsRow_setCell_below (ownsRow_setCell_below (unhide HO3c) (a := ⟨W.heap.size, 0, none⟩) hlt2 _) (a := ⟨W.heap.size, 1, none⟩) hlt2 _) (a := ⟨W.heap.size, 2, none⟩) hlt2 _) (a := ⟨W.heap.size, 3, none⟩) hlt2 _) (a := ⟨W.heap.size, 4, none⟩) hlt2 _) (a := ⟨W.heap.size, 5, none⟩) hlt2 _) (a := ⟨W.heap.size, 6, none⟩) hlt2 _) (a := ⟨W.heap.size, 7, none⟩) hlt2 _) (a := ⟨W.heap.size, 8, none⟩) hlt2 _) (a := ⟨W.heap.size, 9, none⟩) hlt2 _) (unhide HB2).size, ((((((((((unhide HB5).setCell (Nat.le_refl _) _).setCell (Nat.le_refl _) _).setCell (Nat.le_refl _) _).setCell (Nat.le_refl _) _).setCell (Nat.le_refl _) _).setCell (Nat.le_refl _) _).setCell (Nat.le_refl _) _).setCell (Nat.le_refl _) _).setCell (Nat.le_refl _) _).setCell (Nat.le_refl _) _⟩
end Go.Proofs.YtnneljcbelgoeaaGreatDoor.wire
/- Receive, whatever comes (P5, P7). -/
namespace Go.Proofs.YtnneljcbelgoeaaGreatDoor.wire
open Go.RowKit Go.Maps

theorem whole_parts {m : M6} (h : wholeB m = true) : isKeyB ⟨m.frm, m.inc, 1⟩ = true ∧ m.ups.length ≤ 8 ∧ allB m.ups = true := by
  simp only [wholeB, Bool.and_eq_true] at h
  obtain ⟨h1, h2, _, h4, h5⟩ := h
  refine ⟨?_, ?_, h5⟩
  · simp [isKeyB, h1, h2, isStB]
  · unfold suitsB at h4
    split at h4
    · simp at h4; omega
    · split at h4
      · simp at h4; omega
      · cases h4
theorem deeds_all {x : Nd} (hx : NdOk x) (hB : NdB Big x) (m : M6) : Deeds x m :=
  ⟨fun h => ping_any hx m h, fun h => ack_any hx m h, fun h => ask_any hx hB m h, fun h => join_any hx m h, fun h => table_any m h⟩
theorem receive_any {x : Nd} (hx : NdOk x) (hB : NdB Bg x) {nb mb : Nat} {cb : Dk} {pv rv : Value} {W : World} (hn : NAt W nb mb cb pv rv x) (l : List UInt8) (hl : l.length ≤ maxLen) :
    Calls Tryz.prog 55 #[.pointer (some ⟨nb, 0, none⟩), .string (bs l)] W fun e w' => ∃ o, e = .returned o ∧ Outs W w' o (x.receive l).1 ∧ NTo W w' nb mb cb pv rv (x.receive l).2 := by
  cases ht : takesB x.c.self l
  · exact receive_no (hB.mono (by unfold Bg Big; omega)) hn l hl ht
  · have hd : decB l = true := by simp [takesB] at ht; exact ht.1
    have hw : wholeB (readM l) = true := by simp [decB] at hd; exact hd.2
    obtain ⟨hk, hlen, hall⟩ := whole_parts hw
    have h1 := hear_ok hx _ hk
    have b1 := hear_b hB ⟨(readM l).frm, (readM l).inc, 1⟩
    have h2 := hears_ok (readM l).ups h1 hall
    have b2 := (hears_b (readM l).ups b1).mono (C := Big) (by unfold Bg Big; omega)
    exact receive_yes hx hB hn l hl ht (deeds_all h2 b2 _)
end Go.Proofs.YtnneljcbelgoeaaGreatDoor.wire
/- Nodes that have just met: all incarnations 1, all alive. No Go here. -/
namespace Go.Proofs.YtnneljcbelgoeaaGreatDoor.wire

theorem len_sub : ∀ (l m : List Int), l.Nodup → (∀ a ∈ l, a ∈ m) → l.length ≤ m.length
  | [], _, _, _ => Nat.zero_le _
  | a :: r, m, hn, hs => by
    have hm := hs a (List.mem_cons_self ..)
    have hn' := List.nodup_cons.1 hn
    have ih := len_sub r (m.erase a) hn'.2 (fun b hb => by
      have hb' := hs b (List.mem_cons_of_mem _ hb)
      have hne : b ≠ a := fun e => hn'.1 (e ▸ hb)
      exact (List.mem_erase_of_ne hne).2 hb')
    have hl := List.length_erase_of_mem hm
    have hpos := List.length_pos_of_mem hm
    simp only [List.length_cons]; omega
/-- A node that has not ticked yet. -/
structure Fresh (x : Nd) : Prop where
  clock : x.clock = 0
  pass : x.pass = []
  ptgt : x.ptgt = 0
  rels : x.rels = []
  dropped : x.dropped = 0
  dl : DlOk x.dl
structure Nice (n : Nat) (s : Int) (x : Nd) : Prop where
  ok : NdOk x
  self : x.c.self = s
  keys : ∀ m ∈ x.tab, m.k.inc = 1 ∧ m.k.st = 1 ∧ m.k.id ≤ n
  fr : Fresh x
theorem Nice.own {n : Nat} {s : Int} {x : Nd} (h : Nice n s x) : x.own = ⟨s, 1, 1⟩ := by
  obtain ⟨m, hm⟩ := h.ok.self
  have e : x.own = m.k := by simp [Nd.own, atM, hm]
  obtain ⟨h1, h2⟩ := findM_in hm
  obtain ⟨k1, k2, _⟩ := h.keys m h1
  rw [e, show m.k = ⟨m.k.id, m.k.inc, m.k.st⟩ from rfl, k1, k2, h2, h.self]
theorem Nice.left {n : Nat} {s : Int} {x : Nd} (h : Nice n s x) : x.left = false := by simp [Nd.left, h.own]
theorem Nice.len {n : Nat} {s : Int} {x : Nd} (h : Nice n s x) : x.tab.length ≤ n := by
  have := len_sub (x.tab.map fun m => m.k.id) ((List.range n).map (fun j : Nat => (j : Int) + 1)) (by
    rw [List.Nodup, List.pairwise_map]
    exact h.ok.rise.imp (fun {a b} hlt e => by omega)) (fun a ha => by
    obtain ⟨m, hm, rfl⟩ := List.mem_map.1 ha
    have k1 := (key_bounds (h.ok.keys m hm)).1
    have k2 := (h.keys m hm).2.2
    refine List.mem_map.2 ⟨(m.k.id - 1).toNat, List.mem_range.2 (by omega), by omega⟩)
  simpa using this
theorem nice_new (c : Cfg) (hc : cfgB c = true) (n : Nat) (hn : c.self ≤ n) {dl : List Int} (hdl : DlOk dl) : Nice n c.self (Nd.new c dl) := by
  have hid : isIdB c.self = true := by have := hc; simp only [cfgB, Bool.and_eq_true] at this; exact this.1
  refine ⟨⟨hc, by simp [Nd.new], by simp [Nd.new], ?_, ?_, ⟨⟨⟨c.self, 1, 1⟩, 0, 0⟩, by simp [Nd.new, findM]⟩, by simp [Nd.new], by simp [Nd.new], ⟨by simp [Nd.new], by simp [Nd.new], .inl rfl⟩⟩, rfl, ?_, ⟨rfl, rfl, rfl, rfl, rfl, hdl⟩⟩
  · intro m hm
    simp [Nd.new] at hm; subst hm
    simp only [isKeyB, Bool.and_eq_true]
    exact ⟨hid, rfl, rfl⟩
  · intro m hm; simp [Nd.new] at hm; subst hm; exact ⟨Int.le_refl 0, (by decide : (0 : Int) ≤ 8)⟩
  · intro m hm; simp [Nd.new] at hm; subst hm; exact ⟨rfl, rfl, hn⟩
theorem new_b (c : Cfg) (dl : List Int) : NdB 0 (Nd.new c dl) := ⟨⟨by simp [Nd.new], by simp [Nd.new]⟩, ⟨by simp [Nd.new], by simp [Nd.new]⟩, ⟨by simp [Nd.new], by simp [Nd.new]⟩, ⟨by simp [Nd.new], by simp [Nd.new]⟩, ⟨⟨by simp [Nd.new], by simp [Nd.new]⟩, by simp [Nd.new]⟩⟩
def Knows (j : Int) (x : Nd) : Prop := (findM j x.tab).isSome = true
theorem hear_tab {n : Nat} {s : Int} {x : Nd} (h : Nice n s x) (k : K3) (hk : k.inc = 1 ∧ k.st = 1) : (x.hear k).tab = x.tab ∨ ((x.hear k).tab = putM ⟨k, x.clock + x.c.suspect, x.c.sends⟩ x.tab ∧ findM k.id x.tab = none) := by
  unfold Nd.hear
  split
  · left; simp [Nd.hearSelf, hk.2]
  · unfold Nd.hearOther
    split
    · rename_i o ho
      obtain ⟨h1, h2⟩ := findM_in ho
      have := h.keys o h1
      left
      rw [if_neg]
      simp [greaterB, hk.1, hk.2, this.1, this.2.1]
    · rename_i ho
      split
      · left; rfl
      · right
        refine ⟨?_, ho⟩
        simp [Nd.heard, thereB, hk.2, Nd.change]
theorem hear_alive (x : Nd) (k : K3) (hk : k.st = 1) : x.hear k = x ∨ x.hear k = x.change k := by
  unfold Nd.hear
  split
  · left; simp [Nd.hearSelf, hk]
  · unfold Nd.hearOther
    split
    · split
      · right; simp [Nd.heard, thereB, hk]
      · left; rfl
    · split
      · left; rfl
      · right; simp [Nd.heard, thereB, hk]
theorem Fresh.hear {x : Nd} (h : Fresh x) (k : K3) (hk : k.st = 1) : Fresh (x.hear k) := by
  rcases hear_alive x k hk with e | e
  · rw [e]; exact h
  · rw [e]; exact ⟨h.clock, h.pass, h.ptgt, h.rels, h.dropped, h.dl⟩
theorem Nice.hear {n : Nat} {s : Int} {x : Nd} (h : Nice n s x) (k : K3) (hk : k.inc = 1 ∧ k.st = 1) (hid : 1 ≤ k.id ∧ k.id ≤ 250) (hkn : k.id ≤ n) : Nice n s (x.hear k) := by
  have hkey : isKeyB k = true := by
    simp only [isKeyB, Bool.and_eq_true]
    exact ⟨isId_mk hid.1 hid.2, isInc_mk (by omega) (by omega), isSt_mk (by omega) (by omega)⟩
  refine ⟨hear_ok h.ok k hkey, by rw [hear_c]; exact h.self, fun m hm => ?_, h.fr.hear k hk.2⟩
  rcases hear_tab h k hk with e | ⟨e, _⟩
  · rw [e] at hm; exact h.keys m hm
  · rw [e] at hm
    rcases putM_mem hm with rfl | hm
    · exact ⟨hk.1, hk.2, hkn⟩
    · exact h.keys m hm
theorem knows_hear {n : Nat} {s : Int} {x : Nd} (h : Nice n s x) (k : K3) (hk : k.inc = 1 ∧ k.st = 1) {j : Int} (hj : Knows j x) : Knows j (x.hear k) := by
  unfold Knows at *
  rcases hear_tab h k hk with e | ⟨e, _⟩
  · rw [e]; exact hj
  · rw [e, findM_putM _ _ _ h.ok.rise]
    split
    · rfl
    · exact hj
theorem knows_who {n : Nat} {s : Int} {x : Nd} (h : Nice n s x) (hn : n ≤ 7) (k : K3) (hk : k.inc = 1 ∧ k.st = 1) (hne : k.id ≠ s) : Knows k.id (x.hear k) := by
  have hl := h.len
  unfold Knows Nd.hear
  rw [if_neg (by rw [h.self]; exact hne)]
  unfold Nd.hearOther
  split
  · rename_i o ho
    obtain ⟨h1, h2⟩ := findM_in ho
    have := h.keys o h1
    rw [if_neg (by simp [greaterB, hk.1, hk.2, this.1, this.2.1])]
    rw [ho]; rfl
  · rw [if_neg (by omega)]
    simp only [Nd.heard, thereB, hk.2, decide_true, Bool.true_or, if_true, Nd.change]
    rw [findM_putM _ _ _ h.ok.rise, if_pos rfl]; rfl
theorem Nice.hears {n : Nat} {s : Int} : ∀ (l : List K3) {x : Nd}, Nice n s x → (∀ k ∈ l, (k.inc = 1 ∧ k.st = 1) ∧ (1 ≤ k.id ∧ k.id ≤ 250) ∧ k.id ≤ n) → Nice n s (x.hears l) ∧ ∀ j, Knows j x → Knows j (x.hears l)
  | [], _, h, _ => ⟨h, fun _ hj => hj⟩
  | k :: r, x, h, hl => by
    obtain ⟨h1, h2, h3⟩ := hl k (List.mem_cons_self ..)
    obtain ⟨a, b⟩ := Nice.hears r (h.hear k h1 h2 h3) (fun k' hk' => hl k' (List.mem_cons_of_mem _ hk'))
    exact ⟨a, fun j hj => b j (knows_hear h k h1 hj)⟩
/-- Its own Join. -/
def joinM (s q : Int) : M6 := ⟨4, s, 1, q, 0, []⟩
def tableM (s q : Int) (l : List K3) : M6 := ⟨5, s, 1, q, 0, l⟩
theorem join_whole {s q : Int} (hs : 1 ≤ s ∧ s ≤ 250) (hq : 0 ≤ q ∧ q ≤ 4294967295) : wholeB (joinM s q) = true := by
  simp only [wholeB, joinM, Bool.and_eq_true]
  exact ⟨isId_mk hs.1 hs.2, rfl, isSeq_mk hq.1 hq.2, rfl, rfl⟩
theorem Nice.self_id {n : Nat} {s : Int} {x : Nd} (h : Nice n s x) : 1 ≤ s ∧ s ≤ 250 := by rw [← h.self]; exact h.ok.id
theorem Nice.join {n : Nat} {s : Int} {x : Nd} (h : Nice n s x) (i : Int) (hB : NdB 100000 x) : (x.join i).1 = [⟨i, bytesM (joinM s (x.num + 1))⟩] ∧ Nice n s (x.join i).2 := by
  have hn : Nice n s { x with num := x.num + 1 } := ⟨num_ok h.ok _, h.self, h.keys, ⟨h.fr.clock, h.fr.pass, h.fr.ptgt, h.fr.rels, h.fr.dropped, h.fr.dl⟩⟩
  have hb := hB.num
  refine ⟨?_, hn⟩
  show [Pk.mk i (bytesS ⟨4, _, _, x.num + 1, 0, []⟩)] = _
  rw [hn.own]
  have := join_whole h.self_id (q := x.num + 1) (by omega)
  simp only [joinM] at this
  simp only [bytesS, this, if_true]; rfl
theorem Nice.joinErr {n : Nat} {s : Int} {x : Nd} (h : Nice n s x) (i : Int) (hi : 1 ≤ i ∧ i ≤ 250) (hne : i ≠ s) : x.joinErr i = 0 := by
  simp [Nd.joinErr, h.left, isId_mk hi.1 hi.2, h.self, hne]
theorem tab_keys {n : Nat} {s : Int} {x : Nd} (h : Nice n s x) : ∀ k ∈ x.tab.map Mem.k, (k.inc = 1 ∧ k.st = 1) ∧ (1 ≤ k.id ∧ k.id ≤ 250) ∧ k.id ≤ n := by
  intro k hk
  obtain ⟨m, hm, rfl⟩ := List.mem_map.1 hk
  obtain ⟨a, b, c⟩ := h.keys m hm
  exact ⟨⟨a, b⟩, (key_bounds (h.ok.keys m hm)).1, c⟩
theorem table_whole {n : Nat} {s : Int} {x : Nd} (h : Nice n s x) {q : Int} (hq : 0 ≤ q ∧ q ≤ 4294967295) : wholeB (tableM s q (x.tab.map Mem.k)) = true := by
  have hs := h.self_id
  simp only [wholeB, tableM, Bool.and_eq_true]
  refine ⟨isId_mk hs.1 hs.2, rfl, isSeq_mk hq.1 hq.2, ?_, ?_⟩
  · have := h.ok.len
    have e : (x.tab.map Mem.k).length = x.tab.length := by simp
    rw [e]
    simp [suitsB, lowB, highB, this]
  · unfold allB
    rw [List.all_eq_true]
    intro k hk
    obtain ⟨m, hm, rfl⟩ := List.mem_map.1 hk
    exact h.ok.keys m hm
theorem no_deeds {x : Nd} {m : M6} (h4 : m.kind = 4 → DeedOk 125 x m) (h5 : m.kind = 5 → DeedOk 126 x m) (h1 : m.kind = 1 → DeedOk 122 x m) (hk : m.kind = 1 ∨ m.kind = 4 ∨ m.kind = 5) : Deeds x m :=
  ⟨h1, fun h => by omega, fun h => by omega, h4, h5⟩
/-- Another one's Join is received. -/
theorem Nice.got_join {n : Nat} {s t : Int} {x : Nd} (h : Nice n s x) {q : Int} (hq : 0 ≤ q ∧ q ≤ 4294967295) (ht : 1 ≤ t ∧ t ≤ 250) (htn : t ≤ n) (hne : t ≠ s) (hd : decB (bytesM (joinM t q)) = true) (hr : readM (bytesM (joinM t q)) = joinM t q) :
    takesB x.c.self (bytesM (joinM t q)) = true ∧ (x.receive (bytesM (joinM t q))).2 = x.hear ⟨t, 1, 1⟩ ∧ (x.receive (bytesM (joinM t q))).1 = [⟨t, bytesM (tableM s q ((x.hear ⟨t, 1, 1⟩).tab.map Mem.k))⟩] ∧ Nice n s (x.hear ⟨t, 1, 1⟩) := by
  have hfr : (joinM t q).frm = t := rfl
  have htk : takesB x.c.self (bytesM (joinM t q)) = true := by
    unfold takesB
    rw [hd, hr, hfr, h.self]
    simp [hne]
  have hn := h.hear ⟨t, 1, 1⟩ ⟨rfl, rfl⟩ ht htn
  have e : x.receive (bytesM (joinM t q)) = ([(x.hear ⟨t, 1, 1⟩).packet t 5 q 0 ((x.hear ⟨t, 1, 1⟩).tab.map Mem.k)], x.hear ⟨t, 1, 1⟩) := by
    unfold Nd.receive
    rw [htk, hr]
    simp [joinM, Nd.hears, Nd.deed, Nd.takeJoin]
  refine ⟨htk, by rw [e], ?_, hn⟩
  rw [e]
  show [Pk.mk t (bytesS ⟨5, _, _, q, 0, _⟩)] = _
  rw [hn.own]
  have := table_whole hn hq
  simp only [tableM] at this
  simp only [bytesS, this, if_true]; rfl
/-- Another one's Table is received. -/
theorem Nice.got_table {n : Nat} {s t : Int} {x : Nd} (h : Nice n s x) (hn7 : n ≤ 7) {q : Int} {l : List K3} (hl : ∀ k ∈ l, (k.inc = 1 ∧ k.st = 1) ∧ (1 ≤ k.id ∧ k.id ≤ 250) ∧ k.id ≤ n) (ht : 1 ≤ t ∧ t ≤ 250) (htn : t ≤ n) (hne : t ≠ s) (hd : decB (bytesM (tableM t q l)) = true) (hr : readM (bytesM (tableM t q l)) = tableM t q l) :
    takesB x.c.self (bytesM (tableM t q l)) = true ∧ (x.receive (bytesM (tableM t q l))).2 = (x.hear ⟨t, 1, 1⟩).hears l ∧ (x.receive (bytesM (tableM t q l))).1 = [] ∧ Nice n s ((x.hear ⟨t, 1, 1⟩).hears l) ∧ Knows t ((x.hear ⟨t, 1, 1⟩).hears l) ∧ ∀ j, Knows j x → Knows j ((x.hear ⟨t, 1, 1⟩).hears l) := by
  have hfr : (tableM t q l).frm = t := rfl
  have htk : takesB x.c.self (bytesM (tableM t q l)) = true := by
    unfold takesB
    rw [hd, hr, hfr, h.self]
    simp [hne]
  have hn := h.hear ⟨t, 1, 1⟩ ⟨rfl, rfl⟩ ht htn
  obtain ⟨hn2, hk2⟩ := hn.hears l hl
  have e : x.receive (bytesM (tableM t q l)) = ([], (x.hear ⟨t, 1, 1⟩).hears l) := by
    unfold Nd.receive
    rw [htk, hr]
    simp [tableM, Nd.deed]
  exact ⟨htk, by rw [e], by rw [e], hn2, hk2 t (knows_who h hn7 ⟨t, 1, 1⟩ ⟨rfl, rfl⟩ hne), fun j hj => hk2 j (knows_hear h ⟨t, 1, 1⟩ ⟨rfl, rfl⟩ hj)⟩
end Go.Proofs.YtnneljcbelgoeaaGreatDoor.wire
