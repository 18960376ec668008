import Derived.Test.YtnneljcbelgoeaaGreatNFrm
import Derived.Test.YtnneljcbelgoeaaGreatLone
import Derived.BigRegion
import Derived.RegionTactic
/- The small functions of a node: self, hasLeft, isSelf, key, isPending. -/
namespace Go.Proofs.YtnneljcbelgoeaaGreat.wire
open Go.RowKit Go.Maps

theorem bdrew {B : Nat} {a w : World} (h : Below B a w) : Below B a w.drew := ⟨h.os, h.tape, h.output, h.size, h.block⟩
theorem bdrewN {B : Nat} {a w : World} (h : Below B a w) (n : Nat) : Below B a (w.drewN n) := ⟨h.os, h.tape, h.output, h.size, h.block⟩
theorem law : Keyed Tryz.prog 3 := int_keyed Tryz.underlying3
theorem zeroE (w : World) : (zeroValue 80).run Tryz.prog w = .ok (memv zeroM) w := by kernel_rfl
theorem key_wf {n : Int} (a : -9223372036854775808 ≤ n) (b : n ≤ 9223372036854775807) : keyOf Tryz.prog 3 (.int .i64 n) = some (.int .i64 n) :=
  keyOf_int_mk Tryz.underlying3 (WalkArith.wf_i64 (by omega))
/-- What a look-up finds. -/
theorem look_at {W : World} {mb n : Nat} {t : List Mem} (h : W.ownsMap Tryz.prog 3 RH mb n (tabD t)) {i : Int} (a : -9223372036854775808 ≤ i) (b : i ≤ 9223372036854775807) :
    (Instr.lookup 64 (.map (some mb)) (.int .i64 i) false).run Tryz.prog W = .ok (memv (atM i t)) W := by
  obtain ⟨v, ps, hrun, hv⟩ := h.lookup law Tryz.underlying64 (zeroE W) (zd := .held (memv zeroM)) (zp := []) rfl (key_wf a b)
  rw [tabD_at] at hv
  simp only [RH, Option.some.injEq, Prod.mk.injEq, DataW.held.injEq] at hv
  rw [hrun, hv.1]
theorem look_ok_at {W : World} {mb n : Nat} {t : List Mem} (h : W.ownsMap Tryz.prog 3 RH mb n (tabD t)) {i : Int} (a : -9223372036854775808 ≤ i) (b : i ≤ 9223372036854775807) :
    (Instr.lookup 64 (.map (some mb)) (.int .i64 i) true).run Tryz.prog W = .ok (.tuple #[memv (atM i t), .bool (findM i t).isSome]) W := by
  obtain ⟨v, ps, hrun, hv⟩ := h.look_ok law Tryz.underlying64 (zeroE W) (zd := .held (memv zeroM)) (zp := []) rfl (key_wf a b)
  rw [tabD_at] at hv
  simp only [RH, Option.some.injEq, Prod.mk.injEq, DataW.held.injEq] at hv
  rw [hrun, hv.1, tabD_has]
theorem NAt.lt {W : World} {nb mb : Nat} {cb : Dk} {pv rv : Value} {x : Nd} (h : NAt W nb mb cb pv rv x) : nb < W.heap.size := by
  rcases Nat.lt_or_ge nb W.heap.size with h' | h'
  · exact h'
  · have := h.blk; rw [Array.getElem?_eq_none h'] at this; cases this
theorem NAt.cell {W : World} {nb mb : Nat} {cb : Dk} {pv rv : Value} {x : Nd} (h : NAt W nb mb cb pv rv x) (i : Nat) (v : Value) (hv : (ndC x mb cb pv rv)[i]? = some v) : W.cell? ⟨nb, i, none⟩ = some v := by
  simp [World.cell?, h.blk, hv]
section
variable {W : World} {nb mb : Nat} {cb : Dk} {pv rv : Value} {x : Nd}
theorem NAt.c_self (h : NAt W nb mb cb pv rv x) : W.cell? ⟨nb, 0, none⟩ = some (.int .i64 x.c.self) := h.cell 0 _ rfl
theorem NAt.c_period (h : NAt W nb mb cb pv rv x) : W.cell? ⟨nb, 1, none⟩ = some (.int .i64 x.c.period) := h.cell 1 _ rfl
theorem NAt.c_wait (h : NAt W nb mb cb pv rv x) : W.cell? ⟨nb, 2, none⟩ = some (.int .i64 x.c.wait) := h.cell 2 _ rfl
theorem NAt.c_proxies (h : NAt W nb mb cb pv rv x) : W.cell? ⟨nb, 4, none⟩ = some (.int .i64 x.c.proxies) := h.cell 4 _ rfl
theorem NAt.c_draw (h : NAt W nb mb cb pv rv x) : W.cell? ⟨nb, 6, none⟩ = some cb.fn := h.cell 6 _ rfl
theorem NAt.c_pst (h : NAt W nb mb cb pv rv x) : W.cell? ⟨nb, 12, none⟩ = some (.int .i64 x.pst) := h.cell 12 _ rfl
theorem NAt.c_suspect (h : NAt W nb mb cb pv rv x) : W.cell? ⟨nb, 3, none⟩ = some (.int .i64 x.c.suspect) := h.cell 3 _ rfl
theorem NAt.c_sends (h : NAt W nb mb cb pv rv x) : W.cell? ⟨nb, 5, none⟩ = some (.int .i64 x.c.sends) := h.cell 5 _ rfl
theorem NAt.c_clock (h : NAt W nb mb cb pv rv x) : W.cell? ⟨nb, 7, none⟩ = some (.int .i64 x.clock) := h.cell 7 _ rfl
theorem NAt.c_map (h : NAt W nb mb cb pv rv x) : W.cell? ⟨nb, 8, none⟩ = some (.map (some mb)) := h.cell 8 _ rfl
theorem NAt.c_pass (h : NAt W nb mb cb pv rv x) : W.cell? ⟨nb, 9, none⟩ = some (pv) := h.cell 9 _ rfl
theorem NAt.c_ptgt (h : NAt W nb mb cb pv rv x) : W.cell? ⟨nb, 10, none⟩ = some (.int .i64 x.ptgt) := h.cell 10 _ rfl
theorem NAt.c_pnum (h : NAt W nb mb cb pv rv x) : W.cell? ⟨nb, 11, none⟩ = some (.int .i64 x.pnum) := h.cell 11 _ rfl
theorem NAt.c_pack (h : NAt W nb mb cb pv rv x) : W.cell? ⟨nb, 13, none⟩ = some (.bool x.pack) := h.cell 13 _ rfl
theorem NAt.c_rels (h : NAt W nb mb cb pv rv x) : W.cell? ⟨nb, 14, none⟩ = some (rv) := h.cell 14 _ rfl
theorem NAt.c_num (h : NAt W nb mb cb pv rv x) : W.cell? ⟨nb, 15, none⟩ = some (.int .i64 x.num) := h.cell 15 _ rfl
theorem NAt.c_evs (h : NAt W nb mb cb pv rv x) : W.cell? ⟨nb, 16, none⟩ = some (.chan (some cb.c)) := h.cell 16 _ rfl
theorem NAt.c_dropped (h : NAt W nb mb cb pv rv x) : W.cell? ⟨nb, 17, none⟩ = some (.int .i64 x.dropped) := h.cell 17 _ rfl
theorem NAt.c_lost (h : NAt W nb mb cb pv rv x) : W.cell? ⟨nb, 18, none⟩ = some (.int .i64 x.lost) := h.cell 18 _ rfl
end
theorem NdOk.id {x : Nd} (h : NdOk x) : 1 ≤ x.c.self ∧ x.c.self ≤ 250 := by
  have := h.cfg
  simp only [cfgB, Bool.and_eq_true] at this
  exact isId_of this.1
theorem field_key (a b c d e : Int) (w : World) : (Instr.field 80 (.agg #[.int .i64 a, .int .i64 b, .int .i64 c, .int .i64 d, .int .i64 e]) 0).run Tryz.prog w = .ok (.agg #[.int .i64 a, .int .i64 b, .int .i64 c]) w := by kernel_rfl
theorem field_k0 (a b c : Int) (w : World) : (Instr.field 31 (.agg #[.int .i64 a, .int .i64 b, .int .i64 c]) 0).run Tryz.prog w = .ok (.int .i64 a) w := by kernel_rfl
theorem field_k1 (a b c : Int) (w : World) : (Instr.field 31 (.agg #[.int .i64 a, .int .i64 b, .int .i64 c]) 1).run Tryz.prog w = .ok (.int .i64 b) w := by kernel_rfl
theorem field_k2 (a b c : Int) (w : World) : (Instr.field 31 (.agg #[.int .i64 a, .int .i64 b, .int .i64 c]) 2).run Tryz.prog w = .ok (.int .i64 c) w := by kernel_rfl
set_option maxHeartbeats 1000000 in
theorem self_any {x : Nd} (hx : NdOk x) {nb mb : Nat} {cb : Dk} {pv rv : Value} {W : World} (hn : NAt W nb mb cb pv rv x) :
    Calls Tryz.prog 25 #[.pointer (some ⟨nb, 0, none⟩)] W fun e w' => e = .returned (.agg #[.int .i64 x.own.id, .int .i64 x.own.inc, .int .i64 x.own.st]) ∧ Below W.heap.size W w' := by
  obtain ⟨i1, i2⟩ := hx.id
  have c0 := hn.c_self
  have c7 := hn.c_map
  have hl := fun o => look_at (hn.alloc o).map.drew (i := x.c.self) (by omega) (by omega)
  simp only [memv] at hl
  have hlt := hn.lt
  clear hn
  have hf := field_key
  go_enter Tryz.func25, Tryz.ntmps25
  go_wp2
  go_region
  all_goals go_wp2
  all_goals refine bodyPost_ret (v := kval x.own) (by simp [results, Tryz.results25, go_sem, Nd.own]) rfl ⟨rfl, bdrew ((Below.refl _ _).alloc (Nat.le_refl _) _)⟩
theorem key_any (m : Mem) (W : World) : Calls Tryz.prog 54 #[memv m] W fun e w' => e = .returned (.agg #[.int .i64 m.k.id, .int .i64 m.k.inc, .int .i64 m.k.st]) ∧ Below W.heap.size W w' := by
  go_enter Tryz.func54, Tryz.ntmps54
  go_wp2
  refine bodyPost_ret (v := kval m.k) (by simp [results, Tryz.results54, go_sem]) rfl ⟨rfl, ((Below.refl _ _).alloc (Nat.le_refl _) _).alloc (Nat.le_trans (Nat.le_refl _) (by simp)) _⟩
theorem pend_any (m : Mem) (W : World) : Calls Tryz.prog 29 #[memv m] W fun e w' => e = .returned (.bool (pendB m)) ∧ Below W.heap.size W w' := by
  go_enter Tryz.func29, Tryz.ntmps29
  go_wp2
  go_ret
  exact ⟨rfl, (Below.refl _ _).alloc (Nat.le_refl _) _⟩
theorem left_any {x : Nd} (hx : NdOk x) {nb mb : Nat} {cb : Dk} {pv rv : Value} {W : World} (hn : NAt W nb mb cb pv rv x) :
    Calls Tryz.prog 36 #[.pointer (some ⟨nb, 0, none⟩)] W fun e w' => e = .returned (.bool x.left) ∧ Below W.heap.size W w' := by
  have HS := hide (self_any hx hn)
  clear hx hn
  have hle : x.left = (x.own.st == 4) := rfl
  rw [hle]
  clear hle
  generalize x.own = k at HS ⊢
  obtain ⟨a, b, c⟩ := k
  go_enter Tryz.func36, Tryz.ntmps36
  go_wp2_with fail
  refine (unhide HS).mono ?_
  rintro e w' ⟨rfl, hb⟩
  have HB := hide hb
  clear hb HS
  have hf := field_k2
  go_wp2
  go_ret
  exact ⟨rfl, unhide HB⟩
set_option maxHeartbeats 1000000 in
theorem isSelf_any {x : Nd} {nb mb : Nat} {cb : Dk} {pv rv : Value} {W : World} (hn : NAt W nb mb cb pv rv x) (m : Mem) :
    Calls Tryz.prog 53 #[.pointer (some ⟨nb, 0, none⟩), memv m] W fun e w' => e = .returned (.bool (m.k.id == x.c.self)) ∧ Below W.heap.size W w' := by
  have c0 := hn.c_self
  have hlt := hn.lt
  clear hn
  go_enter Tryz.func53, Tryz.ntmps53
  go_wp2
  go_quiet (fail)
  go_wp2
  go_ret
  exact ⟨rfl, bdrewN ((Below.refl _ _).alloc (Nat.le_refl _) _) _⟩
end Go.Proofs.YtnneljcbelgoeaaGreat.wire
