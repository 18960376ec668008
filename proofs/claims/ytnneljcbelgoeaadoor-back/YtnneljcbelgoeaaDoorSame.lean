import Derived.Test.YtnneljcbelgoeaaDoorEncode
import Derived.Deep.QuietTactic
import Derived.BigQuiet
import Derived.Laws.StructEq
namespace Go.Proofs.YtnneljcbelgoeaaDoor.wire
open Go.RowKit
theorem below_draws {B : Nat} {x w : World} (h : Below B x w) (n : Nat) : Below B x (w.drewN n) := ⟨h.os, h.tape, h.output, h.size, h.block⟩
set_option maxRecDepth 100000 in
set_option maxHeartbeats 1000000 in
theorem same_any (m : M6) (v v' : Value) (w : World) (hv : KeysAt w v m.ups) (hv' : KeysAt w v' m.ups) (hl : m.ups.length ≤ 1000) :
    Calls Tryd.prog 9 #[mval m v, mval m v'] w fun e w' => e = .returned (.bool true) ∧ Below w.heap.size w w' := by
  obtain ⟨ao, cap, rfl⟩ := hv.form
  obtain ⟨ao', cap', rfl⟩ := hv'.form
  have HV := hide hv
  have HV' := hide hv'
  clear hv hv'
  have e1 : (m.kind != m.kind) = false := by simp
  have e2 : (m.frm != m.frm) = false := by simp
  have e3 : (m.inc != m.inc) = false := by simp
  have e4 : (m.seq != m.seq) = false := by simp
  have e5 : (m.tgt != m.tgt) = false := by simp
  go_enter Tryd.func9, Tryd.ntmps9
  go_wp2_with fail
  go_loopw [5] (fun i wr => ∃ k : Nat, k ≤ m.ups.length ∧ i = .int .i64 k ∧ Below (w.heap.size + 2) ((w.alloc (.cells #[.int .i64 m.kind, .int .i64 m.frm, .int .i64 m.inc, .int .i64 m.seq, .int .i64 m.tgt, .slice ao m.ups.length cap] 25)).alloc (.cells #[.int .i64 m.kind, .int .i64 m.frm, .int .i64 m.inc, .int .i64 m.seq, .int .i64 m.tgt, .slice ao' m.ups.length cap'] 25)) wr) (fun i _ => m.ups.length - (intOf i).toNat)
  case atStart => exact ⟨0, Nat.zero_le _, rfl, Below.refl _ _⟩
  case round =>
    obtain ⟨k, hk, rfl, hbel⟩ := hrel
    have c5 : wr.cell? ⟨w.heap.size, 5, none⟩ = some (.slice ao m.ups.length cap) := by rw [hbel.cell (p := ⟨w.heap.size, 5, none⟩) (by simp)]; simp [go_sem]
    have d5 : wr.cell? ⟨w.heap.size + 1, 5, none⟩ = some (.slice ao' m.ups.length cap') := by rw [hbel.cell (p := ⟨w.heap.size + 1, 5, none⟩) (by simp)]; simp [go_sem]
    by_cases hlt : k < m.ups.length
    · have hkm : (k : Int) < (m.ups.length : Int) := by omega
      obtain ⟨b, off, rfl, hb, hc⟩ := (unhide HV).elem (by omega)
      obtain ⟨b', off', rfl, hb', hc'⟩ := (unhide HV').elem (by omega)
      obtain ⟨x0, x1, x2⟩ := hc k hlt
      obtain ⟨y0, y1, y2⟩ := hc' k hlt
      have hold : ∀ a : Addr, a.block < w.heap.size → wr.cell? a = w.cell? a := fun a ha => by
        rw [hbel.cell (p := a) (by omega), World.cell?_alloc_lt _ _ a (by simp; omega), World.cell?_alloc_lt _ _ a ha]
      have p0 := (hold ⟨b, off + k * 3, none⟩ hb).trans x0
      have p1 := (hold ⟨b, off + k * 3 + 1, none⟩ hb).trans x1
      have p2 := (hold ⟨b, off + k * 3 + 2, none⟩ hb).trans x2
      have q0 := (hold ⟨b', off' + k * 3, none⟩ hb').trans y0
      have q1 := (hold ⟨b', off' + k * 3 + 1, none⟩ hb').trans y1
      have q2 := (hold ⟨b', off' + k * 3 + 2, none⟩ hb').trans y2
      clear hold x0 x1 x2 y0 y1 y2 hc hc'
      have HB := hide hbel
      clear hbel
      go_wp2_with fail
      go_quiet (fail)
      go_wp2
      go_roundw
      case rel => exact ⟨k + 1, by omega, by go_num, below_draws (unhide HB) _⟩
      case measure => simp [intOf]; omega
    · go_wp2
      go_ret
      refine ⟨rfl, ?_⟩
      exact (((Below.refl _ _).alloc (Nat.le_refl _) _).alloc (by simp) _).trans (hbel.mono (by omega))
end Go.Proofs.YtnneljcbelgoeaaDoor.wire
