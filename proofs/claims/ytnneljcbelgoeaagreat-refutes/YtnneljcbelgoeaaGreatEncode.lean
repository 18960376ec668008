import Derived.Test.YtnneljcbelgoeaaGreatPut
import Derived.Test.YtnneljcbelgoeaaGreatWhole
namespace Go.Proofs.YtnneljcbelgoeaaGreat.wire
open Go.RowKit

def keyBs (k : K3) : List UInt8 := [k.id].flatMap (putB 1) ++ ([k.inc].flatMap (putB 4) ++ [k.st].flatMap (putB 1))
/-- The bytes of a message. -/
def bytesM (m : M6) : List UInt8 := [m.kind, m.frm].flatMap (putB 1) ++ [m.inc, m.seq].flatMap (putB 4) ++ [m.tgt, (m.ups.length : Int)].flatMap (putB 1) ++ m.ups.flatMap keyBs
theorem whole_len {m : M6} (h : wholeB m = true) : m.ups.length ≤ 8 := by
  simp only [wholeB, Bool.and_eq_true] at h
  have h2 := h.2.2.2.1
  unfold suitsB at h2
  split at h2
  · simp at h2; omega
  · split at h2
    · simp at h2; omega
    · simp at h2
theorem KeysAt.elem {w : World} {ao : Option Addr} {n cap : Nat} {l : List K3} (h : KeysAt w (.slice ao n cap) l) (hl : 0 < l.length) : ∃ b off, ao = some ⟨b, off, none⟩ ∧ b < w.heap.size ∧ keysFrom w b off l := by
  rcases h with ⟨_, rfl⟩ | ⟨b, off, cap', hv, hlt, hc⟩
  · simp at hl
  · simp at hv
    exact ⟨b, off, hv.1, hlt, hc⟩
theorem flatK_snoc (l : List K3) (k : Nat) (h : k < l.length) : (l.take (k + 1)).flatMap keyBs = (l.take k).flatMap keyBs ++ keyBs l[k] := by
  rw [List.take_succ_eq_append_getElem h, List.flatMap_append]; simp
theorem keyBs_len (k : K3) : (keyBs k).length = 6 := by simp [keyBs, putB_len]
theorem flatK_len (l : List K3) : (l.flatMap keyBs).length = l.length * 6 := by
  induction l with
  | nil => simp
  | cons a r ih => simp only [List.flatMap_cons, List.length_append, ih, keyBs_len, List.length_cons]; omega
theorem conv_own {W : World} {base : Nat} {bo : Option Addr} {n bcap : Nat} {l : List UInt8} (h : W.ownsRow base 5 1 (.slice bo n bcap) l.length (ucells l)) (h0 : 0 < l.length) :
    (convert 91 9 (.slice bo n bcap)).run Tryz.prog W = .ok (.string (bs l)) W := by
  obtain ⟨g, cap, e, _, _⟩ := h.form h0
  simp at e
  obtain ⟨rfl, rfl, rfl⟩ := e
  refine run_convert_bytes_back W 91 9 5 ⟨g, 0, none⟩ bcap l Tryz.underlying91 Tryz.underlying5 Tryz.underlying9 fun j hj => ?_
  have hadd : (⟨g, 0, none⟩ : Addr).add j = ⟨g, j, none⟩ := by unfold Addr.add; split <;> simp_all
  rw [hadd, h.cellAt j (by omega)]
  simp [ucells, List.getElem?_eq_getElem hj]
theorem WI.alloc {b base : Nat} {W : World} {v : Value} {l : List UInt8} (h : WI b base W v l) (o : Obj) : WI b base (W.alloc o) v l :=
  ⟨(Below.heap_alloc _ _ _ (Nat.lt_of_lt_of_le h.lt h.le)).trans h.blk, h.own.alloc _, h.lt, by have := h.le; simp; omega⟩
theorem WI.far {b base : Nat} {W : World} {v : Value} {l : List UInt8} (h : WI b base W v l) : some W.heap.size ≠ v.ownBlock := fun e => by have := own_lt h.own e.symm; omega
/-- What stands while a message is written: its box is block H. -/
structure EI (H b base : Nat) (m : M6) (sl : Value) (w W : World) (v : Value) (l : List UInt8) : Prop where
  blk : W.heap[H]? = some (.cells #[.int .i64 m.kind, .int .i64 m.frm, .int .i64 m.inc, .int .i64 m.seq, .int .i64 m.tgt, sl] 29 (0, 0))
  wi : WI b base W v l
  lt : H < b
  below : Below H w W
theorem EI.put {H b base : Nat} {m : M6} {sl : Value} {w W W' : World} {v v' : Value} {l l' : List UInt8} {o : Obj} (h : EI H b base m sl w W v l) (hp : Puts b v v' (W.alloc o) W') (hw : WI b base W' v' l') : EI H b base m sl w W' v' l' := by
  have h1 := h.lt
  have h2 := h.wi.lt
  have h3 := h.wi.le
  have hne : ∀ k, k ≤ H → some k ≠ v.ownBlock := fun k hk e => by have := own_lt h.wi.own e.symm; omega
  have hb : ∀ k, k ≤ H → W'.heap[k]? = W.heap[k]? := fun k hk => (hp.block k (by simp; omega) (by omega) (hne k hk)).trans (Below.heap_alloc _ _ _ (by omega))
  refine ⟨(hb H (Nat.le_refl _)).trans h.blk, hw, h1, ⟨hp.os.trans h.below.os, hp.tape.trans h.below.tape, hp.output.trans h.below.output, ?_, fun k hk => (hb k (by omega)).trans (h.below.block k hk)⟩⟩
  have := hp.size
  have := h.below.size
  simp at *
  omega
theorem EI.alloc {H b base : Nat} {m : M6} {sl : Value} {w W : World} {v : Value} {l : List UInt8} (h : EI H b base m sl w W v l) (o : Obj) : EI H b base m sl w (W.alloc o) v l := by
  have h1 := h.lt
  have h2 := h.wi.lt
  have h3 := h.wi.le
  exact ⟨(Below.heap_alloc _ _ _ (by omega)).trans h.blk, h.wi.alloc o, h1, h.below.alloc (by omega) o⟩
theorem EI.put2 {H b base : Nat} {m : M6} {sl : Value} {w W : World} {v : Value} {l : List UInt8} (h : EI H b base m sl w W v l) (width : Nat) (a0 a1 : Int) (g : Nat) (hg : W.heap.size = g) (hw : width ≤ 4) (hl : l.length ≤ 100000) :
    Calls Tryz.prog 41 #[.pointer (some ⟨b, 0, none⟩), .int .i64 width, .slice (some ⟨g, 0, none⟩) 2 2] (W.alloc (.cells #[.int .i64 a0, .int .i64 a1] 3)) fun e w' => e = .returned (.tuple #[]) ∧ ∃ v', EI H b base m sl w w' v' (l ++ [a0, a1].flatMap (putB width)) := by
  subst hg
  have h1 := h.wi.lt
  have h2 := h.wi.le
  refine (put_any b base W.heap.size 2 width [a0, a1] l v _ (h.wi.alloc _) hw (by simp) hl (by simp) (by omega) h.wi.far ?_).mono ?_
  · intro i hi
    rw [cell_at (heap_alloc_new _ _)]
    match i, hi with
    | 0, _ => rfl
    | 1, _ => rfl
  · rintro e w' ⟨rfl, v', hwi, hp⟩
    exact ⟨rfl, v', h.put hp hwi⟩
/-- The same with a key's variable, in block kv. -/
structure EK (H b base kv : Nat) (m : M6) (k : K3) (sl : Value) (w W : World) (v : Value) (l : List UInt8) : Prop where
  ei : EI H b base m sl w W v l
  bk : W.heap[kv]? = some (.cells #[.int .i64 k.id, .int .i64 k.inc, .int .i64 k.st] 31 (0, 0))
  ne : kv ≠ b
  far : some kv ≠ v.ownBlock
theorem EI.var {H b base : Nat} {m : M6} {sl : Value} {w W : World} {v : Value} {l : List UInt8} (h : EI H b base m sl w W v l) (k : K3) : EK H b base W.heap.size m k sl w (W.alloc (.cells #[.int .i64 k.id, .int .i64 k.inc, .int .i64 k.st] 31)) v l :=
  ⟨h.alloc _, heap_alloc_new _ _, by have := h.wi.lt; have := h.wi.le; omega, h.wi.far⟩
theorem EK.put1 {H b base kv : Nat} {m : M6} {k : K3} {sl : Value} {w W : World} {v : Value} {l : List UInt8} (h : EK H b base kv m k sl w W v l) (width : Nat) (a0 : Int) (g : Nat) (hg : W.heap.size = g) (hw : width ≤ 4) (hl : l.length ≤ 100000) :
    Calls Tryz.prog 41 #[.pointer (some ⟨b, 0, none⟩), .int .i64 width, .slice (some ⟨g, 0, none⟩) 1 1] (W.alloc (.cells #[.int .i64 a0] 3)) fun e w' => e = .returned (.tuple #[]) ∧ ∃ v', EK H b base kv m k sl w w' v' (l ++ [a0].flatMap (putB width)) := by
  subst hg
  have h1 := h.ei.wi.lt
  have h2 := h.ei.wi.le
  have h3 := lt_of_block h.bk
  refine (put_any b base W.heap.size 1 width [a0] l v _ (h.ei.wi.alloc _) hw (by simp) hl (by simp) (by omega) h.ei.wi.far ?_).mono ?_
  · intro i hi
    rw [cell_at (heap_alloc_new _ _)]
    match i, hi with
    | 0, _ => rfl
  · rintro e w' ⟨rfl, v', hwi, hp⟩
    refine ⟨rfl, v', h.ei.put hp hwi, ?_, h.ne, ?_⟩
    · rw [hp.block kv (by simp; omega) h.ne h.far, Below.heap_alloc _ _ _ h3]
      exact h.bk
    · rcases hp.lies with e | ⟨g, e, hg⟩
      · rw [e]; exact h.far
      · rw [e]; intro e'; simp at e' hg; omega
set_option maxRecDepth 100000 in
set_option maxHeartbeats 4000000 in
theorem encode_no (m : M6) (v : Value) (w : World) (hv : KeysAt w v m.ups) (hl : m.ups.length ≤ 1000000) (hm : wholeB m = false) :
    Calls Tryz.prog 21 #[mval m v] w fun e w' => e = .returned (.tuple #[.string ⟨#[]⟩, .iface 86 (.int .i64 2)]) ∧ Below w.heap.size w w' := by
  obtain ⟨ao, cap, rfl⟩ := hv.form
  have HM := hide hm
  have HV := hide hv
  clear hm hv
  go_enter Tryz.func21, Tryz.ntmps21
  go_wp2_with fail
  refine (whole_any m _ _ ((unhide HV).below ((Below.refl _ _).alloc (Nat.le_refl _) _)) hl).mono ?_
  rw [unhide HM]
  rintro e w1 ⟨rfl, hb⟩
  have HB := hide hb
  clear hb
  go_wp2
  go_ret2
  exact ⟨rfl, ((Below.refl _ _).alloc (Nat.le_refl _) _).trans ((unhide HB).mono (by simp))⟩
set_option maxRecDepth 100000 in
set_option maxHeartbeats 4000000 in
theorem encode_yes (m : M6) (v : Value) (w : World) (hv : KeysAt w v m.ups) (hm : wholeB m = true) :
    Calls Tryz.prog 21 #[mval m v] w fun e w' => e = .returned (.tuple #[.string (bs (bytesM m)), .nilIface]) ∧ Below w.heap.size w w' := by
  have hl : m.ups.length ≤ 8 := whole_len hm
  obtain ⟨ao, cap, rfl⟩ := hv.form
  have HM := hide hm
  have HV := hide hv
  clear hm hv
  go_enter Tryz.func21, Tryz.ntmps21
  go_wp2_with fail
  refine (whole_any m _ _ ((unhide HV).below ((Below.refl _ _).alloc (Nat.le_refl _) _)) (by omega)).mono ?_
  rw [unhide HM]
  rintro e w1 ⟨rfl, hb⟩
  have hz := hb.size
  simp at hz
  have E0 : EI w.heap.size w1.heap.size (w1.heap.size + 1) m (.slice ao m.ups.length cap) w (w1.alloc (.cells #[.slice none 0 0] 93)) (.slice none 0 0) [] := by
    refine ⟨?_, ⟨heap_alloc_new _ _, World.ownsRow_nil _ _ _ _, by omega, by simp⟩, by omega, ?_⟩
    · rw [Below.heap_alloc _ _ _ (by omega), hb.block _ (by simp)]
      exact heap_alloc_new _ _
    · exact (((Below.refl _ _).alloc (Nat.le_refl _) _).trans (hb.mono (by simp))).alloc (by omega) _
  have m0 : w1.cell? ⟨w.heap.size, 0, none⟩ = some (.int .i64 m.kind) := (hb.cell (p := ⟨w.heap.size, 0, none⟩) (by simp)).trans (by simp [go_sem])
  have m1 : w1.cell? ⟨w.heap.size, 1, none⟩ = some (.int .i64 m.frm) := (hb.cell (p := ⟨w.heap.size, 1, none⟩) (by simp)).trans (by simp [go_sem])
  have hz1 : w.heap.size < w1.heap.size := by omega
  clear hb
  go_wp2_with fail
  refine (E0.put2 1 m.kind m.frm _ (by simp) (by omega) (by simp)).mono ?_
  clear m0 m1
  rintro e W1 ⟨rfl, v1, E1⟩
  have c2 : W1.cell? ⟨w.heap.size, 2, none⟩ = some (.int .i64 m.inc) := cell_at E1.blk 2
  have c3 : W1.cell? ⟨w.heap.size, 3, none⟩ = some (.int .i64 m.seq) := cell_at E1.blk 3
  go_wp2_with fail
  clear c2 c3
  refine (E1.put2 4 m.inc m.seq _ rfl (by omega) (by simp [putB_len])).mono ?_
  rintro e W2 ⟨rfl, v2, E2⟩
  have c4 : W2.cell? ⟨w.heap.size, 4, none⟩ = some (.int .i64 m.tgt) := cell_at E2.blk 4
  have c5 : W2.cell? ⟨w.heap.size, 5, none⟩ = some (.slice ao m.ups.length cap) := cell_at E2.blk 5
  go_wp2_with fail
  clear c4 c5
  refine (E2.put2 1 m.tgt (m.ups.length : Int) _ rfl (by omega) (by simp [putB_len])).mono ?_
  rintro e W3 ⟨rfl, v3, E3⟩
  have c5 : W3.cell? ⟨w.heap.size, 5, none⟩ = some (.slice ao m.ups.length cap) := cell_at E3.blk 5
  go_wp2_with fail
  clear c5 E0 E1 E2
  generalize hL : [] ++ List.flatMap (putB 1) [m.kind, m.frm] ++ List.flatMap (putB 4) [m.inc, m.seq] ++ List.flatMap (putB 1) [m.tgt, (m.ups.length : Int)] = L at E3
  have hLl : L.length = 12 := by rw [← hL]; simp [putB_len]
  have HL := hide hL
  clear hL
  go_loopw [33] (fun i wr => ∃ (k : Nat) (v' : Value), k ≤ m.ups.length ∧ i = .int .i64 k ∧ EI w.heap.size w1.heap.size (w1.heap.size + 1) m (.slice ao m.ups.length cap) w wr v' (L ++ (m.ups.take k).flatMap keyBs)) (fun i _ => m.ups.length - (intOf i).toNat)
  case atStart => exact ⟨0, v3, Nat.zero_le _, rfl, by simpa using E3⟩
  case round =>
    obtain ⟨k, v', hk, rfl, E4⟩ := hrel
    clear E3
    by_cases hlt : k < m.ups.length
    · obtain ⟨kb, koff, rfl, hkb, hkf⟩ := (unhide HV).elem (by omega)
      obtain ⟨d0, d1, d2⟩ := hkf k hlt
      have c0 := (E4.below.cell (p := ⟨kb, koff + k * 3, none⟩) hkb).trans d0
      have c1 := (E4.below.cell (p := ⟨kb, koff + k * 3 + 1, none⟩) hkb).trans d1
      have c2 := (E4.below.cell (p := ⟨kb, koff + k * 3 + 2, none⟩) hkb).trans d2
      clear d0 d1 d2 hkf
      have hkl : ((m.ups.take k).flatMap keyBs).length ≤ 48 := by rw [flatK_len]; simp; omega
      generalize hK : m.ups[k] = K at c0 c1 c2
      have HK := hide hK
      clear hK
      have S0 := E4.var K
      have HE4 := hide E4
      clear E4
      go_wp2_with fail
      clear c0 c1 c2
      refine (S0.put1 1 K.id _ (by simp) (by omega) (by rw [List.length_append]; omega)).mono ?_
      rintro e W4 ⟨rfl, v4, S1⟩
      generalize wr.heap.size = kv at S1 ⊢
      clear S0
      have c1 : W4.cell? ⟨kv, 1, none⟩ = some (.int .i64 K.inc) := cell_at S1.bk 1
      go_wp2_with fail
      clear c1
      refine (S1.put1 4 K.inc _ rfl (by omega) (by simp only [List.length_append, flat_len, List.length_singleton]; omega)).mono ?_
      rintro e W5 ⟨rfl, v5, S2⟩
      clear S1
      have c2 : W5.cell? ⟨kv, 2, none⟩ = some (.int .i64 K.st) := cell_at S2.bk 2
      go_wp2_with fail
      clear c2
      refine (S2.put1 1 K.st _ rfl (by omega) (by simp only [List.length_append, flat_len, List.length_singleton]; omega)).mono ?_
      rintro e W6 ⟨rfl, v6, S3⟩
      clear S2
      have HS := hide S3.ei
      clear S3
      go_wp2
      go_roundw
      case rel =>
        refine ⟨k + 1, v6, by omega, by go_num, ?_⟩
        rw [flatK_snoc m.ups k hlt, unhide HK]
        have h := unhide HS
        simp only [keyBs, List.append_assoc] at h ⊢
        exact h
      case measure => simp [intOf]; omega
    · have e : k = m.ups.length := by omega
      have hE := E4
      rw [e, List.take_length] at hE
      have hc : wr.cell? ⟨w1.heap.size, 0, none⟩ = some v' := cell_of_one E4.wi.blk
      obtain ⟨bo, bcap, rfl⟩ := own_form hE.wi.own
      have hbM : bs (L ++ m.ups.flatMap keyBs) = bs (bytesM m) := by rw [← unhide HL]; simp [bytesM]
      have hconv : (convert 91 9 (.slice bo (L ++ m.ups.flatMap keyBs).length bcap)).run Tryz.prog wr = .ok (.string (bs (bytesM m))) wr := by rw [← hbM]; exact conv_own hE.wi.own (by rw [List.length_append]; omega)
      have hbel := hide hE.below
      have HBM := hide hbM
      clear hE E4 hbM e
      generalize hN : (L ++ m.ups.flatMap keyBs).length = N at hconv hc ⊢
      clear hN
      go_wp2
      go_ret2
      exact ⟨rfl, unhide hbel⟩
end Go.Proofs.YtnneljcbelgoeaaGreat.wire
