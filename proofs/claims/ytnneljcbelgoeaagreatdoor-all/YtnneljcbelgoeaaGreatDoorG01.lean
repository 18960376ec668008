import Derived.Test.YtnneljcbelgoeaaGreatDoorG00
import Derived.Sort.Defs
import Derived.Maps.OwnSet
import Derived.Maps.OwnOps
import Derived.Lib.SlKeysI
import Derived.Conc.LoneSelect
import Derived.OwnWalk
import Derived.Deep.Heap
import Derived.WalkKit
import Derived.BigRegion
import Derived.RegionTactic
import Derived.StillTailTactics
namespace Go.Proofs.YtnneljcbelgoeaaGreatDoor.wire
open Go.RowKit

def keyBs (k : K3) : List UInt8 := [k.id].flatMap (putB 1) ++ ([k.inc].flatMap (putB 4) ++ [k.st].flatMap (putB 1))
/-- The bytes of a message. -/
def bytesM (m : M6) : List UInt8 := [m.kind, m.frm].flatMap (putB 1) ++ [m.inc, m.seq].flatMap (putB 4) ++ [m.tgt, (m.ups.length : Int)].flatMap (putB 1) ++ m.ups.flatMap keyBs
theorem whole_len {m : M6} (h : wholeB m = true) : m.ups.length ≤ 8 := by
  simp only [wholeB, Bool.and_eq_true] at h
  have h2 := h.2.2.2.1
  unfold suitsB at h2
  split at h2
  · simp at h2; omega
  · split at h2
    · simp at h2; omega
    · simp at h2
theorem KeysAt.elem {w : World} {ao : Option Addr} {n cap : Nat} {l : List K3} (h : KeysAt w (.slice ao n cap) l) (hl : 0 < l.length) : ∃ b off, ao = some ⟨b, off, none⟩ ∧ b < w.heap.size ∧ keysFrom w b off l := by
  rcases h with ⟨_, rfl⟩ | ⟨b, off, cap', hv, hlt, hc⟩
  · simp at hl
  · simp at hv
    exact ⟨b, off, hv.1, hlt, hc⟩
theorem flatK_snoc (l : List K3) (k : Nat) (h : k < l.length) : (l.take (k + 1)).flatMap keyBs = (l.take k).flatMap keyBs ++ keyBs l[k] := by
  rw [List.take_succ_eq_append_getElem h, List.flatMap_append]; simp
theorem keyBs_len (k : K3) : (keyBs k).length = 6 := by simp [keyBs, putB_len]
theorem flatK_len (l : List K3) : (l.flatMap keyBs).length = l.length * 6 := by
  induction l with
  | nil => simp
  | cons a r ih => simp only [List.flatMap_cons, List.length_append, ih, keyBs_len, List.length_cons]; omega
theorem conv_own {W : World} {base : Nat} {bo : Option Addr} {n bcap : Nat} {l : List UInt8} (h : W.ownsRow base 5 1 (.slice bo n bcap) l.length (ucells l)) (h0 : 0 < l.length) :
    (convert 56 9 (.slice bo n bcap)).run Tryz.prog W = .ok (.string (bs l)) W := by
  obtain ⟨g, cap, e, _, _⟩ := h.form h0
  simp at e
  obtain ⟨rfl, rfl, rfl⟩ := e
  refine run_convert_bytes_back W 56 9 5 ⟨g, 0, none⟩ bcap l Tryz.underlying56 Tryz.underlying5 Tryz.underlying9 fun j hj => ?_
  have hadd : (⟨g, 0, none⟩ : Addr).add j = ⟨g, j, none⟩ := by unfold Addr.add; split <;> simp_all
  rw [hadd, h.cellAt j (by omega)]
  simp [ucells, List.getElem?_eq_getElem hj]
theorem WI.alloc {b base : Nat} {W : World} {v : Value} {l : List UInt8} (h : WI b base W v l) (o : Obj) : WI b base (W.alloc o) v l :=
  ⟨(Below.heap_alloc _ _ _ (Nat.lt_of_lt_of_le h.lt h.le)).trans h.blk, h.own.alloc _, h.lt, by have := h.le; simp; omega⟩
theorem WI.far {b base : Nat} {W : World} {v : Value} {l : List UInt8} (h : WI b base W v l) : some W.heap.size ≠ v.ownBlock := fun e => by have := own_lt h.own e.symm; omega
/-- What stands while a message is written: its box is block H. -/
structure EI (H b base : Nat) (m : M6) (sl : Value) (w W : World) (v : Value) (l : List UInt8) : Prop where
  blk : W.heap[H]? = some (.cells #[.int .i64 m.kind, .int .i64 m.frm, .int .i64 m.inc, .int .i64 m.seq, .int .i64 m.tgt, sl] 68 (0, 0))
  wi : WI b base W v l
  lt : H < b
  below : Below H w W
theorem EI.put {H b base : Nat} {m : M6} {sl : Value} {w W W' : World} {v v' : Value} {l l' : List UInt8} {o : Obj} (h : EI H b base m sl w W v l) (hp : Puts b v v' (W.alloc o) W') (hw : WI b base W' v' l') : EI H b base m sl w W' v' l' := by
  have h1 := h.lt
  have h2 := h.wi.lt
  have h3 := h.wi.le
  have hne : ∀ k, k ≤ H → some k ≠ v.ownBlock := fun k hk e => by have := own_lt h.wi.own e.symm; omega
  have hb : ∀ k, k ≤ H → W'.heap[k]? = W.heap[k]? := fun k hk => (hp.block k (by simp; omega) (by omega) (hne k hk)).trans (Below.heap_alloc _ _ _ (by omega))
  refine ⟨(hb H (Nat.le_refl _)).trans h.blk, hw, h1, ⟨hp.os.trans h.below.os, hp.tape.trans h.below.tape, hp.output.trans h.below.output, ?_, fun k hk => (hb k (by omega)).trans (h.below.block k hk)⟩⟩
  have := hp.size
  have := h.below.size
  simp at *
  omega
theorem EI.alloc {H b base : Nat} {m : M6} {sl : Value} {w W : World} {v : Value} {l : List UInt8} (h : EI H b base m sl w W v l) (o : Obj) : EI H b base m sl w (W.alloc o) v l := by
  have h1 := h.lt
  have h2 := h.wi.lt
  have h3 := h.wi.le
  exact ⟨(Below.heap_alloc _ _ _ (by omega)).trans h.blk, h.wi.alloc o, h1, h.below.alloc (by omega) o⟩
theorem EI.put2 {H b base : Nat} {m : M6} {sl : Value} {w W : World} {v : Value} {l : List UInt8} (h : EI H b base m sl w W v l) (width : Nat) (a0 a1 : Int) (g : Nat) (hg : W.heap.size = g) (hw : width ≤ 4) (hl : l.length ≤ 100000) :
    Calls Tryz.prog 78 #[.pointer (some ⟨b, 0, none⟩), .int .i64 width, .slice (some ⟨g, 0, none⟩) 2 2] (W.alloc (.cells #[.int .i64 a0, .int .i64 a1] 3)) fun e w' => e = .returned (.tuple #[]) ∧ ∃ v', EI H b base m sl w w' v' (l ++ [a0, a1].flatMap (putB width)) := by
  subst hg
  have h1 := h.wi.lt
  have h2 := h.wi.le
  refine (put_any b base W.heap.size 2 width [a0, a1] l v _ (h.wi.alloc _) hw (by simp) hl (by simp) (by omega) h.wi.far ?_).mono ?_
  · intro i hi
    rw [cell_at (heap_alloc_new _ _)]
    match i, hi with
    | 0, _ => rfl
    | 1, _ => rfl
  · rintro e w' ⟨rfl, v', hwi, hp⟩
    exact ⟨rfl, v', h.put hp hwi⟩
/-- The same with a key's variable, in block kv. -/
structure EK (H b base kv : Nat) (m : M6) (k : K3) (sl : Value) (w W : World) (v : Value) (l : List UInt8) : Prop where
  ei : EI H b base m sl w W v l
  bk : W.heap[kv]? = some (.cells #[.int .i64 k.id, .int .i64 k.inc, .int .i64 k.st] 76 (0, 0))
  ne : kv ≠ b
  far : some kv ≠ v.ownBlock
theorem EI.var {H b base : Nat} {m : M6} {sl : Value} {w W : World} {v : Value} {l : List UInt8} (h : EI H b base m sl w W v l) (k : K3) : EK H b base W.heap.size m k sl w (W.alloc (.cells #[.int .i64 k.id, .int .i64 k.inc, .int .i64 k.st] 76)) v l :=
  ⟨h.alloc _, heap_alloc_new _ _, by have := h.wi.lt; have := h.wi.le; omega, h.wi.far⟩
theorem EK.put1 {H b base kv : Nat} {m : M6} {k : K3} {sl : Value} {w W : World} {v : Value} {l : List UInt8} (h : EK H b base kv m k sl w W v l) (width : Nat) (a0 : Int) (g : Nat) (hg : W.heap.size = g) (hw : width ≤ 4) (hl : l.length ≤ 100000) :
    Calls Tryz.prog 78 #[.pointer (some ⟨b, 0, none⟩), .int .i64 width, .slice (some ⟨g, 0, none⟩) 1 1] (W.alloc (.cells #[.int .i64 a0] 3)) fun e w' => e = .returned (.tuple #[]) ∧ ∃ v', EK H b base kv m k sl w w' v' (l ++ [a0].flatMap (putB width)) := by
  subst hg
  have h1 := h.ei.wi.lt
  have h2 := h.ei.wi.le
  have h3 := lt_of_block h.bk
  refine (put_any b base W.heap.size 1 width [a0] l v _ (h.ei.wi.alloc _) hw (by simp) hl (by simp) (by omega) h.ei.wi.far ?_).mono ?_
  · intro i hi
    rw [cell_at (heap_alloc_new _ _)]
    match i, hi with
    | 0, _ => rfl
  · rintro e w' ⟨rfl, v', hwi, hp⟩
    refine ⟨rfl, v', h.ei.put hp hwi, ?_, h.ne, ?_⟩
    · rw [hp.block kv (by simp; omega) h.ne h.far, Below.heap_alloc _ _ _ h3]
      exact h.bk
    · rcases hp.lies with e | ⟨g, e, hg⟩
      · rw [e]; exact h.far
      · rw [e]; intro e'; simp at e' hg; omega
set_option maxRecDepth 100000 in
set_option maxHeartbeats 4000000 in
theorem encode_no (m : M6) (v : Value) (w : World) (hv : KeysAt w v m.ups) (hl : m.ups.length ≤ 1000000) (hm : wholeB m = false) :
    Calls Tryz.prog 45 #[mval m v] w fun e w' => e = .returned (.tuple #[.string ⟨#[]⟩, .iface 108 (.int .i64 2)]) ∧ Below w.heap.size w w' := by
  obtain ⟨ao, cap, rfl⟩ := hv.form
  have HM := hide hm
  have HV := hide hv
  clear hm hv
  go_enter Tryz.func45, Tryz.ntmps45
  go_wp2_with fail
  refine (whole_any m _ _ ((unhide HV).below ((Below.refl _ _).alloc (Nat.le_refl _) _)) hl).mono ?_
  rw [unhide HM]
  rintro e w1 ⟨rfl, hb⟩
  have HB := hide hb
  clear hb
  go_wp2
  go_ret2
  exact ⟨rfl, ((Below.refl _ _).alloc (Nat.le_refl _) _).trans ((unhide HB).mono (by simp))⟩
set_option maxRecDepth 100000 in
set_option maxHeartbeats 4000000 in
theorem encode_yes (m : M6) (v : Value) (w : World) (hv : KeysAt w v m.ups) (hm : wholeB m = true) :
    Calls Tryz.prog 45 #[mval m v] w fun e w' => e = .returned (.tuple #[.string (bs (bytesM m)), .nilIface]) ∧ Below w.heap.size w w' := by
  have hl : m.ups.length ≤ 8 := whole_len hm
  obtain ⟨ao, cap, rfl⟩ := hv.form
  have HM := hide hm
  have HV := hide hv
  clear hm hv
  go_enter Tryz.func45, Tryz.ntmps45
  go_wp2_with fail
  refine (whole_any m _ _ ((unhide HV).below ((Below.refl _ _).alloc (Nat.le_refl _) _)) (by omega)).mono ?_
  rw [unhide HM]
  rintro e w1 ⟨rfl, hb⟩
  have hz := hb.size
  simp at hz
  have E0 : EI w.heap.size w1.heap.size (w1.heap.size + 1) m (.slice ao m.ups.length cap) w (w1.alloc (.cells #[.slice none 0 0] 141)) (.slice none 0 0) [] := by
    refine ⟨?_, ⟨heap_alloc_new _ _, World.ownsRow_nil _ _ _ _, by omega, by simp⟩, by omega, ?_⟩
    · rw [Below.heap_alloc _ _ _ (by omega), hb.block _ (by simp)]
      exact heap_alloc_new _ _
    · exact (((Below.refl _ _).alloc (Nat.le_refl _) _).trans (hb.mono (by simp))).alloc (by omega) _
  have m0 : w1.cell? ⟨w.heap.size, 0, none⟩ = some (.int .i64 m.kind) := (hb.cell (p := ⟨w.heap.size, 0, none⟩) (by simp)).trans (by simp [go_sem])
  have m1 : w1.cell? ⟨w.heap.size, 1, none⟩ = some (.int .i64 m.frm) := (hb.cell (p := ⟨w.heap.size, 1, none⟩) (by simp)).trans (by simp [go_sem])
  have hz1 : w.heap.size < w1.heap.size := by omega
  clear hb
  go_wp2_with fail
  refine (E0.put2 1 m.kind m.frm _ (by simp) (by omega) (by simp)).mono ?_
  clear m0 m1
  rintro e W1 ⟨rfl, v1, E1⟩
  have c2 : W1.cell? ⟨w.heap.size, 2, none⟩ = some (.int .i64 m.inc) := cell_at E1.blk 2
  have c3 : W1.cell? ⟨w.heap.size, 3, none⟩ = some (.int .i64 m.seq) := cell_at E1.blk 3
  go_wp2_with fail
  clear c2 c3
  refine (E1.put2 4 m.inc m.seq _ rfl (by omega) (by simp [putB_len])).mono ?_
  rintro e W2 ⟨rfl, v2, E2⟩
  have c4 : W2.cell? ⟨w.heap.size, 4, none⟩ = some (.int .i64 m.tgt) := cell_at E2.blk 4
  have c5 : W2.cell? ⟨w.heap.size, 5, none⟩ = some (.slice ao m.ups.length cap) := cell_at E2.blk 5
  go_wp2_with fail
  clear c4 c5
  refine (E2.put2 1 m.tgt (m.ups.length : Int) _ rfl (by omega) (by simp [putB_len])).mono ?_
  rintro e W3 ⟨rfl, v3, E3⟩
  have c5 : W3.cell? ⟨w.heap.size, 5, none⟩ = some (.slice ao m.ups.length cap) := cell_at E3.blk 5
  go_wp2_with fail
  clear c5 E0 E1 E2
  generalize hL : [] ++ List.flatMap (putB 1) [m.kind, m.frm] ++ List.flatMap (putB 4) [m.inc, m.seq] ++ List.flatMap (putB 1) [m.tgt, (m.ups.length : Int)] = L at E3
  have hLl : L.length = 12 := by rw [← hL]; simp [putB_len]
  have HL := hide hL
  clear hL
  go_loopw [33] (fun i wr => ∃ (k : Nat) (v' : Value), k ≤ m.ups.length ∧ i = .int .i64 k ∧ EI w.heap.size w1.heap.size (w1.heap.size + 1) m (.slice ao m.ups.length cap) w wr v' (L ++ (m.ups.take k).flatMap keyBs)) (fun i _ => m.ups.length - (intOf i).toNat)
  case atStart => exact ⟨0, v3, Nat.zero_le _, rfl, by simpa using E3⟩
  case round =>
    obtain ⟨k, v', hk, rfl, E4⟩ := hrel
    clear E3
    by_cases hlt : k < m.ups.length
    · obtain ⟨kb, koff, rfl, hkb, hkf⟩ := (unhide HV).elem (by omega)
      obtain ⟨d0, d1, d2⟩ := hkf k hlt
      have c0 := (E4.below.cell (p := ⟨kb, koff + k * 3, none⟩) hkb).trans d0
      have c1 := (E4.below.cell (p := ⟨kb, koff + k * 3 + 1, none⟩) hkb).trans d1
      have c2 := (E4.below.cell (p := ⟨kb, koff + k * 3 + 2, none⟩) hkb).trans d2
      clear d0 d1 d2 hkf
      have hkl : ((m.ups.take k).flatMap keyBs).length ≤ 48 := by rw [flatK_len]; simp; omega
      generalize hK : m.ups[k] = K at c0 c1 c2
      have HK := hide hK
      clear hK
      have S0 := E4.var K
      have HE4 := hide E4
      clear E4
      go_wp2_with fail
      clear c0 c1 c2
      refine (S0.put1 1 K.id _ (by simp) (by omega) (by rw [List.length_append]; omega)).mono ?_
      rintro e W4 ⟨rfl, v4, S1⟩
      generalize wr.heap.size = kv at S1 ⊢
      clear S0
      have c1 : W4.cell? ⟨kv, 1, none⟩ = some (.int .i64 K.inc) := cell_at S1.bk 1
      go_wp2_with fail
      clear c1
      refine (S1.put1 4 K.inc _ rfl (by omega) (by simp only [List.length_append, flat_len, List.length_singleton]; omega)).mono ?_
      rintro e W5 ⟨rfl, v5, S2⟩
      clear S1
      have c2 : W5.cell? ⟨kv, 2, none⟩ = some (.int .i64 K.st) := cell_at S2.bk 2
      go_wp2_with fail
      clear c2
      refine (S2.put1 1 K.st _ rfl (by omega) (by simp only [List.length_append, flat_len, List.length_singleton]; omega)).mono ?_
      rintro e W6 ⟨rfl, v6, S3⟩
      clear S2
      have HS := hide S3.ei
      clear S3
      go_wp2
      go_roundw
      case rel =>
        refine ⟨k + 1, v6, by omega, by go_num, ?_⟩
        rw [flatK_snoc m.ups k hlt, unhide HK]
        have h := unhide HS
        simp only [keyBs, List.append_assoc] at h ⊢
        exact h
      case measure => simp [intOf]; omega
    · have e : k = m.ups.length := by omega
      have hE := E4
      rw [e, List.take_length] at hE
      have hc : wr.cell? ⟨w1.heap.size, 0, none⟩ = some v' := cell_of_one E4.wi.blk
      obtain ⟨bo, bcap, rfl⟩ := own_form hE.wi.own
      have hbM : bs (L ++ m.ups.flatMap keyBs) = bs (bytesM m) := by rw [← unhide HL]; simp [bytesM]
      have hconv : (convert 56 9 (.slice bo (L ++ m.ups.flatMap keyBs).length bcap)).run Tryz.prog wr = .ok (.string (bs (bytesM m))) wr := by rw [← hbM]; exact conv_own hE.wi.own (by rw [List.length_append]; omega)
      have hbel := hide hE.below
      have HBM := hide hbM
      clear hE E4 hbM e
      generalize hN : (L ++ m.ups.flatMap keyBs).length = N at hconv hc ⊢
      clear hN
      go_wp2
      go_ret2
      exact ⟨rfl, unhide hbel⟩
end Go.Proofs.YtnneljcbelgoeaaGreatDoor.wire
/- THE PLAIN MATHEMATICS OF A NODE (P4 to P8): its state, what each call makes of it. No Go here. -/
namespace Go.Proofs.YtnneljcbelgoeaaGreatDoor.wire
/-- One of the table. -/
structure Mem where
  k : K3
  due : Int
  sends : Int
instance : Inhabited Mem := ⟨⟨⟨0, 0, 0⟩, 0, 0⟩⟩
/-- A relayed ping. -/
structure Rel where
  tgt : Int
  num : Int
  asker : Int
  under : Int
  till : Int
structure Cfg where
  self : Int
  period : Int
  wait : Int
  suspect : Int
  proxies : Int
  sends : Int
/-- A node. -/
structure Nd where
  c : Cfg
  clock : Int
  tab : List Mem
  pass : List Int
  ptgt : Int
  pnum : Int
  pst : Int
  pack : Bool
  rels : List Rel
  num : Int
  evs : List K3
  dropped : Int
  lost : Int
  dl : List Int
  dat : Nat
/-- A packet: to whom, its bytes. -/
structure Pk where
  dest : Int
  bytes : List UInt8
def cfgB (c : Cfg) : Bool := isIdB c.self && ((decide (4 ≤ c.period) && decide (c.period ≤ 50)) && ((decide (1 ≤ c.wait) && decide (c.wait ≤ c.period - 2)) && ((decide (1 ≤ c.suspect) && decide (c.suspect ≤ 500)) && ((decide (0 ≤ c.proxies) && decide (c.proxies ≤ 3)) && (decide (1 ≤ c.sends) && decide (c.sends ≤ 8))))))
def Nd.new (c : Cfg) (dl : List Int) : Nd := ⟨c, 0, [⟨⟨c.self, 1, 1⟩, 0, 0⟩], [], 0, 0, 0, false, [], 0, [], 0, 0, dl, 0⟩
def findM (i : Int) (t : List Mem) : Option Mem := t.find? (fun m => m.k.id == i)
def zeroM : Mem := ⟨⟨0, 0, 0⟩, 0, 0⟩
def atM (i : Int) (t : List Mem) : Mem := (findM i t).getD zeroM
def putM (m : Mem) : List Mem → List Mem
  | [] => [m]
  | y :: r => if m.k.id < y.k.id then m :: y :: r else if m.k.id = y.k.id then m :: r else y :: putM m r
def Nd.own (x : Nd) : K3 := (atM x.c.self x.tab).k
def Nd.left (x : Nd) : Bool := x.own.st == 4
def Nd.change (x : Nd) (k : K3) : Nd :=
  { x with tab := putM ⟨k, x.clock + x.c.suspect, x.c.sends⟩ x.tab, evs := if x.evs.length < 8 then x.evs ++ [k] else x.evs, lost := if x.evs.length < 8 then x.lost else x.lost + 1 }
def greaterB (a b : K3) : Bool := if a.inc = b.inc then decide (b.st < a.st) else decide (b.inc < a.inc)
def thereB (k : K3) : Bool := decide (k.st = 1) || decide (k.st = 2)
def Nd.hearSelf (x : Nd) (k : K3) : Nd :=
  if x.left || (decide (k.st = 1) || (decide (k.inc < x.own.inc) || decide (k.inc = 1073741824))) then x else x.change ⟨x.own.id, k.inc + 1, x.own.st⟩
def Nd.heard (x : Nd) (k : K3) : Nd := if thereB k then x.change k else { x.change k with pass := x.pass.filter (fun i => !(i == k.id)) }
def Nd.hearOther (x : Nd) (k : K3) : Nd :=
  match findM k.id x.tab with
  | some o => if greaterB k o.k then x.heard k else x
  | none => if 8 ≤ x.tab.length then x else x.heard k
def Nd.hear (x : Nd) (k : K3) : Nd := if k.id = x.c.self then x.hearSelf k else x.hearOther k
def pendB (m : Mem) : Bool := decide (0 < m.sends)
def sentCmp (a b : Mem) : Int := if b.sends < a.sends then -1 else if a.sends < b.sends then 1 else 0
def sentLt (a b : Mem) : Bool := decide (sentCmp a b < 0)
def sortM (l : List Mem) : List Mem := (Go.Sort.insertionSort sentLt l.toArray 0 l.length).toList
def Nd.picks (x : Nd) : List Mem := (sortM (x.tab.filter pendB)).take 4
def Mem.less (m : Mem) : Mem := { m with sends := m.sends - 1 }
def Nd.along (x : Nd) : Nd := { x with tab := x.picks.foldl (fun t m => putM m.less t) x.tab }
def bytesS (m : M6) : List UInt8 := if wholeB m then bytesM m else []
def Nd.packet (x : Nd) (dest : Int) (kind seq tgt : Int) (ups : List K3) : Pk := ⟨dest, bytesS ⟨kind, x.own.id, x.own.inc, seq, tgt, ups⟩⟩
def Nd.direct (x : Nd) (kind dest seq tgt : Int) : Pk := x.along.packet dest kind seq tgt (x.picks.map Mem.k)
def Nd.takePing (x : Nd) (m : M6) : List Pk × Nd := if m.tgt = x.c.self then ([x.direct 2 m.frm m.seq m.tgt], x.along) else ([], x)
def itsB (m : M6) (r : Rel) : Bool := decide (r.tgt = m.tgt) && decide (r.num = m.seq)
def Nd.relayed (x : Nd) : List Rel → List Pk × Nd
  | [] => ([], x)
  | r :: l => let y := x.along.relayed l; (x.direct 2 r.asker r.under r.tgt :: y.1, y.2)
def Nd.takeAck (x : Nd) (m : M6) : List Pk × Nd :=
  ({ x with pack := if x.ptgt = m.tgt ∧ x.pnum = m.seq then true else x.pack, rels := x.rels.filter (fun r => !(itsB m r)) } : Nd).relayed (x.rels.filter (itsB m))
def Nd.takeAsk (x : Nd) (m : M6) : List Pk × Nd :=
  if m.tgt = x.c.self then x.takePing m else if 4 ≤ x.rels.length then ([], x) else
    let y : Nd := { x with num := x.num + 1, rels := x.rels ++ [⟨m.tgt, x.num + 1, m.frm, m.seq, x.clock + x.c.period⟩] }
    ([y.direct 1 m.tgt (x.num + 1) m.tgt], y.along)
def Nd.takeJoin (x : Nd) (m : M6) : List Pk × Nd := ([x.packet m.frm 5 m.seq 0 (x.tab.map Mem.k)], x)
def Nd.deed (x : Nd) (m : M6) : List Pk × Nd :=
  if m.kind = 1 then x.takePing m else if m.kind = 2 then x.takeAck m else if m.kind = 3 then x.takeAsk m else if m.kind = 4 then x.takeJoin m else ([], x)
def Nd.hears (x : Nd) (l : List K3) : Nd := l.foldl Nd.hear x
def takesB (self : Int) (b : List UInt8) : Bool := decB b && !decide ((readM b).frm = self)
def Nd.receive (x : Nd) (b : List UInt8) : List Pk × Nd :=
  if takesB x.c.self b then ((x.hear ⟨(readM b).frm, (readM b).inc, 1⟩).hears (readM b).ups).deed (readM b) else ([], { x with dropped := x.dropped + 1 })
def Nd.joinErr (x : Nd) (i : Int) : Int := if x.left then 4 else if isIdB i && !decide (i = x.c.self) then 0 else 3
def Nd.join (x : Nd) (i : Int) : List Pk × Nd := let y : Nd := { x with num := x.num + 1 }; ([y.packet i 4 (x.num + 1) 0 []], y)
def Nd.leave (x : Nd) : Nd := x.change ⟨x.own.id, x.own.inc, 4⟩
/-- Whom it probes, and is to probe. -/
structure PrbOk (me : Int) (pass : List Int) (ptgt : Int) : Prop where
  len : pass.length ≤ 8
  ids : ∀ i ∈ pass, (1 ≤ i ∧ i ≤ 250) ∧ i ≠ me
  tgt : ptgt = 0 ∨ ((1 ≤ ptgt ∧ ptgt ≤ 250) ∧ ptgt ≠ me)
theorem PrbOk.filter {me : Int} {pass : List Int} {ptgt : Int} (h : PrbOk me pass ptgt) (p : Int → Bool) : PrbOk me (pass.filter p) ptgt :=
  ⟨Nat.le_trans (List.length_filter_le _ _) h.len, fun i hi => h.ids i (List.mem_filter.1 hi).1, h.tgt⟩
/-- What a node keeps to, whatever comes. -/
structure NdOk (x : Nd) : Prop where
  cfg : cfgB x.c = true
  rise : x.tab.Pairwise (fun a b => a.k.id < b.k.id)
  len : x.tab.length ≤ 8
  keys : ∀ m ∈ x.tab, isKeyB m.k = true
  sends : ∀ m ∈ x.tab, 0 ≤ m.sends ∧ m.sends ≤ 8
  self : ∃ m, findM x.c.self x.tab = some m
  evs : x.evs.length ≤ 8
  rels : x.rels.length ≤ 4
  pass : PrbOk x.c.self x.pass x.ptgt
/-- The draws' list is of numbers that there are. -/
structure DlOk (l : List Int) : Prop where
  rng : ∀ z ∈ l, -9223372036854775808 ≤ z ∧ z ≤ 9223372036854775807
  len : l.length ≤ 1000000
/-- Its numbers are at most B. -/
structure NdB (B : Int) (x : Nd) : Prop where
  clock : 0 ≤ x.clock ∧ x.clock ≤ B
  num : 0 ≤ x.num ∧ x.num ≤ B
  dropped : 0 ≤ x.dropped ∧ x.dropped ≤ B
  lost : 0 ≤ x.lost ∧ x.lost ≤ B
  tk : (0 ≤ x.pst ∧ x.pst ≤ B) ∧ (x.dat : Int) ≤ B
end Go.Proofs.YtnneljcbelgoeaaGreatDoor.wire
/- THE TABLE: a map of members as a plain list by rising ids. -/
namespace Go.Proofs.YtnneljcbelgoeaaGreatDoor.wire
open Go.RowKit Go.Maps

abbrev memv (m : Mem) : Value := .agg #[.int .i64 m.k.id, .int .i64 m.k.inc, .int .i64 m.k.st, .int .i64 m.due, .int .i64 m.sends]
abbrev RH : Value → Option (DataW Value × List MemPlace) := fun v => some (.held v, [])
def entM (m : Mem) : Lit × DataW Value := (Lit.int .i64 m.k.id, .held (memv m))
def tabD (t : List Mem) : DataW Value := .map (t.map entM)
abbrev Rise (t : List Mem) : Prop := t.Pairwise (fun a b => a.k.id < b.k.id)

theorem tabD_size (t : List Mem) : Maps.size (tabD t) = t.length := by simp [tabD, size_eq]
theorem same_ent (m : Mem) (i : Int) : (entM m).1.sameKey (.int .i64 i) = (m.k.id == i) := by
  by_cases h : m.k.id = i
  · simp [entM, Lit.sameKey, h]
  · have h' : (m.k.id == i) = false := by simp [h]
    rw [h']; simp [entM, Lit.sameKey, h]
theorem tabD_has (t : List Mem) (i : Int) : Maps.has (tabD t) (.int .i64 i) = (findM i t).isSome := by
  simp only [tabD, has_eq, findM, List.any_map, Function.comp_def, same_ent]
  induction t with
  | nil => rfl
  | cons a r ih =>
    simp only [List.any_cons, ih, List.find?_cons]
    cases (a.k.id == i) <;> simp
theorem tabD_at (t : List Mem) (i : Int) : (tabD t).atKey (.int .i64 i) (.held (memv zeroM)) = .held (memv (atM i t)) := by
  simp only [tabD, DataW.atKey, atM, findM]
  induction t with
  | nil => rfl
  | cons a r ih =>
    simp only [List.map_cons, List.find?_cons, entM, Lit.sameKey]
    by_cases h : a.k.id = i
    · simp [h]
    · have h' : (a.k.id == i) = false := by simp [h]
      simp only [h, h', and_false, decide_false]
      exact ih
theorem filter_far (m : Mem) (t : List Mem) (h : ∀ y ∈ t, m.k.id < y.k.id) : (t.map entM).filter (fun p => !p.1.sameKey (.int .i64 m.k.id)) = t.map entM := by
  rw [List.filter_eq_self]
  intro p hp
  obtain ⟨y, hy, rfl⟩ := List.mem_map.1 hp
  have := h y hy
  simp [entM, Lit.sameKey]
  omega
theorem insert_first (m : Mem) (t : List Mem) (h : ∀ y ∈ t, m.k.id < y.k.id) : DataW.insert (entM m) (t.map entM) = (m :: t).map entM := by
  cases t with
  | nil => rfl
  | cons y r =>
    have := h y (List.mem_cons_self ..)
    simp [DataW.insert, entM, Lit.before, this]
theorem tabD_putL (m : Mem) : ∀ (t : List Mem), Rise t → DataW.insert (entM m) ((t.map entM).filter (fun p => !p.1.sameKey (.int .i64 m.k.id))) = (putM m t).map entM
  | [], _ => rfl
  | y :: r, h => by
    have hr := (List.pairwise_cons.1 h).1
    by_cases h1 : m.k.id < y.k.id
    · have hall : ∀ z ∈ y :: r, m.k.id < z.k.id := by
        intro z hz
        rcases List.mem_cons.1 hz with rfl | hz
        · exact h1
        · exact Int.lt_trans h1 (hr z hz)
      rw [filter_far m _ hall, insert_first m _ hall]
      simp [putM, h1]
    · by_cases h2 : m.k.id = y.k.id
      · have hall : ∀ z ∈ r, m.k.id < z.k.id := fun z hz => by rw [h2]; exact hr z hz
        have e : (!(entM y).1.sameKey (.int .i64 m.k.id)) = false := by simp [entM, Lit.sameKey, h2]
        rw [List.map_cons, List.filter_cons_of_neg (by rw [e]; decide), filter_far m _ hall, insert_first m _ hall]
        simp [putM, h2]
      · have e : (!(entM y).1.sameKey (.int .i64 m.k.id)) = true := by simp [entM, Lit.sameKey]; omega
        rw [List.map_cons, List.filter_cons, if_pos e]
        have e2 : (entM m).1.before (entM y).1 = false := by simp [entM, Lit.before]; omega
        simp only [DataW.insert, e2, Bool.false_eq_true, if_false]
        rw [tabD_putL m r (List.pairwise_cons.1 h).2]
        simp [putM, h1, h2]
theorem tabD_put (m : Mem) (t : List Mem) (h : Rise t) : (tabD t).put (.int .i64 m.k.id) (.held (memv m)) = tabD (putM m t) := by
  show DataW.map (DataW.insert (entM m) _) = _
  rw [tabD_putL m t h]; rfl
theorem putM_mem {m z : Mem} : ∀ {t : List Mem}, z ∈ putM m t → z = m ∨ z ∈ t
  | [], h => by simpa [putM] using h
  | y :: r, h => by
    unfold putM at h
    split at h
    · simpa using h
    · split at h
      · rcases List.mem_cons.1 h with h | h
        · exact .inl h
        · exact .inr (List.mem_cons_of_mem _ h)
      · rcases List.mem_cons.1 h with h | h
        · exact .inr (by rw [h]; exact List.mem_cons_self ..)
        · rcases putM_mem h with h | h
          · exact .inl h
          · exact .inr (List.mem_cons_of_mem _ h)
theorem putM_rise (m : Mem) : ∀ (t : List Mem), Rise t → Rise (putM m t)
  | [], _ => by simp [putM]
  | y :: r, h => by
    have hr := (List.pairwise_cons.1 h).1
    unfold putM
    split
    · rename_i h1
      refine List.pairwise_cons.2 ⟨fun z hz => ?_, h⟩
      rcases List.mem_cons.1 hz with rfl | hz
      · exact h1
      · exact Int.lt_trans h1 (hr z hz)
    · split
      · rename_i h1 h2
        exact List.pairwise_cons.2 ⟨fun z hz => by rw [h2]; exact hr z hz, (List.pairwise_cons.1 h).2⟩
      · rename_i h1 h2
        refine List.pairwise_cons.2 ⟨fun z hz => ?_, putM_rise m r (List.pairwise_cons.1 h).2⟩
        rcases putM_mem hz with rfl | hz
        · omega
        · exact hr z hz
theorem findM_none_lt {i : Int} {t : List Mem} (h : ∀ y ∈ t, i < y.k.id) : findM i t = none := by
  unfold findM
  rw [List.find?_eq_none]
  intro y hy
  have := h y hy
  simp; omega
theorem putM_len (m : Mem) : ∀ (t : List Mem), Rise t → (putM m t).length = if (findM m.k.id t).isSome then t.length else t.length + 1
  | [], _ => by simp [putM, findM]
  | y :: r, h => by
    have hr := (List.pairwise_cons.1 h).1
    unfold putM
    split
    · rename_i h1
      have : findM m.k.id (y :: r) = none := findM_none_lt (fun z hz => by
        rcases List.mem_cons.1 hz with rfl | hz
        · exact h1
        · exact Int.lt_trans h1 (hr z hz))
      simp [this]
    · split
      · rename_i h1 h2
        simp [findM, h2]
      · rename_i h1 h2
        have h' : (y.k.id == m.k.id) = false := by simp; omega
        have ih := putM_len m r (List.pairwise_cons.1 h).2
        have e : findM m.k.id (y :: r) = findM m.k.id r := by simp [findM, h']
        rw [e]
        simp only [List.length_cons, ih]
        split <;> rfl
theorem findM_putM (m : Mem) (i : Int) : ∀ (t : List Mem), Rise t → findM i (putM m t) = if m.k.id = i then some m else findM i t
  | [], _ => by
    by_cases h : m.k.id = i
    · simp [putM, findM, h]
    · have h' : (m.k.id == i) = false := by simp [h]
      simp [putM, findM, h, h']
  | y :: r, h => by
    have hr := (List.pairwise_cons.1 h).1
    unfold putM
    split
    · by_cases h : m.k.id = i
      · simp [findM, h]
      · have h' : (m.k.id == i) = false := by simp [h]
        simp [findM, h, h']
    · split
      · rename_i h1 h2
        by_cases h : m.k.id = i
        · simp [findM, h]
        · have h' : (m.k.id == i) = false := by simp [h]
          have h'' : (y.k.id == i) = false := by simp; omega
          simp [findM, h, h', h'']
      · rename_i h1 h2
        have ih := findM_putM m i r (List.pairwise_cons.1 h).2
        by_cases h3 : y.k.id = i
        · have : ¬ m.k.id = i := by omega
          simp [findM, h3, this]
        · have h'' : (y.k.id == i) = false := by simp [h3]
          simp only [findM] at ih
          simp [findM, h'', ih]
theorem own_tight {w : World} {P : Program} {b n : Nat} {D : DataW Value} {k : TypeId} (h : w.ownsMap P k RH b n D) : w.ownsMap P k RH b (Maps.size D) D := by
  obtain ⟨es, clock, hb, F, hs, rfl⟩ := h
  refine ⟨es, clock, hb, F, ?_, rfl⟩
  rw [size_eq, length_sorted]; simp
theorem tabD_keys (t : List Mem) : Go.intKeys (tabD t) = t.map (fun m => m.k.id) := by
  simp [tabD, Go.intKeys, entM, Go.intOf, Function.comp_def]
theorem sorted_keys {ss : List Int} {t : List Mem} (h : Rise t) (hp : ss.Perm (Go.intKeys (tabD t))) : ss.mergeSort (fun x y => decide (x ≤ y)) = t.map (fun m => m.k.id) := by
  rw [tabD_keys] at hp
  have e := Go.mergeSort_of_perm_i hp
  rw [show (fun x y : Int => decide (x ≤ y)) = Go.leI from rfl, e]
  refine List.mergeSort_of_pairwise ?_
  rw [List.pairwise_map]
  exact h.imp (fun {a b} h => by simp [Go.leI]; omega)
end Go.Proofs.YtnneljcbelgoeaaGreatDoor.wire
/- A NODE IN MEMORY; what a call on it may turn. -/
namespace Go.Proofs.YtnneljcbelgoeaaGreatDoor.wire
open Go.RowKit Go.Maps

/-- Only the blocks of S turn (and new ones come). -/
structure Frm (S : List Nat) (w w' : World) : Prop where
  os : w'.os = w.os
  tape : w'.tape = w.tape
  output : w'.output = w.output
  size : w.heap.size ≤ w'.heap.size
  block : ∀ k, k < w.heap.size → k ∉ S → w'.heap[k]? = w.heap[k]?
theorem Frm.refl (S : List Nat) (w : World) : Frm S w w := ⟨rfl, rfl, rfl, Nat.le_refl _, fun _ _ _ => rfl⟩
theorem Frm.trans {S S' : List Nat} {a b c : World} (h : Frm S a b) (k : Frm S' b c) (hs : ∀ j ∈ S', j ∈ S ∨ a.heap.size ≤ j) : Frm S a c :=
  ⟨k.os.trans h.os, k.tape.trans h.tape, k.output.trans h.output, Nat.le_trans h.size k.size, fun i hi hn =>
    (k.block i (Nat.lt_of_lt_of_le hi h.size) (fun hm => (hs i hm).elim hn (fun h' => absurd hi (Nat.not_lt.2 h')))).trans (h.block i hi hn)⟩
theorem Frm.of_below {S : List Nat} {B : Nat} {a b : World} (h : Below B a b) (hB : a.heap.size ≤ B) : Frm S a b :=
  ⟨h.os, h.tape, h.output, h.size, fun k hk _ => h.block k (Nat.lt_of_lt_of_le hk hB)⟩
theorem Frm.below {a b : World} (h : Frm [] a b) : Below a.heap.size a b :=
  ⟨h.os, h.tape, h.output, h.size, fun k hk => h.block k hk (by simp)⟩
theorem Frm.of_grown {S : List Nat} {a b : World} {row : Option Nat} (h : a.grownBy b row) (hr : ∀ k, row = some k → k ∈ S ∨ a.heap.size ≤ k) : Frm S a b :=
  ⟨h.os, h.tape, h.output, h.size, fun k hk hn => h.block k hk (fun e => (hr k e.symm).elim hn (fun h' => absurd hk (Nat.not_lt.2 h')))⟩
theorem Frm.step {S : List Nat} {a b c : World} (h : Frm S a b) (k : Below b.heap.size b c) : Frm S a c := h.trans (S' := []) (Frm.of_below k (Nat.le_refl _)) (by simp)
theorem Frm.alloc {S : List Nat} {a b : World} (h : Frm S a b) (o : Obj) : Frm S a (b.alloc o) := h.step ((Below.refl _ _).alloc (Nat.le_refl _) o)
/-- A row whose block is not turned reads on. -/
theorem own_frm {S : List Nat} {a b : World} {base : Nat} {e : TypeId} {size : Nat} {v : Value} {n : Nat} {xs : List Value} (h : a.ownsRow base e size v n xs) (hf : Frm S a b) (hn : ∀ k, v.ownBlock = some k → k ∉ S) : b.ownsRow base e size v n xs := by
  obtain ⟨hl, h | ⟨g, cap, cur, rfl, hb, hg, h1, h2, h3, h4⟩⟩ := h
  · exact ⟨hl, .inl h⟩
  · have hlt : g < a.heap.size := by
      rcases Nat.lt_or_ge g a.heap.size with h | h
      · exact h
      · rw [Array.getElem?_eq_none h] at hg; cases hg
    exact ⟨hl, .inr ⟨g, cap, cur, rfl, hb, (hf.block g hlt (hn g rfl)).trans hg, h1, h2, h3, h4⟩⟩
theorem map_frm {S : List Nat} {a b : World} {P : Program} {k : TypeId} {mb n : Nat} {D : DataW Value} (h : a.ownsMap P k RH mb n D) (hf : Frm S a b) (hn : mb ∉ S) : b.ownsMap P k RH mb n D := by
  have hlt := h.lt
  obtain ⟨es, clock, hb, F, hs, hD⟩ := h
  exact ⟨es, clock, (hf.block mb hlt hn).trans hb, F, hs, hD⟩

def memC (m : Mem) : List Value := [.int .i64 m.k.id, .int .i64 m.k.inc, .int .i64 m.k.st, .int .i64 m.due, .int .i64 m.sends]
def relC (r : Rel) : List Value := [.int .i64 r.tgt, .int .i64 r.num, .int .i64 r.asker, .int .i64 r.under, .int .i64 r.till]
def keyC (k : K3) : List Value := [.int .i64 k.id, .int .i64 k.inc, .int .i64 k.st]
def intC (i : Int) : List Value := [.int .i64 i]
def pkC (p : Pk) : List Value := [.int .i64 p.dest, .string (bs p.bytes)]
/-- Where a node's channel lies, and its draws: the list's cell, the count's cell, the list. -/
structure Dk where
  c : Nat
  ob : Nat
  ab : Nat
  ov : Value
instance : Coe Dk Nat := ⟨Dk.c⟩
def Dk.fn (d : Dk) : Value := .func (.func 83) #[] #[.pointer (some ⟨d.ob, 0, none⟩), .pointer (some ⟨d.ab, 0, none⟩)]
def ndC (x : Nd) (mb : Nat) (cb : Dk) (pv rv : Value) : Array Value := #[.int .i64 x.c.self, .int .i64 x.c.period, .int .i64 x.c.wait, .int .i64 x.c.suspect, .int .i64 x.c.proxies, .int .i64 x.c.sends, cb.fn, .int .i64 x.clock, .map (some mb), pv, .int .i64 x.ptgt, .int .i64 x.pnum, .int .i64 x.pst, .bool x.pack, rv, .int .i64 x.num, .chan (some cb), .int .i64 x.dropped, .int .i64 x.lost]
/-- The pass: a list of numbers that may begin within its block. -/
def PassAt (w : World) (v : Value) (l : List Int) : Prop :=
  (v = .slice none 0 0 ∧ l = []) ∨ ∃ b off cap cs, v = .slice (some ⟨b, off, none⟩) l.length cap ∧ w.heap[b]? = some (.cells cs 3 (0, 0)) ∧ l.length ≤ cap ∧ cap ≤ maxLen ∧ ∀ (i : Nat) (h : i < l.length), cs[off + i]? = some (.int .i64 l[i])
theorem PassAt.blk {w : World} {v : Value} {l : List Int} (h : PassAt w v l) {k : Nat} (hk : v.ownBlock = some k) : ∃ cs, w.heap[k]? = some (.cells cs 3 (0, 0)) := by
  rcases h with ⟨rfl, _⟩ | ⟨b, off, cap, cs, rfl, hb, _⟩
  · simp [Value.ownBlock] at hk
  · simp [Value.ownBlock] at hk; subst hk; exact ⟨cs, hb⟩
theorem PassAt.lt {w : World} {v : Value} {l : List Int} (h : PassAt w v l) {k : Nat} (hk : v.ownBlock = some k) : k < w.heap.size := by
  obtain ⟨cs, hb⟩ := h.blk hk
  rcases Nat.lt_or_ge k w.heap.size with h | h
  · exact h
  · rw [Array.getElem?_eq_none h] at hb; cases hb
theorem PassAt.frm {S : List Nat} {a b : World} {v : Value} {l : List Int} (h : PassAt a v l) (hf : Frm S a b) (hn : ∀ k, v.ownBlock = some k → k ∉ S) : PassAt b v l := by
  have hlt := fun k hk => h.lt (k := k) hk
  rcases h with h | ⟨g, off, cap, cs, rfl, hb, h1, h2, h3⟩
  · exact .inl h
  · exact .inr ⟨g, off, cap, cs, rfl, (hf.block g (hlt g rfl) (hn g rfl)).trans hb, h1, h2, h3⟩
theorem PassAt.below {a b : World} {v : Value} {l : List Int} (h : PassAt a v l) (hb : Below a.heap.size a b) : PassAt b v l := h.frm (S := []) (Frm.of_below hb (Nat.le_refl _)) (by simp)
theorem PassAt.alloc {a : World} {v : Value} {l : List Int} (h : PassAt a v l) (o : Obj) : PassAt (a.alloc o) v l := h.below ((Below.refl _ _).alloc (Nat.le_refl _) o)
theorem flat_int (l : List Int) (i : Nat) : (l.flatMap intC)[i]? = (l[i]?).map (fun z => .int .i64 z) := by
  have : l.flatMap intC = l.map (fun z => .int .i64 z) := by
    induction l with
    | nil => rfl
    | cons a r ih => simp [List.flatMap_cons, intC, ih]
  rw [this, List.getElem?_map]
theorem PassAt.of_own {w : World} {base : Nat} {v : Value} {l : List Int} (h : w.ownsRow base 3 1 v l.length (l.flatMap intC)) : PassAt w v l := by
  rcases h.2 with ⟨rfl, h0⟩ | ⟨g, cap, cur, rfl, hb, hg, h1, h2, h3, h4⟩
  · exact .inl ⟨rfl, List.length_eq_zero_iff.1 h0⟩
  · refine .inr ⟨g, 0, cap, cur, rfl, hg, h1, h2, fun i hi => ?_⟩
    have := congrArg (fun q => q[i]?) h4
    simp only [flat_int, List.getElem?_eq_getElem hi, Option.map_some, List.getElem?_take, Nat.mul_one, if_pos hi] at this
    simpa using this
/-- The draws of a node in memory. -/
structure DrawAt (W : World) (d : Dk) (pv : Value) (l : List Int) (n : Nat) : Prop where
  ob : W.heap[d.ob]? = some (.cells #[d.ov] 24 (0, 0))
  ab : W.heap[d.ab]? = some (.cells #[.int .i64 n] 3 (0, 0))
  row : W.ownsRow 0 3 1 d.ov l.length (l.flatMap intC)
  sep : d.ov.ownBlock ≠ some d.ab
  sepp : pv.ownBlock ≠ some d.ab
theorem heap_lt {w : World} {b : Nat} {o : Obj} (h : w.heap[b]? = some o) : b < w.heap.size := by
  rcases Nat.lt_or_ge b w.heap.size with h' | h'
  · exact h'
  · rw [Array.getElem?_eq_none h'] at h; cases h
def Dk.all (d : Dk) : List Nat := d.ob :: d.ab :: d.ov.ownBlock.toList
theorem DrawAt.frm {S : List Nat} {W W' : World} {d : Dk} {pv : Value} {l : List Int} {n : Nat} (h : DrawAt W d pv l n) (hf : Frm S W W') (hn : ∀ k ∈ d.all, k ∉ S) : DrawAt W' d pv l n :=
  ⟨(hf.block _ (heap_lt h.ob) (hn _ (by simp [Dk.all]))).trans h.ob, (hf.block _ (heap_lt h.ab) (hn _ (by simp [Dk.all]))).trans h.ab, own_frm h.row hf (fun k hk => hn k (by simp [Dk.all, hk])), h.sep, h.sepp⟩
theorem DrawAt.lt {W : World} {d : Dk} {pv : Value} {l : List Int} {n : Nat} (h : DrawAt W d pv l n) {k : Nat} (hk : k ∈ d.all) : k < W.heap.size := by
  simp only [Dk.all, List.mem_cons, Option.mem_toList] at hk
  rcases hk with rfl | rfl | hk
  · exact heap_lt h.ob
  · exact heap_lt h.ab
  · exact (h.row.lt k hk).2
theorem DrawAt.pv {W : World} {d : Dk} {pv pv' : Value} {l : List Int} {n : Nat} (h : DrawAt W d pv l n) (hp : pv'.ownBlock ≠ some d.ab) : DrawAt W d pv' l n := ⟨h.ob, h.ab, h.row, h.sep, hp⟩
/-- Whose type is neither []int nor int is none of them. -/
theorem DrawAt.not {W : World} {d : Dk} {pv : Value} {l : List Int} {n : Nat} (h : DrawAt W d pv l n) {b : Nat} {o : Obj} (hb : W.heap[b]? = some o) (h1 : ∀ cs, o ≠ .cells cs 24 (0, 0)) (h2 : ∀ cs, o ≠ .cells cs 3 (0, 0)) : b ∉ d.all := by
  simp only [Dk.all, List.mem_cons, Option.mem_toList, not_or]
  refine ⟨fun e => ?_, fun e => ?_, fun e => ?_⟩
  · rw [e, h.ob] at hb; cases hb; exact h1 _ rfl
  · rw [e, h.ab] at hb; cases hb; exact h2 _ rfl
  · rcases h.row.2 with ⟨h0, _⟩ | ⟨g, cap, cur, h0, _, hg, _⟩
    · rw [h0] at e; simp [Value.ownBlock] at e
    · rw [h0] at e; simp [Value.ownBlock] at e; subst e; rw [hg] at hb; cases hb; exact h2 _ rfl
/-- The blocks of a node. -/
def feet (nb mb : Nat) (cb : Dk) (pv rv : Value) : List Nat := nb :: mb :: cb :: (pv.ownBlock.toList ++ (rv.ownBlock.toList ++ cb.all))
structure NAt (W : World) (nb mb : Nat) (cb : Dk) (pv rv : Value) (x : Nd) : Prop where
  blk : W.heap[nb]? = some (.cells (ndC x mb cb pv rv) 123 (0, 0))
  map : W.ownsMap Tryz.prog 3 RH mb x.tab.length (tabD x.tab)
  chan : ∃ s r, W.heap[cb.c]? = some (.chan 8 (x.evs.map kval).toArray false s r false)
  pass : PassAt W pv x.pass
  rel : W.ownsRow 0 161 5 rv x.rels.length (x.rels.flatMap relC)
  draw : DrawAt W cb pv x.dl x.dat
/-- Behind a call on it. -/
def NTo (W W' : World) (nb mb : Nat) (cb : Dk) (pv rv : Value) (x' : Nd) : Prop :=
  ∃ pv' rv', NAt W' nb mb cb pv' rv' x' ∧ Frm (feet nb mb cb pv rv) W W' ∧ ∀ k ∈ feet nb mb cb pv' rv', k ∈ feet nb mb cb pv rv ∨ W.heap.size ≤ k
theorem NAt.frm {S : List Nat} {W W' : World} {nb mb : Nat} {cb : Dk} {pv rv : Value} {x : Nd} (h : NAt W nb mb cb pv rv x) (hf : Frm S W W') (hn : ∀ k ∈ feet nb mb cb pv rv, k ∉ S) : NAt W' nb mb cb pv rv x := by
  obtain ⟨h1, h2, ⟨s, r, h3⟩, h4, h5, h6⟩ := h
  have lt1 : nb < W.heap.size := by
    rcases Nat.lt_or_ge nb W.heap.size with h | h
    · exact h
    · rw [Array.getElem?_eq_none h] at h1; cases h1
  have lt3 : cb.c < W.heap.size := by
    rcases Nat.lt_or_ge cb.c W.heap.size with h | h
    · exact h
    · rw [Array.getElem?_eq_none h] at h3; cases h3
  refine ⟨(hf.block nb lt1 (hn nb (by simp [feet]))).trans h1, map_frm h2 hf (hn mb (by simp [feet])), ⟨s, r, (hf.block cb lt3 (hn cb (by simp [feet]))).trans h3⟩, h4.frm hf (fun k hk => hn k (by simp [feet, hk])), own_frm h5 hf (fun k hk => hn k (by simp [feet, hk])), h6.frm hf (fun k hk => hn k (by simp [feet, hk]))⟩
theorem NAt.below {W W' : World} {nb mb : Nat} {cb : Dk} {pv rv : Value} {x : Nd} (h : NAt W nb mb cb pv rv x) (hb : Below W.heap.size W W') : NAt W' nb mb cb pv rv x :=
  h.frm (S := []) (Frm.of_below hb (Nat.le_refl _)) (by simp)
theorem NAt.alloc {W : World} {nb mb : Nat} {cb : Dk} {pv rv : Value} {x : Nd} (h : NAt W nb mb cb pv rv x) (o : Obj) : NAt (W.alloc o) nb mb cb pv rv x := h.below ((Below.refl _ _).alloc (Nat.le_refl _) o)
end Go.Proofs.YtnneljcbelgoeaaGreatDoor.wire
/- A FUNCTION WHOSE BODY HOLDS A SELECT: its other regions by the walk, the select by the machine's own step. -/
namespace Go.Proofs.YtnneljcbelgoeaaGreatDoor.wire
open Go.RowKit Go.Conc

section
variable {P : Program} {R : Goroutine → World → Prop} {b : Frame} {a : Act} {k : List Item} {cs : List Frame} {w : World}
/-- One part by the walk, the rest behind it. -/
theorem lone_seq {x y : Code} (h : x.wp P (fun e a' w' => e = .normal ∧ LoneTo P R (G (b.at a' (.code y :: k)) cs) w') a w) : LoneTo P R (G (b.at a (.code (.seq x y) :: k)) cs) w := by
  obtain ⟨e, a', w', ⟨rfl, g', w'', hs, hq⟩, harr⟩ := h b (.code y :: k) cs
  exact ⟨g', w'', (Steps.head step_seq harr).trans hs, hq⟩
theorem lone_split {x y : Code} (h : LoneTo P R (G (b.at a (.code x :: .code y :: k)) cs) w) : LoneTo P R (G (b.at a (.code (.seq x y) :: k)) cs) w := by
  obtain ⟨g', w', hs, hq⟩ := h
  exact ⟨g', w', Steps.head step_seq hs, hq⟩
/-- One part by the walk, what is still to do behind it. -/
theorem lone_part {x : Code} (h : x.wp P (fun e a' w' => e = .normal ∧ LoneTo P R (G (b.at a' k) cs) w') a w) : LoneTo P R (G (b.at a (.code x :: k)) cs) w := by
  obtain ⟨e, a', w', ⟨rfl, g', w'', hs, hq⟩, harr⟩ := h b k cs
  exact ⟨g', w'', Steps.trans harr hs, hq⟩
/-- The last part: it ends as a body does. -/
theorem lone_last {fn : Func} {f : FuncId} {x : Code} {R : Ending → World → Prop} (hf : P.funcs[f]? = some fn) (hbf : b.fn = f) (hbk : b.kind = .normal) (hno : ∀ w', ¬ R .outgrown w') (h : x.wp P (bodyPost P fn R) a w) :
    LoneTo P (fun g' w' => ∃ e fr, g' = G fr cs ∧ R e w' ∧ fr.fn = f ∧ fr.leaving P w' e) (G (b.at a [.code x]) cs) w := by
  obtain ⟨e, a', w', hq, harr⟩ := h b [] cs
  cases e with
  | normal =>
    obtain ⟨hd, v, hr, hR⟩ := hq
    exact ⟨_, w', Steps.trans harr (.one step_end), .returned v, _, rfl, hR, hbf, rfl, hd, hbk, fn, by subst hbf; exact hf, hr⟩
  | ret =>
    obtain ⟨hd, v, hr, hR⟩ := hq
    obtain ⟨todo, hs⟩ := harr
    exact ⟨_, w', hs, .returned v, _, rfl, hR, hbf, rfl, hd, hbk, fn, hbf ▸ hf, hr⟩
  | panic chain =>
    obtain ⟨hd, hR⟩ := hq
    obtain ⟨todo, hs⟩ := harr
    exact ⟨_, w', hs, .panicked chain, _, rfl, hR, hbf, rfl, hd, fn, hbf ▸ hf⟩
  | exit id => exact hq.elim
  | goto l => exact hq.elim
  | outgrown => exact absurd hq (hno _)
theorem calls_lone {f : FuncId} {fn : Func} {c : Code} {args : Array Value} {R : Ending → World → Prop} (hf : P.funcs[f]? = some fn) (hb : fn.body = some c) (hno : ∀ w', ¬ R .outgrown w')
    (h : ∀ (cs : List Frame) (b : Frame), b.fn = f → b.kind = .normal → LoneTo P (fun g' w' => ∃ e fr, g' = G fr cs ∧ R e w' ∧ fr.fn = f ∧ fr.leaving P w' e) (G (b.at { tmps := args ++ Array.replicate (fn.ntmps - args.size) undef, defers := [] } [.code c]) cs) w) : Calls P f args w R := by
  refine calls_of_loneTo (fun cs => ?_) hno
  have henter : Frame.enter P f args .normal = ({ (default : Frame) with fn := f, kind := .normal } : Frame).at { tmps := args ++ Array.replicate (fn.ntmps - args.size) undef, defers := [] } [.code c] := by
    simp [Frame.enter, Frame.at, hf, hb]
  rw [henter]
  exact h cs _ rfl rfl
/-- A region whose first operation is a communication that the machine takes in one step. -/
theorem lone_comm0 {id : Nat} {ops : Array Oper} {o : Oper} {res : Value} {w1 : World} (ho : ops[0]? = some o)
    (hst : step P (solo (G (b.at a (.inRegion ops (0 :: (List.range ops.size).drop 1) :: k)) cs) w) = .next (solo (G ((b.at a (.inRegion ops (0 :: (List.range ops.size).drop 1) :: k)).finish res) cs) w1))
    (h : wpOps P ops (fun e a' w' => e = .normal ∧ LoneTo P R (G (b.at a' k) cs) w') ((List.range ops.size).drop 1) (a.put o.dst res) w1) :
    LoneTo P R (G (b.at a (.code (.region id ops false) :: k)) cs) w := by
  obtain ⟨e, a', w', ⟨rfl, g', w'', hs, hq⟩, harr⟩ := wp_ops _ _ _ h b k cs
  have hn : 0 < ops.size := by
    rcases Nat.eq_zero_or_pos ops.size with h | h
    · rw [Array.getElem?_eq_none (by omega)] at ho; cases ho
    · exact h
  have e1 : List.range ops.size = 0 :: (List.range ops.size).drop 1 := by
    obtain ⟨n, hn'⟩ : ∃ n, ops.size = n + 1 := ⟨ops.size - 1, by omega⟩
    rw [hn', List.range_succ_eq_map]; rfl
  rw [Frame.finish_at, ho] at hst
  refine ⟨g', w'', (Steps.head step_region ?_).trans (Steps.trans harr hs), hq⟩
  rw [e1]
  exact .one hst
theorem lone_comm {id : Nat} {ops : Array Oper} {o : Oper} {l : List Oper} {res : Value} {w1 : World} (hol : ops.toList = o :: l)
    (hst : step P (solo (G (b.at a (.inRegion ops (0 :: (List.range ops.size).drop 1) :: k)) cs) w) = .next (solo (G ((b.at a (.inRegion ops (0 :: (List.range ops.size).drop 1) :: k)).finish res) cs) w1))
    (h : wpList P ops (fun e a' w' => e = .normal ∧ LoneTo P R (G (b.at a' k) cs) w') l (a.put o.dst res) w1) :
    LoneTo P R (G (b.at a (.code (.region id ops false) :: k)) cs) w := by
  have ho : ops[0]? = some o := by rw [← Array.getElem?_toList, hol]; rfl
  have hsz : ops.size = l.length + 1 := by rw [← Array.length_toList, hol]; rfl
  refine lone_comm0 ho hst ?_
  have e1 : (List.range ops.size).drop 1 = List.range' 1 l.length := by
    rw [hsz, List.range_eq_range', List.drop_range']; simp
  rw [e1, wpOps_eq_wpList l 1 (fun j => by rw [← Array.getElem?_toList, hol, Nat.add_comm, List.getElem?_cons_succ])]
  exact h
variable {id : Nat} {ops : Array Oper} {o : Oper} {l : List Oper} {cb cap s r : Nat} {buf : Array Value} {tm : Bool} {val z : Value}
/-- A select of one send with a default; there is room. -/
theorem lone_send_room (hkind : b.kind ≠ .early) (hol : ops.toList = o :: l) (hw : Region.wanted o (yielded ops a.tmps) = true) (hr : (execOp a.eval o).run P w = .ok (.comm #[scase cb val z] false .select) w)
    (hc : w.heap[cb]? = some (.chan cap buf false s r tm)) (hroom : buf.size < cap)
    (h : wpList P ops (fun e a' w' => e = .normal ∧ LoneTo P R (G (b.at a' k) cs) w') l (a.put o.dst (.tuple #[goInt 0, .bool false])) (w.setChan cb cap (buf.push val) false (s + 1) r tm)) :
    LoneTo P R (G (b.at a (.code (.region id ops false) :: k)) cs) w :=
  lone_comm hol (step_lone_select_send_room (stepG_comm (by rw [← Array.getElem?_toList, hol]; rfl) hw hkind hr) hc hroom) h
/-- .. there is none. -/
theorem lone_send_full (hkind : b.kind ≠ .early) (hol : ops.toList = o :: l) (hw : Region.wanted o (yielded ops a.tmps) = true) (hr : (execOp a.eval o).run P w = .ok (.comm #[scase cb val z] false .select) w)
    (hc : w.heap[cb]? = some (.chan cap buf false s r tm)) (hfull : cap ≤ buf.size)
    (h : wpList P ops (fun e a' w' => e = .normal ∧ LoneTo P R (G (b.at a' k) cs) w') l (a.put o.dst (.tuple #[goInt (-1), .bool false])) w) :
    LoneTo P R (G (b.at a (.code (.region id ops false) :: k)) cs) w :=
  lone_comm hol (step_lone_select_send_full (stepG_comm (by rw [← Array.getElem?_toList, hol]; rfl) hw hkind hr) hc hfull) h
/-- A select of one receive with a default; there is something. -/
theorem lone_recv_some (hkind : b.kind ≠ .early) (hol : ops.toList = o :: l) (hw : Region.wanted o (yielded ops a.tmps) = true) (hr : (execOp a.eval o).run P w = .ok (.comm #[rcase cb z] false .select) w)
    (hc : w.heap[cb]? = some (.chan cap buf false s r tm)) (hsome : 0 < buf.size)
    (h : wpList P ops (fun e a' w' => e = .normal ∧ LoneTo P R (G (b.at a' k) cs) w') l (a.put o.dst (.tuple #[goInt 0, .bool true, buf.getD 0 undef])) (w.setChan cb cap (buf.extract 1 buf.size) false s (r + 1) tm)) :
    LoneTo P R (G (b.at a (.code (.region id ops false) :: k)) cs) w :=
  lone_comm hol (step_lone_select_recv_buf (stepG_comm (by rw [← Array.getElem?_toList, hol]; rfl) hw hkind hr) hc hsome) h
/-- .. there is nothing. -/
theorem lone_recv_none (hkind : b.kind ≠ .early) (hol : ops.toList = o :: l) (hw : Region.wanted o (yielded ops a.tmps) = true) (hr : (execOp a.eval o).run P w = .ok (.comm #[rcase cb z] false .select) w)
    (hc : w.heap[cb]? = some (.chan cap #[] false s r tm))
    (h : wpList P ops (fun e a' w' => e = .normal ∧ LoneTo P R (G (b.at a' k) cs) w') l (a.put o.dst (.tuple #[goInt (-1), .bool false, z])) w) :
    LoneTo P R (G (b.at a (.code (.region id ops false) :: k)) cs) w :=
  lone_comm hol (step_lone_select_default (stepG_comm (by rw [← Array.getElem?_toList, hol]; rfl) hw hkind hr) hc) h
end
end Go.Proofs.YtnneljcbelgoeaaGreatDoor.wire
/- The small functions of a node: self, hasLeft, isSelf, key, isPending. -/
namespace Go.Proofs.YtnneljcbelgoeaaGreatDoor.wire
open Go.RowKit Go.Maps

theorem bdrew {B : Nat} {a w : World} (h : Below B a w) : Below B a w.drew := ⟨h.os, h.tape, h.output, h.size, h.block⟩
theorem bdrewN {B : Nat} {a w : World} (h : Below B a w) (n : Nat) : Below B a (w.drewN n) := ⟨h.os, h.tape, h.output, h.size, h.block⟩
theorem law : Keyed Tryz.prog 3 := int_keyed Tryz.underlying3
theorem zeroE (w : World) : (zeroValue 150).run Tryz.prog w = .ok (memv zeroM) w := by kernel_rfl
theorem key_wf {n : Int} (a : -9223372036854775808 ≤ n) (b : n ≤ 9223372036854775807) : keyOf Tryz.prog 3 (.int .i64 n) = some (.int .i64 n) :=
  keyOf_int_mk Tryz.underlying3 (WalkArith.wf_i64 (by omega))
/-- What a look-up finds. -/
theorem look_at {W : World} {mb n : Nat} {t : List Mem} (h : W.ownsMap Tryz.prog 3 RH mb n (tabD t)) {i : Int} (a : -9223372036854775808 ≤ i) (b : i ≤ 9223372036854775807) :
    (Instr.lookup 117 (.map (some mb)) (.int .i64 i) false).run Tryz.prog W = .ok (memv (atM i t)) W := by
  obtain ⟨v, ps, hrun, hv⟩ := h.lookup law Tryz.underlying117 (zeroE W) (zd := .held (memv zeroM)) (zp := []) rfl (key_wf a b)
  rw [tabD_at] at hv
  simp only [RH, Option.some.injEq, Prod.mk.injEq, DataW.held.injEq] at hv
  rw [hrun, hv.1]
theorem look_ok_at {W : World} {mb n : Nat} {t : List Mem} (h : W.ownsMap Tryz.prog 3 RH mb n (tabD t)) {i : Int} (a : -9223372036854775808 ≤ i) (b : i ≤ 9223372036854775807) :
    (Instr.lookup 117 (.map (some mb)) (.int .i64 i) true).run Tryz.prog W = .ok (.tuple #[memv (atM i t), .bool (findM i t).isSome]) W := by
  obtain ⟨v, ps, hrun, hv⟩ := h.look_ok law Tryz.underlying117 (zeroE W) (zd := .held (memv zeroM)) (zp := []) rfl (key_wf a b)
  rw [tabD_at] at hv
  simp only [RH, Option.some.injEq, Prod.mk.injEq, DataW.held.injEq] at hv
  rw [hrun, hv.1, tabD_has]
theorem NAt.lt {W : World} {nb mb : Nat} {cb : Dk} {pv rv : Value} {x : Nd} (h : NAt W nb mb cb pv rv x) : nb < W.heap.size := by
  rcases Nat.lt_or_ge nb W.heap.size with h' | h'
  · exact h'
  · have := h.blk; rw [Array.getElem?_eq_none h'] at this; cases this
theorem NAt.cell {W : World} {nb mb : Nat} {cb : Dk} {pv rv : Value} {x : Nd} (h : NAt W nb mb cb pv rv x) (i : Nat) (v : Value) (hv : (ndC x mb cb pv rv)[i]? = some v) : W.cell? ⟨nb, i, none⟩ = some v := by
  simp [World.cell?, h.blk, hv]
section
variable {W : World} {nb mb : Nat} {cb : Dk} {pv rv : Value} {x : Nd}
theorem NAt.c_self (h : NAt W nb mb cb pv rv x) : W.cell? ⟨nb, 0, none⟩ = some (.int .i64 x.c.self) := h.cell 0 _ rfl
theorem NAt.c_period (h : NAt W nb mb cb pv rv x) : W.cell? ⟨nb, 1, none⟩ = some (.int .i64 x.c.period) := h.cell 1 _ rfl
theorem NAt.c_wait (h : NAt W nb mb cb pv rv x) : W.cell? ⟨nb, 2, none⟩ = some (.int .i64 x.c.wait) := h.cell 2 _ rfl
theorem NAt.c_proxies (h : NAt W nb mb cb pv rv x) : W.cell? ⟨nb, 4, none⟩ = some (.int .i64 x.c.proxies) := h.cell 4 _ rfl
theorem NAt.c_draw (h : NAt W nb mb cb pv rv x) : W.cell? ⟨nb, 6, none⟩ = some cb.fn := h.cell 6 _ rfl
theorem NAt.c_pst (h : NAt W nb mb cb pv rv x) : W.cell? ⟨nb, 12, none⟩ = some (.int .i64 x.pst) := h.cell 12 _ rfl
theorem NAt.c_suspect (h : NAt W nb mb cb pv rv x) : W.cell? ⟨nb, 3, none⟩ = some (.int .i64 x.c.suspect) := h.cell 3 _ rfl
theorem NAt.c_sends (h : NAt W nb mb cb pv rv x) : W.cell? ⟨nb, 5, none⟩ = some (.int .i64 x.c.sends) := h.cell 5 _ rfl
theorem NAt.c_clock (h : NAt W nb mb cb pv rv x) : W.cell? ⟨nb, 7, none⟩ = some (.int .i64 x.clock) := h.cell 7 _ rfl
theorem NAt.c_map (h : NAt W nb mb cb pv rv x) : W.cell? ⟨nb, 8, none⟩ = some (.map (some mb)) := h.cell 8 _ rfl
theorem NAt.c_pass (h : NAt W nb mb cb pv rv x) : W.cell? ⟨nb, 9, none⟩ = some (pv) := h.cell 9 _ rfl
theorem NAt.c_ptgt (h : NAt W nb mb cb pv rv x) : W.cell? ⟨nb, 10, none⟩ = some (.int .i64 x.ptgt) := h.cell 10 _ rfl
theorem NAt.c_pnum (h : NAt W nb mb cb pv rv x) : W.cell? ⟨nb, 11, none⟩ = some (.int .i64 x.pnum) := h.cell 11 _ rfl
theorem NAt.c_pack (h : NAt W nb mb cb pv rv x) : W.cell? ⟨nb, 13, none⟩ = some (.bool x.pack) := h.cell 13 _ rfl
theorem NAt.c_rels (h : NAt W nb mb cb pv rv x) : W.cell? ⟨nb, 14, none⟩ = some (rv) := h.cell 14 _ rfl
theorem NAt.c_num (h : NAt W nb mb cb pv rv x) : W.cell? ⟨nb, 15, none⟩ = some (.int .i64 x.num) := h.cell 15 _ rfl
theorem NAt.c_evs (h : NAt W nb mb cb pv rv x) : W.cell? ⟨nb, 16, none⟩ = some (.chan (some cb.c)) := h.cell 16 _ rfl
theorem NAt.c_dropped (h : NAt W nb mb cb pv rv x) : W.cell? ⟨nb, 17, none⟩ = some (.int .i64 x.dropped) := h.cell 17 _ rfl
theorem NAt.c_lost (h : NAt W nb mb cb pv rv x) : W.cell? ⟨nb, 18, none⟩ = some (.int .i64 x.lost) := h.cell 18 _ rfl
end
theorem NdOk.id {x : Nd} (h : NdOk x) : 1 ≤ x.c.self ∧ x.c.self ≤ 250 := by
  have := h.cfg
  simp only [cfgB, Bool.and_eq_true] at this
  exact isId_of this.1
theorem field_key (a b c d e : Int) (w : World) : (Instr.field 150 (.agg #[.int .i64 a, .int .i64 b, .int .i64 c, .int .i64 d, .int .i64 e]) 0).run Tryz.prog w = .ok (.agg #[.int .i64 a, .int .i64 b, .int .i64 c]) w := by kernel_rfl
theorem field_k0 (a b c : Int) (w : World) : (Instr.field 76 (.agg #[.int .i64 a, .int .i64 b, .int .i64 c]) 0).run Tryz.prog w = .ok (.int .i64 a) w := by kernel_rfl
theorem field_k1 (a b c : Int) (w : World) : (Instr.field 76 (.agg #[.int .i64 a, .int .i64 b, .int .i64 c]) 1).run Tryz.prog w = .ok (.int .i64 b) w := by kernel_rfl
theorem field_k2 (a b c : Int) (w : World) : (Instr.field 76 (.agg #[.int .i64 a, .int .i64 b, .int .i64 c]) 2).run Tryz.prog w = .ok (.int .i64 c) w := by kernel_rfl
set_option maxHeartbeats 1000000 in
theorem self_any {x : Nd} (hx : NdOk x) {nb mb : Nat} {cb : Dk} {pv rv : Value} {W : World} (hn : NAt W nb mb cb pv rv x) :
    Calls Tryz.prog 65 #[.pointer (some ⟨nb, 0, none⟩)] W fun e w' => e = .returned (.agg #[.int .i64 x.own.id, .int .i64 x.own.inc, .int .i64 x.own.st]) ∧ Below W.heap.size W w' := by
  obtain ⟨i1, i2⟩ := hx.id
  have c0 := hn.c_self
  have c7 := hn.c_map
  have hl := fun o => look_at (hn.alloc o).map.drew (i := x.c.self) (by omega) (by omega)
  simp only [memv] at hl
  have hlt := hn.lt
  clear hn
  have hf := field_key
  go_enter Tryz.func65, Tryz.ntmps65
  go_wp2
  go_region
  all_goals go_wp2
  all_goals refine bodyPost_ret (v := kval x.own) (by simp [results, Tryz.results65, go_sem, Nd.own]) rfl ⟨rfl, bdrew ((Below.refl _ _).alloc (Nat.le_refl _) _)⟩
theorem key_any (m : Mem) (W : World) : Calls Tryz.prog 143 #[memv m] W fun e w' => e = .returned (.agg #[.int .i64 m.k.id, .int .i64 m.k.inc, .int .i64 m.k.st]) ∧ Below W.heap.size W w' := by
  go_enter Tryz.func143, Tryz.ntmps143
  go_wp2
  refine bodyPost_ret (v := kval m.k) (by simp [results, Tryz.results143, go_sem]) rfl ⟨rfl, ((Below.refl _ _).alloc (Nat.le_refl _) _).alloc (Nat.le_trans (Nat.le_refl _) (by simp)) _⟩
theorem pend_any (m : Mem) (W : World) : Calls Tryz.prog 110 #[memv m] W fun e w' => e = .returned (.bool (pendB m)) ∧ Below W.heap.size W w' := by
  go_enter Tryz.func110, Tryz.ntmps110
  go_wp2
  go_ret
  exact ⟨rfl, (Below.refl _ _).alloc (Nat.le_refl _) _⟩
theorem left_any {x : Nd} (hx : NdOk x) {nb mb : Nat} {cb : Dk} {pv rv : Value} {W : World} (hn : NAt W nb mb cb pv rv x) :
    Calls Tryz.prog 57 #[.pointer (some ⟨nb, 0, none⟩)] W fun e w' => e = .returned (.bool x.left) ∧ Below W.heap.size W w' := by
  have HS := hide (self_any hx hn)
  clear hx hn
  have hle : x.left = (x.own.st == 4) := rfl
  rw [hle]
  clear hle
  generalize x.own = k at HS ⊢
  obtain ⟨a, b, c⟩ := k
  go_enter Tryz.func57, Tryz.ntmps57
  go_wp2_with fail
  refine (unhide HS).mono ?_
  rintro e w' ⟨rfl, hb⟩
  have HB := hide hb
  clear hb HS
  have hf := field_k2
  go_wp2
  go_ret
  exact ⟨rfl, unhide HB⟩
set_option maxHeartbeats 1000000 in
theorem isSelf_any {x : Nd} {nb mb : Nat} {cb : Dk} {pv rv : Value} {W : World} (hn : NAt W nb mb cb pv rv x) (m : Mem) :
    Calls Tryz.prog 142 #[.pointer (some ⟨nb, 0, none⟩), memv m] W fun e w' => e = .returned (.bool (m.k.id == x.c.self)) ∧ Below W.heap.size W w' := by
  have c0 := hn.c_self
  have hlt := hn.lt
  clear hn
  go_enter Tryz.func142, Tryz.ntmps142
  go_wp2
  go_quiet (fail)
  go_wp2
  go_ret
  exact ⟨rfl, bdrewN ((Below.refl _ _).alloc (Nat.le_refl _) _) _⟩
end Go.Proofs.YtnneljcbelgoeaaGreatDoor.wire
/- A node in memory, step by step. -/
namespace Go.Proofs.YtnneljcbelgoeaaGreatDoor.wire
open Go.RowKit Go.Maps Go.Conc

theorem lt_blk {w : World} {b : Nat} {o : Obj} (h : w.heap[b]? = some o) : b < w.heap.size := by
  rcases Nat.lt_or_ge b w.heap.size with h' | h'
  · exact h'
  · rw [Array.getElem?_eq_none h'] at h; cases h
theorem map_blk {w : World} {P : Program} {k : TypeId} {mb n : Nat} {D : DataW Value} (h : w.ownsMap P k RH mb n D) : ∃ es c, w.heap[mb]? = some (.map es c) := by
  obtain ⟨es, c, hb, _⟩ := h; exact ⟨es, c, hb⟩
theorem own_blk {w : World} {base : Nat} {e : TypeId} {size : Nat} {v : Value} {n : Nat} {xs : List Value} (h : w.ownsRow base e size v n xs) {k : Nat} (hk : v.ownBlock = some k) : ∃ cs, w.heap[k]? = some (.cells cs e (0, 0)) := by
  rcases h.2 with ⟨rfl, _⟩ | ⟨g, cap, cur, rfl, hb, hg, _⟩
  · simp [Value.ownBlock] at hk
  · simp [Value.ownBlock] at hk; subst hk; exact ⟨cur, hg⟩
section
variable {W : World} {nb mb : Nat} {cb : Dk} {pv rv : Value} {x : Nd}
theorem NAt.mb_nb (h : NAt W nb mb cb pv rv x) : mb ≠ nb := fun e => by
  obtain ⟨es, c, hm⟩ := map_blk h.map; rw [e, h.blk] at hm; cases hm
theorem NAt.cb_nb (h : NAt W nb mb cb pv rv x) : cb.c ≠ nb := fun e => by
  obtain ⟨s, r, hm⟩ := h.chan; rw [e, h.blk] at hm; cases hm
theorem NAt.mb_cb (h : NAt W nb mb cb pv rv x) : mb ≠ cb.c := fun e => by
  obtain ⟨es, c, hm⟩ := map_blk h.map; obtain ⟨s, r, hc⟩ := h.chan; rw [e, hc] at hm; cases hm
theorem NAt.pass_ne (h : NAt W nb mb cb pv rv x) {k : Nat} (hk : pv.ownBlock = some k) : k ≠ nb ∧ k ≠ mb ∧ k ≠ cb.c := by
  obtain ⟨cs, hb⟩ := h.pass.blk hk
  refine ⟨fun e => ?_, fun e => ?_, fun e => ?_⟩
  · rw [e, h.blk] at hb; cases hb
  · obtain ⟨es, c, hm⟩ := map_blk h.map; rw [e, hm] at hb; cases hb
  · obtain ⟨s, r, hm⟩ := h.chan; rw [e, hm] at hb; cases hb
theorem NAt.rel_ne (h : NAt W nb mb cb pv rv x) {k : Nat} (hk : rv.ownBlock = some k) : k ≠ nb ∧ k ≠ mb ∧ k ≠ cb.c := by
  obtain ⟨cs, hb⟩ := own_blk h.rel hk
  refine ⟨fun e => ?_, fun e => ?_, fun e => ?_⟩
  · rw [e, h.blk] at hb; cases hb
  · obtain ⟨es, c, hm⟩ := map_blk h.map; rw [e, hm] at hb; cases hb
  · obtain ⟨s, r, hm⟩ := h.chan; rw [e, hm] at hb; cases hb
theorem NAt.not_draw (h : NAt W nb mb cb pv rv x) : nb ∉ cb.all ∧ mb ∉ cb.all ∧ cb.c ∉ cb.all := by
  refine ⟨h.draw.not h.blk (fun cs e => by cases e) (fun cs e => by cases e), ?_, ?_⟩
  · obtain ⟨es, c, hm⟩ := map_blk h.map; exact h.draw.not hm (fun cs e => by cases e) (fun cs e => by cases e)
  · obtain ⟨s, r, hc⟩ := h.chan; exact h.draw.not hc (fun cs e => by cases e) (fun cs e => by cases e)
theorem NAt.rel_draw (h : NAt W nb mb cb pv rv x) {k : Nat} (hk : rv.ownBlock = some k) : k ∉ cb.all := by
  obtain ⟨cs, hb⟩ := own_blk h.rel hk
  exact h.draw.not hb (fun cs e => by cases e) (fun cs e => by cases e)
/-- The draws lie aside of what is turned. -/
theorem NAt.draw_frm {S : List Nat} {W' : World} (h : NAt W nb mb cb pv rv x) (hf : Frm S W W') (hs : ∀ k ∈ S, k = nb ∨ k = mb ∨ k = cb.c ∨ rv.ownBlock = some k) : DrawAt W' cb pv x.dl x.dat := by
  obtain ⟨n1, n2, n3⟩ := h.not_draw
  refine h.draw.frm hf (fun k hk hm => ?_)
  rcases hs k hm with rfl | rfl | rfl | e
  · exact n1 hk
  · exact n2 hk
  · exact n3 hk
  · exact h.rel_draw e hk
theorem NAt.lt_mb (h : NAt W nb mb cb pv rv x) : mb < W.heap.size := h.map.lt
theorem NAt.lt_cb (h : NAt W nb mb cb pv rv x) : cb.c < W.heap.size := by obtain ⟨s, r, hc⟩ := h.chan; exact lt_blk hc
theorem NAt.drew (h : NAt W nb mb cb pv rv x) : NAt W.drew nb mb cb pv rv x := ⟨h.blk, h.map, h.chan, h.pass, h.rel, ⟨h.draw.ob, h.draw.ab, h.draw.row, h.draw.sep, h.draw.sepp⟩⟩
theorem NAt.drewN (h : NAt W nb mb cb pv rv x) (n : Nat) : NAt (W.drewN n) nb mb cb pv rv x := ⟨h.blk, h.map, h.chan, h.pass, h.rel, ⟨h.draw.ob, h.draw.ab, h.draw.row, h.draw.sep, h.draw.sepp⟩⟩
/-- The table's block is written. -/
theorem NAt.put {w1 : World} (h : NAt W nb mb cb pv rv x) (hr : Rise x.tab) (m : Mem) {n : Nat} (hown : w1.ownsMap Tryz.prog 3 RH mb n ((tabD x.tab).put (.int .i64 m.k.id) (.held (memv m)))) (hg : W.grownBy w1 (some mb)) :
    NAt w1 nb mb cb pv rv { x with tab := putM m x.tab } := by
  have hf : Frm [mb] W w1 := Frm.of_grown hg (fun k hk => by simp at hk; simp [hk])
  rw [tabD_put m _ hr] at hown
  have hown := own_tight hown
  rw [tabD_size] at hown
  obtain ⟨s, r, hc⟩ := h.chan
  refine ⟨(hf.block nb h.lt (by simpa using h.mb_nb.symm)).trans h.blk, hown, ⟨s, r, (hf.block cb h.lt_cb (by simpa using h.mb_cb.symm)).trans hc⟩, h.pass.frm hf (fun k hk => by simpa using (h.pass_ne hk).2.1), own_frm h.rel hf (fun k hk => by simpa using (h.rel_ne hk).2.1), h.draw_frm hf (by simp)⟩
/-- A cell of the node is written. -/
theorem NAt.set (h : NAt W nb mb cb pv rv x) (i : Nat) (v : Value) {x' : Nd} (hc : (ndC x mb cb pv rv).setIfInBounds i v = ndC x' mb cb pv rv) (ht : x'.tab = x.tab) (he : x'.evs = x.evs) (hp : x'.pass = x.pass) (hr : x'.rels = x.rels) (hd : x'.dl = x.dl := by rfl) (ha : x'.dat = x.dat := by rfl) :
    NAt (W.setCell ⟨nb, i, none⟩ v) nb mb cb pv rv x' ∧ Frm [nb] W (W.setCell ⟨nb, i, none⟩ v) := by
  have hf : Frm [nb] W (W.setCell ⟨nb, i, none⟩ v) := by
    have hb := Below.refl 0 W
    refine ⟨?_, ?_, ?_, ?_, fun k _ hk => heap_setCell_other W ⟨nb, i, none⟩ k v (by simpa using hk)⟩
    · exact (hb.setCell (p := ⟨nb, i, none⟩) (Nat.zero_le _) v).os
    · exact (hb.setCell (p := ⟨nb, i, none⟩) (Nat.zero_le _) v).tape
    · exact (hb.setCell (p := ⟨nb, i, none⟩) (Nat.zero_le _) v).output
    · exact (hb.setCell (p := ⟨nb, i, none⟩) (Nat.zero_le _) v).size
  refine ⟨⟨?_, ?_, ?_, ?_, ?_, ?_⟩, hf⟩
  · rw [heap_setCell_same W nb i _ _ v h.blk, hc]
  · rw [ht]; exact map_frm h.map hf (by simpa using h.mb_nb)
  · obtain ⟨s, r, hc⟩ := h.chan
    rw [he]; exact ⟨s, r, (hf.block cb h.lt_cb (by simpa using h.cb_nb)).trans hc⟩
  · rw [hp]; exact h.pass.frm hf (fun k hk => by simpa using (h.pass_ne hk).1)
  · rw [hr]; exact own_frm h.rel hf (fun k hk => by simpa using (h.rel_ne hk).1)
  · rw [hd, ha]; exact h.draw_frm hf (by simp)
/-- An event lies in the channel. -/
theorem NAt.event (h : NAt W nb mb cb pv rv x) (l : List K3) {buf : Array Value} (hb : buf = (l.map kval).toArray) (s r : Nat) :
    NAt (W.setChan cb 8 buf false s r false) nb mb cb pv rv { x with evs := l } ∧ Frm [cb] W (W.setChan cb 8 buf false s r false) := by
  have hf : Frm [cb.c] W (W.setChan cb 8 buf false s r false) := by
    have hbl := below_setChan (Below.refl 0 W) (c := cb.c) (Nat.zero_le _) 8 buf false s r false
    refine ⟨hbl.os, hbl.tape, hbl.output, hbl.size, fun k _ hk => ?_⟩
    have : cb.c ≠ k := fun e => hk (by simp [e])
    simp only [World.setChan]; rw [Array.getElem?_setIfInBounds_ne this]
  refine ⟨⟨(hf.block nb h.lt (by simpa using h.cb_nb.symm)).trans h.blk, map_frm h.map hf (by simpa using h.mb_cb), ⟨s, r, ?_⟩, h.pass.frm hf (fun k hk => by simpa using (h.pass_ne hk).2.2), own_frm h.rel hf (fun k hk => by simpa using (h.rel_ne hk).2.2), h.draw_frm hf (by simp)⟩, hf⟩
  rw [heap_setChan W cb 8 buf false s r false h.lt_cb, hb]
end
end Go.Proofs.YtnneljcbelgoeaaGreatDoor.wire
/- change: a key into the table, an event, an update (P6). -/
namespace Go.Proofs.YtnneljcbelgoeaaGreatDoor.wire
open Go.RowKit Go.Maps Go.Conc

theorem key_bounds {k : K3} (h : isKeyB k = true) : (1 ≤ k.id ∧ k.id ≤ 250) ∧ (1 ≤ k.inc ∧ k.inc ≤ 1073741824) ∧ (1 ≤ k.st ∧ k.st ≤ 4) := by
  simp only [isKeyB, Bool.and_eq_true] at h
  exact ⟨isId_of h.1, isInc_of h.2.1, isSt_of h.2.2⟩
theorem NdOk.cfgs {x : Nd} (h : NdOk x) : (1 ≤ x.c.self ∧ x.c.self ≤ 250) ∧ (4 ≤ x.c.period ∧ x.c.period ≤ 50) ∧ (1 ≤ x.c.suspect ∧ x.c.suspect ≤ 500) ∧ (1 ≤ x.c.sends ∧ x.c.sends ≤ 8) := by
  have := h.cfg
  simp only [cfgB, Bool.and_eq_true, decide_eq_true_eq] at this
  exact ⟨isId_of this.1, this.2.1, this.2.2.2.1, this.2.2.2.2.2⟩
set_option maxHeartbeats 400000 in
set_option maxRecDepth 100000 in
theorem change_any {x : Nd} (hx : NdOk x) {nb mb : Nat} {cb : Dk} {pv rv : Value} {W : World} (hn : NAt W nb mb cb pv rv x) (k : K3) (hk : isKeyB k = true) (hc0 : 0 ≤ x.clock) (hc1 : x.clock ≤ 1000000000000) (hl0 : 0 ≤ x.lost) (hl1 : x.lost ≤ 1000000000000) :
    Calls Tryz.prog 66 #[.pointer (some ⟨nb, 0, none⟩), .agg #[.int .i64 k.id, .int .i64 k.inc, .int .i64 k.st]] W fun e w' => e = .returned (.tuple #[]) ∧ NAt w' nb mb cb pv rv (x.change k) ∧ Frm [nb, mb, cb] W w' := by
  have HX := hide hx
  obtain ⟨⟨k1, k2⟩, _⟩ := key_bounds hk
  obtain ⟨_, _, ⟨s1, s2⟩, _⟩ := hx.cfgs
  clear hx hk
  have hn1 := (hn.alloc (.cells #[.int .i64 k.id, .int .i64 k.inc, .int .i64 k.st] 76)).drew
  have hf1 : Frm [nb, mb, cb] W (W.alloc (.cells #[.int .i64 k.id, .int .i64 k.inc, .int .i64 k.st] 76)).drew := Frm.of_below ((Below.refl _ _).alloc (Nat.le_refl _) _).drew (Nat.le_refl _)
  have hbx : (W.alloc (.cells #[.int .i64 k.id, .int .i64 k.inc, .int .i64 k.st] 76)).drew.heap[W.heap.size]? = some (.cells #[.int .i64 k.id, .int .i64 k.inc, .int .i64 k.st] 76 (0, 0)) := heap_alloc_new W _
  obtain ⟨w1, hrun, hown, hg⟩ := hn1.map.update law Tryz.underlying117 (key := .int .i64 k.id) (val := memv ⟨k, x.clock + x.c.suspect, x.c.sends⟩) (by have := (unhide HX).len; unfold maxLen; omega) (key_wf (by omega) (by omega)) (d := .held (memv ⟨k, x.clock + x.c.suspect, x.c.sends⟩)) (ps := []) rfl
  have hn2 := hn1.put (unhide HX).rise ⟨k, x.clock + x.c.suspect, x.c.sends⟩ hown hg
  have hf2 : Frm [nb, mb, cb] W w1 := hf1.trans (Frm.of_grown (S := [mb]) hg (fun j hj => by simp at hj; simp [hj])) (by simp)
  have hb2 : w1.heap[W.heap.size]? = some (.cells #[.int .i64 k.id, .int .i64 k.inc, .int .i64 k.st] 76 (0, 0)) := (hg.block W.heap.size (by simp) (by have := hn.lt_mb; simp; omega)).trans hbx
  have a0 := hn.c_map
  have a1 := hn.c_clock
  have a2 := hn.c_suspect
  have a3 := hn.c_sends
  have hlt := hn.lt
  simp only [memv] at hrun
  have HN := hide hn2
  have HF := hide hf2
  have HB := hide hb2
  clear hn hn1 hn2 hf1 hf2 hb2 hbx hown hg
  refine calls_lone Tryz.func66 rfl (by rintro _ ⟨h, _⟩; cases h) (fun cs b hbf hbk => ?_)
  simp only [Tryz.ntmps66, List.size_toArray, List.length_cons, List.length_nil, Nat.reduceAdd, Nat.reduceSub, Array.replicate_succ, Array.replicate_zero, List.push_toArray, List.append_toArray, List.nil_append, List.cons_append]
  refine lone_seq ?_
  go_wp2
  refine lone_seq ?_
  refine wp_region_still_tail 23 (by kernel_rfl) (by kernel_rfl) ?_
  simp only [List.take_succ_cons, List.take_zero, List.drop_succ_cons, List.drop_zero]
  change wpStill _ _ (W.alloc (.cells #[.int .i64 k.id, .int .i64 k.inc, .int .i64 k.st] 76)).drew (fun a' => wpList _ _ _ _ a' (W.alloc (.cells #[.int .i64 k.id, .int .i64 k.inc, .int .i64 k.st] 76)).drew) _ _
  repeat still_step
  refine wpStill_nil ?_
  go_wp2
  rw [hrun]
  go_wp2
  clear hrun
  have hn2 := unhide HN
  have b0 := hn2.c_evs
  have b1 := hn2.c_lost
  have b2 := free_at hn2.blk 18
  obtain ⟨s, r, hch⟩ := hn2.chan
  have HC := hide hch
  have d0 := cell_at (unhide HB) 0
  have d1 := cell_at (unhide HB) 1
  have d2 := cell_at (unhide HB) 2
  simp only [List.getElem?_toArray, List.getElem?_cons_zero, List.getElem?_cons_succ] at d0 d1 d2
  clear hn2 hch
  refine lone_seq ?_
  go_wp2
  refine lone_split ?_
  by_cases hroom : x.evs.length < 8
  · refine lone_send_room (val := kval k) (z := .agg #[.int .i64 0, .int .i64 0, .int .i64 0]) (by rw [hbk]; decide) rfl rfl (by simp [go_sem, execOp, scase, Act.eval]) (unhide HC) (by simpa using hroom) ?_
    go_wp2
    refine lone_last Tryz.func66 hbf hbk (by rintro _ ⟨h, _⟩; cases h) ?_
    go_wp2
    go_end0
    obtain ⟨e1, e2⟩ := (unhide HN).event (x.evs ++ [k]) (buf := (List.map kval x.evs ++ [kval k]).toArray) (by simp) (s + 1) r
    refine ⟨rfl, ?_, (unhide HF).trans e2 (by simp)⟩
    have : x.change k = { x with tab := putM ⟨k, x.clock + x.c.suspect, x.c.sends⟩ x.tab, evs := x.evs ++ [k] } := by simp [Nd.change, hroom]
    rw [this]
    exact e1
  · refine lone_send_full (val := kval k) (z := .agg #[.int .i64 0, .int .i64 0, .int .i64 0]) (by rw [hbk]; decide) rfl rfl (by simp [go_sem, execOp, scase, Act.eval]) (unhide HC) (by simp; omega) ?_
    go_wp2
    refine lone_last Tryz.func66 hbf hbk (by rintro _ ⟨h, _⟩; cases h) ?_
    go_wp2
    go_end0
    obtain ⟨e1, e2⟩ := (unhide HN).set 18 (.int .i64 (x.lost + 1)) (x' := { x with tab := putM ⟨k, x.clock + x.c.suspect, x.c.sends⟩ x.tab, lost := x.lost + 1 }) rfl rfl rfl rfl rfl
    refine ⟨rfl, ?_, (unhide HF).trans e2 (by simp)⟩
    have : x.change k = { x with tab := putM ⟨k, x.clock + x.c.suspect, x.c.sends⟩ x.tab, lost := x.lost + 1 } := by simp [Nd.change, hroom]
    rw [this]
    exact e1
end Go.Proofs.YtnneljcbelgoeaaGreatDoor.wire
/- Package list: Keep. (Written by wip/gen/mklist.py.) -/
namespace Go.Proofs.YtnneljcbelgoeaaGreatDoor.wire
open Go.RowKit Go.Maps

theorem own_below2 {w w' : World} {base : Nat} {e : TypeId} {size : Nat} {v : Value} {n : Nat} {xs : List Value} (h : w.ownsRow base e size v n xs) (hb : Below w.heap.size w w') : w'.ownsRow base e size v n xs :=
  own_frm (S := []) h (Frm.of_below hb (Nat.le_refl _)) (by simp)
def rowsM (w : World) (b off : Nat) (l : List Mem) : Prop := ∀ (i : Nat) (h : i < l.length), w.cell? ⟨b, off + i * 5, none⟩ = some (.int .i64 l[i].k.id) ∧ w.cell? ⟨b, off + i * 5 + 1, none⟩ = some (.int .i64 l[i].k.inc) ∧ w.cell? ⟨b, off + i * 5 + 2, none⟩ = some (.int .i64 l[i].k.st) ∧ w.cell? ⟨b, off + i * 5 + 3, none⟩ = some (.int .i64 l[i].due) ∧ w.cell? ⟨b, off + i * 5 + 4, none⟩ = some (.int .i64 l[i].sends)
theorem lenM (l : List Mem) : (l.flatMap memC).length = l.length * 5 := by
  induction l with
  | nil => rfl
  | cons a r ih => simp only [List.flatMap_cons, List.length_append, ih, List.length_cons, memC, List.length_nil]; omega
theorem getM : ∀ (l : List Mem) (i : Nat) (h : i < l.length) (j : Nat), j < 5 → (l.flatMap memC)[i * 5 + j]? = (memC l[i])[j]?
  | a :: r, 0, _, j, hj => by
    rw [List.flatMap_cons, List.getElem?_append_left (by simp [memC]; omega)]; simp
  | a :: r, i + 1, h, j, hj => by
    rw [List.flatMap_cons, List.getElem?_append_right (by simp [memC]; omega)]
    have := getM r i (by simpa using h) j hj
    simp only [List.getElem_cons_succ]
    rw [← this]
    congr 1
    simp [memC]; omega
theorem rowM {w : World} {base b cap n : Nat} {l : List Mem} (h : w.ownsRow base 150 5 (.slice (some ⟨b, 0, none⟩) n cap) l.length (l.flatMap memC)) : rowsM w b 0 l := by
  intro i hi
  rcases h.2 with ⟨e, _⟩ | ⟨g, cap', cur, e, hb, hg, h1, h2, h3, h4⟩
  · cases e
  · cases e
    have hc : ∀ j, j < 5 → w.cell? ⟨b, 0 + i * 5 + j, none⟩ = (memC l[i])[j]? := fun j hj => by
      rw [cell_at hg, ← getM l i hi j hj, ← h4, List.getElem?_take, if_pos (by have : (i + 1) * 5 ≤ l.length * 5 := Nat.mul_le_mul_right _ hi; omega), Array.getElem?_toList, Nat.zero_add]
    exact ⟨hc 0 (by omega), hc 1 (by omega), hc 2 (by omega), hc 3 (by omega), hc 4 (by omega)⟩
theorem Tryz.infoML : (Tryz.prog.info? 150).map (fun i => (i.zero, i.size, i.bytes)) = some (some (.agg #[.int .i64 0, .int .i64 0, .int .i64 0, .int .i64 0, .int .i64 0]), 5, 40) := by kernel_rfl
def rowsR (w : World) (b off : Nat) (l : List Rel) : Prop := ∀ (i : Nat) (h : i < l.length), w.cell? ⟨b, off + i * 5, none⟩ = some (.int .i64 l[i].tgt) ∧ w.cell? ⟨b, off + i * 5 + 1, none⟩ = some (.int .i64 l[i].num) ∧ w.cell? ⟨b, off + i * 5 + 2, none⟩ = some (.int .i64 l[i].asker) ∧ w.cell? ⟨b, off + i * 5 + 3, none⟩ = some (.int .i64 l[i].under) ∧ w.cell? ⟨b, off + i * 5 + 4, none⟩ = some (.int .i64 l[i].till)
theorem lenR (l : List Rel) : (l.flatMap relC).length = l.length * 5 := by
  induction l with
  | nil => rfl
  | cons a r ih => simp only [List.flatMap_cons, List.length_append, ih, List.length_cons, relC, List.length_nil]; omega
theorem getR : ∀ (l : List Rel) (i : Nat) (h : i < l.length) (j : Nat), j < 5 → (l.flatMap relC)[i * 5 + j]? = (relC l[i])[j]?
  | a :: r, 0, _, j, hj => by
    rw [List.flatMap_cons, List.getElem?_append_left (by simp [relC]; omega)]; simp
  | a :: r, i + 1, h, j, hj => by
    rw [List.flatMap_cons, List.getElem?_append_right (by simp [relC]; omega)]
    have := getR r i (by simpa using h) j hj
    simp only [List.getElem_cons_succ]
    rw [← this]
    congr 1
    simp [relC]; omega
theorem rowR {w : World} {base b cap n : Nat} {l : List Rel} (h : w.ownsRow base 161 5 (.slice (some ⟨b, 0, none⟩) n cap) l.length (l.flatMap relC)) : rowsR w b 0 l := by
  intro i hi
  rcases h.2 with ⟨e, _⟩ | ⟨g, cap', cur, e, hb, hg, h1, h2, h3, h4⟩
  · cases e
  · cases e
    have hc : ∀ j, j < 5 → w.cell? ⟨b, 0 + i * 5 + j, none⟩ = (relC l[i])[j]? := fun j hj => by
      rw [cell_at hg, ← getR l i hi j hj, ← h4, List.getElem?_take, if_pos (by have : (i + 1) * 5 ≤ l.length * 5 := Nat.mul_le_mul_right _ hi; omega), Array.getElem?_toList, Nat.zero_add]
    exact ⟨hc 0 (by omega), hc 1 (by omega), hc 2 (by omega), hc 3 (by omega), hc 4 (by omega)⟩
theorem Tryz.infoRL : (Tryz.prog.info? 161).map (fun i => (i.zero, i.size, i.bytes)) = some (some (.agg #[.int .i64 0, .int .i64 0, .int .i64 0, .int .i64 0, .int .i64 0]), 5, 40) := by kernel_rfl
def rowsI (w : World) (b off : Nat) (l : List Int) : Prop := ∀ (i : Nat) (h : i < l.length), w.cell? ⟨b, off + i, none⟩ = some (.int .i64 l[i])
theorem lenI (l : List Int) : (l.flatMap intC).length = l.length * 1 := by
  induction l with
  | nil => rfl
  | cons a r ih => simp only [List.flatMap_cons, List.length_append, ih, List.length_cons, intC, List.length_nil]; omega
theorem getI : ∀ (l : List Int) (i : Nat) (h : i < l.length) (j : Nat), j < 1 → (l.flatMap intC)[i * 1 + j]? = (intC l[i])[j]?
  | a :: r, 0, _, j, hj => by
    rw [List.flatMap_cons, List.getElem?_append_left (by simp [intC]; omega)]; simp
  | a :: r, i + 1, h, j, hj => by
    rw [List.flatMap_cons, List.getElem?_append_right (by simp [intC]; omega)]
    have := getI r i (by simpa using h) j hj
    simp only [List.getElem_cons_succ]
    rw [← this]
    congr 1
    simp [intC]
theorem rowI {w : World} {base b cap n : Nat} {l : List Int} (h : w.ownsRow base 3 1 (.slice (some ⟨b, 0, none⟩) n cap) l.length (l.flatMap intC)) : rowsI w b 0 l := by
  intro i hi
  rcases h.2 with ⟨e, _⟩ | ⟨g, cap', cur, e, hb, hg, h1, h2, h3, h4⟩
  · cases e
  · cases e
    have hc : ∀ j, j < 1 → w.cell? ⟨b, 0 + i * 1 + j, none⟩ = (intC l[i])[j]? := fun j hj => by
      rw [cell_at hg, ← getI l i hi j hj, ← h4, List.getElem?_take, if_pos (by have : (i + 1) * 1 ≤ l.length * 1 := Nat.mul_le_mul_right _ hi; omega), Array.getElem?_toList, Nat.zero_add]
    have := hc 0 (by omega); simpa [intC] using this
theorem Tryz.infoIL : (Tryz.prog.info? 3).map (fun i => (i.zero, i.size, i.bytes)) = some (some (.int .i64 0), 1, 8) := by kernel_rfl
set_option maxHeartbeats 2000000 in
theorem keepM_at (l : List Mem) (p : Mem → Bool) (g : Nat) (pre lb : Array Value) (b off cap : Nat) (w : World) (hb : b < w.heap.size) (hl : l.length ≤ 1000) (hrow : rowsM w b off l) (eg : ∀ args w, (callFunc g args).run Tryz.prog w = .ok (.enter g args) w)
    (hp : ∀ m W, Below w.heap.size w W → Calls Tryz.prog g (pre ++ #[.agg #[.int .i64 m.k.id, .int .i64 m.k.inc, .int .i64 m.k.st, .int .i64 m.due, .int .i64 m.sends]] ++ lb) W fun e w' => e = .returned (.bool (p m)) ∧ Below W.heap.size W w') :
    Calls Tryz.prog 94 #[.slice (some ⟨b, off, none⟩) l.length cap, .func (.func g) pre lb] w fun e w' => ∃ v', e = .returned v' ∧ w'.ownsRow w.heap.size 150 5 v' (l.filter p).length ((l.filter p).flatMap memC) ∧ Below w.heap.size w w' := by
  obtain ⟨ti, hti, hz0, hz1, hz2⟩ := info_parts Tryz.infoML
  have HP := hide hp
  clear hp
  go_enter Tryz.func94, Tryz.ntmps94
  go_wp2
  go_loopw [5, 10] (fun o i wr => ∃ k : Nat, k ≤ l.length ∧ i = .int .i64 k ∧ Hid (wr.ownsRow w.heap.size 150 5 o ((l.take k).filter p).length (((l.take k).filter p).flatMap memC)) ∧ Below w.heap.size w wr) (fun _ i _ => l.length - (Go.RowKit.intOf i).toNat)
  case atStart => exact ⟨0, Nat.zero_le _, rfl, ⟨rfl, .inl ⟨rfl, rfl⟩⟩, Below.refl _ _⟩
  case round =>
    rename_i o i
    obtain ⟨k, hk, rfl, HO, hbel⟩ := hrel
    by_cases hlt : k < l.length
    · have hrk := hrow k hlt
      have hsz := hbel.size
      have hfl : ((l.take k).filter p).length ≤ 1000 := Nat.le_trans (List.length_filter_le _ _) (by simp; omega)
      have hft : (l.take (k + 1)).filter p = (l.take k).filter p ++ (if p l[k] then [l[k]] else []) := by
        rw [List.take_succ_eq_append_getElem hlt, List.filter_append]; cases h : p l[k] <;> simp [h]
      have HFT := hide hft
      clear hft
      generalize l[k] = K at hrk HFT
      obtain ⟨c0, c1, c2, c3, c4⟩ := hrk
      have d0 := (hbel.cell (p := ⟨b, off + k * 5, none⟩) hb).trans c0
      have d1 := (hbel.cell (p := ⟨b, off + k * 5 + 1, none⟩) hb).trans c1
      have d2 := (hbel.cell (p := ⟨b, off + k * 5 + 2, none⟩) hb).trans c2
      have d3 := (hbel.cell (p := ⟨b, off + k * 5 + 3, none⟩) hb).trans c3
      have d4 := (hbel.cell (p := ⟨b, off + k * 5 + 4, none⟩) hb).trans c4
      clear c0 c1 c2 c3 c4
      cases hq : p K
      all_goals
        have HQ := hide hq
        clear hq
        have hB0 := hide (heap_alloc_new wr (.cells #[.int .i64 K.k.id, .int .i64 K.k.inc, .int .i64 K.k.st, .int .i64 K.due, .int .i64 K.sends] 150))
        go_wp2_with fail
        refine ((unhide HP) K _ (hbel.alloc hsz _)).mono ?_
        rw [unhide HQ]
        rintro e w1 ⟨rfl, hb1⟩
        have hbx := (hb1.block wr.heap.size (by simp)).trans (unhide hB0)
        clear hB0
        have e0 := cell_at hbx 0
        have e1 := cell_at hbx 1
        have e2 := cell_at hbx 2
        have e3 := cell_at hbx 3
        have e4 := cell_at hbx 4
        simp only [List.getElem?_toArray, List.getElem?_cons_zero, List.getElem?_cons_succ] at e0 e1 e2 e3 e4
        clear hbx
        have hbel1 : Below w.heap.size w w1 := (hbel.alloc (by have := hbel.size; omega) _).trans (hb1.mono (by simp; omega))
        have HO1 := hide (own_below2 (HO.out.alloc _) hb1)
        have HB := hide hbel1
        have hs1 := hbel1.size
        clear hb1 hbel1 d0 d1 d2 d3 d4 HO
      · go_wp2
        go_roundw
        case rel =>
          refine ⟨k + 1, by omega, by go_num, ?_, unhide HB⟩
          rw [unhide HFT, unhide HQ]
          exact hide (by simpa using unhide HO1)
        case measure => simp [Go.RowKit.intOf]; omega
      · go_wp2_with (at_builtin; refine wpList_append_own _ rfl _ _ 163 rfl w.heap.size 150 ti (.agg #[.int .i64 0, .int .i64 0, .int .i64 0, .int .i64 0, .int .i64 0]) 5 40 Tryz.underlying163 hti hz0 hz1 hz2 rfl (by decide) _ _ _ rfl ((unhide HO1).alloc _) ⟨w1.heap.size, 0, none⟩ 1 1 [.int .i64 K.k.id, .int .i64 K.k.inc, .int .i64 K.k.st, .int .i64 K.due, .int .i64 K.sends] rfl rfl ?c1 ?c2 ?c3 ?c4 ?c5 ?_)
        case c1 => exact World.news_of_block (heap_alloc_new w1 _)
        case c2 => intro u hu; simp at hu; rcases hu with rfl | rfl | rfl | rfl | rfl <;> rfl
        case c3 => unfold maxLen; omega
        case c4 => omega
        case c5 => simp; omega
        intro v' w2 hown' hgrow _
        have hbel2 : Below w.heap.size w w2 := ((unhide HB).alloc hs1 _).grown hgrow (by simp; omega) (fun j hj => (own_lt (unhide HO1) hj).1)
        have HO2 := hide hown'
        have HB2 := hide hbel2
        clear hown' hgrow hbel2
        go_wp2
        go_roundw
        case rel =>
          refine ⟨k + 1, by omega, by go_num, ?_, unhide HB2⟩
          rw [unhide HFT, unhide HQ]
          exact hide (by simpa [memC] using unhide HO2)
        case measure => simp [Go.RowKit.intOf]; omega
    · have e : k = l.length := by omega
      rw [e, List.take_length] at HO
      go_wp2
      go_ret
      exact ⟨_, rfl, HO.out, hbel⟩
theorem keepM_nil (p : Mem → Bool) (fv : Value) (w : World) : Calls Tryz.prog 94 #[.slice none 0 0, fv] w fun e w' => ∃ v', e = .returned v' ∧ w'.ownsRow w.heap.size 150 5 v' (([] : List Mem).filter p).length ((([] : List Mem).filter p).flatMap memC) ∧ Below w.heap.size w w' := by
  go_enter Tryz.func94, Tryz.ntmps94
  go_wp2
  refine wp_loop_rounds 1 ?_
  rw [rounds_succ]
  go_wp2
  go_ret
  exact ⟨_, rfl, ⟨rfl, .inl ⟨rfl, rfl⟩⟩, Below.refl _ _⟩
theorem keepM_any (l : List Mem) (p : Mem → Bool) (g : Nat) (pre lb : Array Value) {v : Value} {w : World} {base : Nat} (hv : w.ownsRow base 150 5 v l.length (l.flatMap memC)) (hl : l.length ≤ 1000) (eg : ∀ args w, (callFunc g args).run Tryz.prog w = .ok (.enter g args) w)
    (hp : ∀ m W, Below w.heap.size w W → Calls Tryz.prog g (pre ++ #[.agg #[.int .i64 m.k.id, .int .i64 m.k.inc, .int .i64 m.k.st, .int .i64 m.due, .int .i64 m.sends]] ++ lb) W fun e w' => e = .returned (.bool (p m)) ∧ Below W.heap.size W w') :
    Calls Tryz.prog 94 #[v, .func (.func g) pre lb] w fun e w' => ∃ v', e = .returned v' ∧ w'.ownsRow w.heap.size 150 5 v' (l.filter p).length ((l.filter p).flatMap memC) ∧ Below w.heap.size w w' := by
  have hv0 := hv
  rcases hv.2 with ⟨rfl, h0⟩ | ⟨b, cap, cur, rfl, hb, hg, _⟩
  · obtain rfl : l = [] := List.length_eq_zero_iff.1 h0
    exact keepM_nil p _ w
  · exact keepM_at l p g pre lb b 0 cap w (lt_blk hg) hl (rowM hv0) eg hp
set_option maxHeartbeats 2000000 in
theorem keepR_at (l : List Rel) (p : Rel → Bool) (g : Nat) (pre lb : Array Value) (b off cap : Nat) (w : World) (hb : b < w.heap.size) (hl : l.length ≤ 1000) (hrow : rowsR w b off l) (eg : ∀ args w, (callFunc g args).run Tryz.prog w = .ok (.enter g args) w)
    (hp : ∀ m W, Below w.heap.size w W → Calls Tryz.prog g (pre ++ #[.agg #[.int .i64 m.tgt, .int .i64 m.num, .int .i64 m.asker, .int .i64 m.under, .int .i64 m.till]] ++ lb) W fun e w' => e = .returned (.bool (p m)) ∧ Below W.heap.size W w') :
    Calls Tryz.prog 127 #[.slice (some ⟨b, off, none⟩) l.length cap, .func (.func g) pre lb] w fun e w' => ∃ v', e = .returned v' ∧ w'.ownsRow w.heap.size 161 5 v' (l.filter p).length ((l.filter p).flatMap relC) ∧ Below w.heap.size w w' := by
  obtain ⟨ti, hti, hz0, hz1, hz2⟩ := info_parts Tryz.infoRL
  have HP := hide hp
  clear hp
  go_enter Tryz.func127, Tryz.ntmps127
  go_wp2
  go_loopw [5, 10] (fun o i wr => ∃ k : Nat, k ≤ l.length ∧ i = .int .i64 k ∧ Hid (wr.ownsRow w.heap.size 161 5 o ((l.take k).filter p).length (((l.take k).filter p).flatMap relC)) ∧ Below w.heap.size w wr) (fun _ i _ => l.length - (Go.RowKit.intOf i).toNat)
  case atStart => exact ⟨0, Nat.zero_le _, rfl, ⟨rfl, .inl ⟨rfl, rfl⟩⟩, Below.refl _ _⟩
  case round =>
    rename_i o i
    obtain ⟨k, hk, rfl, HO, hbel⟩ := hrel
    by_cases hlt : k < l.length
    · have hrk := hrow k hlt
      have hsz := hbel.size
      have hfl : ((l.take k).filter p).length ≤ 1000 := Nat.le_trans (List.length_filter_le _ _) (by simp; omega)
      have hft : (l.take (k + 1)).filter p = (l.take k).filter p ++ (if p l[k] then [l[k]] else []) := by
        rw [List.take_succ_eq_append_getElem hlt, List.filter_append]; cases h : p l[k] <;> simp [h]
      have HFT := hide hft
      clear hft
      generalize l[k] = K at hrk HFT
      obtain ⟨c0, c1, c2, c3, c4⟩ := hrk
      have d0 := (hbel.cell (p := ⟨b, off + k * 5, none⟩) hb).trans c0
      have d1 := (hbel.cell (p := ⟨b, off + k * 5 + 1, none⟩) hb).trans c1
      have d2 := (hbel.cell (p := ⟨b, off + k * 5 + 2, none⟩) hb).trans c2
      have d3 := (hbel.cell (p := ⟨b, off + k * 5 + 3, none⟩) hb).trans c3
      have d4 := (hbel.cell (p := ⟨b, off + k * 5 + 4, none⟩) hb).trans c4
      clear c0 c1 c2 c3 c4
      cases hq : p K
      all_goals
        have HQ := hide hq
        clear hq
        have hB0 := hide (heap_alloc_new wr (.cells #[.int .i64 K.tgt, .int .i64 K.num, .int .i64 K.asker, .int .i64 K.under, .int .i64 K.till] 161))
        go_wp2_with fail
        refine ((unhide HP) K _ (hbel.alloc hsz _)).mono ?_
        rw [unhide HQ]
        rintro e w1 ⟨rfl, hb1⟩
        have hbx := (hb1.block wr.heap.size (by simp)).trans (unhide hB0)
        clear hB0
        have e0 := cell_at hbx 0
        have e1 := cell_at hbx 1
        have e2 := cell_at hbx 2
        have e3 := cell_at hbx 3
        have e4 := cell_at hbx 4
        simp only [List.getElem?_toArray, List.getElem?_cons_zero, List.getElem?_cons_succ] at e0 e1 e2 e3 e4
        clear hbx
        have hbel1 : Below w.heap.size w w1 := (hbel.alloc (by have := hbel.size; omega) _).trans (hb1.mono (by simp; omega))
        have HO1 := hide (own_below2 (HO.out.alloc _) hb1)
        have HB := hide hbel1
        have hs1 := hbel1.size
        clear hb1 hbel1 d0 d1 d2 d3 d4 HO
      · go_wp2
        go_roundw
        case rel =>
          refine ⟨k + 1, by omega, by go_num, ?_, unhide HB⟩
          rw [unhide HFT, unhide HQ]
          exact hide (by simpa using unhide HO1)
        case measure => simp [Go.RowKit.intOf]; omega
      · go_wp2_with (at_builtin; refine wpList_append_own _ rfl _ _ 120 rfl w.heap.size 161 ti (.agg #[.int .i64 0, .int .i64 0, .int .i64 0, .int .i64 0, .int .i64 0]) 5 40 Tryz.underlying120 hti hz0 hz1 hz2 rfl (by decide) _ _ _ rfl ((unhide HO1).alloc _) ⟨w1.heap.size, 0, none⟩ 1 1 [.int .i64 K.tgt, .int .i64 K.num, .int .i64 K.asker, .int .i64 K.under, .int .i64 K.till] rfl rfl ?c1 ?c2 ?c3 ?c4 ?c5 ?_)
        case c1 => exact World.news_of_block (heap_alloc_new w1 _)
        case c2 => intro u hu; simp at hu; rcases hu with rfl | rfl | rfl | rfl | rfl <;> rfl
        case c3 => unfold maxLen; omega
        case c4 => omega
        case c5 => simp; omega
        intro v' w2 hown' hgrow _
        have hbel2 : Below w.heap.size w w2 := ((unhide HB).alloc hs1 _).grown hgrow (by simp; omega) (fun j hj => (own_lt (unhide HO1) hj).1)
        have HO2 := hide hown'
        have HB2 := hide hbel2
        clear hown' hgrow hbel2
        go_wp2
        go_roundw
        case rel =>
          refine ⟨k + 1, by omega, by go_num, ?_, unhide HB2⟩
          rw [unhide HFT, unhide HQ]
          exact hide (by simpa [relC] using unhide HO2)
        case measure => simp [Go.RowKit.intOf]; omega
    · have e : k = l.length := by omega
      rw [e, List.take_length] at HO
      go_wp2
      go_ret
      exact ⟨_, rfl, HO.out, hbel⟩
theorem keepR_nil (p : Rel → Bool) (fv : Value) (w : World) : Calls Tryz.prog 127 #[.slice none 0 0, fv] w fun e w' => ∃ v', e = .returned v' ∧ w'.ownsRow w.heap.size 161 5 v' (([] : List Rel).filter p).length ((([] : List Rel).filter p).flatMap relC) ∧ Below w.heap.size w w' := by
  go_enter Tryz.func127, Tryz.ntmps127
  go_wp2
  refine wp_loop_rounds 1 ?_
  rw [rounds_succ]
  go_wp2
  go_ret
  exact ⟨_, rfl, ⟨rfl, .inl ⟨rfl, rfl⟩⟩, Below.refl _ _⟩
theorem keepR_any (l : List Rel) (p : Rel → Bool) (g : Nat) (pre lb : Array Value) {v : Value} {w : World} {base : Nat} (hv : w.ownsRow base 161 5 v l.length (l.flatMap relC)) (hl : l.length ≤ 1000) (eg : ∀ args w, (callFunc g args).run Tryz.prog w = .ok (.enter g args) w)
    (hp : ∀ m W, Below w.heap.size w W → Calls Tryz.prog g (pre ++ #[.agg #[.int .i64 m.tgt, .int .i64 m.num, .int .i64 m.asker, .int .i64 m.under, .int .i64 m.till]] ++ lb) W fun e w' => e = .returned (.bool (p m)) ∧ Below W.heap.size W w') :
    Calls Tryz.prog 127 #[v, .func (.func g) pre lb] w fun e w' => ∃ v', e = .returned v' ∧ w'.ownsRow w.heap.size 161 5 v' (l.filter p).length ((l.filter p).flatMap relC) ∧ Below w.heap.size w w' := by
  have hv0 := hv
  rcases hv.2 with ⟨rfl, h0⟩ | ⟨b, cap, cur, rfl, hb, hg, _⟩
  · obtain rfl : l = [] := List.length_eq_zero_iff.1 h0
    exact keepR_nil p _ w
  · exact keepR_at l p g pre lb b 0 cap w (lt_blk hg) hl (rowR hv0) eg hp
set_option maxHeartbeats 2000000 in
theorem keepI_at (l : List Int) (p : Int → Bool) (g : Nat) (pre lb : Array Value) (b off cap : Nat) (w : World) (hb : b < w.heap.size) (hl : l.length ≤ 1000) (hrow : rowsI w b off l) (eg : ∀ args w, (callFunc g args).run Tryz.prog w = .ok (.enter g args) w)
    (hp : ∀ m W, Below w.heap.size w W → Calls Tryz.prog g (pre ++ #[.int .i64 m] ++ lb) W fun e w' => e = .returned (.bool (p m)) ∧ Below W.heap.size W w') :
    Calls Tryz.prog 164 #[.slice (some ⟨b, off, none⟩) l.length cap, .func (.func g) pre lb] w fun e w' => ∃ v', e = .returned v' ∧ w'.ownsRow w.heap.size 3 1 v' (l.filter p).length ((l.filter p).flatMap intC) ∧ Below w.heap.size w w' := by
  obtain ⟨ti, hti, hz0, hz1, hz2⟩ := info_parts Tryz.infoIL
  have HP := hide hp
  clear hp
  go_enter Tryz.func164, Tryz.ntmps164
  go_wp2
  go_loopw [5, 10] (fun o i wr => ∃ k : Nat, k ≤ l.length ∧ i = .int .i64 k ∧ Hid (wr.ownsRow w.heap.size 3 1 o ((l.take k).filter p).length (((l.take k).filter p).flatMap intC)) ∧ Below w.heap.size w wr) (fun _ i _ => l.length - (Go.RowKit.intOf i).toNat)
  case atStart => exact ⟨0, Nat.zero_le _, rfl, ⟨rfl, .inl ⟨rfl, rfl⟩⟩, Below.refl _ _⟩
  case round =>
    rename_i o i
    obtain ⟨k, hk, rfl, HO, hbel⟩ := hrel
    by_cases hlt : k < l.length
    · have hrk := hrow k hlt
      have hsz := hbel.size
      have hfl : ((l.take k).filter p).length ≤ 1000 := Nat.le_trans (List.length_filter_le _ _) (by simp; omega)
      have hft : (l.take (k + 1)).filter p = (l.take k).filter p ++ (if p l[k] then [l[k]] else []) := by
        rw [List.take_succ_eq_append_getElem hlt, List.filter_append]; cases h : p l[k] <;> simp [h]
      have HFT := hide hft
      clear hft
      generalize l[k] = K at hrk HFT
      have c0 := hrk
      clear hrk
      have d0 := (hbel.cell (p := ⟨b, off + k, none⟩) hb).trans c0
      clear c0
      cases hq : p K
      all_goals
        have HQ := hide hq
        clear hq
        go_wp2_with fail
        refine ((unhide HP) K _ (hbel)).mono ?_
        rw [unhide HQ]
        rintro e w1 ⟨rfl, hb1⟩
        have hbel1 : Below w.heap.size w w1 := hbel.trans (hb1.mono hbel.size)
        have HO1 := hide (own_below2 HO.out hb1)
        have HB := hide hbel1
        have hs1 := hbel1.size
        clear hb1 hbel1 d0 HO
      · go_wp2
        go_roundw
        case rel =>
          refine ⟨k + 1, by omega, by go_num, ?_, unhide HB⟩
          rw [unhide HFT, unhide HQ]
          exact hide (by simpa using unhide HO1)
        case measure => simp [Go.RowKit.intOf]; omega
      · go_wp2_with (at_builtin; refine wpList_append_own _ rfl _ _ 24 rfl w.heap.size 3 ti (.int .i64 0) 1 8 Tryz.underlying24 hti hz0 hz1 hz2 rfl (by decide) _ _ _ rfl ((unhide HO1).alloc _) ⟨w1.heap.size, 0, none⟩ 1 1 [.int .i64 K] rfl rfl ?c1 ?c2 ?c3 ?c4 ?c5 ?_)
        case c1 => exact World.news_of_block (heap_alloc_new w1 _)
        case c2 => intro u hu; simp at hu; subst hu; rfl
        case c3 => unfold maxLen; omega
        case c4 => omega
        case c5 => simp; omega
        intro v' w2 hown' hgrow _
        have hbel2 : Below w.heap.size w w2 := ((unhide HB).alloc hs1 _).grown hgrow (by simp; omega) (fun j hj => (own_lt (unhide HO1) hj).1)
        have HO2 := hide hown'
        have HB2 := hide hbel2
        clear hown' hgrow hbel2
        go_wp2
        go_roundw
        case rel =>
          refine ⟨k + 1, by omega, by go_num, ?_, unhide HB2⟩
          rw [unhide HFT, unhide HQ]
          exact hide (by simpa [intC] using unhide HO2)
        case measure => simp [Go.RowKit.intOf]; omega
    · have e : k = l.length := by omega
      rw [e, List.take_length] at HO
      go_wp2
      go_ret
      exact ⟨_, rfl, HO.out, hbel⟩
theorem keepI_nil (p : Int → Bool) (fv : Value) (w : World) : Calls Tryz.prog 164 #[.slice none 0 0, fv] w fun e w' => ∃ v', e = .returned v' ∧ w'.ownsRow w.heap.size 3 1 v' (([] : List Int).filter p).length ((([] : List Int).filter p).flatMap intC) ∧ Below w.heap.size w w' := by
  go_enter Tryz.func164, Tryz.ntmps164
  go_wp2
  refine wp_loop_rounds 1 ?_
  rw [rounds_succ]
  go_wp2
  go_ret
  exact ⟨_, rfl, ⟨rfl, .inl ⟨rfl, rfl⟩⟩, Below.refl _ _⟩
theorem keepI_any (l : List Int) (p : Int → Bool) (g : Nat) (pre lb : Array Value) {v : Value} {w : World} (hv : PassAt w v l) (hl : l.length ≤ 1000) (eg : ∀ args w, (callFunc g args).run Tryz.prog w = .ok (.enter g args) w)
    (hp : ∀ m W, Below w.heap.size w W → Calls Tryz.prog g (pre ++ #[.int .i64 m] ++ lb) W fun e w' => e = .returned (.bool (p m)) ∧ Below W.heap.size W w') :
    Calls Tryz.prog 164 #[v, .func (.func g) pre lb] w fun e w' => ∃ v', e = .returned v' ∧ w'.ownsRow w.heap.size 3 1 v' (l.filter p).length ((l.filter p).flatMap intC) ∧ Below w.heap.size w w' := by
  rcases hv with ⟨rfl, rfl⟩ | ⟨b, off, cap, cs, rfl, hg, _, _, hr⟩
  · exact keepI_nil p _ w
  · exact keepI_at l p g pre lb b off cap w (lt_blk hg) hl (fun i hi => (cell_at hg (off + i)).trans (hr i hi)) eg hp
end Go.Proofs.YtnneljcbelgoeaaGreatDoor.wire
