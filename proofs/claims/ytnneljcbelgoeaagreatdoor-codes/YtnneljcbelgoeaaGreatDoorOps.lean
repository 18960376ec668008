/- A script: its steps in memory; gossiplaw's small and upTo. -/
import Derived.Test.YtnneljcbelgoeaaGreatDoorStep
namespace Go.Proofs.YtnneljcbelgoeaaGreatDoor.wire
open Go.RowKit
def ocells : List Op8 → List Value
  | [] => []
  | o :: r => .int .i64 o.kind :: .int .i64 o.x :: .int .i64 o.a :: .int .i64 o.b :: .int .i64 o.c :: .int .i64 o.d :: .int .i64 o.e :: .string (bs o.s) :: ocells r
theorem ocells_len (l : List Op8) : (ocells l).length = l.length * 8 := by
  induction l with
  | nil => rfl
  | cons o r ih => simp [ocells, ih]; omega
theorem ocells_append (a b : List Op8) : ocells (a ++ b) = ocells a ++ ocells b := by
  induction a with
  | nil => rfl
  | cons o r ih => simp [ocells, ih]
theorem ocells_one (l : List Op8) : ∀ v ∈ ocells l, v.oneCell' = true := by
  induction l with
  | nil => intro v h; cases h
  | cons o r ih =>
    intro v h
    simp only [ocells, List.mem_cons] at h
    rcases h with rfl | rfl | rfl | rfl | rfl | rfl | rfl | rfl | h
    all_goals first | rfl | exact ih v h
/-- The cells of one step. -/
structure OpCells (W : World) (b p : Nat) (o : Op8) : Prop where
  c0 : W.cell? ⟨b, p, none⟩ = some (.int .i64 o.kind)
  c1 : W.cell? ⟨b, p + 1, none⟩ = some (.int .i64 o.x)
  c2 : W.cell? ⟨b, p + 2, none⟩ = some (.int .i64 o.a)
  c3 : W.cell? ⟨b, p + 3, none⟩ = some (.int .i64 o.b)
  c4 : W.cell? ⟨b, p + 4, none⟩ = some (.int .i64 o.c)
  c5 : W.cell? ⟨b, p + 5, none⟩ = some (.int .i64 o.d)
  c6 : W.cell? ⟨b, p + 6, none⟩ = some (.int .i64 o.e)
  c7 : W.cell? ⟨b, p + 7, none⟩ = some (.string (bs o.s))
def OpsAt (W : World) (v : Value) (l : List Op8) : Prop := ∃ ao cap, v = .slice ao l.length cap ∧ (0 < l.length → ∃ b off, ao = some ⟨b, off, none⟩ ∧ b < W.heap.size ∧ ∀ (i : Nat) (h : i < l.length), OpCells W b (off + i * 8) l[i])
theorem OpCells.below {W W' : World} {b p : Nat} {o : Op8} (h : OpCells W b p o) (hb : W'.heap[b]? = W.heap[b]?) : OpCells W' b p o := by
  have k : ∀ q, W'.cell? ⟨b, q, none⟩ = W.cell? ⟨b, q, none⟩ := fun q => World.cell?_of_block (a := ⟨b, q, none⟩) hb
  exact ⟨(k _).trans h.c0, (k _).trans h.c1, (k _).trans h.c2, (k _).trans h.c3, (k _).trans h.c4, (k _).trans h.c5, (k _).trans h.c6, (k _).trans h.c7⟩
theorem OpsAt.below {W W' : World} {v : Value} {l : List Op8} (h : OpsAt W v l) (hb : Below W.heap.size W W') : OpsAt W' v l := by
  obtain ⟨ao, cap, e, h⟩ := h
  refine ⟨ao, cap, e, fun h0 => ?_⟩
  obtain ⟨b, off, e', hlt, hc⟩ := h h0
  exact ⟨b, off, e', Nat.lt_of_lt_of_le hlt hb.size, fun i hi => (hc i hi).below (hb.block b hlt)⟩
theorem OpsAt.form {W : World} {v : Value} {l : List Op8} (h : OpsAt W v l) : ∃ ao cap, v = .slice ao l.length cap := by
  obtain ⟨ao, cap, e, _⟩ := h
  exact ⟨ao, cap, e⟩
theorem OpsAt.elem {W : World} {ao : Option Addr} {cap : Nat} {l : List Op8} (h : OpsAt W (.slice ao l.length cap) l) (hn : 0 < l.length) : ∃ b off, ao = some ⟨b, off, none⟩ ∧ b < W.heap.size ∧ ∀ (i : Nat) (h : i < l.length), OpCells W b (off + i * 8) l[i] := by
  obtain ⟨ao', cap', e, h⟩ := h
  simp only [Value.slice.injEq] at e
  rw [e.1]
  exact h hn
theorem ocells_get : ∀ (l : List Op8) (k : Nat) (h : k < l.length), (ocells l)[k * 8]? = some (.int .i64 l[k].kind) ∧ (ocells l)[k * 8 + 1]? = some (.int .i64 l[k].x) ∧ (ocells l)[k * 8 + 2]? = some (.int .i64 l[k].a) ∧ (ocells l)[k * 8 + 3]? = some (.int .i64 l[k].b) ∧ (ocells l)[k * 8 + 4]? = some (.int .i64 l[k].c) ∧ (ocells l)[k * 8 + 5]? = some (.int .i64 l[k].d) ∧ (ocells l)[k * 8 + 6]? = some (.int .i64 l[k].e) ∧ (ocells l)[k * 8 + 7]? = some (.string (bs l[k].s))
  | _ :: r, 0, _ => ⟨rfl, rfl, rfl, rfl, rfl, rfl, rfl, rfl⟩
  | _ :: r, k + 1, h => by
    have := ocells_get r k (by simpa using h)
    simp only [ocells, show (k + 1) * 8 = k * 8 + 1 + 1 + 1 + 1 + 1 + 1 + 1 + 1 from by omega, List.getElem?_cons_succ, List.getElem_cons_succ]
    exact this
theorem opsAt_of_own {W : World} {base : Nat} {v : Value} {l : List Op8} (h : W.ownsRow base 28 8 v l.length (ocells l)) : OpsAt W v l := by
  rcases h.2 with ⟨rfl, h0⟩ | ⟨g, cap, cur, rfl, hb, hg, h1, h2, h3, h4⟩
  · exact ⟨none, 0, by rw [h0], fun hp => by omega⟩
  · refine ⟨_, cap, rfl, fun _ => ⟨g, 0, rfl, lt_of_block hg, fun i hi => ?_⟩⟩
    obtain ⟨g0, g1, g2, g3, g4, g5, g6, g7⟩ := ocells_get l i hi
    have k : ∀ j, j < l.length * 8 → W.cell? ⟨g, j, none⟩ = (ocells l)[j]? := fun j hj => h.cellAt j hj
    rw [Nat.zero_add]
    exact ⟨(k _ (by omega)).trans g0, (k _ (by omega)).trans g1, (k _ (by omega)).trans g2, (k _ (by omega)).trans g3, (k _ (by omega)).trans g4, (k _ (by omega)).trans g5, (k _ (by omega)).trans g6, (k _ (by omega)).trans g7⟩
/-- Is a step of this kind played? -/
def playedK (k : Int) : Prop := k ≤ 0 ∨ Op8.own k ∨ k = 5 ∨ k = 6
theorem step_any (n wb : Nat) (s : St) (w W : World) (h : WV n wb s w W) (hn : n ≤ 18000) (o : Op8) (hk : playedK o.kind) (ho : o.ok) (hg : w.cell? ⟨0, 0, none⟩ = some (.iface 207 (.agg #[.pointer (some ⟨1, 64, none⟩)]))) (hlt : 0 < w.heap.size) :
    Calls Tryz.prog 10 #[.pointer (some ⟨wb, 0, none⟩), opv o] W fun e W' => e = .returned (.bool true) ∧ ∃ s', WV (n + 1) wb s' w W' := by
  rcases hk with hk | hk | hk | hk
  · exact step_none n wb s w W h o hk
  · exact step_own n wb s w W h hn o hk ho
  · exact step_enc n wb s w W h hn o hk hg hlt
  · exact step_dec n wb s w W h hn o hk ho hg hlt
def St.zero : St := ⟨.slice none 0 0, [], ⟨0, 0, 0, 0, 0, []⟩, .slice none 0 0, .slice none 0 0, 0, [], 0, 0, 0, 0, 0, 0, .slice none 0 0, .slice none 0 0, [], [], 0⟩
theorem WV.zero (w : World) : WV 0 w.heap.size St.zero w (w.alloc (.cells St.zero.cells 41)) := by
  refine ⟨⟨heap_alloc_new _ _, ⟨World.ownsRow_nil _ _ _ _, World.ownsRow_nil _ _ _ _, World.ownsRow_nil _ _ _ _, World.ownsRow_nil _ _ _ _, World.ownsRow_nil _ _ _ _, fun g e => ?_, fun i x y hx _ => ?_⟩, (Below.refl _ _).alloc (Nat.le_refl _) _, Nat.le_refl _⟩, ⟨Nat.zero_le _, fun l hl => (by simp [St.zero] at hl), Nat.zero_le _, Nat.zero_le _, Nat.zero_le _, rfl, Int.le_refl _, (by simp [St.zero]), fun u hu => (by simp [St.zero] at hu)⟩⟩
  · simp [St.zero, Value.ownBlock] at e
  · simp [St.zero] at hx
set_option maxRecDepth 100000 in
set_option maxHeartbeats 1000000 in
theorem upTo_any (l : List Op8) (v : Value) (w : World) (hv : OpsAt w v l) (hl : l.length ≤ 16384) (hok : ∀ o ∈ l, o.ok ∧ playedK o.kind) (hg : w.cell? ⟨0, 0, none⟩ = some (.iface 207 (.agg #[.pointer (some ⟨1, 64, none⟩)]))) (hlt : 0 < w.heap.size) :
    Calls Tryz.prog 9 #[v] w fun e w' => e = .returned (.int .i64 (-1)) ∧ Below w.heap.size w w' := by
  obtain ⟨ao, cap, rfl⟩ := hv.form
  have HV := hide hv
  have HG := hide hg
  clear hv hg
  go_enter Tryz.func9, Tryz.ntmps9
  go_wp2
  go_loopw [4] (fun i wr => ∃ (j : Nat) (s : St), j ≤ l.length ∧ i = .int .i64 j ∧ WV j w.heap.size s w wr) (fun i _ => l.length - (intOf i).toNat)
  case atStart => exact ⟨0, St.zero, Nat.zero_le _, rfl, WV.zero w⟩
  case round =>
    obtain ⟨j, s, hj, rfl, hW⟩ := hrel
    by_cases hjl : j < l.length
    · have hji : (j : Int) < (l.length : Int) := by omega
      obtain ⟨b, off, rfl, hbl, hcs⟩ := ((unhide HV).below hW.below).elem (by omega)
      obtain ⟨c0, c1, c2, c3, c4, c5, c6, c7⟩ := hcs j hjl
      have HS := hide (step_any j w.heap.size s w wr hW (by omega) l[j] (hok _ (List.getElem_mem hjl)).2 (hok _ (List.getElem_mem hjl)).1 (unhide HG) hlt)
      generalize l[j] = o at c0 c1 c2 c3 c4 c5 c6 c7 HS
      clear hcs hW hbl
      go_wp2_with fail
      clear c0 c1 c2 c3 c4 c5 c6 c7
      refine (unhide HS).mono ?_
      rintro e w1 ⟨rfl, s', hs'⟩
      have HS' := hide hs'
      clear hs' HS
      go_wp2
      go_roundw
      case rel => exact ⟨j + 1, s', by omega, by go_num, unhide HS'⟩
      case measure => simp [intOf]; omega
    · have hb := hide hW.below
      clear hW
      go_wp2
      go_ret
      exact ⟨rfl, unhide hb⟩
/-- How many bytes the texts of a script have. -/
def bytesS : List Op8 → Nat
  | [] => 0
  | o :: r => o.s.length + bytesS r
theorem bytesS_append (a b : List Op8) : bytesS (a ++ b) = bytesS a + bytesS b := by
  induction a with
  | nil => simp [bytesS]
  | cons o r ih => simp [bytesS, ih]; omega
theorem bytesS_take (l : List Op8) (k : Nat) (h : k < l.length) : bytesS (l.take (k + 1)) = bytesS (l.take k) + l[k].s.length := by
  rw [List.take_succ_eq_append_getElem h, bytesS_append]
  rfl
theorem bytesS_le : ∀ (l : List Op8), ∀ o ∈ l, o.s.length ≤ bytesS l
  | [], o, h => by cases h
  | p :: r, o, h => by
    simp only [List.mem_cons] at h
    rcases h with rfl | h
    · simp only [bytesS]; omega
    · have := bytesS_le r o h; simp only [bytesS]; omega
theorem bytesS_sub (l : List Op8) (k : Nat) : bytesS (l.take k) ≤ bytesS l := by
  have := bytesS_append (l.take k) (l.drop k)
  rw [List.take_append_drop] at this
  omega
def smallB (l : List Op8) : Bool := decide (l.length + bytesS l ≤ 16384)
set_option maxRecDepth 100000 in
set_option maxHeartbeats 1000000 in
theorem small_any (l : List Op8) (v : Value) (w : World) (hv : OpsAt w v l) (hl : l.length ≤ 9223372036854775807) (hs : ∀ o ∈ l, o.s.length ≤ 4611686018427387904) :
    Calls Tryz.prog 8 #[v] w fun e w' => e = .returned (.bool (smallB l)) ∧ Below w.heap.size w w' := by
  obtain ⟨ao, cap, rfl⟩ := hv.form
  have HV := hide hv
  clear hv
  by_cases h1 : (16384 : Int) < (l.length : Int)
  · have hf : smallB l = false := by simp [smallB]; omega
    rw [hf]
    go_enter Tryz.func8, Tryz.ntmps8
    go_wp2
    go_ret
    exact ⟨rfl, Below.refl _ _⟩
  · go_enter Tryz.func8, Tryz.ntmps8
    go_wp2
    go_loopw [3, 4] (fun nv i wr => ∃ k : Nat, k ≤ l.length ∧ i = .int .i64 k ∧ nv = .int .i64 ((l.length + bytesS (l.take k) : Nat) : Int) ∧ l.length + bytesS (l.take k) ≤ 16384 ∧ wr = w) (fun _ i _ => l.length - (intOf i).toNat)
    case atStart => exact ⟨0, Nat.zero_le _, rfl, by simp [bytesS], by simp [bytesS]; omega, rfl⟩
    case round =>
      obtain ⟨k, hk, rfl, rfl, hle, rfl⟩ := hrel
      by_cases hkl : k < l.length
      · have hki : (k : Int) < (l.length : Int) := by omega
        have ht := bytesS_take l k hkl
        have hs1 := hs _ (List.getElem_mem hkl)
        obtain ⟨b, off, rfl, hbl, hcs⟩ := (unhide HV).elem (by omega)
        have c7 := (hcs k hkl).c7
        generalize l[k] = o at ht hs1 c7
        have hsz : (bs o.s).size = o.s.length := by simp [bs, ByteArray.size]
        clear hcs
        by_cases hbig : (16384 : Int) < ((l.length + bytesS (l.take k) : Nat) : Int) + (o.s.length : Int)
        · have hf : smallB l = false := by
            have := bytesS_sub l (k + 1)
            simp only [smallB, decide_eq_false_iff_not]
            omega
          go_wp2
          go_ret
          exact ⟨by rw [hf]; rfl, Below.refl _ _⟩
        · go_wp2
          go_roundw
          case rel => exact ⟨k + 1, by omega, by go_num, (by rw [ht]; simp; omega), by omega, by first | rfl | trivial⟩
          case measure => simp [intOf]; omega
      · have hke : k = l.length := by omega
        subst hke
        rw [List.take_length] at hle
        have hf : smallB l = true := by simp only [smallB, decide_eq_true_eq]; exact hle
        go_wp2
        go_ret
        exact ⟨by rw [hf]; rfl, Below.refl _ _⟩
end Go.Proofs.YtnneljcbelgoeaaGreatDoor.wire
