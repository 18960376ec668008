import Derived.Test.YtnneljcbelgoeaaGreatDoorG37
import Derived.Test.YtnneljcbelgoeaaGreatDoorG25
import Derived.Test.YtnneljcbelgoeaaGreatDoorG38
import Derived.Test.YtnneljcbelgoeaaGreatDoorG29
/- gossiplaw's step: one step of a script that plays Encode and Decode. -/
namespace Go.Proofs.YtnneljcbelgoeaaGreatDoor.wire
open Go.RowKit
structure Op8.ok (o : Op8) : Prop where
  a0 : -9223372036854775808 ≤ o.a
  a1 : o.a ≤ 9223372036854775807
  b0 : -9223372036854775808 ≤ o.b
  b1 : o.b ≤ 9223372036854775807
  s : o.s.length ≤ 17000
def Op8.own (k : Int) : Prop := k = 1 ∨ k = 2 ∨ k = 3 ∨ k = 4 ∨ k = 7 ∨ k = 8 ∨ k = 12
theorem owner_yes (n wb : Nat) (s : St) (w W : World) (h : WV n wb s w W) (hn : n ≤ 18000) (o : Op8) (hk : Op8.own o.kind) (ho : o.ok) :
    Calls Tryz.prog 11 #[.pointer (some ⟨wb, 0, none⟩), opv o] W fun e W' => e = .returned (.bool true) ∧ ∃ s', WV (n + 1) wb s' w W' := by
  rcases hk with hk | hk | hk | hk | hk | hk | hk
  · exact owner_text n wb s w W h hn o hk ho.s
  · exact owner_turn n wb s w W h hn o hk ho.a0 ho.a1 ho.b0 ho.b1
  · exact owner_msg n wb s w W h hn o hk
  · exact owner_upd n wb s w W h hn o hk
  · exact owner_draw n wb s w W h hn o hk
  · exact owner_shape n wb s w W h hn o hk
  · exact owner_lose n wb s w W h hn o hk
set_option maxRecDepth 100000 in
set_option maxHeartbeats 1000000 in
theorem step_own (n wb : Nat) (s : St) (w W : World) (h : WV n wb s w W) (hn : n ≤ 18000) (o : Op8) (hk : Op8.own o.kind) (ho : o.ok) :
    Calls Tryz.prog 10 #[.pointer (some ⟨wb, 0, none⟩), opv o] W fun e W' => e = .returned (.bool true) ∧ ∃ s', WV (n + 1) wb s' w W' := by
  have HC := hide h
  clear h
  have HO := hide (fun V hV => owner_yes n wb s w V hV hn o hk ho)
  clear hk ho
  go_enter Tryz.func10, Tryz.ntmps10
  go_wp2_with fail
  refine (unhide HO _ ⟨(unhide HC).toWC.alloc _, (unhide HC).toWB⟩).mono ?_
  rintro e w1 ⟨rfl, s', hs'⟩
  have HS := hide hs'
  clear hs' HO HC
  go_wp2
  go_ret
  exact ⟨rfl, s', unhide HS⟩
set_option maxRecDepth 100000 in
set_option maxHeartbeats 1000000 in
theorem step_none (n wb : Nat) (s : St) (w W : World) (h : WV n wb s w W) (o : Op8) (hk : o.kind ≤ 0) :
    Calls Tryz.prog 10 #[.pointer (some ⟨wb, 0, none⟩), opv o] W fun e W' => e = .returned (.bool true) ∧ ∃ s', WV (n + 1) wb s' w W' := by
  have HC := hide h
  clear h
  have HO := hide (fun V => owner_no wb V o (.inl hk))
  obtain ⟨kind, a, b, c, d, e, x, S⟩ := o
  simp only at hk
  have h5 : ¬ kind = 5 := by omega
  have h6 : ¬ kind = 6 := by omega
  have h9 : ¬ kind = 9 := by omega
  have h11 : ¬ kind = 11 := by omega
  go_enter Tryz.func10, Tryz.ntmps10
  go_wp2_with fail
  refine (unhide HO _).mono ?_
  rintro e w1 ⟨rfl, hb⟩
  have hC1 := ((unhide HC).toWC.alloc _).mono hb
  have hbx := (hb.block W.heap.size (by simp)).trans (heap_alloc_new W _)
  have p0 : w1.cell? ⟨W.heap.size, 0, none⟩ = some (.int .i64 kind) := cell_at hbx 0
  have c14 : w1.cell? ⟨wb, 14, none⟩ = some (.slice none 0 0) := hC1.cell 14
  have HC1 := hide hC1
  have HB := hide (unhide HC).toWB
  clear hC1 hbx hb HC HO
  go_wp2
  go_ret
  exact ⟨rfl, s, unhide HC1, (unhide HB).up⟩
set_option maxRecDepth 100000 in
set_option maxHeartbeats 1000000 in
theorem step_enc (n wb : Nat) (s : St) (w W : World) (h : WV n wb s w W) (hn : n ≤ 18000) (o : Op8) (hk : o.kind = 5) (hg : w.cell? ⟨0, 0, none⟩ = some (.iface 207 (.agg #[.pointer (some ⟨1, 64, none⟩)]))) (hlt : 0 < w.heap.size) :
    Calls Tryz.prog 10 #[.pointer (some ⟨wb, 0, none⟩), opv o] W fun e W' => e = .returned (.bool true) ∧ ∃ s', WV (n + 1) wb s' w W' := by
  have HC := hide h
  clear h
  have HO := hide (fun V => owner_no wb V o (.inr (.inl hk)))
  obtain ⟨kind, a, b, c, d, e, x, S⟩ := o
  simp only at hk
  subst hk
  go_enter Tryz.func10, Tryz.ntmps10
  go_wp2_with fail
  refine (unhide HO _).mono ?_
  rintro e w1 ⟨rfl, hb⟩
  have hC1 := ((unhide HC).toWC.alloc _).mono hb
  have hbx := (hb.block W.heap.size (by simp)).trans (heap_alloc_new W _)
  have p0 : w1.cell? ⟨W.heap.size, 0, none⟩ = some (.int .i64 5) := cell_at hbx 0
  have hcells : ∀ j, w1.cell? ⟨wb, j, none⟩ = s.cells[j]? := hC1.cell
  have HC1 := hide hC1
  have HB := hide (unhide HC).toWB
  clear hC1 hbx hb HC HO
  go_wp2_with fail
  clear hcells
  refine (encoded_any s.m s.uv w1 (rkeysAt_of_own (unhide HC1).rows.u) (by have := (unhide HB).un; omega) ((unhide HC1).gate hlt hg)).mono ?_
  rintro e w2 ⟨rfl, hb2⟩
  have HC2 := hide ((unhide HC1).mono hb2)
  clear hb2 HC1 p0
  have hL : (encB s.m).length ≤ 17000 := by
    unfold encB
    by_cases hw : wholeB s.m = true
    · rw [if_pos hw, bytesM_len]; have := whole_len hw; omega
    · rw [if_neg hw]; simp
  generalize encB s.m = L at hL ⊢
  have c0 : w2.cell? ⟨wb, 0, none⟩ = some s.tv := (unhide HC2).cell 0
  have f0 : w2.frozen? ⟨wb, 0, none⟩ = false := (unhide HC2).free 0
  have hw2 := (unhide HC2).lt
  have htn := (unhide HB).tn
  obtain ⟨ti, hti, hz0, hz1, hz2⟩ := info_parts infoStr
  go_wp2_with (at_builtin; refine wpList_append_lies _ rfl _ _ 30 rfl (wb + 1) 9 ti (.string (bs [])) 1 16 Tryz.underlying30 hti hz0 hz1 hz2 rfl (by decide) s.tv s.ts.length (s.ts.map fun l => .string (bs l)) rfl ((unhide HC2).rows.t.alloc _) ⟨w2.heap.size, 0, none⟩ 1 1 [.string (bs L)] rfl rfl (World.news_of_block (heap_alloc_new w2 (.cells #[.string (bs L)] 9))) (by simp [Value.oneCell']) (by omega) (by unfold maxLen; omega) (by omega) (by simp; omega) (w2.heap.size + 1) (by simp) ?_)
  intro gg cap w3 hown3 hgrow3 hat3 _
  have hP := (unhide HC2).pushT ((Below.refl _ _).alloc (Nat.le_refl _) _) hgrow3 L _ hown3
  have d0 : w3.cell? ⟨wb, 0, none⟩ = some s.tv := cell_at hP.2 0
  have e0 : w3.frozen? ⟨wb, 0, none⟩ = false := free_at hP.2 0
  have HP := hide hP.1
  clear hP hown3 hgrow3 hat3 HC2 c0 f0
  go_wp2
  go_ret
  exact ⟨rfl, _, unhide HP, (unhide HB).pushT L _ hL⟩
theorem WB.kept {n : Nat} {s : St} (h : WB n s) (m : M6) (uv : Value) (hm : m.ups.length ≤ 8) (k : Nat) (hk : k ≤ 8) (lv wv a b c d : Value) : WB (n + 1) { s with m := m, uv := uv, mark := s.mark + k + 2, lv := lv, wv := wv, ls := s.ls ++ [a] ++ [b], ws := s.ws ++ [c] ++ [d] } := by
  obtain ⟨h1, h2, h3, h4, h5, h6, h7, h8, h9⟩ := h
  exact ⟨by simp only; omega, h2, by simp only; omega, by simp only; omega, by simp; omega, by simp; omega, by simp only; omega, by simp only; omega, h9⟩
theorem WC.fresh {wb : Nat} {s : St} {w W : World} (h : WC wb s w W) (hl : s.ws.length = s.ls.length) (g : Nat) (hg : W.heap.size ≤ g) : FreshW s g := by
  have hp := h.rows.p
  refine ⟨fun x hx e => ?_, fun y hy e => ?_⟩
  · obtain ⟨i, hi, rfl⟩ := List.mem_iff_getElem.1 hx
    obtain ⟨ks, _, h1, _⟩ := hp i _ _ (List.getElem?_eq_getElem hi) (List.getElem?_eq_getElem (by omega : i < s.ws.length))
    have := (own_lt h1 e).2
    omega
  · obtain ⟨i, hi, rfl⟩ := List.mem_iff_getElem.1 hy
    obtain ⟨ks, _, _, h2⟩ := hp i _ _ (List.getElem?_eq_getElem (by omega : i < s.ls.length)) (List.getElem?_eq_getElem hi)
    have := (own_lt h2 e).2
    omega
set_option maxRecDepth 100000 in
set_option maxHeartbeats 1000000 in
theorem step_dec (n wb : Nat) (s : St) (w W : World) (h : WV n wb s w W) (hn : n ≤ 18000) (o : Op8) (hk : o.kind = 6) (ho : o.ok) (hg : w.cell? ⟨0, 0, none⟩ = some (.iface 207 (.agg #[.pointer (some ⟨1, 64, none⟩)]))) (hlt : 0 < w.heap.size) :
    Calls Tryz.prog 10 #[.pointer (some ⟨wb, 0, none⟩), opv o] W fun e W' => e = .returned (.bool true) ∧ ∃ s', WV (n + 1) wb s' w W' := by
  have HC := hide h
  clear h
  have HO := hide (fun V => owner_no wb V o (.inr (.inr hk)))
  have ha0 := ho.a0
  have ha1 := ho.a1
  clear ho
  obtain ⟨kind, a, b, c, d, e, x, S⟩ := o
  simp only at hk ha0 ha1
  subst hk
  go_enter Tryz.func10, Tryz.ntmps10
  go_wp2_with fail
  refine (unhide HO _).mono ?_
  rintro e w1 ⟨rfl, hb⟩
  have hC1 := ((unhide HC).toWC.alloc _).mono hb
  have hbx := (hb.block W.heap.size (by simp)).trans (heap_alloc_new W _)
  have p0 : w1.cell? ⟨W.heap.size, 0, none⟩ = some (.int .i64 6) := cell_at hbx 0
  have p2 : w1.cell? ⟨W.heap.size, 2, none⟩ = some (.int .i64 a) := cell_at hbx 2
  have HC1 := hide hC1
  have HB := hide (unhide HC).toWB
  clear hC1 hbx hb HC HO
  go_wp2_with fail
  refine (text_any n wb s w w1 ⟨unhide HC1, unhide HB⟩ (by omega) a ha0 ha1).mono ?_
  rintro e' w2 ⟨l, rfl, hl, k, rfl⟩
  have HC2 := hide ((unhide HC1).draws k)
  generalize w1.drewN k = w2 at HC2 ⊢
  clear p0 p2 HC1
  cases hd : decB l
  · go_wp2_with fail
    refine (decoded_no l w2 (by omega) hd ((unhide HC2).gate hlt hg)).mono ?_
    rintro e' w3 ⟨rfl, hb3⟩
    have hC3 := (unhide HC2).mono hb3
    have hcells : ∀ j, w3.cell? ⟨wb, j, none⟩ = s.cells[j]? := hC3.cell
    have hfree : ∀ j, w3.frozen? ⟨wb, j, none⟩ = false := hC3.free
    have HC4 := hide (hC3.setM M6.zero (.slice none 0 0) (World.ownsRow_nil _ _ _ _))
    have HV4 := (hide (ownsRow_setCell_below (ownsRow_setCell_below (ownsRow_setCell_below (ownsRow_setCell_below (ownsRow_setCell_below (ownsRow_setCell_below (World.ownsRow_nil w3 (wb + 1) 76 3) (a := ⟨wb, 1, none⟩) (by simp) (.int .i64 (M6.zero).kind)) (a := ⟨wb, 2, none⟩) (by simp) (.int .i64 (M6.zero).frm)) (a := ⟨wb, 3, none⟩) (by simp) (.int .i64 (M6.zero).inc)) (a := ⟨wb, 4, none⟩) (by simp) (.int .i64 (M6.zero).seq)) (a := ⟨wb, 5, none⟩) (by simp) (.int .i64 (M6.zero).tgt)) (a := ⟨wb, 6, none⟩) (by simp) (.slice none 0 0)))
    have HF := hide (fun g (e : (Value.slice none 0 0).ownBlock = some g) => (by simp [Value.ownBlock] at e : FreshW s g))
    clear hC3 hb3 HC2
    go_wp2_with fail
    clear hcells hfree
    generalize ((((((w3.setCell ⟨wb, 1, none⟩ (.int .i64 (M6.zero).kind)).setCell ⟨wb, 2, none⟩ (.int .i64 (M6.zero).frm)).setCell ⟨wb, 3, none⟩ (.int .i64 (M6.zero).inc)).setCell ⟨wb, 4, none⟩ (.int .i64 (M6.zero).seq)).setCell ⟨wb, 5, none⟩ (.int .i64 (M6.zero).tgt)).setCell ⟨wb, 6, none⟩ (.slice none 0 0)) = w4 at HC4 HV4 ⊢
    refine (keep_any wb _ w w4 (unhide HC4) (unhide HB).pw (by have := (unhide HB).pn; simp only; omega) (unhide HB).m0 (by have := (unhide HB).m1; simp only; omega) (.slice none 0 0) ([] : List K3) (by first | exact hlen | simp) (unhide HV4) (unhide HF)).mono ?_
    rintro e' w5 ⟨rfl, lv, wv, x1, y1, x2, hC5⟩
    have HV5 : Hid (WV (n + 1) wb _ w w5) := hide ⟨hC5, (unhide HB).kept M6.zero (.slice none 0 0) (by first | exact hlen | simp [M6.zero]) (([] : List K3)).length (by first | exact hlen | simp) lv wv (.slice none 0 0) x1 y1 x2⟩
    clear hC5 HC4 HV4 HF HB
    go_wp2_with fail
    refine (looks_any (n + 1) wb _ w w5 (unhide HV5) (by omega)).mono ?_
    rintro e' w6 ⟨rfl, k6, rfl⟩
    go_wp2
    go_ret
    exact ⟨rfl, _, (unhide HV5).toWC.draws k6, (unhide HV5).toWB⟩
  · go_wp2_with fail
    refine (decoded_yes l w2 (by omega) hd).mono ?_
    rintro e' w3 ⟨vr, va, rfl, hr3, ha3, hlen, hb3⟩
    have hwl2 := (unhide HC2).lt
    have hfr := (unhide HC2).fresh (unhide HB).pw
    obtain ⟨ro, rc, hrf⟩ := own_form hr3
    obtain ⟨so, sc, hsf⟩ := own_form ha3
    subst hrf
    subst hsf
    have hC3 := (unhide HC2).mono hb3
    have hcells : ∀ j, w3.cell? ⟨wb, j, none⟩ = s.cells[j]? := hC3.cell
    have hfree : ∀ j, w3.frozen? ⟨wb, j, none⟩ = false := hC3.free
    have HC4 := hide (hC3.setM (readM l) (.slice ro (readM l).ups.length rc) (own_base hr3 (by omega)))
    have HV4 := (hide (ownsRow_setCell_below (ownsRow_setCell_below (ownsRow_setCell_below (ownsRow_setCell_below (ownsRow_setCell_below (ownsRow_setCell_below (own_base (b' := wb + 1) ha3 (by omega)) (a := ⟨wb, 1, none⟩) (by simp) (.int .i64 (readM l).kind)) (a := ⟨wb, 2, none⟩) (by simp) (.int .i64 (readM l).frm)) (a := ⟨wb, 3, none⟩) (by simp) (.int .i64 (readM l).inc)) (a := ⟨wb, 4, none⟩) (by simp) (.int .i64 (readM l).seq)) (a := ⟨wb, 5, none⟩) (by simp) (.int .i64 (readM l).tgt)) (a := ⟨wb, 6, none⟩) (by simp) (.slice ro (readM l).ups.length rc)))
    have HF := hide (fun g (e : (Value.slice so (readM l).ups.length sc).ownBlock = some g) => hfr g (own_lt ha3 e).1)
    clear hC3 hb3 HC2
    go_wp2_with fail
    clear hcells hfree
    generalize ((((((w3.setCell ⟨wb, 1, none⟩ (.int .i64 ((readM l)).kind)).setCell ⟨wb, 2, none⟩ (.int .i64 ((readM l)).frm)).setCell ⟨wb, 3, none⟩ (.int .i64 ((readM l)).inc)).setCell ⟨wb, 4, none⟩ (.int .i64 ((readM l)).seq)).setCell ⟨wb, 5, none⟩ (.int .i64 ((readM l)).tgt)).setCell ⟨wb, 6, none⟩ (.slice ro (readM l).ups.length rc)) = w4 at HC4 HV4 ⊢
    refine (keep_any wb _ w w4 (unhide HC4) (unhide HB).pw (by have := (unhide HB).pn; simp only; omega) (unhide HB).m0 (by have := (unhide HB).m1; simp only; omega) (.slice so (readM l).ups.length sc) (readM l).ups (by first | exact hlen | simp) (unhide HV4) (unhide HF)).mono ?_
    rintro e' w5 ⟨rfl, lv, wv, x1, y1, x2, hC5⟩
    have HV5 : Hid (WV (n + 1) wb _ w w5) := hide ⟨hC5, (unhide HB).kept (readM l) (.slice ro (readM l).ups.length rc) (by first | exact hlen | simp [M6.zero]) ((readM l).ups).length (by first | exact hlen | simp) lv wv (.slice so (readM l).ups.length sc) x1 y1 x2⟩
    clear hC5 HC4 HV4 HF HB
    go_wp2_with fail
    refine (looks_any (n + 1) wb _ w w5 (unhide HV5) (by omega)).mono ?_
    rintro e' w6 ⟨rfl, k6, rfl⟩
    go_wp2
    go_ret
    exact ⟨rfl, _, (unhide HV5).toWC.draws k6, (unhide HV5).toWB⟩
end Go.Proofs.YtnneljcbelgoeaaGreatDoor.wire
/- A script: its steps in memory; gossiplaw's small and upTo. -/
namespace Go.Proofs.YtnneljcbelgoeaaGreatDoor.wire
open Go.RowKit
def ocells : List Op8 → List Value
  | [] => []
  | o :: r => .int .i64 o.kind :: .int .i64 o.x :: .int .i64 o.a :: .int .i64 o.b :: .int .i64 o.c :: .int .i64 o.d :: .int .i64 o.e :: .string (bs o.s) :: ocells r
theorem ocells_len (l : List Op8) : (ocells l).length = l.length * 8 := by
  induction l with
  | nil => rfl
  | cons o r ih => simp [ocells, ih]; omega
theorem ocells_append (a b : List Op8) : ocells (a ++ b) = ocells a ++ ocells b := by
  induction a with
  | nil => rfl
  | cons o r ih => simp [ocells, ih]
theorem ocells_one (l : List Op8) : ∀ v ∈ ocells l, v.oneCell' = true := by
  induction l with
  | nil => intro v h; cases h
  | cons o r ih =>
    intro v h
    simp only [ocells, List.mem_cons] at h
    rcases h with rfl | rfl | rfl | rfl | rfl | rfl | rfl | rfl | h
    all_goals first | rfl | exact ih v h
/-- The cells of one step. -/
structure OpCells (W : World) (b p : Nat) (o : Op8) : Prop where
  c0 : W.cell? ⟨b, p, none⟩ = some (.int .i64 o.kind)
  c1 : W.cell? ⟨b, p + 1, none⟩ = some (.int .i64 o.x)
  c2 : W.cell? ⟨b, p + 2, none⟩ = some (.int .i64 o.a)
  c3 : W.cell? ⟨b, p + 3, none⟩ = some (.int .i64 o.b)
  c4 : W.cell? ⟨b, p + 4, none⟩ = some (.int .i64 o.c)
  c5 : W.cell? ⟨b, p + 5, none⟩ = some (.int .i64 o.d)
  c6 : W.cell? ⟨b, p + 6, none⟩ = some (.int .i64 o.e)
  c7 : W.cell? ⟨b, p + 7, none⟩ = some (.string (bs o.s))
def OpsAt (W : World) (v : Value) (l : List Op8) : Prop := ∃ ao cap, v = .slice ao l.length cap ∧ (0 < l.length → ∃ b off, ao = some ⟨b, off, none⟩ ∧ b < W.heap.size ∧ ∀ (i : Nat) (h : i < l.length), OpCells W b (off + i * 8) l[i])
theorem OpCells.below {W W' : World} {b p : Nat} {o : Op8} (h : OpCells W b p o) (hb : W'.heap[b]? = W.heap[b]?) : OpCells W' b p o := by
  have k : ∀ q, W'.cell? ⟨b, q, none⟩ = W.cell? ⟨b, q, none⟩ := fun q => World.cell?_of_block (a := ⟨b, q, none⟩) hb
  exact ⟨(k _).trans h.c0, (k _).trans h.c1, (k _).trans h.c2, (k _).trans h.c3, (k _).trans h.c4, (k _).trans h.c5, (k _).trans h.c6, (k _).trans h.c7⟩
theorem OpsAt.below {W W' : World} {v : Value} {l : List Op8} (h : OpsAt W v l) (hb : Below W.heap.size W W') : OpsAt W' v l := by
  obtain ⟨ao, cap, e, h⟩ := h
  refine ⟨ao, cap, e, fun h0 => ?_⟩
  obtain ⟨b, off, e', hlt, hc⟩ := h h0
  exact ⟨b, off, e', Nat.lt_of_lt_of_le hlt hb.size, fun i hi => (hc i hi).below (hb.block b hlt)⟩
theorem OpsAt.form {W : World} {v : Value} {l : List Op8} (h : OpsAt W v l) : ∃ ao cap, v = .slice ao l.length cap := by
  obtain ⟨ao, cap, e, _⟩ := h
  exact ⟨ao, cap, e⟩
theorem OpsAt.elem {W : World} {ao : Option Addr} {cap : Nat} {l : List Op8} (h : OpsAt W (.slice ao l.length cap) l) (hn : 0 < l.length) : ∃ b off, ao = some ⟨b, off, none⟩ ∧ b < W.heap.size ∧ ∀ (i : Nat) (h : i < l.length), OpCells W b (off + i * 8) l[i] := by
  obtain ⟨ao', cap', e, h⟩ := h
  simp only [Value.slice.injEq] at e
  rw [e.1]
  exact h hn
theorem ocells_get : ∀ (l : List Op8) (k : Nat) (h : k < l.length), (ocells l)[k * 8]? = some (.int .i64 l[k].kind) ∧ (ocells l)[k * 8 + 1]? = some (.int .i64 l[k].x) ∧ (ocells l)[k * 8 + 2]? = some (.int .i64 l[k].a) ∧ (ocells l)[k * 8 + 3]? = some (.int .i64 l[k].b) ∧ (ocells l)[k * 8 + 4]? = some (.int .i64 l[k].c) ∧ (ocells l)[k * 8 + 5]? = some (.int .i64 l[k].d) ∧ (ocells l)[k * 8 + 6]? = some (.int .i64 l[k].e) ∧ (ocells l)[k * 8 + 7]? = some (.string (bs l[k].s))
  | _ :: r, 0, _ => ⟨rfl, rfl, rfl, rfl, rfl, rfl, rfl, rfl⟩
  | _ :: r, k + 1, h => by
    have := ocells_get r k (by simpa using h)
    simp only [ocells, show (k + 1) * 8 = k * 8 + 1 + 1 + 1 + 1 + 1 + 1 + 1 + 1 from by omega, List.getElem?_cons_succ, List.getElem_cons_succ]
    exact this
theorem opsAt_of_own {W : World} {base : Nat} {v : Value} {l : List Op8} (h : W.ownsRow base 28 8 v l.length (ocells l)) : OpsAt W v l := by
  rcases h.2 with ⟨rfl, h0⟩ | ⟨g, cap, cur, rfl, hb, hg, h1, h2, h3, h4⟩
  · exact ⟨none, 0, by rw [h0], fun hp => by omega⟩
  · refine ⟨_, cap, rfl, fun _ => ⟨g, 0, rfl, lt_of_block hg, fun i hi => ?_⟩⟩
    obtain ⟨g0, g1, g2, g3, g4, g5, g6, g7⟩ := ocells_get l i hi
    have k : ∀ j, j < l.length * 8 → W.cell? ⟨g, j, none⟩ = (ocells l)[j]? := fun j hj => h.cellAt j hj
    rw [Nat.zero_add]
    exact ⟨(k _ (by omega)).trans g0, (k _ (by omega)).trans g1, (k _ (by omega)).trans g2, (k _ (by omega)).trans g3, (k _ (by omega)).trans g4, (k _ (by omega)).trans g5, (k _ (by omega)).trans g6, (k _ (by omega)).trans g7⟩
/-- Is a step of this kind played? -/
def playedK (k : Int) : Prop := k ≤ 0 ∨ Op8.own k ∨ k = 5 ∨ k = 6
theorem step_any (n wb : Nat) (s : St) (w W : World) (h : WV n wb s w W) (hn : n ≤ 18000) (o : Op8) (hk : playedK o.kind) (ho : o.ok) (hg : w.cell? ⟨0, 0, none⟩ = some (.iface 207 (.agg #[.pointer (some ⟨1, 64, none⟩)]))) (hlt : 0 < w.heap.size) :
    Calls Tryz.prog 10 #[.pointer (some ⟨wb, 0, none⟩), opv o] W fun e W' => e = .returned (.bool true) ∧ ∃ s', WV (n + 1) wb s' w W' := by
  rcases hk with hk | hk | hk | hk
  · exact step_none n wb s w W h o hk
  · exact step_own n wb s w W h hn o hk ho
  · exact step_enc n wb s w W h hn o hk hg hlt
  · exact step_dec n wb s w W h hn o hk ho hg hlt
def St.zero : St := ⟨.slice none 0 0, [], ⟨0, 0, 0, 0, 0, []⟩, .slice none 0 0, .slice none 0 0, 0, [], 0, 0, 0, 0, 0, 0, .slice none 0 0, .slice none 0 0, [], [], 0⟩
theorem WV.zero (w : World) : WV 0 w.heap.size St.zero w (w.alloc (.cells St.zero.cells 41)) := by
  refine ⟨⟨heap_alloc_new _ _, ⟨World.ownsRow_nil _ _ _ _, World.ownsRow_nil _ _ _ _, World.ownsRow_nil _ _ _ _, World.ownsRow_nil _ _ _ _, World.ownsRow_nil _ _ _ _, fun g e => ?_, fun i x y hx _ => ?_⟩, (Below.refl _ _).alloc (Nat.le_refl _) _, Nat.le_refl _⟩, ⟨Nat.zero_le _, fun l hl => (by simp [St.zero] at hl), Nat.zero_le _, Nat.zero_le _, Nat.zero_le _, rfl, Int.le_refl _, (by simp [St.zero]), fun u hu => (by simp [St.zero] at hu)⟩⟩
  · simp [St.zero, Value.ownBlock] at e
  · simp [St.zero] at hx
set_option maxRecDepth 100000 in
set_option maxHeartbeats 1000000 in
theorem upTo_any (l : List Op8) (v : Value) (w : World) (hv : OpsAt w v l) (hl : l.length ≤ 16384) (hok : ∀ o ∈ l, o.ok ∧ playedK o.kind) (hg : w.cell? ⟨0, 0, none⟩ = some (.iface 207 (.agg #[.pointer (some ⟨1, 64, none⟩)]))) (hlt : 0 < w.heap.size) :
    Calls Tryz.prog 9 #[v] w fun e w' => e = .returned (.int .i64 (-1)) ∧ Below w.heap.size w w' := by
  obtain ⟨ao, cap, rfl⟩ := hv.form
  have HV := hide hv
  have HG := hide hg
  clear hv hg
  go_enter Tryz.func9, Tryz.ntmps9
  go_wp2
  go_loopw [4] (fun i wr => ∃ (j : Nat) (s : St), j ≤ l.length ∧ i = .int .i64 j ∧ WV j w.heap.size s w wr) (fun i _ => l.length - (intOf i).toNat)
  case atStart => exact ⟨0, St.zero, Nat.zero_le _, rfl, WV.zero w⟩
  case round =>
    obtain ⟨j, s, hj, rfl, hW⟩ := hrel
    by_cases hjl : j < l.length
    · have hji : (j : Int) < (l.length : Int) := by omega
      obtain ⟨b, off, rfl, hbl, hcs⟩ := ((unhide HV).below hW.below).elem (by omega)
      obtain ⟨c0, c1, c2, c3, c4, c5, c6, c7⟩ := hcs j hjl
      have HS := hide (step_any j w.heap.size s w wr hW (by omega) l[j] (hok _ (List.getElem_mem hjl)).2 (hok _ (List.getElem_mem hjl)).1 (unhide HG) hlt)
      generalize l[j] = o at c0 c1 c2 c3 c4 c5 c6 c7 HS
      clear hcs hW hbl
      go_wp2_with fail
      clear c0 c1 c2 c3 c4 c5 c6 c7
      refine (unhide HS).mono ?_
      rintro e w1 ⟨rfl, s', hs'⟩
      have HS' := hide hs'
      clear hs' HS
      go_wp2
      go_roundw
      case rel => exact ⟨j + 1, s', by omega, by go_num, unhide HS'⟩
      case measure => simp [intOf]; omega
    · have hb := hide hW.below
      clear hW
      go_wp2
      go_ret
      exact ⟨rfl, unhide hb⟩
/-- How many bytes the texts of a script have. -/
def bytesW : List Op8 → Nat
  | [] => 0
  | o :: r => o.s.length + bytesW r
theorem bytesW_append (a b : List Op8) : bytesW (a ++ b) = bytesW a + bytesW b := by
  induction a with
  | nil => simp [bytesW]
  | cons o r ih => simp [bytesW, ih]; omega
theorem bytesW_take (l : List Op8) (k : Nat) (h : k < l.length) : bytesW (l.take (k + 1)) = bytesW (l.take k) + l[k].s.length := by
  rw [List.take_succ_eq_append_getElem h, bytesW_append]
  rfl
theorem bytesW_le : ∀ (l : List Op8), ∀ o ∈ l, o.s.length ≤ bytesW l
  | [], o, h => by cases h
  | p :: r, o, h => by
    simp only [List.mem_cons] at h
    rcases h with rfl | h
    · simp only [bytesW]; omega
    · have := bytesW_le r o h; simp only [bytesW]; omega
theorem bytesW_sub (l : List Op8) (k : Nat) : bytesW (l.take k) ≤ bytesW l := by
  have := bytesW_append (l.take k) (l.drop k)
  rw [List.take_append_drop] at this
  omega
def smallB (l : List Op8) : Bool := decide (l.length + bytesW l ≤ 16384)
set_option maxRecDepth 100000 in
set_option maxHeartbeats 1000000 in
theorem small_any (l : List Op8) (v : Value) (w : World) (hv : OpsAt w v l) (hl : l.length ≤ 9223372036854775807) (hs : ∀ o ∈ l, o.s.length ≤ 4611686018427387904) :
    Calls Tryz.prog 8 #[v] w fun e w' => e = .returned (.bool (smallB l)) ∧ Below w.heap.size w w' := by
  obtain ⟨ao, cap, rfl⟩ := hv.form
  have HV := hide hv
  clear hv
  by_cases h1 : (16384 : Int) < (l.length : Int)
  · have hf : smallB l = false := by simp [smallB]; omega
    rw [hf]
    go_enter Tryz.func8, Tryz.ntmps8
    go_wp2
    go_ret
    exact ⟨rfl, Below.refl _ _⟩
  · go_enter Tryz.func8, Tryz.ntmps8
    go_wp2
    go_loopw [3, 4] (fun nv i wr => ∃ k : Nat, k ≤ l.length ∧ i = .int .i64 k ∧ nv = .int .i64 ((l.length + bytesW (l.take k) : Nat) : Int) ∧ l.length + bytesW (l.take k) ≤ 16384 ∧ wr = w) (fun _ i _ => l.length - (intOf i).toNat)
    case atStart => exact ⟨0, Nat.zero_le _, rfl, by simp [bytesW], by simp [bytesW]; omega, rfl⟩
    case round =>
      obtain ⟨k, hk, rfl, rfl, hle, rfl⟩ := hrel
      by_cases hkl : k < l.length
      · have hki : (k : Int) < (l.length : Int) := by omega
        have ht := bytesW_take l k hkl
        have hs1 := hs _ (List.getElem_mem hkl)
        obtain ⟨b, off, rfl, hbl, hcs⟩ := (unhide HV).elem (by omega)
        have c7 := (hcs k hkl).c7
        generalize l[k] = o at ht hs1 c7
        have hsz : (bs o.s).size = o.s.length := by simp [bs, ByteArray.size]
        clear hcs
        by_cases hbig : (16384 : Int) < ((l.length + bytesW (l.take k) : Nat) : Int) + (o.s.length : Int)
        · have hf : smallB l = false := by
            have := bytesW_sub l (k + 1)
            simp only [smallB, decide_eq_false_iff_not]
            omega
          go_wp2
          go_ret
          exact ⟨by rw [hf]; rfl, Below.refl _ _⟩
        · go_wp2
          go_roundw
          case rel => exact ⟨k + 1, by omega, by go_num, (by rw [ht]; simp; omega), by omega, by first | rfl | trivial⟩
          case measure => simp [intOf]; omega
      · have hke : k = l.length := by omega
        subst hke
        rw [List.take_length] at hle
        have hf : smallB l = true := by simp only [smallB, decide_eq_true_eq]; exact hle
        go_wp2
        go_ret
        exact ⟨by rw [hf]; rfl, Below.refl _ _⟩
end Go.Proofs.YtnneljcbelgoeaaGreatDoor.wire
