import Derived.Test.YtnneljcbelgoeaaGreatDoorG11
import Derived.Test.YtnneljcbelgoeaaGreatDoorG27
/- gossiplaw's owner: the rest of its steps. -/
namespace Go.Proofs.YtnneljcbelgoeaaGreatDoor.wire
open Go.RowKit
theorem WC.setM {wb : Nat} {s : St} {w W : World} (h : WC wb s w W) (m : M6) (uv : Value) (hu : W.ownsRow (wb + 1) 58 3 uv m.ups.length (kcells m.ups)) :
    WC wb { s with m := m, uv := uv } w ((((((W.setCell ⟨wb, 1, none⟩ (.int .i64 m.kind)).setCell ⟨wb, 2, none⟩ (.int .i64 m.frm)).setCell ⟨wb, 3, none⟩ (.int .i64 m.inc)).setCell ⟨wb, 4, none⟩ (.int .i64 m.seq)).setCell ⟨wb, 5, none⟩ (.int .i64 m.tgt)).setCell ⟨wb, 6, none⟩ uv) := by
  have k : ∀ {V : World} {e : TypeId} {z : Nat} {v : Value} {n : Nat} {xs : List Value} (j : Nat) (u : Value), V.ownsRow (wb + 1) e z v n xs → (V.setCell ⟨wb, j, none⟩ u).ownsRow (wb + 1) e z v n xs := fun j u o => ownsRow_setCell_below o (by simp) u
  have a1 := WC.store h.blk h.below h.low { s with m := { s.m with kind := m.kind } } 1 (.int .i64 m.kind) rfl ⟨h.rows.t, h.rows.u, h.rows.d, h.rows.l, h.rows.w, h.rows.lw, h.rows.p⟩
  have a2 := WC.store a1.blk a1.below a1.low { s with m := { s.m with kind := m.kind, frm := m.frm } } 2 (.int .i64 m.frm) rfl ⟨a1.rows.t, a1.rows.u, a1.rows.d, a1.rows.l, a1.rows.w, a1.rows.lw, a1.rows.p⟩
  have a3 := WC.store a2.blk a2.below a2.low { s with m := { s.m with kind := m.kind, frm := m.frm, inc := m.inc } } 3 (.int .i64 m.inc) rfl ⟨a2.rows.t, a2.rows.u, a2.rows.d, a2.rows.l, a2.rows.w, a2.rows.lw, a2.rows.p⟩
  have a4 := WC.store a3.blk a3.below a3.low { s with m := { s.m with kind := m.kind, frm := m.frm, inc := m.inc, seq := m.seq } } 4 (.int .i64 m.seq) rfl ⟨a3.rows.t, a3.rows.u, a3.rows.d, a3.rows.l, a3.rows.w, a3.rows.lw, a3.rows.p⟩
  have a5 := WC.store a4.blk a4.below a4.low { s with m := { s.m with kind := m.kind, frm := m.frm, inc := m.inc, seq := m.seq, tgt := m.tgt } } 5 (.int .i64 m.tgt) rfl ⟨a4.rows.t, a4.rows.u, a4.rows.d, a4.rows.l, a4.rows.w, a4.rows.lw, a4.rows.p⟩
  exact WC.store a5.blk a5.below a5.low { s with m := m, uv := uv } 6 uv rfl ⟨a5.rows.t, k 5 _ (k 4 _ (k 3 _ (k 2 _ (k 1 _ hu)))), a5.rows.d, a5.rows.l, a5.rows.w, a5.rows.lw, a5.rows.p⟩
theorem WC.setShape {wb : Nat} {s : St} {w W : World} (h : WC wb s w W) (c0 c1 c2 c3 c4 c5 : Int) :
    WC wb { s with c0 := c0, c1 := c1, c2 := c2, c3 := c3, c4 := c4, c5 := c5 } w ((((((W.setCell ⟨wb, 8, none⟩ (.int .i64 c0)).setCell ⟨wb, 9, none⟩ (.int .i64 c1)).setCell ⟨wb, 10, none⟩ (.int .i64 c2)).setCell ⟨wb, 11, none⟩ (.int .i64 c3)).setCell ⟨wb, 12, none⟩ (.int .i64 c4)).setCell ⟨wb, 13, none⟩ (.int .i64 c5)) := by
  have a1 := WC.store h.blk h.below h.low { s with c0 := c0 } 8 (.int .i64 c0) rfl ⟨h.rows.t, h.rows.u, h.rows.d, h.rows.l, h.rows.w, h.rows.lw, h.rows.p⟩
  have a2 := WC.store a1.blk a1.below a1.low { s with c0 := c0, c1 := c1 } 9 (.int .i64 c1) rfl ⟨a1.rows.t, a1.rows.u, a1.rows.d, a1.rows.l, a1.rows.w, a1.rows.lw, a1.rows.p⟩
  have a3 := WC.store a2.blk a2.below a2.low { s with c0 := c0, c1 := c1, c2 := c2 } 10 (.int .i64 c2) rfl ⟨a2.rows.t, a2.rows.u, a2.rows.d, a2.rows.l, a2.rows.w, a2.rows.lw, a2.rows.p⟩
  have a4 := WC.store a3.blk a3.below a3.low { s with c0 := c0, c1 := c1, c2 := c2, c3 := c3 } 11 (.int .i64 c3) rfl ⟨a3.rows.t, a3.rows.u, a3.rows.d, a3.rows.l, a3.rows.w, a3.rows.lw, a3.rows.p⟩
  have a5 := WC.store a4.blk a4.below a4.low { s with c0 := c0, c1 := c1, c2 := c2, c3 := c3, c4 := c4 } 12 (.int .i64 c4) rfl ⟨a4.rows.t, a4.rows.u, a4.rows.d, a4.rows.l, a4.rows.w, a4.rows.lw, a4.rows.p⟩
  exact WC.store a5.blk a5.below a5.low { s with c0 := c0, c1 := c1, c2 := c2, c3 := c3, c4 := c4, c5 := c5 } 13 (.int .i64 c5) rfl ⟨a5.rows.t, a5.rows.u, a5.rows.d, a5.rows.l, a5.rows.w, a5.rows.lw, a5.rows.p⟩
theorem WB.up {n : Nat} {s : St} (h : WB n s) : WB (n + 1) s := by
  obtain ⟨h1, h2, h3, h4, h5, h6, h7, h8, h9⟩ := h
  exact ⟨by omega, h2, by omega, by omega, by omega, h6, h7, by omega, h9⟩
theorem own_base {W : World} {b b' : Nat} {e : TypeId} {z : Nat} {v : Value} {n : Nat} {xs : List Value} (h : W.ownsRow b e z v n xs) (hb : b' ≤ b) : W.ownsRow b' e z v n xs := by
  refine ⟨h.1, ?_⟩
  rcases h.2 with r | ⟨g, c, cur, ev, h1, rest⟩
  · exact .inl r
  · exact .inr ⟨g, c, cur, ev, by omega, rest⟩
theorem WC.setU {wb : Nat} {s : St} {w W : World} (h : WC wb s w W) (l : List K3) (uv : Value) (hu : W.ownsRow (wb + 1) 58 3 uv l.length (kcells l)) : WC wb { s with m := { s.m with ups := l }, uv := uv } w (W.setCell ⟨wb, 6, none⟩ uv) :=
  WC.store h.blk h.below h.low { s with m := { s.m with ups := l }, uv := uv } 6 uv rfl ⟨h.rows.t, hu, h.rows.d, h.rows.l, h.rows.w, h.rows.lw, h.rows.p⟩
theorem WC.setD {wb : Nat} {s : St} {w W : World} (h : WC wb s w W) (n : Nat) (xs : List Value) (dv : Value) (hu : W.ownsRow (wb + 1) 3 1 dv n xs) : WC wb { s with dn := n, dx := xs, dv := dv } w (W.setCell ⟨wb, 7, none⟩ dv) :=
  WC.store h.blk h.below h.low { s with dn := n, dx := xs, dv := dv } 7 dv rfl ⟨h.rows.t, h.rows.u, hu, h.rows.l, h.rows.w, h.rows.lw, h.rows.p⟩
theorem infoRKey : (Tryz.prog.info? 58).map (fun i => (i.zero, i.size, i.bytes)) = some (some (.agg #[.int .i64 0, .int .i64 0, .int .i64 0]), 3, 24) := by kernel_rfl
theorem infoInt : (Tryz.prog.info? 3).map (fun i => (i.zero, i.size, i.bytes)) = some (some (.int .i64 0), 1, 8) := by kernel_rfl
set_option maxRecDepth 100000 in
set_option maxHeartbeats 1000000 in
theorem owner_msg (n wb : Nat) (s : St) (w W : World) (h : WV n wb s w W) (_hn : n ≤ 18000) (o : Op8) (hk : o.kind = 3) :
    Calls Tryz.prog 11 #[.pointer (some ⟨wb, 0, none⟩), opv o] W fun e W' => e = .returned (.bool true) ∧ ∃ s', WV (n + 1) wb s' w W' := by
  have HC := hide h
  clear h
  obtain ⟨kind, a, b, c, d, e, x, S⟩ := o
  simp only at hk
  subst hk
  go_enter Tryz.func11, Tryz.ntmps11
  have hcells : ∀ j, W.cell? ⟨wb, j, none⟩ = s.cells[j]? := (unhide HC).toWC.cell
  have hfree : ∀ j, W.frozen? ⟨wb, j, none⟩ = false := (unhide HC).toWC.free
  have hwl := (unhide HC).lt
  go_wp2
  go_ret
  refine ⟨rfl, _, ((unhide HC).toWC.setM ⟨a, b, c, d, e, []⟩ (.slice none 0 0) (World.ownsRow_nil _ _ _ _)).alloc _, ?_⟩
  obtain ⟨h1, h2, h3, h4, h5, h6, h7, h8, h9⟩ := (unhide HC).toWB.up
  exact ⟨h1, h2, by simp, h4, h5, h6, h7, h8, h9⟩
set_option maxRecDepth 100000 in
set_option maxHeartbeats 1000000 in
theorem owner_shape (n wb : Nat) (s : St) (w W : World) (h : WV n wb s w W) (_hn : n ≤ 18000) (o : Op8) (hk : o.kind = 8) :
    Calls Tryz.prog 11 #[.pointer (some ⟨wb, 0, none⟩), opv o] W fun e W' => e = .returned (.bool true) ∧ ∃ s', WV (n + 1) wb s' w W' := by
  have HC := hide h
  clear h
  obtain ⟨kind, a, b, c, d, e, x, S⟩ := o
  simp only at hk
  subst hk
  go_enter Tryz.func11, Tryz.ntmps11
  have hcells : ∀ j, W.cell? ⟨wb, j, none⟩ = s.cells[j]? := (unhide HC).toWC.cell
  have hfree : ∀ j, W.frozen? ⟨wb, j, none⟩ = false := (unhide HC).toWC.free
  have hwl := (unhide HC).lt
  go_wp2
  go_ret
  refine ⟨rfl, _, ((unhide HC).toWC.setShape 0 a b c d e).alloc _, ?_⟩
  obtain ⟨h1, h2, h3, h4, h5, h6, h7, h8, h9⟩ := (unhide HC).toWB.up
  exact ⟨h1, h2, h3, h4, h5, h6, h7, h8, h9⟩
set_option maxRecDepth 100000 in
set_option maxHeartbeats 1000000 in
theorem owner_lose (n wb : Nat) (s : St) (w W : World) (h : WV n wb s w W) (_hn : n ≤ 18000) (o : Op8) (hk : o.kind = 12) :
    Calls Tryz.prog 11 #[.pointer (some ⟨wb, 0, none⟩), opv o] W fun e W' => e = .returned (.bool true) ∧ ∃ s', WV (n + 1) wb s' w W' := by
  have HC := hide h
  clear h
  obtain ⟨kind, a, b, c, d, e, x, S⟩ := o
  simp only at hk
  subst hk
  go_enter Tryz.func11, Tryz.ntmps11
  have hcells : ∀ j, W.cell? ⟨wb, j, none⟩ = s.cells[j]? := (unhide HC).toWC.cell
  have hfree : ∀ j, W.frozen? ⟨wb, j, none⟩ = false := (unhide HC).toWC.free
  have hwl := (unhide HC).lt
  go_wp2
  go_ret
  exact ⟨rfl, _, (unhide HC).toWC.alloc _, (unhide HC).toWB.up⟩
set_option maxRecDepth 100000 in
set_option maxHeartbeats 1000000 in
theorem owner_upd (n wb : Nat) (s : St) (w W : World) (h : WV n wb s w W) (hn : n ≤ 18000) (o : Op8) (hk : o.kind = 4) :
    Calls Tryz.prog 11 #[.pointer (some ⟨wb, 0, none⟩), opv o] W fun e W' => e = .returned (.bool true) ∧ ∃ s', WV (n + 1) wb s' w W' := by
  have HC := hide h
  clear h
  obtain ⟨kind, a, b, c, d, e, x, S⟩ := o
  simp only at hk
  subst hk
  go_enter Tryz.func11, Tryz.ntmps11
  have hcells : ∀ j, W.cell? ⟨wb, j, none⟩ = s.cells[j]? := (unhide HC).toWC.cell
  have hfree : ∀ j, W.frozen? ⟨wb, j, none⟩ = false := (unhide HC).toWC.free
  have hwl := (unhide HC).lt
  obtain ⟨ti, hti, hz0, hz1, hz2⟩ := info_parts infoRKey
  have hun := (unhide HC).un
  go_wp2_with (at_builtin; refine wpList_append_copy rfl _ _ 31 rfl (wb + 1) 58 ti (.agg #[.int .i64 0, .int .i64 0, .int .i64 0]) 3 24 Tryz.underlying31 hti hz0 hz1 hz2 rfl (by decide) s.uv s.m.ups.length (kcells s.m.ups) rfl rfl ((unhide HC).rows.u.alloc _) (kcells_one _) (by unfold maxLen; omega) (by omega) ?_)
  intro v1 w1 hown hb1
  have hB1 : Below W.heap.size W w1 := ((Below.refl _ _).alloc (Nat.le_refl _) _).trans (hb1.mono (by omega))
  have hbx := (hb1.block W.heap.size (by simp)).trans (heap_alloc_new W _)
  have p2 : w1.cell? ⟨W.heap.size, 2, none⟩ = some (.int .i64 a) := cell_at hbx 2
  have p3 : w1.cell? ⟨W.heap.size, 3, none⟩ = some (.int .i64 b) := cell_at hbx 3
  have p4 : w1.cell? ⟨W.heap.size, 4, none⟩ = some (.int .i64 c) := cell_at hbx 4
  have HB := hide (unhide HC).toWB
  have HB1 := hide hB1
  have HO := hide hown
  have hw1 := hB1.size
  have hs1 := hb1.size
  obtain ⟨bo, bc, hvf⟩ := own_form hown
  subst hvf
  clear hbx hb1 hB1 hcells hfree hown
  go_wp2_with (at_builtin; refine wpList_append_lies _ rfl _ _ 31 rfl (W.heap.size + 1) 58 ti (.agg #[.int .i64 0, .int .i64 0, .int .i64 0]) 3 24 Tryz.underlying31 hti hz0 hz1 hz2 rfl (by decide) (.slice bo s.m.ups.length bc) s.m.ups.length (kcells s.m.ups) rfl ((unhide HO).alloc _) ⟨w1.heap.size, 0, none⟩ 1 1 (kcells [⟨a, b, c⟩]) rfl rfl (World.news_of_block (heap_alloc_new w1 (.cells (kcells [⟨a, b, c⟩]).toArray 58))) (kcells_one _) (by omega) (by unfold maxLen; omega) (by omega) (by simp at hs1 ⊢; omega) (w1.heap.size + 1) (by simp) ?_)
  intro g cp w3 hown3 hgrow3 hat3 _
  have hB3 : Below W.heap.size W w3 := by
    have h1 : ∀ o, Below W.heap.size W (w1.alloc o) := fun o => (unhide HB1).trans (((Below.refl w1.heap.size w1).alloc (Nat.le_refl _) o).mono hw1)
    exact (h1 _).grown hgrow3 (by simp; omega) (fun k e => by have := (own_lt (unhide HO) e).1; omega)
  have hC3 := (unhide HC).toWC.mono hB3
  have HC3 := hide hC3
  have HO3 := hide (own_base (b' := wb + 1) hown3 (by omega))
  have hcells : ∀ j, w3.cell? ⟨wb, j, none⟩ = s.cells[j]? := hC3.cell
  have hfree : ∀ j, w3.frozen? ⟨wb, j, none⟩ = false := hC3.free
  clear hC3 hB3 hown3 hgrow3 hat3 HO HB1 HC
  go_wp2
  go_ret
  refine ⟨rfl, _, (unhide HC3).setU (s.m.ups ++ [⟨a, b, c⟩]) _ (by rw [kcells_append, List.length_append]; exact unhide HO3), ?_⟩
  obtain ⟨h1, h2, h3, h4, h5, h6, h7, h8, h9⟩ := (unhide HB).up
  exact ⟨h1, h2, by simp; omega, h4, h5, h6, h7, h8, h9⟩
set_option maxRecDepth 100000 in
set_option maxHeartbeats 1000000 in
theorem owner_draw (n wb : Nat) (s : St) (w W : World) (h : WV n wb s w W) (hn : n ≤ 18000) (o : Op8) (hk : o.kind = 7) :
    Calls Tryz.prog 11 #[.pointer (some ⟨wb, 0, none⟩), opv o] W fun e W' => e = .returned (.bool true) ∧ ∃ s', WV (n + 1) wb s' w W' := by
  have HC := hide h
  clear h
  obtain ⟨kind, a, b, c, d, e, x, S⟩ := o
  simp only at hk
  subst hk
  go_enter Tryz.func11, Tryz.ntmps11
  have hcells : ∀ j, W.cell? ⟨wb, j, none⟩ = s.cells[j]? := (unhide HC).toWC.cell
  have hfree : ∀ j, W.frozen? ⟨wb, j, none⟩ = false := (unhide HC).toWC.free
  have hwl := (unhide HC).lt
  obtain ⟨ti, hti, hz0, hz1, hz2⟩ := info_parts infoInt
  have hun := (unhide HC).dn
  go_wp2_with (at_builtin; refine wpList_append_copy rfl _ _ 24 rfl (wb + 1) 3 ti (.int .i64 0) 1 8 Tryz.underlying24 hti hz0 hz1 hz2 rfl (by decide) s.dv s.dn s.dx rfl rfl ((unhide HC).rows.d.alloc _) (unhide HC).d1 (by unfold maxLen; omega) (by omega) ?_)
  intro v1 w1 hown hb1
  have hB1 : Below W.heap.size W w1 := ((Below.refl _ _).alloc (Nat.le_refl _) _).trans (hb1.mono (by omega))
  have hbx := (hb1.block W.heap.size (by simp)).trans (heap_alloc_new W _)
  have p2 : w1.cell? ⟨W.heap.size, 2, none⟩ = some (.int .i64 a) := cell_at hbx 2
  have HB := hide (unhide HC).toWB
  have HB1 := hide hB1
  have HO := hide hown
  have hw1 := hB1.size
  have hs1 := hb1.size
  obtain ⟨bo, bc, hvf⟩ := own_form hown
  subst hvf
  clear hbx hb1 hB1 hcells hfree hown
  go_wp2_with (at_builtin; refine wpList_append_lies _ rfl _ _ 24 rfl (W.heap.size + 1) 3 ti (.int .i64 0) 1 8 Tryz.underlying24 hti hz0 hz1 hz2 rfl (by decide) (.slice bo s.dn bc) s.dn s.dx rfl ((unhide HO).alloc _) ⟨w1.heap.size, 0, none⟩ 1 1 [.int .i64 a] rfl rfl (World.news_of_block (heap_alloc_new w1 (.cells #[.int .i64 a] 3))) (by simp [Value.oneCell']) (by omega) (by unfold maxLen; omega) (by omega) (by simp at hs1 ⊢; omega) (w1.heap.size + 1) (by simp) ?_)
  intro g cp w3 hown3 hgrow3 hat3 _
  have hB3 : Below W.heap.size W w3 := by
    have h1 : ∀ o, Below W.heap.size W (w1.alloc o) := fun o => (unhide HB1).trans (((Below.refl w1.heap.size w1).alloc (Nat.le_refl _) o).mono hw1)
    exact (h1 _).grown hgrow3 (by simp; omega) (fun k e => by have := (own_lt (unhide HO) e).1; omega)
  have hC3 := (unhide HC).toWC.mono hB3
  have HC3 := hide hC3
  have HO3 := hide (own_base (b' := wb + 1) hown3 (by omega))
  have hcells : ∀ j, w3.cell? ⟨wb, j, none⟩ = s.cells[j]? := hC3.cell
  have hfree : ∀ j, w3.frozen? ⟨wb, j, none⟩ = false := hC3.free
  clear hC3 hB3 hown3 hgrow3 hat3 HO HB1 HC
  go_wp2
  go_ret
  refine ⟨rfl, _, (unhide HC3).setD (s.dn + 1) (s.dx ++ [.int .i64 a]) _ (unhide HO3), ?_⟩
  obtain ⟨h1, h2, h3, h4, h5, h6, h7, h8, h9⟩ := (unhide HB).up
  have h4' := (unhide HB).dn
  refine ⟨h1, h2, h3, by simp only; omega, h5, h6, h7, h8, fun u hu => ?_⟩
  simp only [List.mem_append, List.mem_singleton] at hu
  rcases hu with hu | rfl
  · exact h9 u hu
  · rfl
end Go.Proofs.YtnneljcbelgoeaaGreatDoor.wire
