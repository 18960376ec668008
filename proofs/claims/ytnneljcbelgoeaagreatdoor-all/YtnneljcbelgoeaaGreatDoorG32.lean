import Derived.Test.YtnneljcbelgoeaaGreatDoorG29
import Derived.Test.YtnneljcbelgoeaaGreatDoorG31
import Derived.Deep.DrawnRows
import Derived.Test.YtnneljcbelgoeaaGreatDoorG00
import Derived.Test.YtnneljcbelgoeaaGreatDoorG01
import Derived.Test.YtnneljcbelgoeaaGreatDoorG09
import Derived.Test.YtnneljcbelgoeaaGreatDoorG25
import Derived.Test.YtnneljcbelgoeaaGreatDoorG24
import Derived.Test.YtnneljcbelgoeaaGreatDoorG26
import Derived.BigRegion
import Derived.Test.YtnneljcbelgoeaaGreatDoorG11
/- gossiplaw's owner over nodes: a step on what the caller owns. -/
namespace Go.Proofs.YtnneljcbelgoeaaGreatDoor.wire
open Go.RowKit Go.Maps
theorem Held.of {s s' : Sg} (h : Held s) (e1 : s'.ls = s.ls) (e2 : s'.ws = s.ws) (e3 : s'.os = s.os) (e4 : s'.ks = s.ks) (hf : ∀ t ∈ s.fz, t ∈ s'.fz) : Held s' := by
  refine ⟨by rw [e1, e2]; exact h.lw, by rw [e3, e4]; exact h.ok, fun i x y hx hy => ?_, fun i x y hx hy => ?_⟩
  · rw [e1] at hx; rw [e2] at hy
    obtain ⟨L, h1, h2, h3⟩ := h.l i x y hx hy
    exact ⟨L, h1, hf _ h2, hf _ h3⟩
  · rw [e3] at hx; rw [e4] at hy
    obtain ⟨L, h1, h2, h3⟩ := h.o i x y hx hy
    exact ⟨L, h1, hf _ h2, hf _ h3⟩
theorem etySt : Ety Tryz.prog 30 9 1 16 := ety_of Tryz.underlying30 infoStr rfl (by omega) (by omega)
/-- A list that nobody writes, behind all that there was. -/
theorem VS.fresh {wb : Nat} {s : Sg} {w W W' : World} (h : VS wb s w W) (hb : Below W.heap.size W W') {e : TypeId} {z : Nat} {v : Value} {n : Nat} {xs : List Value} {base : Nat} (hbase : W.heap.size ≤ base) (ho : W'.ownsRow base e z v n xs) : VS wb { s with fz := rowT e z v n xs :: s.fz } w W' := by
  refine (h.mono hb).freeze (s' := { s with fz := rowT e z v n xs :: s.fz }) [rowT e z v n xs] (by intro t ht; simp at ht; subst ht; exact own_mono ho (Nat.zero_le _)) (fun t ht k hk => ?_) rfl (fun q hq => by cases q <;> first | rfl | exact absurd rfl hq)
  simp at ht; subst ht
  have hk' := (own_lt ho (by simpa [rowT] using hk)).1
  obtain ⟨a1, a2⟩ := h.beyond (k := k) (by omega)
  exact ⟨a1, fun j _ => a2 j⟩
theorem VI.setM {n : Nat} {s : Sg} (h : VI n s) (m : M6) (uv : Value) (hm : m.ups.length ≤ n + 9) : VI (n + 1) { s with m := m, uv := uv, fz := rkeysT uv m.ups :: s.fz } := by
  have u := h.up
  exact { u with un := hm, uf := List.mem_cons_self .., df := List.mem_cons_of_mem _ u.df, nk := fun t ht => (u.nk t ht).up (Nat.le_refl _) (fun q hq => List.mem_cons_of_mem _ hq), hd := u.hd.of rfl rfl rfl rfl (fun q hq => List.mem_cons_of_mem _ hq) }
theorem VI.setD {n : Nat} {s : Sg} (h : VI n s) (a : Int) (ha : -9223372036854775808 ≤ a ∧ a ≤ 9223372036854775807) (dv : Value) : VI (n + 1) { s with dv := dv, ds := s.ds ++ [a], fz := intsT dv (s.ds ++ [a]) :: s.fz } := by
  have u := h.up
  refine { u with uf := List.mem_cons_of_mem _ u.uf, df := List.mem_cons_self .., dn := by simp; exact h.dn, dr := fun z hz => ?_, nk := fun t ht => (u.nk t ht).up (Nat.le_refl _) (fun q hq => List.mem_cons_of_mem _ hq), hd := u.hd.of rfl rfl rfl rfl (fun q hq => List.mem_cons_of_mem _ hq) }
  rcases List.mem_append.1 hz with hz | hz
  · exact h.dr z hz
  · simp at hz; subst hz; exact ha
/-- Whatever is none of the caller's. -/
def noneOwn (k : Int) : Prop := ¬ k = 1 ∧ ¬ k = 2 ∧ ¬ k = 3 ∧ ¬ k = 4 ∧ ¬ k = 7 ∧ ¬ k = 8 ∧ ¬ k = 12
set_option maxRecDepth 100000 in
set_option maxHeartbeats 1000000 in
theorem vowner_no (wb : Nat) (W : World) (o : Op8) (hk : noneOwn o.kind) :
    Calls Tryz.prog 11 #[.pointer (some ⟨wb, 0, none⟩), opv o] W fun e W' => e = .returned (.bool false) ∧ Below W.heap.size W W' := by
  obtain ⟨kind, a, b, c, d, e, x, S⟩ := o
  simp only [noneOwn] at hk
  obtain ⟨h1, h2, h3, h4, h7, h8, h12⟩ := hk
  go_enter Tryz.func11, Tryz.ntmps11
  go_wp2
  go_ret
  exact ⟨rfl, (Below.refl _ _).alloc (Nat.le_refl _) _⟩
set_option maxRecDepth 100000 in
set_option maxHeartbeats 1000000 in
theorem vowner_text (n wb : Nat) (s : Sg) (w W : World) (h : VV n wb s w W) (hn : n ≤ 18000) (o : Op8) (hk : o.kind = 1) (hS : o.s.length ≤ 17000) :
    Calls Tryz.prog 11 #[.pointer (some ⟨wb, 0, none⟩), opv o] W fun e W' => e = .returned (.bool true) ∧ ∃ s', VV (n + 1) wb s' w W' := by
  have HC := hide h
  clear h
  obtain ⟨kind, a, b, c, d, e, x, S⟩ := o
  simp only at hk hS
  subst hk
  go_enter Tryz.func11, Tryz.ntmps11
  have c0 : W.cell? ⟨wb, 0, none⟩ = some s.tv := (unhide HC).vs.cell 0
  have hwl := (unhide HC).vs.lt
  go_wp2_with fail
  have HC1 := hide ((unhide HC).vs.alloc (.cells #[.int .i64 1, .int .i64 x, .int .i64 a, .int .i64 b, .int .i64 c, .int .i64 d, .int .i64 e, .string (bs S)] 28))
  have p7 : (W.alloc (.cells #[.int .i64 1, .int .i64 x, .int .i64 a, .int .i64 b, .int .i64 c, .int .i64 d, .int .i64 e, .string (bs S)] 28)).cell? ⟨W.heap.size, 7, none⟩ = some (.string (bs S)) := cell_at (heap_alloc_new W _) 7
  have hB := hide (unhide HC).vi
  have htn := (unhide HC).vi.tn
  clear HC c0
  generalize (W.alloc (.cells #[.int .i64 1, .int .i64 x, .int .i64 a, .int .i64 b, .int .i64 c, .int .i64 d, .int .i64 e, .string (bs S)] 28)) = W1 at HC1 p7 ⊢
  have c0 : W1.cell? ⟨wb, 0, none⟩ = some s.tv := (unhide HC1).cell 0
  have hw1 := (unhide HC1).lt
  have HT : Hid (W1.ownsRow 0 9 1 s.tv s.ts.length (s.ts.map fun l => .string (bs l))) := hide (Sep.rd (unhide HC1) .tx)
  obtain ⟨tao, tac, htv, _⟩ := row_form (unhide HT)
  rw [htv] at c0
  go_region_law
    ((refine step_app (by rfl) _ _ (by rfl) etySt 0 (by first | rfl | (rw [htv]; rfl)) (by rfl) (((unhide HT).alloc _).drew) (Src.box (cs := [.string (bs S)]) 1 1 1 (by exact heap_alloc_new W1 _) (by rfl)) (by simp [Value.oneCell']) (by omega) (by omega) ?_; intro v' w' hown hgr hat; obtain ⟨vo, vc, hvf, _⟩ := row_form hown; subst hvf; have hP := (unhide HC1).pushT (bd_draws _ 1) hgr S _ hown hat; have hfz1 : w'.frozen? ⟨wb, 0, none⟩ = false := free_at hP.2 0; have hc1 : w'.cell? ⟨wb, 0, none⟩ = some s.tv := cell_at hP.2 0))
  all_goals
    have HP := hide hP.1
    clear hP hown hgr hat hfz1 hc1 c0 p7 HC1
    go_wp2
    go_ret
    exact ⟨rfl, _, unhide HP, (unhide hB).pushT S _ hS⟩
set_option maxRecDepth 100000 in
set_option maxHeartbeats 1000000 in
theorem vowner_msg (n wb : Nat) (s : Sg) (w W : World) (h : VV n wb s w W) (_hn : n ≤ 18000) (o : Op8) (hk : o.kind = 3) :
    Calls Tryz.prog 11 #[.pointer (some ⟨wb, 0, none⟩), opv o] W fun e W' => e = .returned (.bool true) ∧ ∃ s', VV (n + 1) wb s' w W' := by
  have HC := hide h
  clear h
  obtain ⟨kind, a, b, c, d, e, x, S⟩ := o
  simp only at hk
  subst hk
  go_enter Tryz.func11, Tryz.ntmps11
  have hcells : ∀ j, W.cell? ⟨wb, j, none⟩ = s.cells[j]? := (unhide HC).vs.cell
  have hfree : ∀ j, W.frozen? ⟨wb, j, none⟩ = false := (unhide HC).vs.free
  have hwl := (unhide HC).vs.lt
  go_wp2
  go_ret
  exact ⟨rfl, _, (((unhide HC).vs.fresh (Below.refl _ _) (Nat.le_refl _) (World.ownsRow_nil W W.heap.size 58 3)).setM ⟨a, b, c, d, e, []⟩ (.slice none 0 0)).alloc _, (unhide HC).vi.setM ⟨a, b, c, d, e, []⟩ (.slice none 0 0) (by simp)⟩
set_option maxRecDepth 100000 in
set_option maxHeartbeats 1000000 in
theorem vowner_shape (n wb : Nat) (s : Sg) (w W : World) (h : VV n wb s w W) (_hn : n ≤ 18000) (o : Op8) (hk : o.kind = 8) (ha0 : -9223372036854775808 ≤ o.a) (ha1 : o.a ≤ 9223372036854775807) :
    Calls Tryz.prog 11 #[.pointer (some ⟨wb, 0, none⟩), opv o] W fun e W' => e = .returned (.bool true) ∧ ∃ s', VV (n + 1) wb s' w W' := by
  have HC := hide h
  clear h
  obtain ⟨kind, a, b, c, d, e, x, S⟩ := o
  simp only at hk ha0 ha1
  subst hk
  go_enter Tryz.func11, Tryz.ntmps11
  have hcells : ∀ j, W.cell? ⟨wb, j, none⟩ = s.cells[j]? := (unhide HC).vs.cell
  have hfree : ∀ j, W.frozen? ⟨wb, j, none⟩ = false := (unhide HC).vs.free
  have hwl := (unhide HC).vs.lt
  go_wp2
  go_ret
  have u := (unhide HC).vi.up
  exact ⟨rfl, _, ((unhide HC).vs.setShape ⟨0, a, b, c, d, e⟩).alloc _, { u with c := ⟨ha0, ha1⟩, hd := u.hd.of rfl rfl rfl rfl (fun _ q => q) }⟩
set_option maxRecDepth 100000 in
set_option maxHeartbeats 1000000 in
theorem vowner_upd (n wb : Nat) (s : Sg) (w W : World) (h : VV n wb s w W) (hn : n ≤ 18000) (o : Op8) (hk : o.kind = 4) :
    Calls Tryz.prog 11 #[.pointer (some ⟨wb, 0, none⟩), opv o] W fun e W' => e = .returned (.bool true) ∧ ∃ s', VV (n + 1) wb s' w W' := by
  have HC := hide h
  clear h
  obtain ⟨kind, a, b, c, d, e, x, S⟩ := o
  simp only at hk
  subst hk
  go_enter Tryz.func11, Tryz.ntmps11
  have hcells : ∀ j, W.cell? ⟨wb, j, none⟩ = s.cells[j]? := (unhide HC).vs.cell
  have hfree : ∀ j, W.frozen? ⟨wb, j, none⟩ = false := (unhide HC).vs.free
  have hwl := (unhide HC).vs.lt
  obtain ⟨ti, hti, hz0, hz1, hz2⟩ := info_parts infoRKey
  have hun := (unhide HC).vi.un
  have HU : Hid (W.ownsRow 0 58 3 s.uv s.m.ups.length (s.m.ups.flatMap keyC)) := hide ((unhide HC).vs.has (unhide HC).vi.uf)
  have hone : ∀ l : List K3, ∀ u ∈ l.flatMap keyC, u.oneCell' = true := fun l => one_of oneKv l
  go_wp2_with (at_builtin; refine wpList_append_copy rfl _ _ 31 rfl 0 58 ti (.agg #[.int .i64 0, .int .i64 0, .int .i64 0]) 3 24 Tryz.underlying31 hti hz0 hz1 hz2 rfl (by decide) s.uv s.m.ups.length (s.m.ups.flatMap keyC) rfl rfl ((unhide HU).alloc _) (hone _) (by unfold maxLen; omega) (by omega) ?_)
  intro v1 w1 hown hb1
  have hB1 : Below W.heap.size W w1 := ((Below.refl _ _).alloc (Nat.le_refl _) _).trans (hb1.mono (by omega))
  have hbx := (hb1.block W.heap.size (by simp)).trans (heap_alloc_new W _)
  have p2 : w1.cell? ⟨W.heap.size, 2, none⟩ = some (.int .i64 a) := cell_at hbx 2
  have p3 : w1.cell? ⟨W.heap.size, 3, none⟩ = some (.int .i64 b) := cell_at hbx 3
  have p4 : w1.cell? ⟨W.heap.size, 4, none⟩ = some (.int .i64 c) := cell_at hbx 4
  have HB1 := hide hB1
  have HO := hide hown
  have hw1 := hB1.size
  have hs1 := hb1.size
  obtain ⟨bo, bc, hvf⟩ := own_form hown
  subst hvf
  clear hbx hb1 hB1 hcells hfree hown
  go_wp2_with (at_builtin; refine wpList_app rfl _ _ rfl etyK (W.heap.size + 1) rfl rfl ((unhide HO).alloc _) (Src.box (cs := keyC ⟨a, b, c⟩) 3 1 1 (by exact heap_alloc_new w1 _) rfl) (oneKv _) (by omega) (by simp at hs1 ⊢; omega) ?_)
  intro v3 w3 hown3 hgrow3 hat3
  have hB3 : Below W.heap.size W w3 := by
    have h1 : ∀ o, Below W.heap.size W (w1.alloc o) := fun o => (unhide HB1).trans (((Below.refl w1.heap.size w1).alloc (Nat.le_refl _) o).mono hw1)
    exact (h1 _).grown hgrow3 (by simp; omega) (fun k e => by have := (own_lt (unhide HO) e).1; omega)
  obtain ⟨vo, vc, hvf, _⟩ := row_form hown3
  subst hvf
  have hrow : w3.ownsRow (W.heap.size + 1) 58 3 (.slice vo (s.m.ups.length + 1) vc) (s.m.ups ++ [(⟨a, b, c⟩ : K3)]).length ((s.m.ups ++ [(⟨a, b, c⟩ : K3)]).flatMap keyC) := by
    rw [List.flatMap_append, List.length_append]
    simpa using hown3
  have hC3 := (unhide HC).vs.fresh hB3 (by omega) hrow
  have HC3 := hide hC3
  have hcells : ∀ j, w3.cell? ⟨wb, j, none⟩ = s.cells[j]? := hC3.cell
  have hfree : ∀ j, w3.frozen? ⟨wb, j, none⟩ = false := hC3.free
  have HB := hide (unhide HC).vi
  clear hC3 hB3 hown3 hgrow3 hat3 HO HB1 HC hrow HU
  go_wp2
  go_ret
  refine ⟨rfl, _, (unhide HC3).store (s' := { s with m := { s.m with ups := s.m.ups ++ [⟨a, b, c⟩] }, uv := .slice vo (s.m.ups.length + 1) vc, fz := rkeysT (.slice vo (s.m.ups.length + 1) vc) (s.m.ups ++ [⟨a, b, c⟩]) :: s.fz }) 6 _ rfl (fun q hq => by cases q <;> first | rfl | exact absurd rfl hq), (unhide HB).setM { s.m with ups := s.m.ups ++ [⟨a, b, c⟩] } _ (by simp; omega)⟩
set_option maxRecDepth 100000 in
set_option maxHeartbeats 1000000 in
theorem vowner_draw (n wb : Nat) (s : Sg) (w W : World) (h : VV n wb s w W) (hn : n ≤ 18000) (o : Op8) (hk : o.kind = 7) (ha0 : -9223372036854775808 ≤ o.a) (ha1 : o.a ≤ 9223372036854775807) :
    Calls Tryz.prog 11 #[.pointer (some ⟨wb, 0, none⟩), opv o] W fun e W' => e = .returned (.bool true) ∧ ∃ s', VV (n + 1) wb s' w W' := by
  have HC := hide h
  clear h
  obtain ⟨kind, a, b, c, d, e, x, S⟩ := o
  simp only at hk ha0 ha1
  subst hk
  go_enter Tryz.func11, Tryz.ntmps11
  have hcells : ∀ j, W.cell? ⟨wb, j, none⟩ = s.cells[j]? := (unhide HC).vs.cell
  have hfree : ∀ j, W.frozen? ⟨wb, j, none⟩ = false := (unhide HC).vs.free
  have hwl := (unhide HC).vs.lt
  obtain ⟨ti, hti, hz0, hz1, hz2⟩ := info_parts infoInt
  have hun := (unhide HC).vi.dn
  have HU : Hid (W.ownsRow 0 3 1 s.dv s.ds.length (s.ds.flatMap intC)) := hide ((unhide HC).vs.has (unhide HC).vi.df)
  have hone : ∀ l : List Int, ∀ u ∈ l.flatMap intC, u.oneCell' = true := fun l => one_of int_one l
  go_wp2_with (at_builtin; refine wpList_append_copy rfl _ _ 24 rfl 0 3 ti (.int .i64 0) 1 8 Tryz.underlying24 hti hz0 hz1 hz2 rfl (by decide) s.dv s.ds.length (s.ds.flatMap intC) rfl rfl ((unhide HU).alloc _) (hone _) (by unfold maxLen; omega) (by omega) ?_)
  intro v1 w1 hown hb1
  have hB1 : Below W.heap.size W w1 := ((Below.refl _ _).alloc (Nat.le_refl _) _).trans (hb1.mono (by omega))
  have hbx := (hb1.block W.heap.size (by simp)).trans (heap_alloc_new W _)
  have p2 : w1.cell? ⟨W.heap.size, 2, none⟩ = some (.int .i64 a) := cell_at hbx 2
  have HB1 := hide hB1
  have HO := hide hown
  have hw1 := hB1.size
  have hs1 := hb1.size
  obtain ⟨bo, bc, hvf⟩ := own_form hown
  subst hvf
  clear hbx hb1 hB1 hcells hfree hown
  go_wp2_with (at_builtin; refine wpList_app rfl _ _ rfl etyI (W.heap.size + 1) rfl rfl ((unhide HO).alloc _) (Src.box (cs := intC a) 1 1 1 (by exact heap_alloc_new w1 _) rfl) (int_one _) (by omega) (by simp at hs1 ⊢; omega) ?_)
  intro v3 w3 hown3 hgrow3 hat3
  have hB3 : Below W.heap.size W w3 := by
    have h1 : ∀ o, Below W.heap.size W (w1.alloc o) := fun o => (unhide HB1).trans (((Below.refl w1.heap.size w1).alloc (Nat.le_refl _) o).mono hw1)
    exact (h1 _).grown hgrow3 (by simp; omega) (fun k e => by have := (own_lt (unhide HO) e).1; omega)
  obtain ⟨vo, vc, hvf, _⟩ := row_form hown3
  subst hvf
  have hrow : w3.ownsRow (W.heap.size + 1) 3 1 (.slice vo (s.ds.length + 1) vc) (s.ds ++ [a]).length ((s.ds ++ [a]).flatMap intC) := by
    rw [List.flatMap_append, List.length_append]
    simpa using hown3
  have hC3 := (unhide HC).vs.fresh hB3 (by omega) hrow
  have HC3 := hide hC3
  have hcells : ∀ j, w3.cell? ⟨wb, j, none⟩ = s.cells[j]? := hC3.cell
  have hfree : ∀ j, w3.frozen? ⟨wb, j, none⟩ = false := hC3.free
  have HB := hide (unhide HC).vi
  clear hC3 hB3 hown3 hgrow3 hat3 HO HB1 HC hrow HU
  go_wp2
  go_ret
  exact ⟨rfl, _, (unhide HC3).store (s' := { s with dv := .slice vo (s.ds.length + 1) vc, ds := s.ds ++ [a], fz := intsT (.slice vo (s.ds.length + 1) vc) (s.ds ++ [a]) :: s.fz }) 7 _ rfl (fun q hq => by cases q <;> first | rfl | exact absurd rfl hq), (unhide HB).setD a ⟨ha0, ha1⟩ _⟩
end Go.Proofs.YtnneljcbelgoeaaGreatDoor.wire
namespace Go.Proofs.YtnneljcbelgoeaaGreatDoor.wire
open Go.RowKit

set_option maxHeartbeats 2000000 in
theorem gdecode_no (l : List UInt8) (w : World) (hl : l.length ≤ maxLen) (hd : decB l = false) :
    Calls Tryz.prog 28 #[.string (bs l)] w fun e w' => e = .returned (.tuple #[mval M6.zero (.slice none 0 0), .iface 108 (.int .i64 2)]) ∧ Below w.heap.size w w' := by
  have HD := hide hd
  clear hd
  go_enter Tryz.func28, Tryz.ntmps28
  go_wp2_with fail
  refine (decode_no l _ hl (unhide HD)).mono ?_
  rintro e w1 ⟨rfl, hb⟩
  have hblk : w1.heap[w.heap.size]? = some (.cells #[.int .i64 0, .int .i64 0, .int .i64 0, .int .i64 0, .int .i64 0, .slice none 0 0] 68 (0, 0)) := by
    rw [hb.block _ (by simp)]; exact heap_alloc_new _ _
  have f0 : w1.cell? ⟨w.heap.size, 0, none⟩ = some (.int .i64 0) := cell_at hblk 0
  have f1 : w1.cell? ⟨w.heap.size, 1, none⟩ = some (.int .i64 0) := cell_at hblk 1
  have f2 : w1.cell? ⟨w.heap.size, 2, none⟩ = some (.int .i64 0) := cell_at hblk 2
  have f3 : w1.cell? ⟨w.heap.size, 3, none⟩ = some (.int .i64 0) := cell_at hblk 3
  have f4 : w1.cell? ⟨w.heap.size, 4, none⟩ = some (.int .i64 0) := cell_at hblk 4
  have f5 : w1.cell? ⟨w.heap.size, 5, none⟩ = some (.slice none 0 0) := cell_at hblk 5
  have fz : ∀ j, w1.frozen? ⟨w.heap.size, j, none⟩ = false := free_at hblk
  have HB := hide hb
  clear hb hblk
  simp only [mval, M6.zero]
  go_wp2
  refine bodyPost_ret (v := .tuple #[mval M6.zero (.slice none 0 0), .iface 108 (.int .i64 2)]) (by simp [results, Tryz.results28, go_sem, f0, f1, f2, f3, f4, f5, mval, M6.zero]) rfl ⟨rfl, ?_⟩
  exact (((((((((Below.refl _ _).alloc (Nat.le_refl _) _).trans ((unhide HB).mono (by simp))).setCell (Nat.le_refl _) _).setCell (Nat.le_refl _) _).setCell (Nat.le_refl _) _).setCell (Nat.le_refl _) _).setCell (Nat.le_refl _) _).setCell (Nat.le_refl _) _)
set_option maxHeartbeats 2000000 in
theorem gdecode_yes (l : List UInt8) (w : World) (hl : l.length ≤ maxLen) (hd : decB l = true) :
    Calls Tryz.prog 28 #[.string (bs l)] w fun e w' => ∃ v, e = .returned (.tuple #[mval (readM l) v, .nilIface]) ∧ w'.ownsRow w.heap.size 76 3 v (readM l).ups.length (kcells (readM l).ups) ∧ Below w.heap.size w w' := by
  have HD := hide hd
  clear hd
  go_enter Tryz.func28, Tryz.ntmps28
  go_wp2_with fail
  refine (decode_yes l _ hl (unhide HD)).mono ?_
  generalize hm : readM l = m
  have HM := hide hm
  clear hm
  rintro e w1 ⟨v, rfl, hown, hb⟩
  obtain ⟨ao, cap, rfl⟩ := own_form hown
  have hblk : w1.heap[w.heap.size]? = some (.cells #[.int .i64 0, .int .i64 0, .int .i64 0, .int .i64 0, .int .i64 0, .slice none 0 0] 68 (0, 0)) := by
    rw [hb.block _ (by simp)]; exact heap_alloc_new _ _
  have f0 : w1.cell? ⟨w.heap.size, 0, none⟩ = some (.int .i64 0) := cell_at hblk 0
  have f1 : w1.cell? ⟨w.heap.size, 1, none⟩ = some (.int .i64 0) := cell_at hblk 1
  have f2 : w1.cell? ⟨w.heap.size, 2, none⟩ = some (.int .i64 0) := cell_at hblk 2
  have f3 : w1.cell? ⟨w.heap.size, 3, none⟩ = some (.int .i64 0) := cell_at hblk 3
  have f4 : w1.cell? ⟨w.heap.size, 4, none⟩ = some (.int .i64 0) := cell_at hblk 4
  have f5 : w1.cell? ⟨w.heap.size, 5, none⟩ = some (.slice none 0 0) := cell_at hblk 5
  have fz : ∀ j, w1.frozen? ⟨w.heap.size, j, none⟩ = false := free_at hblk
  have HB := hide hb
  have HO := hide hown
  clear hb hblk hown
  simp only [mval]
  go_wp2
  refine bodyPost_ret (v := .tuple #[mval m (.slice ao m.ups.length cap), .nilIface]) (by simp [results, Tryz.results28, go_sem, f0, f1, f2, f3, f4, f5, mval]) rfl ⟨.slice ao m.ups.length cap, by rw [unhide HM], ?_, ?_⟩
  · rw [unhide HM]
    have h := unhide HO
    rw [World.size_alloc] at h
    exact own_mono (ownsRow_setCell_below (ownsRow_setCell_below (ownsRow_setCell_below (ownsRow_setCell_below (ownsRow_setCell_below (ownsRow_setCell_below h (by simp) _) (by simp) _) (by simp) _) (by simp) _) (by simp) _) (by simp) _) (by omega)
  · exact (((((((((Below.refl _ _).alloc (Nat.le_refl _) _).trans ((unhide HB).mono (by simp))).setCell (Nat.le_refl _) _).setCell (Nat.le_refl _) _).setCell (Nat.le_refl _) _).setCell (Nat.le_refl _) _).setCell (Nat.le_refl _) _).setCell (Nat.le_refl _) _)
set_option maxHeartbeats 2000000 in
theorem gencode_yes (m : M6) (v : Value) (w : World) (hv : KeysAt w v m.ups) (hm : wholeB m = true) :
    Calls Tryz.prog 23 #[mval m v] w fun e w' => e = .returned (.tuple #[.string (bs (bytesM m)), .nilIface]) ∧ Below w.heap.size w w' := by
  obtain ⟨ao, cap, rfl⟩ := hv.form
  have HM := hide hm
  have HV := hide hv
  clear hm hv
  go_enter Tryz.func23, Tryz.ntmps23
  go_wp2_with fail
  refine (encode_yes m _ _ ((unhide HV).below ((Below.refl _ _).alloc (Nat.le_refl _) _)) (unhide HM)).mono ?_
  rintro e w1 ⟨rfl, hb⟩
  have HB := hide hb
  clear hb
  go_wp2
  go_ret2
  exact ⟨rfl, ((Below.refl _ _).alloc (Nat.le_refl _) _).trans ((unhide HB).mono (by simp))⟩
set_option maxHeartbeats 2000000 in
theorem gencode_no (m : M6) (v : Value) (w : World) (hv : KeysAt w v m.ups) (hl : m.ups.length ≤ 1000000) (hm : wholeB m = false) :
    Calls Tryz.prog 23 #[mval m v] w fun e w' => e = .returned (.tuple #[.string ⟨#[]⟩, .iface 108 (.int .i64 2)]) ∧ Below w.heap.size w w' := by
  obtain ⟨ao, cap, rfl⟩ := hv.form
  have HM := hide hm
  have HV := hide hv
  clear hm hv
  go_enter Tryz.func23, Tryz.ntmps23
  go_wp2_with fail
  refine (encode_no m _ _ ((unhide HV).below ((Below.refl _ _).alloc (Nat.le_refl _) _)) hl (unhide HM)).mono ?_
  rintro e w1 ⟨rfl, hb⟩
  have HB := hide hb
  clear hb
  go_wp2
  go_ret2
  exact ⟨rfl, ((Below.refl _ _).alloc (Nat.le_refl _) _).trans ((unhide HB).mono (by simp))⟩
end Go.Proofs.YtnneljcbelgoeaaGreatDoor.wire
/- gossiplaw's encoded. -/
namespace Go.Proofs.YtnneljcbelgoeaaGreatDoor.wire
open Go.RowKit
/-- What Encode must answer. -/
def encB (m : M6) : List UInt8 := if wholeB m then bytesM m else []
/-- What stands in 'encoded': the message's box, its list, the spare list. -/
structure EN (H g : Nat) (m : M6) (v : Value) (w W : World) : Prop where
  box : W.heap[H]? = some (.cells #[.int .i64 m.kind, .int .i64 m.frm, .int .i64 m.inc, .int .i64 m.seq, .int .i64 m.tgt, v] 33 (0, 0))
  keys : KeysAt W v m.ups
  below : Below w.heap.size w W
  lt : H < g
  hw : w.heap.size ≤ H
theorem EN.mono {H g : Nat} {m : M6} {v : Value} {w W W' : World} (h : EN H g m v w W) (hk : KeysAt w v m.ups) (hb : Below g W W') : EN H g m v w W' := by
  have := h.lt
  have := h.hw
  have hB : Below w.heap.size w W' := h.below.trans (hb.mono (by omega))
  exact ⟨(hb.block H h.lt).trans h.box, hk.below hB, hB, h.lt, h.hw⟩
theorem EN.gate {H g : Nat} {m : M6} {v : Value} {w W : World} (h : EN H g m v w W) {x : Value} (hlt : 0 < w.heap.size) (hg : w.cell? ⟨0, 0, none⟩ = some x) : W.cell? ⟨0, 0, none⟩ = some x := (h.below.cell (p := ⟨0, 0, none⟩) hlt).trans hg
theorem EN.cells {H g : Nat} {m : M6} {v : Value} {w W : World} (h : EN H g m v w W) : W.cell? ⟨H, 0, none⟩ = some (.int .i64 m.kind) ∧ W.cell? ⟨H, 1, none⟩ = some (.int .i64 m.frm) ∧ W.cell? ⟨H, 2, none⟩ = some (.int .i64 m.inc) ∧ W.cell? ⟨H, 3, none⟩ = some (.int .i64 m.seq) ∧ W.cell? ⟨H, 4, none⟩ = some (.int .i64 m.tgt) ∧ W.cell? ⟨H, 5, none⟩ = some v :=
  ⟨cell_at h.box 0, cell_at h.box 1, cell_at h.box 2, cell_at h.box 3, cell_at h.box 4, cell_at h.box 5⟩
set_option maxRecDepth 100000 in
set_option maxHeartbeats 2000000 in
theorem encoded_any (m : M6) (v : Value) (w : World) (hv : KeysAt w v m.ups) (hl : m.ups.length ≤ 20000) (hg : w.cell? ⟨0, 0, none⟩ = some (.iface 207 (.agg #[.pointer (some ⟨1, 64, none⟩)]))) :
    Calls Tryz.prog 12 #[mval m v] w fun e w' => e = .returned (.tuple #[.string (bs (encB m)), .bool true]) ∧ Below w.heap.size w w' := by
  have hlt : 0 < w.heap.size := by
    rcases Nat.eq_zero_or_pos w.heap.size with h0 | h
    · simp [World.cell?, h0] at hg
    · exact h
  obtain ⟨ao, cap, rfl⟩ := hv.form
  have HG := hide hg
  have HV := hide hv
  clear hg hv
  go_enter Tryz.func12, Tryz.ntmps12
  go_wp2_with fail
  refine (spare_any m.ups _ _ ((unhide HV).below ((Below.refl _ _).alloc (Nat.le_refl _) _)) hl).mono ?_
  rintro e w1 ⟨rfl, hblk, hb1⟩
  have E1 : EN w.heap.size (w.heap.size + 1) m (.slice ao m.ups.length cap) w w1 := by
    have hB : Below w.heap.size w w1 := ((Below.refl _ _).alloc (Nat.le_refl _) _).trans (hb1.mono (by simp))
    exact ⟨(hb1.block _ (by simp)).trans (heap_alloc_new _ _), (unhide HV).below hB, hB, by omega, Nat.le_refl _⟩
  rw [World.size_alloc] at hblk
  simp only [World.size_alloc]
  have HK1 := hide hblk
  have HE1 := hide E1
  clear hblk hb1 E1
  obtain ⟨a0, a1, a2, a3, a4, a5⟩ := (unhide HE1).cells
  cases hw : wholeB m
  · have HW := hide hw
    clear hw
    go_wp2_with fail
    clear a0 a1 a2 a3 a4 a5
    refine (gencode_no m (.slice (some ⟨w.heap.size + 1, 0, none⟩) m.ups.length (m.ups.length + 2)) _ (keysAt_blk (unhide HK1) _) (by omega) (unhide HW)).mono ?_
    rintro e w2 ⟨rfl, hb2⟩
    have hgl := lt_of_block (unhide HK1)
    have HK2 := hide ((hb2.block _ hgl).trans (unhide HK1))
    have HE2 := hide ((unhide HE1).mono (unhide HV) (hb2.mono (by omega)))
    clear hb2 hgl HK1 HE1
    have a5 := (unhide HE2).cells.2.2.2.2.2
    go_wp2_with fail
    clear a5
    refine (still_any m.ups _ _ _ (unhide HE2).keys (unhide HK2) hl).mono ?_
    rintro e w3 ⟨rfl, hb3⟩
    have HE3 := hide ((unhide HE2).mono (unhide HV) hb3)
    clear hb3 HE2 HK2
    obtain ⟨a0, a1, a2, a3, a4, a5⟩ := (unhide HE3).cells
    go_wp2_with fail
    clear a0 a1 a2 a3 a4 a5
    refine (rwhole_any m _ _ (unhide HE3).keys (by omega)).mono ?_
    rw [unhide HW]
    rintro e w4 ⟨rfl, hb4⟩
    have HE4 : Hid (EN w.heap.size (w.heap.size + 1) m (.slice ao m.ups.length cap) w w4) := hide ((unhide HE3).mono (unhide HV) (hb4.mono (by have := lt_of_block (unhide HE3).box; omega)))
    clear hb4 HE3
    go_wp2_with fail
    refine (ltold_two _ ((unhide HE4).gate hlt (unhide HG))).mono ?_
    rintro e w5 ⟨rfl, hb5⟩
    have HB5 := hide ((unhide HE4).below.trans (hb5.mono (unhide HE4).below.size))
    clear hb5 HE4
    go_wp2
    go_ret2
    exact ⟨by simp [encB, unhide HW, bs], unhide HB5⟩
  · have HW := hide hw
    clear hw
    go_wp2_with fail
    clear a0 a1 a2 a3 a4 a5
    refine (gencode_yes m (.slice (some ⟨w.heap.size + 1, 0, none⟩) m.ups.length (m.ups.length + 2)) _ (keysAt_blk (unhide HK1) _) (unhide HW)).mono ?_
    rintro e w2 ⟨rfl, hb2⟩
    have hgl := lt_of_block (unhide HK1)
    have HK2 := hide ((hb2.block _ hgl).trans (unhide HK1))
    have HE2 := hide ((unhide HE1).mono (unhide HV) (hb2.mono (by omega)))
    clear hb2 hgl HK1 HE1
    have a5 := (unhide HE2).cells.2.2.2.2.2
    go_wp2_with fail
    clear a5
    refine (still_any m.ups _ _ _ (unhide HE2).keys (unhide HK2) hl).mono ?_
    rintro e w3 ⟨rfl, hb3⟩
    have HE3 := hide ((unhide HE2).mono (unhide HV) hb3)
    clear hb3 HE2 HK2
    obtain ⟨a0, a1, a2, a3, a4, a5⟩ := (unhide HE3).cells
    go_wp2_with fail
    clear a0 a1 a2 a3 a4 a5
    refine (rwhole_any m _ _ (unhide HE3).keys (by omega)).mono ?_
    rw [unhide HW]
    rintro e w4 ⟨rfl, hb4⟩
    have HE4 : Hid (EN w.heap.size (w.heap.size + 1) m (.slice ao m.ups.length cap) w w4) := hide ((unhide HE3).mono (unhide HV) (hb4.mono (by have := lt_of_block (unhide HE3).box; omega)))
    clear hb4 HE3
    obtain ⟨a0, a1, a2, a3, a4, a5⟩ := (unhide HE4).cells
    go_wp2_with fail
    clear a0 a1 a2 a3 a4 a5
    refine (rbytes_any m _ _ (unhide HE4).keys (unhide HW)).mono ?_
    rintro e w5 ⟨rfl, hb5⟩
    have HB5 := hide ((unhide HE4).below.trans (hb5.mono (unhide HE4).below.size))
    clear hb5 HE4
    go_wp2
    go_ret2
    exact ⟨by simp [encB, unhide HW], unhide HB5⟩
end Go.Proofs.YtnneljcbelgoeaaGreatDoor.wire
/- gossiplaw's decoded. -/
namespace Go.Proofs.YtnneljcbelgoeaaGreatDoor.wire
open Go.RowKit
attribute [local go_sem ↓] Go.wp_at_zero Go.wp_at_succ
set_option maxRecDepth 100000 in
set_option maxHeartbeats 2000000 in
theorem decoded_yes (l : List UInt8) (w : World) (hl : l.length ≤ 20000) (hd : decB l = true) :
    Calls Tryz.prog 14 #[.string (bs l)] w fun e w' => ∃ vr va, e = .returned (.tuple #[mval (readM l) vr, va, .bool true]) ∧ w'.ownsRow w.heap.size 58 3 vr (readM l).ups.length (kcells (readM l).ups) ∧ w'.ownsRow w.heap.size 76 3 va (readM l).ups.length (kcells (readM l).ups) ∧ (readM l).ups.length ≤ 8 ∧ Below w.heap.size w w' := by
  have hlen8 : (readM l).ups.length ≤ 8 := by
    simp only [decB, Bool.and_eq_true] at hd
    exact whole_len hd.2
  have HD := hide hd
  clear hd
  go_enter Tryz.func14, Tryz.ntmps14
  go_wp2_with fail
  refine (gdecode_yes l _ (by unfold maxLen; omega) (unhide HD)).mono ?_
  rintro e w1 ⟨va, rfl, hown1, hb1⟩
  generalize hm : readM l = m at hlen8 hown1 ⊢
  have HM := hide hm
  clear hm
  obtain ⟨aa, ca, rfl⟩ := own_form hown1
  have hb0 : w1.heap[w.heap.size]? = some (.cells #[.int .i64 0, .int .i64 0, .int .i64 0, .int .i64 0, .int .i64 0, .slice none 0 0] 33 (0, 0)) := by rw [hb1.block _ (by simp)]; exact heap_alloc_new _ _
  have hB1 : Below w.heap.size w w1 := ((Below.refl _ _).alloc (Nat.le_refl _) _).trans (hb1.mono (by simp))
  have hz1 : w.heap.size < w1.heap.size := by have := hb1.size; simp at this; omega
  rw [World.size_alloc] at hown1
  have HO1 := hide hown1
  have HB0 := hide hb0
  have HB1 := hide hB1
  clear hown1 hb1 hb0 hB1
  simp only [mval]
  go_wp2_with fail
  refine (rdecode_yes l _ (unhide HD)).mono ?_
  rw [unhide HM]
  rintro e w2 ⟨vr, rfl, hown2, hb2⟩
  obtain ⟨ar, cr, rfl⟩ := own_form hown2
  have hA : w2.heap[w1.heap.size]? = some (.cells #[.int .i64 m.kind, .int .i64 m.frm, .int .i64 m.inc, .int .i64 m.seq, .int .i64 m.tgt, .slice aa m.ups.length ca] 68 (0, 0)) := by rw [hb2.block _ (by simp)]; exact heap_alloc_new _ _
  have hR0 : w2.heap[w.heap.size]? = some (.cells #[.int .i64 0, .int .i64 0, .int .i64 0, .int .i64 0, .int .i64 0, .slice none 0 0] 33 (0, 0)) := by rw [hb2.block _ (by simp; omega), Below.heap_alloc _ _ _ hz1]; exact unhide HB0
  have hown1' := own_below ((unhide HO1).alloc (.cells #[.int .i64 m.kind, .int .i64 m.frm, .int .i64 m.inc, .int .i64 m.seq, .int .i64 m.tgt, .slice aa m.ups.length ca] 68)) hb2
  have hB2 : Below w.heap.size w w2 := (unhide HB1).trans (((Below.refl _ _).alloc (unhide HB1).size _).trans (hb2.mono (by simp; omega)))
  have hz2 : w1.heap.size < w2.heap.size := by have := hb2.size; simp at this; omega
  rw [World.size_alloc] at hown2
  have hown2' := own_mono hown2 (show w.heap.size + 1 ≤ w1.heap.size + 1 by omega)
  generalize w1.heap.size = A at hA hz1 hz2 ⊢
  have HA := hide hA
  have HR0 := hide hR0
  have HO1' := hide hown1'
  have HO2' := hide hown2'
  have HB2 := hide hB2
  clear hA hR0 hown1' hown2 hown2' hB2 hb2 HO1 HB0 HB1
  simp only [mval]
  go_wp2_with fail
  refine (ltold_nil _).mono ?_
  rintro e w3 ⟨rfl, rfl⟩
  have a5 : (w2.alloc (.cells #[.int .i64 m.kind, .int .i64 m.frm, .int .i64 m.inc, .int .i64 m.seq, .int .i64 m.tgt, .slice ar m.ups.length cr] 33)).cell? ⟨A, 5, none⟩ = some (.slice aa m.ups.length ca) := by rw [World.cell?_alloc_lt _ _ _ (by simpa using hz2)]; exact cell_at (unhide HA) 5
  go_wp2_with fail
  clear a5
  have hka : KeysAt (w2.alloc (.cells #[.int .i64 m.kind, .int .i64 m.frm, .int .i64 m.inc, .int .i64 m.seq, .int .i64 m.tgt, .slice ar m.ups.length cr] 33)) (.slice aa m.ups.length ca) m.ups := (keysAt_of_own (unhide HO1')).below ((Below.refl _ _).alloc (Nat.le_refl _) _)
  have hkr : KeysAt (w2.alloc (.cells #[.int .i64 m.kind, .int .i64 m.frm, .int .i64 m.inc, .int .i64 m.seq, .int .i64 m.tgt, .slice ar m.ups.length cr] 33)) (.slice ar m.ups.length cr) m.ups := (rkeysAt_of_own (unhide HO2')).below ((Below.refl _ _).alloc (Nat.le_refl _) _)
  refine (lkeys_any m.ups _ _ _ hka hkr (by omega)).mono ?_
  clear hka hkr
  rintro e w4 ⟨rfl, nq, hw4⟩
  have hA4 : w4.heap[A]? = some (.cells #[.int .i64 m.kind, .int .i64 m.frm, .int .i64 m.inc, .int .i64 m.seq, .int .i64 m.tgt, .slice aa m.ups.length ca] 68 (0, 0)) := by
    rw [hw4]; show (w2.alloc _).heap[A]? = _; rw [Below.heap_alloc _ _ _ hz2]; exact unhide HA
  have hM4 : w4.heap[w2.heap.size]? = some (.cells #[.int .i64 m.kind, .int .i64 m.frm, .int .i64 m.inc, .int .i64 m.seq, .int .i64 m.tgt, .slice ar m.ups.length cr] 33 (0, 0)) := by
    rw [hw4]; exact heap_alloc_new _ _
  have hR4 : w4.heap[w.heap.size]? = some (.cells #[.int .i64 0, .int .i64 0, .int .i64 0, .int .i64 0, .int .i64 0, .slice none 0 0] 33 (0, 0)) := by
    rw [hw4]; show (w2.alloc _).heap[w.heap.size]? = _; rw [Below.heap_alloc _ _ _ (by omega)]; exact unhide HR0
  have hB4 : Below w.heap.size w w4 := by
    rw [hw4]; exact below_draws ((unhide HB2).alloc (by omega) _) _
  have hBB : Below w2.heap.size w2 w4 := by
    rw [hw4]; exact below_draws ((Below.refl _ _).alloc (Nat.le_refl _) _) _
  have hoa := own_below (unhide HO1') hBB
  have hor := own_below (unhide HO2') hBB
  generalize w2.heap.size = B at hM4 ⊢
  clear hw4 hBB
  have a0 : w4.cell? ⟨A, 0, none⟩ = some (.int .i64 m.kind) := cell_at hA4 0
  have a1 : w4.cell? ⟨A, 1, none⟩ = some (.int .i64 m.frm) := cell_at hA4 1
  have a2 : w4.cell? ⟨A, 2, none⟩ = some (.int .i64 m.inc) := cell_at hA4 2
  have a3 : w4.cell? ⟨A, 3, none⟩ = some (.int .i64 m.seq) := cell_at hA4 3
  have a4 : w4.cell? ⟨A, 4, none⟩ = some (.int .i64 m.tgt) := cell_at hA4 4
  have a5 : w4.cell? ⟨A, 5, none⟩ = some (.slice aa m.ups.length ca) := cell_at hA4 5
  have r0 : w4.cell? ⟨B, 0, none⟩ = some (.int .i64 m.kind) := cell_at hM4 0
  have r1 : w4.cell? ⟨B, 1, none⟩ = some (.int .i64 m.frm) := cell_at hM4 1
  have r2 : w4.cell? ⟨B, 2, none⟩ = some (.int .i64 m.inc) := cell_at hM4 2
  have r3 : w4.cell? ⟨B, 3, none⟩ = some (.int .i64 m.seq) := cell_at hM4 3
  have r4 : w4.cell? ⟨B, 4, none⟩ = some (.int .i64 m.tgt) := cell_at hM4 4
  have r5 : w4.cell? ⟨B, 5, none⟩ = some (.slice ar m.ups.length cr) := cell_at hM4 5
  have f0 : w4.cell? ⟨w.heap.size, 0, none⟩ = some (.int .i64 0) := cell_at hR4 0
  have f1 : w4.cell? ⟨w.heap.size, 1, none⟩ = some (.int .i64 0) := cell_at hR4 1
  have f2 : w4.cell? ⟨w.heap.size, 2, none⟩ = some (.int .i64 0) := cell_at hR4 2
  have f3 : w4.cell? ⟨w.heap.size, 3, none⟩ = some (.int .i64 0) := cell_at hR4 3
  have f4 : w4.cell? ⟨w.heap.size, 4, none⟩ = some (.int .i64 0) := cell_at hR4 4
  have f5 : w4.cell? ⟨w.heap.size, 5, none⟩ = some (.slice none 0 0) := cell_at hR4 5
  have fz : ∀ j, w4.frozen? ⟨w.heap.size, j, none⟩ = false := free_at hR4
  have e0 : (m.kind == m.kind) = true := by simp
  have e1 : (m.frm == m.frm) = true := by simp
  have e2 : (m.inc == m.inc) = true := by simp
  have e3 : (m.seq == m.seq) = true := by simp
  have e4 : (m.tgt == m.tgt) = true := by simp
  have HOA := hide hoa
  have HOR := hide hor
  have HB4 := hide hB4
  clear hA4 hM4 hR4 hoa hor hB4 HA HR0 HO1' HO2' HB2
  go_wp2_with fail
  go_region
  all_goals go_wp2
  all_goals
    refine bodyPost_ret (v := .tuple #[mval m (.slice ar m.ups.length cr), .slice aa m.ups.length ca, .bool true]) (by simp [results, Tryz.results14, go_sem, f0, f1, f2, f3, f4, f5, mval]) rfl ⟨.slice ar m.ups.length cr, .slice aa m.ups.length ca, by rw [unhide HM], ?_, ?_, ?_, ?_⟩
    · rw [unhide HM]
      exact own_mono (ownsRow_setCell_below (ownsRow_setCell_below (ownsRow_setCell_below (ownsRow_setCell_below (ownsRow_setCell_below (ownsRow_setCell_below (unhide HOR) (by simp) _) (by simp) _) (by simp) _) (by simp) _) (by simp) _) (by simp) _).drew (by omega)
    · rw [unhide HM]
      exact own_mono (ownsRow_setCell_below (ownsRow_setCell_below (ownsRow_setCell_below (ownsRow_setCell_below (ownsRow_setCell_below (ownsRow_setCell_below (unhide HOA) (by simp) _) (by simp) _) (by simp) _) (by simp) _) (by simp) _) (by simp) _).drew (by omega)
    · rw [unhide HM]; exact hlen8
    · exact (((((((unhide HB4).setCell (Nat.le_refl _) _).setCell (Nat.le_refl _) _).setCell (Nat.le_refl _) _).setCell (Nat.le_refl _) _).setCell (Nat.le_refl _) _).setCell (Nat.le_refl _) _).drew
set_option maxRecDepth 100000 in
set_option maxHeartbeats 2000000 in
theorem decoded_no (l : List UInt8) (w : World) (hl : l.length ≤ 20000) (hd : decB l = false) (hg : w.cell? ⟨0, 0, none⟩ = some (.iface 207 (.agg #[.pointer (some ⟨1, 64, none⟩)]))) :
    Calls Tryz.prog 14 #[.string (bs l)] w fun e w' => e = .returned (.tuple #[mval M6.zero (.slice none 0 0), .slice none 0 0, .bool true]) ∧ Below w.heap.size w w' := by
  have hlt : 0 < w.heap.size := by
    rcases Nat.eq_zero_or_pos w.heap.size with h0 | h
    · simp [World.cell?, h0] at hg
    · exact h
  have HG := hide hg
  have HD := hide hd
  clear hd hg
  go_enter Tryz.func14, Tryz.ntmps14
  go_wp2_with fail
  refine (gdecode_no l _ (by unfold maxLen; omega) (unhide HD)).mono ?_
  rintro e w1 ⟨rfl, hb1⟩
  have hb0 : w1.heap[w.heap.size]? = some (.cells #[.int .i64 0, .int .i64 0, .int .i64 0, .int .i64 0, .int .i64 0, .slice none 0 0] 33 (0, 0)) := by rw [hb1.block _ (by simp)]; exact heap_alloc_new _ _
  have hB1 : Below w.heap.size w w1 := ((Below.refl _ _).alloc (Nat.le_refl _) _).trans (hb1.mono (by simp))
  have hz1 : w.heap.size < w1.heap.size := by have := hb1.size; simp at this; omega
  have HB0 := hide hb0
  have HB1 := hide hB1
  clear hb1 hb0 hB1
  simp only [mval, M6.zero]
  go_wp2_with fail
  refine (rdecode_no l _ (by unfold maxLen; omega) (unhide HD)).mono ?_
  rintro e w2 ⟨rfl, hb2⟩
  have hA : w2.heap[w1.heap.size]? = some (.cells #[.int .i64 0, .int .i64 0, .int .i64 0, .int .i64 0, .int .i64 0, .slice none 0 0] 68 (0, 0)) := by rw [hb2.block _ (by simp)]; exact heap_alloc_new _ _
  have hR0 : w2.heap[w.heap.size]? = some (.cells #[.int .i64 0, .int .i64 0, .int .i64 0, .int .i64 0, .int .i64 0, .slice none 0 0] 33 (0, 0)) := by rw [hb2.block _ (by simp; omega), Below.heap_alloc _ _ _ hz1]; exact unhide HB0
  have hB2 : Below w.heap.size w w2 := (unhide HB1).trans (((Below.refl _ _).alloc (unhide HB1).size _).trans (hb2.mono (by simp; omega)))
  have hz2 : w1.heap.size < w2.heap.size := by have := hb2.size; simp at this; omega
  generalize w1.heap.size = A at hA hz1 hz2 ⊢
  have HA := hide hA
  have HR0 := hide hR0
  have HB2 := hide hB2
  clear hA hR0 hB2 hb2 HB0 HB1
  simp only [mval, M6.zero]
  go_wp2_with fail
  refine (ltold_two _ (by rw [World.cell?_alloc_lt _ _ ⟨0, 0, none⟩ (by simp; omega), (unhide HB2).cell (p := ⟨0, 0, none⟩) hlt]; exact unhide HG)).mono ?_
  rintro e w3 ⟨rfl, hb3⟩
  have hA3 : w3.heap[A]? = some (.cells #[.int .i64 0, .int .i64 0, .int .i64 0, .int .i64 0, .int .i64 0, .slice none 0 0] 68 (0, 0)) := by rw [hb3.block _ (by simp; omega), Below.heap_alloc _ _ _ hz2]; exact unhide HA
  have hM3 : w3.heap[w2.heap.size]? = some (.cells #[.int .i64 0, .int .i64 0, .int .i64 0, .int .i64 0, .int .i64 0, .slice none 0 0] 33 (0, 0)) := by rw [hb3.block _ (by simp)]; exact heap_alloc_new _ _
  have hR3 : w3.heap[w.heap.size]? = some (.cells #[.int .i64 0, .int .i64 0, .int .i64 0, .int .i64 0, .int .i64 0, .slice none 0 0] 33 (0, 0)) := by rw [hb3.block _ (by simp; omega), Below.heap_alloc _ _ _ (by omega)]; exact unhide HR0
  have hB3 : Below w.heap.size w w3 := (unhide HB2).trans (((Below.refl _ _).alloc (unhide HB2).size _).trans (hb3.mono (by simp; omega)))
  generalize w2.heap.size = B at hM3 ⊢
  have a5 : w3.cell? ⟨A, 5, none⟩ = some (.slice none 0 0) := cell_at hA3 5
  have r5 : w3.cell? ⟨B, 5, none⟩ = some (.slice none 0 0) := cell_at hM3 5
  have HA3 := hide hA3
  have HM3 := hide hM3
  have HR3 := hide hR3
  have HB3 := hide hB3
  clear hA3 hM3 hR3 hB3 hb3 HA HR0 HB2
  go_wp2_with fail
  clear a5 r5
  have hnil : KeysAt w3 (.slice none 0 0) [] := .inl ⟨rfl, rfl⟩
  refine (lkeys_any [] _ _ _ hnil hnil (by simp)).mono ?_
  clear hnil
  rintro e w4 ⟨rfl, nq, hw4⟩
  have hA4 : w4.heap[A]? = some (.cells #[.int .i64 0, .int .i64 0, .int .i64 0, .int .i64 0, .int .i64 0, .slice none 0 0] 68 (0, 0)) := by rw [hw4]; exact unhide HA3
  have hM4 : w4.heap[B]? = some (.cells #[.int .i64 0, .int .i64 0, .int .i64 0, .int .i64 0, .int .i64 0, .slice none 0 0] 33 (0, 0)) := by rw [hw4]; exact unhide HM3
  have hR4 : w4.heap[w.heap.size]? = some (.cells #[.int .i64 0, .int .i64 0, .int .i64 0, .int .i64 0, .int .i64 0, .slice none 0 0] 33 (0, 0)) := by rw [hw4]; exact unhide HR3
  have hB4 : Below w.heap.size w w4 := by rw [hw4]; exact below_draws (unhide HB3) _
  clear hw4
  have a0 : w4.cell? ⟨A, 0, none⟩ = some (.int .i64 0) := cell_at hA4 0
  have a1 : w4.cell? ⟨A, 1, none⟩ = some (.int .i64 0) := cell_at hA4 1
  have a2 : w4.cell? ⟨A, 2, none⟩ = some (.int .i64 0) := cell_at hA4 2
  have a3 : w4.cell? ⟨A, 3, none⟩ = some (.int .i64 0) := cell_at hA4 3
  have a4 : w4.cell? ⟨A, 4, none⟩ = some (.int .i64 0) := cell_at hA4 4
  have a5 : w4.cell? ⟨A, 5, none⟩ = some (.slice none 0 0) := cell_at hA4 5
  have r0 : w4.cell? ⟨B, 0, none⟩ = some (.int .i64 0) := cell_at hM4 0
  have r1 : w4.cell? ⟨B, 1, none⟩ = some (.int .i64 0) := cell_at hM4 1
  have r2 : w4.cell? ⟨B, 2, none⟩ = some (.int .i64 0) := cell_at hM4 2
  have r3 : w4.cell? ⟨B, 3, none⟩ = some (.int .i64 0) := cell_at hM4 3
  have r4 : w4.cell? ⟨B, 4, none⟩ = some (.int .i64 0) := cell_at hM4 4
  have r5 : w4.cell? ⟨B, 5, none⟩ = some (.slice none 0 0) := cell_at hM4 5
  have f0 : w4.cell? ⟨w.heap.size, 0, none⟩ = some (.int .i64 0) := cell_at hR4 0
  have f1 : w4.cell? ⟨w.heap.size, 1, none⟩ = some (.int .i64 0) := cell_at hR4 1
  have f2 : w4.cell? ⟨w.heap.size, 2, none⟩ = some (.int .i64 0) := cell_at hR4 2
  have f3 : w4.cell? ⟨w.heap.size, 3, none⟩ = some (.int .i64 0) := cell_at hR4 3
  have f4 : w4.cell? ⟨w.heap.size, 4, none⟩ = some (.int .i64 0) := cell_at hR4 4
  have f5 : w4.cell? ⟨w.heap.size, 5, none⟩ = some (.slice none 0 0) := cell_at hR4 5
  have fz : ∀ j, w4.frozen? ⟨w.heap.size, j, none⟩ = false := free_at hR4
  have HB4 := hide hB4
  clear hA4 hM4 hR4 hB4 HA3 HM3 HR3 HB3
  go_wp2_with fail
  go_region
  all_goals go_wp2
  all_goals
    refine bodyPost_ret (v := .tuple #[mval M6.zero (.slice none 0 0), .slice none 0 0, .bool true]) (by simp [results, Tryz.results14, go_sem, f0, f1, f2, f3, f4, f5, mval, M6.zero]) rfl ⟨rfl, ?_⟩
    exact (((((((unhide HB4).setCell (Nat.le_refl _) _).setCell (Nat.le_refl _) _).setCell (Nat.le_refl _) _).setCell (Nat.le_refl _) _).setCell (Nat.le_refl _) _).setCell (Nat.le_refl _) _).drew
end Go.Proofs.YtnneljcbelgoeaaGreatDoor.wire
/- gossiplaw's step: one step of a script that plays Encode and Decode. -/
namespace Go.Proofs.YtnneljcbelgoeaaGreatDoor.wire
open Go.RowKit
structure Op8.ok (o : Op8) : Prop where
  a0 : -9223372036854775808 ≤ o.a
  a1 : o.a ≤ 9223372036854775807
  b0 : -9223372036854775808 ≤ o.b
  b1 : o.b ≤ 9223372036854775807
  s : o.s.length ≤ 17000
def Op8.own (k : Int) : Prop := k = 1 ∨ k = 2 ∨ k = 3 ∨ k = 4 ∨ k = 7 ∨ k = 8 ∨ k = 12
theorem owner_yes (n wb : Nat) (s : St) (w W : World) (h : WV n wb s w W) (hn : n ≤ 18000) (o : Op8) (hk : Op8.own o.kind) (ho : o.ok) :
    Calls Tryz.prog 11 #[.pointer (some ⟨wb, 0, none⟩), opv o] W fun e W' => e = .returned (.bool true) ∧ ∃ s', WV (n + 1) wb s' w W' := by
  rcases hk with hk | hk | hk | hk | hk | hk | hk
  · exact owner_text n wb s w W h hn o hk ho.s
  · exact owner_turn n wb s w W h hn o hk ho.a0 ho.a1 ho.b0 ho.b1
  · exact owner_msg n wb s w W h hn o hk
  · exact owner_upd n wb s w W h hn o hk
  · exact owner_draw n wb s w W h hn o hk
  · exact owner_shape n wb s w W h hn o hk
  · exact owner_lose n wb s w W h hn o hk
set_option maxRecDepth 100000 in
set_option maxHeartbeats 1000000 in
theorem step_own (n wb : Nat) (s : St) (w W : World) (h : WV n wb s w W) (hn : n ≤ 18000) (o : Op8) (hk : Op8.own o.kind) (ho : o.ok) :
    Calls Tryz.prog 10 #[.pointer (some ⟨wb, 0, none⟩), opv o] W fun e W' => e = .returned (.bool true) ∧ ∃ s', WV (n + 1) wb s' w W' := by
  have HC := hide h
  clear h
  have HO := hide (fun V hV => owner_yes n wb s w V hV hn o hk ho)
  clear hk ho
  go_enter Tryz.func10, Tryz.ntmps10
  go_wp2_with fail
  refine (unhide HO _ ⟨(unhide HC).toWC.alloc _, (unhide HC).toWB⟩).mono ?_
  rintro e w1 ⟨rfl, s', hs'⟩
  have HS := hide hs'
  clear hs' HO HC
  go_wp2
  go_ret
  exact ⟨rfl, s', unhide HS⟩
set_option maxRecDepth 100000 in
set_option maxHeartbeats 1000000 in
theorem step_none (n wb : Nat) (s : St) (w W : World) (h : WV n wb s w W) (o : Op8) (hk : o.kind ≤ 0) :
    Calls Tryz.prog 10 #[.pointer (some ⟨wb, 0, none⟩), opv o] W fun e W' => e = .returned (.bool true) ∧ ∃ s', WV (n + 1) wb s' w W' := by
  have HC := hide h
  clear h
  have HO := hide (fun V => owner_no wb V o (.inl hk))
  obtain ⟨kind, a, b, c, d, e, x, S⟩ := o
  simp only at hk
  have h5 : ¬ kind = 5 := by omega
  have h6 : ¬ kind = 6 := by omega
  have h9 : ¬ kind = 9 := by omega
  have h11 : ¬ kind = 11 := by omega
  go_enter Tryz.func10, Tryz.ntmps10
  go_wp2_with fail
  refine (unhide HO _).mono ?_
  rintro e w1 ⟨rfl, hb⟩
  have hC1 := ((unhide HC).toWC.alloc _).mono hb
  have hbx := (hb.block W.heap.size (by simp)).trans (heap_alloc_new W _)
  have p0 : w1.cell? ⟨W.heap.size, 0, none⟩ = some (.int .i64 kind) := cell_at hbx 0
  have c14 : w1.cell? ⟨wb, 14, none⟩ = some (.slice none 0 0) := hC1.cell 14
  have HC1 := hide hC1
  have HB := hide (unhide HC).toWB
  clear hC1 hbx hb HC HO
  go_wp2
  go_ret
  exact ⟨rfl, s, unhide HC1, (unhide HB).up⟩
set_option maxRecDepth 100000 in
set_option maxHeartbeats 1000000 in
theorem step_enc (n wb : Nat) (s : St) (w W : World) (h : WV n wb s w W) (hn : n ≤ 18000) (o : Op8) (hk : o.kind = 5) (hg : w.cell? ⟨0, 0, none⟩ = some (.iface 207 (.agg #[.pointer (some ⟨1, 64, none⟩)]))) (hlt : 0 < w.heap.size) :
    Calls Tryz.prog 10 #[.pointer (some ⟨wb, 0, none⟩), opv o] W fun e W' => e = .returned (.bool true) ∧ ∃ s', WV (n + 1) wb s' w W' := by
  have HC := hide h
  clear h
  have HO := hide (fun V => owner_no wb V o (.inr (.inl hk)))
  obtain ⟨kind, a, b, c, d, e, x, S⟩ := o
  simp only at hk
  subst hk
  go_enter Tryz.func10, Tryz.ntmps10
  go_wp2_with fail
  refine (unhide HO _).mono ?_
  rintro e w1 ⟨rfl, hb⟩
  have hC1 := ((unhide HC).toWC.alloc _).mono hb
  have hbx := (hb.block W.heap.size (by simp)).trans (heap_alloc_new W _)
  have p0 : w1.cell? ⟨W.heap.size, 0, none⟩ = some (.int .i64 5) := cell_at hbx 0
  have hcells : ∀ j, w1.cell? ⟨wb, j, none⟩ = s.cells[j]? := hC1.cell
  have HC1 := hide hC1
  have HB := hide (unhide HC).toWB
  clear hC1 hbx hb HC HO
  go_wp2_with fail
  clear hcells
  refine (encoded_any s.m s.uv w1 (rkeysAt_of_own (unhide HC1).rows.u) (by have := (unhide HB).un; omega) ((unhide HC1).gate hlt hg)).mono ?_
  rintro e w2 ⟨rfl, hb2⟩
  have HC2 := hide ((unhide HC1).mono hb2)
  clear hb2 HC1 p0
  have hL : (encB s.m).length ≤ 17000 := by
    unfold encB
    by_cases hw : wholeB s.m = true
    · rw [if_pos hw, bytesM_len]; have := whole_len hw; omega
    · rw [if_neg hw]; simp
  generalize encB s.m = L at hL ⊢
  have c0 : w2.cell? ⟨wb, 0, none⟩ = some s.tv := (unhide HC2).cell 0
  have f0 : w2.frozen? ⟨wb, 0, none⟩ = false := (unhide HC2).free 0
  have hw2 := (unhide HC2).lt
  have htn := (unhide HB).tn
  obtain ⟨ti, hti, hz0, hz1, hz2⟩ := info_parts infoStr
  go_wp2_with (at_builtin; refine wpList_append_lies _ rfl _ _ 30 rfl (wb + 1) 9 ti (.string (bs [])) 1 16 Tryz.underlying30 hti hz0 hz1 hz2 rfl (by decide) s.tv s.ts.length (s.ts.map fun l => .string (bs l)) rfl ((unhide HC2).rows.t.alloc _) ⟨w2.heap.size, 0, none⟩ 1 1 [.string (bs L)] rfl rfl (World.news_of_block (heap_alloc_new w2 (.cells #[.string (bs L)] 9))) (by simp [Value.oneCell']) (by omega) (by unfold maxLen; omega) (by omega) (by simp; omega) (w2.heap.size + 1) (by simp) ?_)
  intro gg cap w3 hown3 hgrow3 hat3 _
  have hP := (unhide HC2).pushT ((Below.refl _ _).alloc (Nat.le_refl _) _) hgrow3 L _ hown3
  have d0 : w3.cell? ⟨wb, 0, none⟩ = some s.tv := cell_at hP.2 0
  have e0 : w3.frozen? ⟨wb, 0, none⟩ = false := free_at hP.2 0
  have HP := hide hP.1
  clear hP hown3 hgrow3 hat3 HC2 c0 f0
  go_wp2
  go_ret
  exact ⟨rfl, _, unhide HP, (unhide HB).pushT L _ hL⟩
theorem WB.kept {n : Nat} {s : St} (h : WB n s) (m : M6) (uv : Value) (hm : m.ups.length ≤ 8) (k : Nat) (hk : k ≤ 8) (lv wv a b c d : Value) : WB (n + 1) { s with m := m, uv := uv, mark := s.mark + k + 2, lv := lv, wv := wv, ls := s.ls ++ [a] ++ [b], ws := s.ws ++ [c] ++ [d] } := by
  obtain ⟨h1, h2, h3, h4, h5, h6, h7, h8, h9⟩ := h
  exact ⟨by simp only; omega, h2, by simp only; omega, by simp only; omega, by simp; omega, by simp; omega, by simp only; omega, by simp only; omega, h9⟩
theorem WC.fresh {wb : Nat} {s : St} {w W : World} (h : WC wb s w W) (hl : s.ws.length = s.ls.length) (g : Nat) (hg : W.heap.size ≤ g) : FreshW s g := by
  have hp := h.rows.p
  refine ⟨fun x hx e => ?_, fun y hy e => ?_⟩
  · obtain ⟨i, hi, rfl⟩ := List.mem_iff_getElem.1 hx
    obtain ⟨ks, _, h1, _⟩ := hp i _ _ (List.getElem?_eq_getElem hi) (List.getElem?_eq_getElem (by omega : i < s.ws.length))
    have := (own_lt h1 e).2
    omega
  · obtain ⟨i, hi, rfl⟩ := List.mem_iff_getElem.1 hy
    obtain ⟨ks, _, _, h2⟩ := hp i _ _ (List.getElem?_eq_getElem (by omega : i < s.ls.length)) (List.getElem?_eq_getElem hi)
    have := (own_lt h2 e).2
    omega
set_option maxRecDepth 100000 in
set_option maxHeartbeats 1000000 in
theorem step_dec (n wb : Nat) (s : St) (w W : World) (h : WV n wb s w W) (hn : n ≤ 18000) (o : Op8) (hk : o.kind = 6) (ho : o.ok) (hg : w.cell? ⟨0, 0, none⟩ = some (.iface 207 (.agg #[.pointer (some ⟨1, 64, none⟩)]))) (hlt : 0 < w.heap.size) :
    Calls Tryz.prog 10 #[.pointer (some ⟨wb, 0, none⟩), opv o] W fun e W' => e = .returned (.bool true) ∧ ∃ s', WV (n + 1) wb s' w W' := by
  have HC := hide h
  clear h
  have HO := hide (fun V => owner_no wb V o (.inr (.inr hk)))
  have ha0 := ho.a0
  have ha1 := ho.a1
  clear ho
  obtain ⟨kind, a, b, c, d, e, x, S⟩ := o
  simp only at hk ha0 ha1
  subst hk
  go_enter Tryz.func10, Tryz.ntmps10
  go_wp2_with fail
  refine (unhide HO _).mono ?_
  rintro e w1 ⟨rfl, hb⟩
  have hC1 := ((unhide HC).toWC.alloc _).mono hb
  have hbx := (hb.block W.heap.size (by simp)).trans (heap_alloc_new W _)
  have p0 : w1.cell? ⟨W.heap.size, 0, none⟩ = some (.int .i64 6) := cell_at hbx 0
  have p2 : w1.cell? ⟨W.heap.size, 2, none⟩ = some (.int .i64 a) := cell_at hbx 2
  have HC1 := hide hC1
  have HB := hide (unhide HC).toWB
  clear hC1 hbx hb HC HO
  go_wp2_with fail
  refine (text_any n wb s w w1 ⟨unhide HC1, unhide HB⟩ (by omega) a ha0 ha1).mono ?_
  rintro e' w2 ⟨l, rfl, hl, k, rfl⟩
  have HC2 := hide ((unhide HC1).draws k)
  generalize w1.drewN k = w2 at HC2 ⊢
  clear p0 p2 HC1
  cases hd : decB l
  · go_wp2_with fail
    refine (decoded_no l w2 (by omega) hd ((unhide HC2).gate hlt hg)).mono ?_
    rintro e' w3 ⟨rfl, hb3⟩
    have hC3 := (unhide HC2).mono hb3
    have hcells : ∀ j, w3.cell? ⟨wb, j, none⟩ = s.cells[j]? := hC3.cell
    have hfree : ∀ j, w3.frozen? ⟨wb, j, none⟩ = false := hC3.free
    have HC4 := hide (hC3.setM M6.zero (.slice none 0 0) (World.ownsRow_nil _ _ _ _))
    have HV4 := (hide (ownsRow_setCell_below (ownsRow_setCell_below (ownsRow_setCell_below (ownsRow_setCell_below (ownsRow_setCell_below (ownsRow_setCell_below (World.ownsRow_nil w3 (wb + 1) 76 3) (a := ⟨wb, 1, none⟩) (by simp) (.int .i64 (M6.zero).kind)) (a := ⟨wb, 2, none⟩) (by simp) (.int .i64 (M6.zero).frm)) (a := ⟨wb, 3, none⟩) (by simp) (.int .i64 (M6.zero).inc)) (a := ⟨wb, 4, none⟩) (by simp) (.int .i64 (M6.zero).seq)) (a := ⟨wb, 5, none⟩) (by simp) (.int .i64 (M6.zero).tgt)) (a := ⟨wb, 6, none⟩) (by simp) (.slice none 0 0)))
    have HF := hide (fun g (e : (Value.slice none 0 0).ownBlock = some g) => (by simp [Value.ownBlock] at e : FreshW s g))
    clear hC3 hb3 HC2
    go_wp2_with fail
    clear hcells hfree
    generalize ((((((w3.setCell ⟨wb, 1, none⟩ (.int .i64 (M6.zero).kind)).setCell ⟨wb, 2, none⟩ (.int .i64 (M6.zero).frm)).setCell ⟨wb, 3, none⟩ (.int .i64 (M6.zero).inc)).setCell ⟨wb, 4, none⟩ (.int .i64 (M6.zero).seq)).setCell ⟨wb, 5, none⟩ (.int .i64 (M6.zero).tgt)).setCell ⟨wb, 6, none⟩ (.slice none 0 0)) = w4 at HC4 HV4 ⊢
    refine (keep_any wb _ w w4 (unhide HC4) (unhide HB).pw (by have := (unhide HB).pn; simp only; omega) (unhide HB).m0 (by have := (unhide HB).m1; simp only; omega) (.slice none 0 0) ([] : List K3) (by first | exact hlen | simp) (unhide HV4) (unhide HF)).mono ?_
    rintro e' w5 ⟨rfl, lv, wv, x1, y1, x2, hC5⟩
    have HV5 : Hid (WV (n + 1) wb _ w w5) := hide ⟨hC5, (unhide HB).kept M6.zero (.slice none 0 0) (by first | exact hlen | simp [M6.zero]) (([] : List K3)).length (by first | exact hlen | simp) lv wv (.slice none 0 0) x1 y1 x2⟩
    clear hC5 HC4 HV4 HF HB
    go_wp2_with fail
    refine (looks_any (n + 1) wb _ w w5 (unhide HV5) (by omega)).mono ?_
    rintro e' w6 ⟨rfl, k6, rfl⟩
    go_wp2
    go_ret
    exact ⟨rfl, _, (unhide HV5).toWC.draws k6, (unhide HV5).toWB⟩
  · go_wp2_with fail
    refine (decoded_yes l w2 (by omega) hd).mono ?_
    rintro e' w3 ⟨vr, va, rfl, hr3, ha3, hlen, hb3⟩
    have hwl2 := (unhide HC2).lt
    have hfr := (unhide HC2).fresh (unhide HB).pw
    obtain ⟨ro, rc, hrf⟩ := own_form hr3
    obtain ⟨so, sc, hsf⟩ := own_form ha3
    subst hrf
    subst hsf
    have hC3 := (unhide HC2).mono hb3
    have hcells : ∀ j, w3.cell? ⟨wb, j, none⟩ = s.cells[j]? := hC3.cell
    have hfree : ∀ j, w3.frozen? ⟨wb, j, none⟩ = false := hC3.free
    have HC4 := hide (hC3.setM (readM l) (.slice ro (readM l).ups.length rc) (own_base hr3 (by omega)))
    have HV4 := (hide (ownsRow_setCell_below (ownsRow_setCell_below (ownsRow_setCell_below (ownsRow_setCell_below (ownsRow_setCell_below (ownsRow_setCell_below (own_base (b' := wb + 1) ha3 (by omega)) (a := ⟨wb, 1, none⟩) (by simp) (.int .i64 (readM l).kind)) (a := ⟨wb, 2, none⟩) (by simp) (.int .i64 (readM l).frm)) (a := ⟨wb, 3, none⟩) (by simp) (.int .i64 (readM l).inc)) (a := ⟨wb, 4, none⟩) (by simp) (.int .i64 (readM l).seq)) (a := ⟨wb, 5, none⟩) (by simp) (.int .i64 (readM l).tgt)) (a := ⟨wb, 6, none⟩) (by simp) (.slice ro (readM l).ups.length rc)))
    have HF := hide (fun g (e : (Value.slice so (readM l).ups.length sc).ownBlock = some g) => hfr g (own_lt ha3 e).1)
    clear hC3 hb3 HC2
    go_wp2_with fail
    clear hcells hfree
    generalize ((((((w3.setCell ⟨wb, 1, none⟩ (.int .i64 ((readM l)).kind)).setCell ⟨wb, 2, none⟩ (.int .i64 ((readM l)).frm)).setCell ⟨wb, 3, none⟩ (.int .i64 ((readM l)).inc)).setCell ⟨wb, 4, none⟩ (.int .i64 ((readM l)).seq)).setCell ⟨wb, 5, none⟩ (.int .i64 ((readM l)).tgt)).setCell ⟨wb, 6, none⟩ (.slice ro (readM l).ups.length rc)) = w4 at HC4 HV4 ⊢
    refine (keep_any wb _ w w4 (unhide HC4) (unhide HB).pw (by have := (unhide HB).pn; simp only; omega) (unhide HB).m0 (by have := (unhide HB).m1; simp only; omega) (.slice so (readM l).ups.length sc) (readM l).ups (by first | exact hlen | simp) (unhide HV4) (unhide HF)).mono ?_
    rintro e' w5 ⟨rfl, lv, wv, x1, y1, x2, hC5⟩
    have HV5 : Hid (WV (n + 1) wb _ w w5) := hide ⟨hC5, (unhide HB).kept (readM l) (.slice ro (readM l).ups.length rc) (by first | exact hlen | simp [M6.zero]) ((readM l).ups).length (by first | exact hlen | simp) lv wv (.slice so (readM l).ups.length sc) x1 y1 x2⟩
    clear hC5 HC4 HV4 HF HB
    go_wp2_with fail
    refine (looks_any (n + 1) wb _ w w5 (unhide HV5) (by omega)).mono ?_
    rintro e' w6 ⟨rfl, k6, rfl⟩
    go_wp2
    go_ret
    exact ⟨rfl, _, (unhide HV5).toWC.draws k6, (unhide HV5).toWB⟩
end Go.Proofs.YtnneljcbelgoeaaGreatDoor.wire
