import Derived.Test.YtnneljcbelgoeaaGreatDoorG35
import Derived.Test.YtnneljcbelgoeaaGreatDoorG37
import Derived.Deep.DrawnRows
import Derived.Test.YtnneljcbelgoeaaGreatDoorG39
import Derived.Laws.IdiomStrings
import Derived.Deep.QuietTactic
import Derived.BigQuiet
import Derived.Deep.RegionWith
import Derived.Test.YtnneljcbelgoeaaGreatDoorG34
import Derived.Test.YtnneljcbelgoeaaGreatDoorG17
/- gossiplaw's owner over nodes: a step on what the caller owns. -/
namespace Go.Proofs.YtnneljcbelgoeaaGreatDoor.wire
open Go.RowKit Go.Maps
theorem Held.of {s s' : Sg} (h : Held s) (e1 : s'.ls = s.ls) (e2 : s'.ws = s.ws) (e3 : s'.os = s.os) (e4 : s'.ks = s.ks) (hf : ∀ t ∈ s.fz, t ∈ s'.fz) : Held s' := by
  refine ⟨by rw [e1, e2]; exact h.lw, by rw [e3, e4]; exact h.ok, fun i x y hx hy => ?_, fun i x y hx hy => ?_⟩
  · rw [e1] at hx; rw [e2] at hy
    obtain ⟨L, h1, h2, h3⟩ := h.l i x y hx hy
    exact ⟨L, h1, hf _ h2, hf _ h3⟩
  · rw [e3] at hx; rw [e4] at hy
    obtain ⟨L, h1, h2, h3⟩ := h.o i x y hx hy
    exact ⟨L, h1, hf _ h2, hf _ h3⟩
theorem etySt : Ety Tryz.prog 30 9 1 16 := ety_of Tryz.underlying30 infoStr rfl (by omega) (by omega)
/-- A list that nobody writes, behind all that there was. -/
theorem VS.fresh {wb : Nat} {s : Sg} {w W W' : World} (h : VS wb s w W) (hb : Below W.heap.size W W') {e : TypeId} {z : Nat} {v : Value} {n : Nat} {xs : List Value} {base : Nat} (hbase : W.heap.size ≤ base) (ho : W'.ownsRow base e z v n xs) : VS wb { s with fz := rowT e z v n xs :: s.fz } w W' := by
  refine (h.mono hb).freeze (s' := { s with fz := rowT e z v n xs :: s.fz }) [rowT e z v n xs] (by intro t ht; simp at ht; subst ht; exact own_mono ho (Nat.zero_le _)) (fun t ht k hk => ?_) rfl (fun q hq => by cases q <;> first | rfl | exact absurd rfl hq)
  simp at ht; subst ht
  have hk' := (own_lt ho (by simpa [rowT] using hk)).1
  obtain ⟨a1, a2⟩ := h.beyond (k := k) (by omega)
  exact ⟨a1, fun j _ => a2 j⟩
theorem VI.setM {n : Nat} {s : Sg} (h : VI n s) (m : M6) (uv : Value) (hm : m.ups.length ≤ n + 9) : VI (n + 1) { s with m := m, uv := uv, fz := rkeysT uv m.ups :: s.fz } := by
  have u := h.up
  exact { u with un := hm, uf := List.mem_cons_self .., df := List.mem_cons_of_mem _ u.df, nk := fun t ht => (u.nk t ht).up (Nat.le_refl _) (fun q hq => List.mem_cons_of_mem _ hq), hd := u.hd.of rfl rfl rfl rfl (fun q hq => List.mem_cons_of_mem _ hq) }
theorem VI.setD {n : Nat} {s : Sg} (h : VI n s) (a : Int) (ha : -9223372036854775808 ≤ a ∧ a ≤ 9223372036854775807) (dv : Value) : VI (n + 1) { s with dv := dv, ds := s.ds ++ [a], fz := intsT dv (s.ds ++ [a]) :: s.fz } := by
  have u := h.up
  refine { u with uf := List.mem_cons_of_mem _ u.uf, df := List.mem_cons_self .., dn := by simp; exact h.dn, dr := fun z hz => ?_, nk := fun t ht => (u.nk t ht).up (Nat.le_refl _) (fun q hq => List.mem_cons_of_mem _ hq), hd := u.hd.of rfl rfl rfl rfl (fun q hq => List.mem_cons_of_mem _ hq) }
  rcases List.mem_append.1 hz with hz | hz
  · exact h.dr z hz
  · simp at hz; subst hz; exact ha
/-- Whatever is none of the caller's. -/
def noneOwn (k : Int) : Prop := ¬ k = 1 ∧ ¬ k = 2 ∧ ¬ k = 3 ∧ ¬ k = 4 ∧ ¬ k = 7 ∧ ¬ k = 8 ∧ ¬ k = 12
set_option maxRecDepth 100000 in
set_option maxHeartbeats 1000000 in
theorem vowner_no (wb : Nat) (W : World) (o : Op8) (hk : noneOwn o.kind) :
    Calls Tryz.prog 11 #[.pointer (some ⟨wb, 0, none⟩), opv o] W fun e W' => e = .returned (.bool false) ∧ Below W.heap.size W W' := by
  obtain ⟨kind, a, b, c, d, e, x, S⟩ := o
  simp only [noneOwn] at hk
  obtain ⟨h1, h2, h3, h4, h7, h8, h12⟩ := hk
  go_enter Tryz.func11, Tryz.ntmps11
  go_wp2
  go_ret
  exact ⟨rfl, (Below.refl _ _).alloc (Nat.le_refl _) _⟩
set_option maxRecDepth 100000 in
set_option maxHeartbeats 1000000 in
theorem vowner_text (n wb : Nat) (s : Sg) (w W : World) (h : VV n wb s w W) (hn : n ≤ 18000) (o : Op8) (hk : o.kind = 1) (hS : o.s.length ≤ 17000) :
    Calls Tryz.prog 11 #[.pointer (some ⟨wb, 0, none⟩), opv o] W fun e W' => e = .returned (.bool true) ∧ ∃ s', VV (n + 1) wb s' w W' := by
  have HC := hide h
  clear h
  obtain ⟨kind, a, b, c, d, e, x, S⟩ := o
  simp only at hk hS
  subst hk
  go_enter Tryz.func11, Tryz.ntmps11
  have c0 : W.cell? ⟨wb, 0, none⟩ = some s.tv := (unhide HC).vs.cell 0
  have hwl := (unhide HC).vs.lt
  go_wp2_with fail
  have HC1 := hide ((unhide HC).vs.alloc (.cells #[.int .i64 1, .int .i64 x, .int .i64 a, .int .i64 b, .int .i64 c, .int .i64 d, .int .i64 e, .string (bs S)] 28))
  have p7 : (W.alloc (.cells #[.int .i64 1, .int .i64 x, .int .i64 a, .int .i64 b, .int .i64 c, .int .i64 d, .int .i64 e, .string (bs S)] 28)).cell? ⟨W.heap.size, 7, none⟩ = some (.string (bs S)) := cell_at (heap_alloc_new W _) 7
  have hB := hide (unhide HC).vi
  have htn := (unhide HC).vi.tn
  clear HC c0
  generalize (W.alloc (.cells #[.int .i64 1, .int .i64 x, .int .i64 a, .int .i64 b, .int .i64 c, .int .i64 d, .int .i64 e, .string (bs S)] 28)) = W1 at HC1 p7 ⊢
  have c0 : W1.cell? ⟨wb, 0, none⟩ = some s.tv := (unhide HC1).cell 0
  have hw1 := (unhide HC1).lt
  have HT : Hid (W1.ownsRow 0 9 1 s.tv s.ts.length (s.ts.map fun l => .string (bs l))) := hide (Sep.rd (unhide HC1) .tx)
  obtain ⟨tao, tac, htv, _⟩ := row_form (unhide HT)
  rw [htv] at c0
  go_region_law
    ((refine step_app (by rfl) _ _ (by rfl) etySt 0 (by first | rfl | (rw [htv]; rfl)) (by rfl) (((unhide HT).alloc _).drew) (Src.box (cs := [.string (bs S)]) 1 1 1 (by exact heap_alloc_new W1 _) (by rfl)) (by simp [Value.oneCell']) (by omega) (by omega) ?_; intro v' w' hown hgr hat; obtain ⟨vo, vc, hvf, _⟩ := row_form hown; subst hvf; have hP := (unhide HC1).pushT (bd_draws _ 1) hgr S _ hown hat; have hfz1 : w'.frozen? ⟨wb, 0, none⟩ = false := free_at hP.2 0; have hc1 : w'.cell? ⟨wb, 0, none⟩ = some s.tv := cell_at hP.2 0))
  all_goals
    have HP := hide hP.1
    clear hP hown hgr hat hfz1 hc1 c0 p7 HC1
    go_wp2
    go_ret
    exact ⟨rfl, _, unhide HP, (unhide hB).pushT S _ hS⟩
set_option maxRecDepth 100000 in
set_option maxHeartbeats 1000000 in
theorem vowner_msg (n wb : Nat) (s : Sg) (w W : World) (h : VV n wb s w W) (_hn : n ≤ 18000) (o : Op8) (hk : o.kind = 3) :
    Calls Tryz.prog 11 #[.pointer (some ⟨wb, 0, none⟩), opv o] W fun e W' => e = .returned (.bool true) ∧ ∃ s', VV (n + 1) wb s' w W' := by
  have HC := hide h
  clear h
  obtain ⟨kind, a, b, c, d, e, x, S⟩ := o
  simp only at hk
  subst hk
  go_enter Tryz.func11, Tryz.ntmps11
  have hcells : ∀ j, W.cell? ⟨wb, j, none⟩ = s.cells[j]? := (unhide HC).vs.cell
  have hfree : ∀ j, W.frozen? ⟨wb, j, none⟩ = false := (unhide HC).vs.free
  have hwl := (unhide HC).vs.lt
  go_wp2
  go_ret
  exact ⟨rfl, _, (((unhide HC).vs.fresh (Below.refl _ _) (Nat.le_refl _) (World.ownsRow_nil W W.heap.size 58 3)).setM ⟨a, b, c, d, e, []⟩ (.slice none 0 0)).alloc _, (unhide HC).vi.setM ⟨a, b, c, d, e, []⟩ (.slice none 0 0) (by simp)⟩
set_option maxRecDepth 100000 in
set_option maxHeartbeats 1000000 in
theorem vowner_shape (n wb : Nat) (s : Sg) (w W : World) (h : VV n wb s w W) (_hn : n ≤ 18000) (o : Op8) (hk : o.kind = 8) (ha0 : -9223372036854775808 ≤ o.a) (ha1 : o.a ≤ 9223372036854775807) :
    Calls Tryz.prog 11 #[.pointer (some ⟨wb, 0, none⟩), opv o] W fun e W' => e = .returned (.bool true) ∧ ∃ s', VV (n + 1) wb s' w W' := by
  have HC := hide h
  clear h
  obtain ⟨kind, a, b, c, d, e, x, S⟩ := o
  simp only at hk ha0 ha1
  subst hk
  go_enter Tryz.func11, Tryz.ntmps11
  have hcells : ∀ j, W.cell? ⟨wb, j, none⟩ = s.cells[j]? := (unhide HC).vs.cell
  have hfree : ∀ j, W.frozen? ⟨wb, j, none⟩ = false := (unhide HC).vs.free
  have hwl := (unhide HC).vs.lt
  go_wp2
  go_ret
  have u := (unhide HC).vi.up
  exact ⟨rfl, _, ((unhide HC).vs.setShape ⟨0, a, b, c, d, e⟩).alloc _, { u with c := ⟨ha0, ha1⟩, hd := u.hd.of rfl rfl rfl rfl (fun _ q => q) }⟩
set_option maxRecDepth 100000 in
set_option maxHeartbeats 1000000 in
theorem vowner_upd (n wb : Nat) (s : Sg) (w W : World) (h : VV n wb s w W) (hn : n ≤ 18000) (o : Op8) (hk : o.kind = 4) :
    Calls Tryz.prog 11 #[.pointer (some ⟨wb, 0, none⟩), opv o] W fun e W' => e = .returned (.bool true) ∧ ∃ s', VV (n + 1) wb s' w W' := by
  have HC := hide h
  clear h
  obtain ⟨kind, a, b, c, d, e, x, S⟩ := o
  simp only at hk
  subst hk
  go_enter Tryz.func11, Tryz.ntmps11
  have hcells : ∀ j, W.cell? ⟨wb, j, none⟩ = s.cells[j]? := (unhide HC).vs.cell
  have hfree : ∀ j, W.frozen? ⟨wb, j, none⟩ = false := (unhide HC).vs.free
  have hwl := (unhide HC).vs.lt
  obtain ⟨ti, hti, hz0, hz1, hz2⟩ := info_parts infoRKey
  have hun := (unhide HC).vi.un
  have HU : Hid (W.ownsRow 0 58 3 s.uv s.m.ups.length (s.m.ups.flatMap keyC)) := hide ((unhide HC).vs.has (unhide HC).vi.uf)
  have hone : ∀ l : List K3, ∀ u ∈ l.flatMap keyC, u.oneCell' = true := fun l => one_of oneKv l
  go_wp2_with (at_builtin; refine wpList_append_copy rfl _ _ 31 rfl 0 58 ti (.agg #[.int .i64 0, .int .i64 0, .int .i64 0]) 3 24 Tryz.underlying31 hti hz0 hz1 hz2 rfl (by decide) s.uv s.m.ups.length (s.m.ups.flatMap keyC) rfl rfl ((unhide HU).alloc _) (hone _) (by unfold maxLen; omega) (by omega) ?_)
  intro v1 w1 hown hb1
  have hB1 : Below W.heap.size W w1 := ((Below.refl _ _).alloc (Nat.le_refl _) _).trans (hb1.mono (by omega))
  have hbx := (hb1.block W.heap.size (by simp)).trans (heap_alloc_new W _)
  have p2 : w1.cell? ⟨W.heap.size, 2, none⟩ = some (.int .i64 a) := cell_at hbx 2
  have p3 : w1.cell? ⟨W.heap.size, 3, none⟩ = some (.int .i64 b) := cell_at hbx 3
  have p4 : w1.cell? ⟨W.heap.size, 4, none⟩ = some (.int .i64 c) := cell_at hbx 4
  have HB1 := hide hB1
  have HO := hide hown
  have hw1 := hB1.size
  have hs1 := hb1.size
  obtain ⟨bo, bc, hvf⟩ := own_form hown
  subst hvf
  clear hbx hb1 hB1 hcells hfree hown
  go_wp2_with (at_builtin; refine wpList_app rfl _ _ rfl etyK (W.heap.size + 1) rfl rfl ((unhide HO).alloc _) (Src.box (cs := keyC ⟨a, b, c⟩) 3 1 1 (by exact heap_alloc_new w1 _) rfl) (oneKv _) (by omega) (by simp at hs1 ⊢; omega) ?_)
  intro v3 w3 hown3 hgrow3 hat3
  have hB3 : Below W.heap.size W w3 := by
    have h1 : ∀ o, Below W.heap.size W (w1.alloc o) := fun o => (unhide HB1).trans (((Below.refl w1.heap.size w1).alloc (Nat.le_refl _) o).mono hw1)
    exact (h1 _).grown hgrow3 (by simp; omega) (fun k e => by have := (own_lt (unhide HO) e).1; omega)
  obtain ⟨vo, vc, hvf, _⟩ := row_form hown3
  subst hvf
  have hrow : w3.ownsRow (W.heap.size + 1) 58 3 (.slice vo (s.m.ups.length + 1) vc) (s.m.ups ++ [(⟨a, b, c⟩ : K3)]).length ((s.m.ups ++ [(⟨a, b, c⟩ : K3)]).flatMap keyC) := by
    rw [List.flatMap_append, List.length_append]
    simpa using hown3
  have hC3 := (unhide HC).vs.fresh hB3 (by omega) hrow
  have HC3 := hide hC3
  have hcells : ∀ j, w3.cell? ⟨wb, j, none⟩ = s.cells[j]? := hC3.cell
  have hfree : ∀ j, w3.frozen? ⟨wb, j, none⟩ = false := hC3.free
  have HB := hide (unhide HC).vi
  clear hC3 hB3 hown3 hgrow3 hat3 HO HB1 HC hrow HU
  go_wp2
  go_ret
  refine ⟨rfl, _, (unhide HC3).store (s' := { s with m := { s.m with ups := s.m.ups ++ [⟨a, b, c⟩] }, uv := .slice vo (s.m.ups.length + 1) vc, fz := rkeysT (.slice vo (s.m.ups.length + 1) vc) (s.m.ups ++ [⟨a, b, c⟩]) :: s.fz }) 6 _ rfl (fun q hq => by cases q <;> first | rfl | exact absurd rfl hq), (unhide HB).setM { s.m with ups := s.m.ups ++ [⟨a, b, c⟩] } _ (by simp; omega)⟩
set_option maxRecDepth 100000 in
set_option maxHeartbeats 1000000 in
theorem vowner_draw (n wb : Nat) (s : Sg) (w W : World) (h : VV n wb s w W) (hn : n ≤ 18000) (o : Op8) (hk : o.kind = 7) (ha0 : -9223372036854775808 ≤ o.a) (ha1 : o.a ≤ 9223372036854775807) :
    Calls Tryz.prog 11 #[.pointer (some ⟨wb, 0, none⟩), opv o] W fun e W' => e = .returned (.bool true) ∧ ∃ s', VV (n + 1) wb s' w W' := by
  have HC := hide h
  clear h
  obtain ⟨kind, a, b, c, d, e, x, S⟩ := o
  simp only at hk ha0 ha1
  subst hk
  go_enter Tryz.func11, Tryz.ntmps11
  have hcells : ∀ j, W.cell? ⟨wb, j, none⟩ = s.cells[j]? := (unhide HC).vs.cell
  have hfree : ∀ j, W.frozen? ⟨wb, j, none⟩ = false := (unhide HC).vs.free
  have hwl := (unhide HC).vs.lt
  obtain ⟨ti, hti, hz0, hz1, hz2⟩ := info_parts infoInt
  have hun := (unhide HC).vi.dn
  have HU : Hid (W.ownsRow 0 3 1 s.dv s.ds.length (s.ds.flatMap intC)) := hide ((unhide HC).vs.has (unhide HC).vi.df)
  have hone : ∀ l : List Int, ∀ u ∈ l.flatMap intC, u.oneCell' = true := fun l => one_of int_one l
  go_wp2_with (at_builtin; refine wpList_append_copy rfl _ _ 24 rfl 0 3 ti (.int .i64 0) 1 8 Tryz.underlying24 hti hz0 hz1 hz2 rfl (by decide) s.dv s.ds.length (s.ds.flatMap intC) rfl rfl ((unhide HU).alloc _) (hone _) (by unfold maxLen; omega) (by omega) ?_)
  intro v1 w1 hown hb1
  have hB1 : Below W.heap.size W w1 := ((Below.refl _ _).alloc (Nat.le_refl _) _).trans (hb1.mono (by omega))
  have hbx := (hb1.block W.heap.size (by simp)).trans (heap_alloc_new W _)
  have p2 : w1.cell? ⟨W.heap.size, 2, none⟩ = some (.int .i64 a) := cell_at hbx 2
  have HB1 := hide hB1
  have HO := hide hown
  have hw1 := hB1.size
  have hs1 := hb1.size
  obtain ⟨bo, bc, hvf⟩ := own_form hown
  subst hvf
  clear hbx hb1 hB1 hcells hfree hown
  go_wp2_with (at_builtin; refine wpList_app rfl _ _ rfl etyI (W.heap.size + 1) rfl rfl ((unhide HO).alloc _) (Src.box (cs := intC a) 1 1 1 (by exact heap_alloc_new w1 _) rfl) (int_one _) (by omega) (by simp at hs1 ⊢; omega) ?_)
  intro v3 w3 hown3 hgrow3 hat3
  have hB3 : Below W.heap.size W w3 := by
    have h1 : ∀ o, Below W.heap.size W (w1.alloc o) := fun o => (unhide HB1).trans (((Below.refl w1.heap.size w1).alloc (Nat.le_refl _) o).mono hw1)
    exact (h1 _).grown hgrow3 (by simp; omega) (fun k e => by have := (own_lt (unhide HO) e).1; omega)
  obtain ⟨vo, vc, hvf, _⟩ := row_form hown3
  subst hvf
  have hrow : w3.ownsRow (W.heap.size + 1) 3 1 (.slice vo (s.ds.length + 1) vc) (s.ds ++ [a]).length ((s.ds ++ [a]).flatMap intC) := by
    rw [List.flatMap_append, List.length_append]
    simpa using hown3
  have hC3 := (unhide HC).vs.fresh hB3 (by omega) hrow
  have HC3 := hide hC3
  have hcells : ∀ j, w3.cell? ⟨wb, j, none⟩ = s.cells[j]? := hC3.cell
  have hfree : ∀ j, w3.frozen? ⟨wb, j, none⟩ = false := hC3.free
  have HB := hide (unhide HC).vi
  clear hC3 hB3 hown3 hgrow3 hat3 HO HB1 HC hrow HU
  go_wp2
  go_ret
  exact ⟨rfl, _, (unhide HC3).store (s' := { s with dv := .slice vo (s.ds.length + 1) vc, ds := s.ds ++ [a], fz := intsT (.slice vo (s.ds.length + 1) vc) (s.ds ++ [a]) :: s.fz }) 7 _ rfl (fun q hq => by cases q <;> first | rfl | exact absurd rfl hq), (unhide HB).setD a ⟨ha0, ha1⟩ _⟩
end Go.Proofs.YtnneljcbelgoeaaGreatDoor.wire
/- gossiplaw's owner over nodes: a text's byte is turned, a packet is lost. -/
namespace Go.Proofs.YtnneljcbelgoeaaGreatDoor.wire
open Go.RowKit Go.Maps
set_option maxRecDepth 100000 in
set_option maxHeartbeats 1000000 in
theorem vowner_turn (n wb : Nat) (s : Sg) (w W : World) (h : VV n wb s w W) (hn : n ≤ 18000) (o : Op8) (hk : o.kind = 2) (ha0 : -9223372036854775808 ≤ o.a) (ha1 : o.a ≤ 9223372036854775807) (hb0 : -9223372036854775808 ≤ o.b) (hb1 : o.b ≤ 9223372036854775807) :
    Calls Tryz.prog 11 #[.pointer (some ⟨wb, 0, none⟩), opv o] W fun e W' => e = .returned (.bool true) ∧ ∃ s', VV (n + 1) wb s' w W' := by
  have HC := hide h
  clear h
  obtain ⟨kind, a, b, c, d, e, x, S⟩ := o
  simp only at hk ha0 ha1 hb0 hb1
  subst hk
  go_enter Tryz.func11, Tryz.ntmps11
  have hwl := (unhide HC).vs.lt
  go_wp2_with fail
  have hA : VV n wb s w (W.alloc (.cells #[.int .i64 2, .int .i64 x, .int .i64 a, .int .i64 b, .int .i64 c, .int .i64 d, .int .i64 e, .string (bs S)] 28)) := ⟨(unhide HC).vs.alloc _, (unhide HC).vi⟩
  have hbx := heap_alloc_new W (.cells #[.int .i64 2, .int .i64 x, .int .i64 a, .int .i64 b, .int .i64 c, .int .i64 d, .int .i64 e, .string (bs S)] 28)
  refine (text_s wb s w _ hA.vs (by have := hA.vi.tn; omega) hA.vi.tl a ha0 ha1).mono ?_
  rintro e' w1 ⟨l, rfl, hl, k, rfl⟩
  have hA1 : VV n wb s w ((W.alloc (.cells #[.int .i64 2, .int .i64 x, .int .i64 a, .int .i64 b, .int .i64 c, .int .i64 d, .int .i64 e, .string (bs S)] 28)).drewN k) := ⟨hA.vs.draws k, hA.vi⟩
  have hbx1 : ((W.alloc (.cells #[.int .i64 2, .int .i64 x, .int .i64 a, .int .i64 b, .int .i64 c, .int .i64 d, .int .i64 e, .string (bs S)] 28)).drewN k).heap[W.heap.size]? = some (.cells #[.int .i64 2, .int .i64 x, .int .i64 a, .int .i64 b, .int .i64 c, .int .i64 d, .int .i64 e, .string (bs S)] 28) := by
    exact ((below_draws (Below.refl _ _) k).block W.heap.size (lt_of_block hbx)).trans hbx
  generalize ((W.alloc (.cells #[.int .i64 2, .int .i64 x, .int .i64 a, .int .i64 b, .int .i64 c, .int .i64 d, .int .i64 e, .string (bs S)] 28)).drewN k) = W1 at hA1 hbx1 ⊢
  have HC1 := hide hA1
  have HX1 := hide hbx1
  clear hA hbx HC hA1 hbx1
  obtain ⟨bcap, W2, hconv, hBB, hB2, hlt2⟩ := bytes_new W1 l
  obtain ⟨ti, hti, hz0, hz1, hz2⟩ := info_parts infoStr
  have hx2 := (hB2.block W.heap.size (lt_of_block (unhide HX1))).trans (unhide HX1)
  have HBB := hide hBB
  have HB2 := hide hB2
  have p3 : W2.cell? ⟨W.heap.size, 3, none⟩ = some (.int .i64 b) := cell_at hx2 3
  have p4 : W2.cell? ⟨W.heap.size, 4, none⟩ = some (.int .i64 c) := cell_at hx2 4
  have hg1 : wb + 1 ≤ W1.heap.size := (unhide HC1).vs.lt
  have hX := lt_of_block (unhide HX1)
  have HM : Hid (∀ W3, Below W1.heap.size W1 W3 → VV n wb s w W3) := hide fun W3 hb => ⟨(unhide HC1).vs.mono hb, (unhide HC1).vi⟩
  clear hB2 hBB hx2 HX1
  generalize W1.heap.size = g at hconv HBB HB2 HM hlt2 hg1 hX
  by_cases hz : l.length = 0
  · go_wp2_with fail
    have HC3 := hide (unhide HM W2 (unhide HB2))
    have HBB3 := hide (unhide HBB)
    have hl3 : l.length = l.length := rfl
    generalize hLL : l = L at HBB3 hl3
    have hl4 : L.length = l.length := by rw [hLL]
    clear hLL hl3
    have hl3 := hl4
    generalize hWW : W2 = W3 at HC3 HBB3 ⊢
    clear hWW HBB HB2 HM hconv p3 p4
    have c0 : W3.cell? ⟨wb, 0, none⟩ = some s.tv := (unhide HC3).vs.cell 0
    have hw3 := (unhide HC3).vs.lt
    have htn := (unhide HC3).vi.tn
    have HB := hide (unhide HC3).vi
    have HWC := hide (unhide HC3).vs
    clear HC3
    have HT : Hid (W3.ownsRow 0 9 1 s.tv s.ts.length (s.ts.map fun l => .string (bs l))) := hide (Sep.rd (unhide HWC) .tx)
    obtain ⟨tao, tac, htv, _⟩ := row_form (unhide HT)
    rw [htv] at c0
    have hconv3 := BB.conv (W := W3.drew) ((unhide HBB3).block rfl) 0 (hl3.trans hz) bcap
    have hconv4 := BB.conv (unhide HBB3) 0 (hl3.trans hz) bcap
    clear HBB3
    go_region_law
      ((refine step_app (by rfl) _ _ (by rfl) etySt 0 (by first | rfl | (rw [htv]; rfl)) (by rfl) (((unhide HT).alloc _).drew) (Src.box (cs := [.string (bs L)]) 1 1 1 (by exact heap_alloc_new W3 _) (by rfl)) (by simp [Value.oneCell']) (by omega) (by omega) ?_; intro v' w1 hown1 hgrow hat; obtain ⟨vo, vc, hvf, _⟩ := row_form hown1; subst hvf; have hP := (unhide HWC).pushT (bd_draws _ 1) hgrow L _ hown1 hat; have hfz1 : w1.frozen? ⟨wb, 0, none⟩ = false := free_at hP.2 0; have hc1 : w1.cell? ⟨wb, 0, none⟩ = some s.tv := cell_at hP.2 0))
    all_goals
      have HP := hide hP.1
      clear hP hown1 hgrow hat hfz1 hc1 c0 HWC hconv3 hconv4
      go_wp2
      go_ret
      exact ⟨rfl, _, unhide HP, (unhide HB).pushT L _ (by omega)⟩
  · obtain ⟨q0, q1⟩ := pickW_bd b (l.length : Int) (by omega)
    obtain ⟨q, hq⟩ := Int.eq_ofNat_of_zero_le q0
    have hql : q < l.length := by omega
    have hqi : (q : Int) < (l.length : Int) := by omega
    have hnz : (0 : Int) < (l.length : Int) := by omega
    have hnz2 : 0 < l.length := by omega
    have hlp : (l.length : Int) ≤ 4294967296 := by omega
    have HP := hide (fun W' => lpick_any b (l.length : Int) W' hb0 hb1 hnz hlp)
    rw [hq] at HP
    have s0 := (unhide HBB).cell q hql
    have s1 := (unhide HBB).free q hql
    clear q0 q1 hq
    go_wp2_with fail
    go_region_with (go_at_call 19; refine (unhide HP _).mono ?_; rintro e' w' ⟨rfl, rfl⟩)
    all_goals
      clear p3 p4 s0 s1 hconv HP
      have hw8 : IntKind.u8.wrap c = ((byteAt c 0).toNat : Int) := by rw [IntKind.wrap_u8, byteLow]
      have HBB3 := hide (((unhide HBB).set q (byteAt c 0)).block (W' := (W2.setCell ⟨g, q, none⟩ (.int .u8 ((byteAt c 0).toNat : Int))).drew) rfl)
      have HC3 := hide (unhide HM ((W2.setCell ⟨g, q, none⟩ (.int .u8 ((byteAt c 0).toNat : Int))).drew) (below_draws ((unhide HB2).setCell (p := ⟨g, q, none⟩) (Nat.le_refl _) _) 1))
      rw [hw8]
      have hl3 : (l.set q (byteAt c 0)).length = l.length := by simp
      generalize l.set q (byteAt c 0) = L at HBB3 hl3
      generalize (W2.setCell ⟨g, q, none⟩ (.int .u8 ((byteAt c 0).toNat : Int))).drew = W3 at HC3 HBB3 ⊢
      clear HBB HB2 HM hw8
      go_wp2_with fail
      have c0 : W3.cell? ⟨wb, 0, none⟩ = some s.tv := (unhide HC3).vs.cell 0
      have hw3 := (unhide HC3).vs.lt
      have htn := (unhide HC3).vi.tn
      have HB := hide (unhide HC3).vi
      have HWC := hide (unhide HC3).vs
      clear HC3
      have HT : Hid (W3.ownsRow 0 9 1 s.tv s.ts.length (s.ts.map fun l => .string (bs l))) := hide (Sep.rd (unhide HWC) .tx)
      obtain ⟨tao, tac, htv, _⟩ := row_form (unhide HT)
      rw [htv] at c0
      have hconv3 := BB.conv (W := W3.drew) ((unhide HBB3).block rfl) l.length hl3 bcap
      have hconv4 := BB.conv (unhide HBB3) l.length hl3 bcap
      clear HBB3
      go_region_law
        ((refine step_app (by rfl) _ _ (by rfl) etySt 0 (by first | rfl | (rw [htv]; rfl)) (by rfl) (((unhide HT).alloc _).drew) (Src.box (cs := [.string (bs L)]) 1 1 1 (by exact heap_alloc_new W3 _) (by rfl)) (by simp [Value.oneCell']) (by omega) (by omega) ?_; intro v' w1 hown1 hgrow hat; obtain ⟨vo, vc, hvf, _⟩ := row_form hown1; subst hvf; have hP := (unhide HWC).pushT (bd_draws _ 1) hgrow L _ hown1 hat; have hfz1 : w1.frozen? ⟨wb, 0, none⟩ = false := free_at hP.2 0; have hc1 : w1.cell? ⟨wb, 0, none⟩ = some s.tv := cell_at hP.2 0))
      all_goals
        have HP := hide hP.1
        clear hP hown1 hgrow hat hfz1 hc1 c0 HWC hconv3 hconv4
        go_wp2
        go_ret
        exact ⟨rfl, _, unhide HP, (unhide HB).pushT L _ (by omega)⟩
/-- A packet less on its way. -/
theorem VI.lose {n : Nat} {s : Sg} (h : VI n s) (k : Nat) (pv : Value) : VI n { s with pv := pv, ps := s.ps.eraseIdx k } :=
  { h with pn := by have := h.pn; show (s.ps.eraseIdx k).length ≤ 60; rw [List.length_eraseIdx]; split <;> omega, pl := fun p hp => h.pl p (List.mem_of_mem_eraseIdx hp), hd := h.hd.of rfl rfl rfl rfl (fun _ q => q) }
set_option maxRecDepth 100000 in
set_option maxHeartbeats 1000000 in
theorem vowner_lose (n wb : Nat) (s : Sg) (w W : World) (h : VV n wb s w W) (_hn : n ≤ 18000) (o : Op8) (hk : o.kind = 12) (ha0 : -9223372036854775808 ≤ o.a) (ha1 : o.a ≤ 9223372036854775807) :
    Calls Tryz.prog 11 #[.pointer (some ⟨wb, 0, none⟩), opv o] W fun e W' => e = .returned (.bool true) ∧ ∃ s', VV (n + 1) wb s' w W' := by
  have HC := hide h
  clear h
  obtain ⟨kind, a, b, c, d, e, x, S⟩ := o
  simp only at hk ha0 ha1
  subst hk
  have hpn := (unhide HC).vi.pn
  have hrow : W.ownsRow 0 60 2 s.pv s.ps.length (s.ps.flatMap pkC) := Sep.rd (unhide HC).vs .ow
  obtain ⟨po, pc, hpf, _⟩ := row_form hrow
  have c15 : W.cell? ⟨wb, 15, none⟩ = some s.pv := (unhide HC).vs.cell 15
  rw [hpf] at c15
  have hwl := (unhide HC).vs.lt
  clear hpf hrow
  by_cases hz : s.ps.length = 0
  · have hz' : ¬ (0 : Int) < (s.ps.length : Int) := by omega
    go_enter Tryz.func11, Tryz.ntmps11
    go_wp2
    go_ret
    exact ⟨rfl, _, (unhide HC).vs.alloc _, (unhide HC).vi.up⟩
  · obtain ⟨q0, q1⟩ := pickW_bd a (s.ps.length : Int) (by omega)
    obtain ⟨q, hq⟩ := Int.eq_ofNat_of_zero_le q0
    have hql : q < s.ps.length := by omega
    have hz' : (0 : Int) < (s.ps.length : Int) := by omega
    have hlp : (s.ps.length : Int) ≤ 4294967296 := by omega
    have HP := hide (fun W' => lpick_any a (s.ps.length : Int) W' ha0 ha1 hz' hlp)
    rw [hq] at HP
    clear q0 q1 hq
    go_enter Tryz.func11, Tryz.ntmps11
    go_wp2_with fail
    go_quiet ((go_at_call 19; exact Calls.quiet_of_same (unhide HP _)))
    go_wp2_with fail
    refine (take_s wb s w _ (((unhide HC).vs.alloc _).draws _) hpn q hql).mono ?_
    rintro e' w1 ⟨⟨v, rfl⟩, pv, h1⟩
    have H1 := hide h1
    clear h1
    go_wp2
    go_ret
    exact ⟨rfl, _, unhide H1, (unhide HC).vi.up.lose q pv⟩
structure Op8.okx (o : Op8) : Prop extends o.ok where
  x0 : -9223372036854775808 ≤ o.x
  x1 : o.x ≤ 9223372036854775807
theorem vowner_yes (n wb : Nat) (s : Sg) (w W : World) (h : VV n wb s w W) (hn : n ≤ 18000) (o : Op8) (hk : Op8.own o.kind) (ho : o.ok) :
    Calls Tryz.prog 11 #[.pointer (some ⟨wb, 0, none⟩), opv o] W fun e W' => e = .returned (.bool true) ∧ ∃ s', VV (n + 1) wb s' w W' := by
  rcases hk with hk | hk | hk | hk | hk | hk | hk
  · exact vowner_text n wb s w W h hn o hk ho.s
  · exact vowner_turn n wb s w W h hn o hk ho.a0 ho.a1 ho.b0 ho.b1
  · exact vowner_msg n wb s w W h hn o hk
  · exact vowner_upd n wb s w W h hn o hk
  · exact vowner_draw n wb s w W h hn o hk ho.a0 ho.a1
  · exact vowner_shape n wb s w W h hn o hk ho.a0 ho.a1
  · exact vowner_lose n wb s w W h hn o hk ho.a0 ho.a1
end Go.Proofs.YtnneljcbelgoeaaGreatDoor.wire
/- gossiplaw's received over nodes: the node, its twin and the document's are given the same bytes. -/
namespace Go.Proofs.YtnneljcbelgoeaaGreatDoor.wire
open Go.RowKit Go.Maps
/-- What came out of a call lies apart, and is one's alone. -/
theorem VS.gotX {wb : Nat} {s : Sg} {w W W' : World} (h : VS wb s w W) {i : Nat} {t : Nt} (hi : s.ns[i]? = some t) {x' : Nd} (ht : NTo W W' t.x.nb t.x.mb t.x.cb t.x.pv t.x.rv x') {e : TypeId} {z : Nat} {o : Value} {n : Nat} {xs : List Value} (ho : W'.ownsRow W.heap.size e z o n xs) (h1 : e ≠ 123) (h2 : e ≠ 3) (h3 : e ≠ 161) (h4 : e ≠ 24) : ∃ pv rv, VS wb { s with ns := s.ns.set i (t.setX pv rv x'), a := [rowT e z o n xs] } w W' := by
  obtain ⟨pv, rv, hs⟩ := h.callX hi ht
  refine ⟨pv, rv, hs.mineA [rowT e z o n xs] (by intro q hq; simp at hq; subst hq; exact own_mono ho (Nat.zero_le _)) (fun q hq k hk => ?_)⟩
  simp at hq; subst hq
  have hk' : o.ownBlock = some k := by simpa [rowT] using hk
  have hlo := (own_lt ho hk').1
  obtain ⟨b1, b2⟩ := h.beyond hlo
  refine ⟨b1, fun j _ hm => ?_⟩
  by_cases e : j = .x i
  · subst e
    have hN := hs.atX (i := i) (n := t.setX pv rv x') (List.getElem?_set_self (List.getElem?_eq_some_iff.1 hi).1)
    rw [show ({ s with ns := s.ns.set i (t.setX pv rv x') } : Sg).th wb (.x i) = nodeT ⟨t.x.nb, t.x.mb, t.x.cb, pv, rv, x'⟩ from onN_set_eq hi _] at hm
    obtain ⟨cs, hb⟩ := own_blk ho hk'
    exact hN.not_feet hb h1 h2 h3 h4 hm
  · rw [setN_th (n' := t.setX pv rv x') hi rfl j (fun q => absurd q e) (fun _ => rfl) (fun _ => ⟨rfl, rfl, rfl⟩)] at hm
    exact b2 j hm
theorem VS.gotY {wb : Nat} {s : Sg} {w W W' : World} (h : VS wb s w W) {i : Nat} {t : Nt} (hi : s.ns[i]? = some t) {x' : Nd} (ht : NTo W W' t.y.nb t.y.mb t.y.cb t.y.pv t.y.rv x') {e : TypeId} {z : Nat} {o : Value} {n : Nat} {xs : List Value} (ho : W'.ownsRow W.heap.size e z o n xs) (h1 : e ≠ 123) (h2 : e ≠ 3) (h3 : e ≠ 161) (h4 : e ≠ 24) : ∃ pv rv, VS wb { s with ns := s.ns.set i (t.setY pv rv x'), b := [rowT e z o n xs] } w W' := by
  obtain ⟨pv, rv, hs⟩ := h.callY hi ht
  refine ⟨pv, rv, hs.mineB [rowT e z o n xs] (by intro q hq; simp at hq; subst hq; exact own_mono ho (Nat.zero_le _)) (fun q hq k hk => ?_)⟩
  simp at hq; subst hq
  have hk' : o.ownBlock = some k := by simpa [rowT] using hk
  have hlo := (own_lt ho hk').1
  obtain ⟨b1, b2⟩ := h.beyond hlo
  refine ⟨b1, fun j _ hm => ?_⟩
  by_cases e : j = .y i
  · subst e
    have hN := hs.atY (i := i) (n := t.setY pv rv x') (List.getElem?_set_self (List.getElem?_eq_some_iff.1 hi).1)
    rw [show ({ s with ns := s.ns.set i (t.setY pv rv x') } : Sg).th wb (.y i) = nodeT ⟨t.y.nb, t.y.mb, t.y.cb, pv, rv, x'⟩ from onN_set_eq hi _] at hm
    obtain ⟨cs, hb⟩ := own_blk ho hk'
    exact hN.not_feet hb h1 h2 h3 h4 hm
  · rw [setN_th (n' := t.setY pv rv x') hi rfl j (fun _ => rfl) (fun q => absurd q e) (fun _ => ⟨rfl, rfl, rfl⟩)] at hm
    exact b2 j hm
/-- The node behind a call on all three. -/
abbrev Nt.set3 (t : Nt) (x' : Nd) (p q p' q' : Value) (rv : Rv) (r : Rn) : Nt := ⟨t.b, ⟨t.x.nb, t.x.mb, t.x.cb, p, q, x'⟩, ⟨t.y.nb, t.y.mb, t.y.cb, p', q', x'⟩, t.rb, rv, r⟩
theorem VI.node {n : Nat} {s : Sg} (h : VI n s) {i : Nat} {t : Nt} (hi : s.ns[i]? = some t) {x' : Nd} {r' : Rn} {rv' : Rv} (p q p' q' : Value) (hg : Gh (100 * ((n + 1 : Nat) : Int)) x' r') (hdl : x'.dl = t.x.x.dl) (hd : rv'.d = t.rv.d) : VI (n + 1) { s with ns := s.ns.set i (t.set3 x' p q p' q' rv' r') } := by
  have u := h.up
  refine { u with nn := by show (s.ns.set i _).length ≤ n + 1; rw [List.length_set]; exact u.nn, nk := fun k hk => ?_, hd := u.hd.of rfl rfl rfl rfl (fun _ q => q) }
  rcases List.mem_or_eq_of_mem_set hk with hk | rfl
  · exact u.nk k hk
  · have hm := h.nk t (List.mem_of_getElem? hi)
    refine ⟨hm.rc, ?_, rfl, hg⟩
    show intsT rv'.d r'.draws ∈ s.fz
    rw [hd, hg.rf.draws, hdl, ← hm.gh.rf.draws]
    exact hm.dr
theorem VI.sent {n : Nat} {s : Sg} (h : VI (n + 1) s) {l : List Pk} (hl : l.length ≤ 9) (hsm : ∀ p ∈ l, p.bytes.length ≤ 60) (ho : s.os.length ≤ 4 * n) (hm : s.mark ≤ 2000 * (n : Int)) {pv ov kv : Value} {ps : List Pk} {os ks : List Value} {mark : Int} {fz : List Th} (hw : Way s l ps) (hh : Held { s with a := [], b := [], pv := pv, ps := ps, ov := ov, kv := kv, os := os, ks := ks, mark := mark, fz := fz }) (hos : os.length = s.os.length + 4) (hmk : mark = s.mark + 2 * l.length + 4) (hf : ∀ t ∈ s.fz, t ∈ fz) : VI (n + 1) { s with a := [], b := [], pv := pv, ps := ps, ov := ov, kv := kv, os := os, ks := ks, mark := mark, fz := fz } := by
  have hm0 := h.m0
  refine { h with uf := hf _ h.uf, df := hf _ h.df, nk := fun t ht => (h.nk t ht).up (Nat.le_refl _) hf, pn := hw.len, pl := fun p hp => ?_, hd := hh, ol := ?_, m0 := ?_, m1 := ?_, a := rfl, b := rfl }
  · rcases hw.of p hp with hp | hp
    · exact h.pl p hp
    · exact hsm p hp
  · show os.length ≤ 4 * (n + 1); omega
  · show 0 ≤ mark; omega
  · show mark ≤ 2000 * ((n + 1 : Nat) : Int); omega
set_option maxRecDepth 100000 in
set_option maxHeartbeats 2000000 in
theorem received_s (n wb : Nat) (s : Sg) (w W : World) (h : VV n wb s w W) (hn : n ≤ 18000) (i : Nat) (t : Nt) (hi : s.ns[i]? = some t) (l : List UInt8) (hl : l.length ≤ 17000) :
    Calls Tryz.prog 35 #[.pointer (some ⟨wb, 0, none⟩), .pointer (some ⟨t.b, 0, none⟩), .string (bs l)] W fun e W' => e = .returned (.bool true) ∧ ∃ s', VV (n + 1) wb s' w W' := by
  have hlm : l.length ≤ maxLen := by unfold maxLen; omega
  have hk := h.vi.nk t (List.mem_of_getElem? hi)
  have hrec : W.heap[t.b]? = some (.cells #[.pointer (some ⟨t.x.nb, 0, none⟩), .pointer (some ⟨t.y.nb, 0, none⟩), .pointer (some ⟨t.rb, 0, none⟩)] 88 (0, 0)) := h.vs.has hk.rc
  have k0 := cell_at hrec 0
  simp only [List.getElem?_toArray, List.getElem?_cons_zero] at k0
  have hltb := lt_blk hrec
  have hBg : NdB Bg t.x.x := hk.gh.b.mono (by unfold Bg; omega)
  have hG := hk.gh.received (by omega) l
  have HX := hide (receive_any hk.gh.ok hBg (h.vs.atX hi) l hlm)
  have HK := hide hk
  have HC := hide h
  have HI := hide hi
  have HG := hide hG
  clear h hk hi hrec hG hBg
  go_enter Tryz.func35, Tryz.ntmps35
  go_wp2_with fail
  refine (unhide HX).mono ?_
  rintro e w1 ⟨o1, rfl, ho1, ht1⟩
  obtain ⟨p, q, h1⟩ := (unhide HC).vs.gotX (unhide HI) ht1 ho1 (by decide) (by decide) (by decide) (by decide)
  have hi1 : (s.ns.set i (t.setX p q (t.x.x.receive l).2))[i]? = some (t.setX p q (t.x.x.receive l).2) := List.getElem?_set_self (List.getElem?_eq_some_iff.1 (unhide HI)).1
  have hrec1 : w1.heap[t.b]? = some (.cells #[.pointer (some ⟨t.x.nb, 0, none⟩), .pointer (some ⟨t.y.nb, 0, none⟩), .pointer (some ⟨t.rb, 0, none⟩)] 88 (0, 0)) := h1.has (unhide HK).rc
  have k1 := cell_at hrec1 1
  simp only [List.getElem?_toArray, List.getElem?_cons_zero, List.getElem?_cons_succ] at k1
  have hltb1 := lt_blk hrec1
  have hBg1 : NdB Bg t.y.x := by rw [(unhide HK).tw]; exact (unhide HK).gh.b.mono (by unfold Bg; omega)
  have hok1 : NdOk t.y.x := by rw [(unhide HK).tw]; exact (unhide HK).gh.ok
  have HY := hide (receive_any hok1 hBg1 (h1.atY (n := t.setX p q (t.x.x.receive l).2) hi1) l hlm)
  have H1 := hide h1
  have HI1 := hide hi1
  clear h1 hi1 hrec1 ho1 ht1 HX k0 hBg1 hok1
  go_wp2_with fail
  refine (unhide HY).mono ?_
  rintro e w2 ⟨o2, rfl, ho2, ht2⟩
  rw [(unhide HK).tw] at ho2 ht2
  obtain ⟨p', q', h2⟩ := (unhide H1).gotY (t := t.setX p q (t.x.x.receive l).2) (unhide HI1) ht2 ho2 (by decide) (by decide) (by decide) (by decide)
  simp only [List.set_set] at h2
  have hi2 : (s.ns.set i ((t.setX p q (t.x.x.receive l).2).setY p' q' (t.x.x.receive l).2))[i]? = some ((t.setX p q (t.x.x.receive l).2).setY p' q' (t.x.x.receive l).2) := List.getElem?_set_self (List.getElem?_eq_some_iff.1 (unhide HI)).1
  have hrec2 : w2.heap[t.b]? = some (.cells #[.pointer (some ⟨t.x.nb, 0, none⟩), .pointer (some ⟨t.y.nb, 0, none⟩), .pointer (some ⟨t.rb, 0, none⟩)] 88 (0, 0)) := h2.has (unhide HK).rc
  have k2 := cell_at hrec2 2
  simp only [List.getElem?_toArray, List.getElem?_cons_zero, List.getElem?_cons_succ] at k2
  have hltb2 := lt_blk hrec2
  have HR := hide (rreceive_any (unhide HK).gh (by omega) (h2.atR (n := (t.setX p q (t.x.x.receive l).2).setY p' q' (t.x.x.receive l).2) hi2 (unhide HK).dr) l hlm)
  have H2 := hide h2
  have HI2 := hide hi2
  clear h2 hi2 hrec2 ho2 ht2 HY k1 H1 HI1
  go_wp2_with fail
  refine (unhide HR).mono ?_
  rintro e w3 ⟨o3, rfl, v', hvd, hra, hfr, hft, rfl⟩
  have h3 := (unhide H2).callR (unhide HI2) hra hfr hft
  simp only [List.set_set] at h3
  have hV : VI (n + 1) { s with ns := s.ns.set i (t.set3 (t.x.x.receive l).2 p q p' q' v' (t.r.receive l)) } := (unhide HC).vi.node (unhide HI) p q p' q' ((unhide HG).gh.mono (by omega)) (unhide HG).dl hvd
  have hi3 : (s.ns.set i (t.set3 (t.x.x.receive l).2 p q p' q' v' (t.r.receive l)))[i]? = some (t.set3 (t.x.x.receive l).2 p q p' q' v' (t.r.receive l)) := List.getElem?_set_self (List.getElem?_eq_some_iff.1 (unhide HI)).1
  have hvi := (unhide HC).vi
  have HS := hide (sends_s wb { s with ns := s.ns.set i (t.set3 (t.x.x.receive l).2 p q p' q' v' (t.r.receive l)), a := [pksT o1 (t.x.x.receive l).1], b := [pksT o2 (t.x.x.receive l).1] } w w3 h3 (hV.hd.of rfl rfl rfl rfl (fun _ q => q)) (by have := hvi.ol; simp only; omega) hvi.m0 (by have := hvi.m1; simp only; omega) hvi.pn o1 o2 i (t.set3 (t.x.x.receive l).2 p q p' q' v' (t.r.receive l)) hi3 (by show (t.r.receive l).out.length ≤ 900; rw [(unhide HG).out]; have := (unhide HG).len; omega) (by show _ = [pksT o1 (t.r.receive l).out]; rw [(unhide HG).out]) (by show _ = [pksT o2 (t.r.receive l).out]; rw [(unhide HG).out]))
  have HV := hide hV
  have HO := hide hvi.ol
  have HM := hide hvi.m1
  clear h3 hra hfr hft hV hi3 hvi HR H2 HI2 k2 HC
  go_wp2_with fail
  refine (unhide HS).mono ?_
  rintro e w4 ⟨rfl, pv, ov, kv, ps, os, ks, mark, fz, h4, hw, hh, hos, hmk, hf⟩
  have HF : Hid (VV (n + 1) wb { s with ns := s.ns.set i (t.set3 (t.x.x.receive l).2 p q p' q' v' (t.r.receive l)), a := [], b := [], pv := pv, ps := ps, ov := ov, kv := kv, os := os, ks := ks, mark := mark, fz := fz } w w4) := hide ⟨h4, VI.sent (s := { s with ns := s.ns.set i (t.set3 (t.x.x.receive l).2 p q p' q' v' (t.r.receive l)) }) (l := (t.r.receive l).out) (unhide HV) (by rw [(unhide HG).out]; exact (unhide HG).len) (by rw [(unhide HG).out]; exact (unhide HG).small) (unhide HO) (unhide HM) ⟨hw.len, hw.of⟩ hh hos hmk hf⟩
  clear h4 hw hh hos hmk hf HS
  go_wp2
  go_ret
  exact ⟨rfl, _, unhide HF⟩
end Go.Proofs.YtnneljcbelgoeaaGreatDoor.wire
