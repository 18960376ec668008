import Derived.Test.YtnneljcbelgoeaaGreatDoorG43
import Derived.Test.YtnneljcbelgoeaaGreatDoorG45
import Derived.Test.YtnneljcbelgoeaaGreatDoorG25
import Derived.Test.YtnneljcbelgoeaaGreatDoorG46
import Derived.Test.YtnneljcbelgoeaaGreatDoorG35
import Derived.Test.YtnneljcbelgoeaaGreatDoorG38
import Derived.Test.YtnneljcbelgoeaaGreatDoorG39
/- gossiplaw's step over nodes: what the caller owns, Encode, packets, nodes. -/
namespace Go.Proofs.YtnneljcbelgoeaaGreatDoor.wire
open Go.RowKit Go.Maps
set_option maxRecDepth 100000 in
set_option maxHeartbeats 1000000 in
theorem vstep_own (n wb : Nat) (s : Sg) (w W : World) (h : VV n wb s w W) (hn : n ≤ 18000) (o : Op8) (hk : Op8.own o.kind) (ho : o.ok) :
    Calls Tryz.prog 10 #[.pointer (some ⟨wb, 0, none⟩), opv o] W fun e W' => e = .returned (.bool true) ∧ ∃ s', VV (n + 1) wb s' w W' := by
  have HC := hide h
  clear h
  have HO := hide (fun V hV => vowner_yes n wb s w V hV hn o hk ho)
  clear hk ho
  go_enter Tryz.func10, Tryz.ntmps10
  go_wp2_with fail
  refine (unhide HO _ ⟨(unhide HC).vs.alloc _, (unhide HC).vi⟩).mono ?_
  rintro e w1 ⟨rfl, s', hs'⟩
  have HS := hide hs'
  clear hs' HO HC
  go_wp2
  go_ret
  exact ⟨rfl, s', unhide HS⟩
/-- A step that is none, and what it finds. -/
theorem VV.enter {n wb : Nat} {s : Sg} {w W w1 : World} (h : VV n wb s w W) (o : Obj) (hb : Below (W.alloc o).heap.size (W.alloc o) w1) : VV n wb s w w1 := ⟨(h.vs.alloc o).mono hb, h.vi⟩
set_option maxRecDepth 100000 in
set_option maxHeartbeats 1000000 in
theorem vstep_none (n wb : Nat) (s : Sg) (w W : World) (h : VV n wb s w W) (o : Op8) (hk : noneOwn o.kind) (h5 : ¬ o.kind = 5) (h6 : ¬ o.kind = 6) (h9 : ¬ o.kind = 9) (h11 : ¬ o.kind = 11) (hz : s.ns.length = 0 ∨ o.kind < 10 ∨ 18 < o.kind) :
    Calls Tryz.prog 10 #[.pointer (some ⟨wb, 0, none⟩), opv o] W fun e W' => e = .returned (.bool true) ∧ ∃ s', VV (n + 1) wb s' w W' := by
  have HC := hide h
  clear h
  have HO := hide (fun V => vowner_no wb V o hk)
  obtain ⟨kind, a, b, c, d, e, x, S⟩ := o
  simp only at hk h5 h6 h9 h11 hz
  clear hk
  go_enter Tryz.func10, Tryz.ntmps10
  go_wp2_with fail
  refine (unhide HO _).mono ?_
  rintro e w1 ⟨rfl, hb⟩
  have hC1 := (unhide HC).enter _ hb
  have hbx := (hb.block W.heap.size (by simp)).trans (heap_alloc_new W _)
  have p0 : w1.cell? ⟨W.heap.size, 0, none⟩ = some (.int .i64 kind) := cell_at hbx 0
  have hnrow : w1.ownsRow 0 51 1 s.nv s.ns.length (s.ns.map fun n => .pointer (some ⟨n.b, 0, none⟩)) := Sep.rd hC1.vs .nd
  obtain ⟨no, nc, hnf, _⟩ := row_form hnrow
  have c14 : w1.cell? ⟨wb, 14, none⟩ = some s.nv := hC1.vs.cell 14
  rw [hnf] at c14
  have hwl := hC1.vs.lt
  have hbl := lt_blk hbx
  have HC1 := hide hC1
  clear hC1 hbx hb HC HO hnrow hnf
  rcases (show (s.ns.length : Int) = 0 ∨ (¬ (s.ns.length : Int) = 0 ∧ kind < 10) ∨ (¬ (s.ns.length : Int) = 0 ∧ ¬ kind < 10 ∧ 18 < kind) by omega) with g1 | ⟨g1, g2⟩ | ⟨g1, g2, g3⟩
  case' inr.inl => have gb : ((s.ns.length : Int) == 0) = false := beq_eq_false_iff_ne.2 g1
  case' inr.inr => have gb : ((s.ns.length : Int) == 0) = false := beq_eq_false_iff_ne.2 g1
  all_goals
    clear hz
    go_wp2
    go_ret
    exact ⟨rfl, s, (unhide HC1).vs, (unhide HC1).vi.up⟩
set_option maxRecDepth 100000 in
set_option maxHeartbeats 1000000 in
theorem vstep_enc (n wb : Nat) (s : Sg) (w W : World) (h : VV n wb s w W) (hn : n ≤ 18000) (o : Op8) (hk : o.kind = 5) (hg : w.cell? ⟨0, 0, none⟩ = some (.iface 207 (.agg #[.pointer (some ⟨1, 64, none⟩)]))) (hlt : 0 < w.heap.size) :
    Calls Tryz.prog 10 #[.pointer (some ⟨wb, 0, none⟩), opv o] W fun e W' => e = .returned (.bool true) ∧ ∃ s', VV (n + 1) wb s' w W' := by
  have HC := hide h
  clear h
  have HO := hide (fun V => vowner_no wb V o (by unfold noneOwn; omega))
  obtain ⟨kind, a, b, c, d, e, x, S⟩ := o
  simp only at hk
  subst hk
  go_enter Tryz.func10, Tryz.ntmps10
  go_wp2_with fail
  refine (unhide HO _).mono ?_
  rintro e w1 ⟨rfl, hb⟩
  have hC1 := (unhide HC).enter _ hb
  have hbx := (hb.block W.heap.size (by simp)).trans (heap_alloc_new W _)
  have p0 : w1.cell? ⟨W.heap.size, 0, none⟩ = some (.int .i64 5) := cell_at hbx 0
  have hcells : ∀ j, w1.cell? ⟨wb, j, none⟩ = s.cells[j]? := hC1.vs.cell
  have HC1 := hide hC1
  clear hC1 hbx hb HC HO
  go_wp2_with fail
  clear hcells
  have hur : w1.ownsRow 0 58 3 s.uv s.m.ups.length (s.m.ups.flatMap keyC) := (unhide HC1).vs.has (unhide HC1).vi.uf
  refine (encoded_any s.m s.uv w1 (rkeysAt_row hur) (by have := (unhide HC1).vi.un; omega) ((unhide HC1).vs.gate hlt hg)).mono ?_
  clear hur
  rintro e w2 ⟨rfl, hb2⟩
  have HC2 := hide ((unhide HC1).vs.mono hb2)
  have HB := hide (unhide HC1).vi
  clear hb2 HC1 p0
  have hL : (encB s.m).length ≤ 17000 := by
    unfold encB
    by_cases hw : wholeB s.m = true
    · rw [if_pos hw, bytesM_len]; have := whole_len hw; omega
    · rw [if_neg hw]; simp
  generalize encB s.m = L at hL ⊢
  have c0 : w2.cell? ⟨wb, 0, none⟩ = some s.tv := (unhide HC2).cell 0
  have f0 : w2.frozen? ⟨wb, 0, none⟩ = false := (unhide HC2).free 0
  have hw2 := (unhide HC2).lt
  have htn := (unhide HB).tn
  have HT : Hid (w2.ownsRow 0 9 1 s.tv s.ts.length (s.ts.map fun l => .string (bs l))) := hide (Sep.rd (unhide HC2) .tx)
  go_wp2_with (at_builtin; refine wpList_app rfl _ _ rfl etySt 0 rfl rfl ((unhide HT).alloc _) (Src.box (cs := [.string (bs L)]) 1 1 1 (by exact heap_alloc_new w2 _) rfl) (by simp [Value.oneCell']) (by omega) (by omega) ?_)
  intro v3 w3 hown3 hgrow3 hat3
  obtain ⟨vo, vc, hvf, _⟩ := row_form hown3
  subst hvf
  have hP := (unhide HC2).pushT ((Below.refl _ _).alloc (Nat.le_refl _) _) hgrow3 L _ hown3 (hat3.imp id (fun e => by rw [e]; simp))
  have d0 : w3.cell? ⟨wb, 0, none⟩ = some s.tv := cell_at hP.2 0
  have e0 : w3.frozen? ⟨wb, 0, none⟩ = false := free_at hP.2 0
  have HP := hide hP.1
  clear hP hown3 hgrow3 hat3 HC2 c0 f0 HT
  go_wp2
  go_ret
  exact ⟨rfl, _, unhide HP, (unhide HB).pushT L _ hL⟩
set_option maxRecDepth 100000 in
set_option maxHeartbeats 1000000 in
theorem vstep_del (n wb : Nat) (s : Sg) (w W : World) (h : VV n wb s w W) (hn : n ≤ 18000) (o : Op8) (hk : o.kind = 11) (ho : o.ok) :
    Calls Tryz.prog 10 #[.pointer (some ⟨wb, 0, none⟩), opv o] W fun e W' => e = .returned (.bool true) ∧ ∃ s', VV (n + 1) wb s' w W' := by
  have HC := hide h
  clear h
  have HO := hide (fun V => vowner_no wb V o (by unfold noneOwn; omega))
  have HD := hide (fun V hV => delivered_s n wb s w V hV hn o ho)
  clear ho
  obtain ⟨kind, a, b, c, d, e, x, S⟩ := o
  simp only at hk
  subst hk
  go_enter Tryz.func10, Tryz.ntmps10
  go_wp2_with fail
  refine (unhide HO _).mono ?_
  rintro e' w1 ⟨rfl, hb⟩
  have hC1 := (unhide HC).enter _ hb
  have hbx := (hb.block W.heap.size (by simp)).trans (heap_alloc_new W _)
  have p0 : w1.cell? ⟨W.heap.size, 0, none⟩ = some (.int .i64 11) := cell_at hbx 0
  have p1 : w1.cell? ⟨W.heap.size, 1, none⟩ = some (.int .i64 x) := cell_at hbx 1
  have p2 : w1.cell? ⟨W.heap.size, 2, none⟩ = some (.int .i64 a) := cell_at hbx 2
  have p3 : w1.cell? ⟨W.heap.size, 3, none⟩ = some (.int .i64 b) := cell_at hbx 3
  have p4 : w1.cell? ⟨W.heap.size, 4, none⟩ = some (.int .i64 c) := cell_at hbx 4
  have p5 : w1.cell? ⟨W.heap.size, 5, none⟩ = some (.int .i64 d) := cell_at hbx 5
  have p6 : w1.cell? ⟨W.heap.size, 6, none⟩ = some (.int .i64 e) := cell_at hbx 6
  have p7 : w1.cell? ⟨W.heap.size, 7, none⟩ = some (.string (bs S)) := cell_at hbx 7
  have hbl := lt_blk hbx
  have HC1 := hide hC1
  clear hC1 hbx hb HC HO
  go_wp2_with fail
  refine (unhide HD w1 (unhide HC1)).mono ?_
  rintro e' w2 ⟨rfl, s', hs'⟩
  have HS := hide hs'
  clear hs' HD HC1 p0 p1 p2 p3 p4 p5 p6 p7
  go_wp2
  go_ret
  exact ⟨rfl, s', unhide HS⟩
theorem on_any (n wb : Nat) (s : Sg) (w W : World) (h : VV n wb s w W) (hn : n ≤ 18000) (o : Op8) (hk : o.kind = 10 ∨ o.kind = 13 ∨ o.kind = 14 ∨ o.kind = 15 ∨ o.kind = 16 ∨ o.kind = 17 ∨ o.kind = 18) (ho : o.ok) (i : Nat) (t : Nt) (hi : s.ns[i]? = some t) (hg : w.cell? ⟨0, 0, none⟩ = some (.iface 207 (.agg #[.pointer (some ⟨1, 64, none⟩)]))) (hlt : 0 < w.heap.size) :
    Calls Tryz.prog 20 #[.pointer (some ⟨wb, 0, none⟩), .pointer (some ⟨t.b, 0, none⟩), opv o] W fun e W' => e = .returned (.bool true) ∧ ∃ s', VV (n + 1) wb s' w W' := by
  rcases hk with hk | hk | hk | hk | hk | hk
  · exact on_recv n wb s w W h hn o hk ho i t hi
  · exact on_join n wb s w W h hn o hk i t hi hg hlt
  · exact on_leave n wb s w W h hn o hk i t hi hg hlt
  · exact on_tick n wb s w W h hn o hk i t hi
  · exact on_drain n wb s w W h hn o hk i t hi
  · exact on_see n wb s w W h hn o hk i t hi
set_option maxRecDepth 100000 in
set_option maxHeartbeats 1000000 in
theorem vstep_node (n wb : Nat) (s : Sg) (w W : World) (h : VV n wb s w W) (hn : n ≤ 18000) (o : Op8) (hk : o.kind = 10 ∨ o.kind = 13 ∨ o.kind = 14 ∨ o.kind = 15 ∨ o.kind = 16 ∨ o.kind = 17 ∨ o.kind = 18) (ho : o.ok) (hx0 : -9223372036854775808 ≤ o.x) (hx1 : o.x ≤ 9223372036854775807) (hz : ¬ s.ns.length = 0) (hg : w.cell? ⟨0, 0, none⟩ = some (.iface 207 (.agg #[.pointer (some ⟨1, 64, none⟩)]))) (hlt : 0 < w.heap.size) :
    Calls Tryz.prog 10 #[.pointer (some ⟨wb, 0, none⟩), opv o] W fun e W' => e = .returned (.bool true) ∧ ∃ s', VV (n + 1) wb s' w W' := by
  have HC := hide h
  have hnn := h.vi.nn
  clear h
  have HO := hide (fun V => vowner_no wb V o (by unfold noneOwn; omega))
  obtain ⟨q0, q1⟩ := pickW_bd o.x (s.ns.length : Int) (by omega)
  obtain ⟨q, hq⟩ := Int.eq_ofNat_of_zero_le q0
  have hql : q < s.ns.length := by omega
  have hqi : (q : Int) < (s.ns.length : Int) := by omega
  have hz' : (0 : Int) < (s.ns.length : Int) := by omega
  have hz2 : ((s.ns.length : Int) == 0) = false := beq_eq_false_iff_ne.2 (by omega)
  have hlp : (s.ns.length : Int) ≤ 4294967296 := by omega
  have HP := hide (fun W' => lpick_any o.x (s.ns.length : Int) W' hx0 hx1 hz' hlp)
  rw [hq] at HP
  have HD := hide (fun V hV => on_any n wb s w V hV hn o hk ho q s.ns[q] (List.getElem?_eq_getElem hql) hg hlt)
  clear q0 q1 hq ho
  have hi : s.ns[q]? = some s.ns[q] := List.getElem?_eq_getElem hql
  obtain ⟨kind, a, b, c, d, e, x, S⟩ := o
  simp only at hk hx0 hx1 HP
  have h5 : ¬ kind = 5 := by omega
  have h6 : ¬ kind = 6 := by omega
  have h9 : ¬ kind = 9 := by omega
  have h11 : ¬ kind = 11 := by omega
  have h10 : ¬ kind < 10 := by omega
  have h18 : ¬ 18 < kind := by omega
  clear hk
  go_enter Tryz.func10, Tryz.ntmps10
  go_wp2_with fail
  refine (unhide HO _).mono ?_
  rintro e' w1 ⟨rfl, hb⟩
  have hC1 := (unhide HC).enter _ hb
  have hbx := (hb.block W.heap.size (by simp)).trans (heap_alloc_new W _)
  have p0 : w1.cell? ⟨W.heap.size, 0, none⟩ = some (.int .i64 kind) := cell_at hbx 0
  have p1 : w1.cell? ⟨W.heap.size, 1, none⟩ = some (.int .i64 x) := cell_at hbx 1
  have p2 : w1.cell? ⟨W.heap.size, 2, none⟩ = some (.int .i64 a) := cell_at hbx 2
  have p3 : w1.cell? ⟨W.heap.size, 3, none⟩ = some (.int .i64 b) := cell_at hbx 3
  have p4 : w1.cell? ⟨W.heap.size, 4, none⟩ = some (.int .i64 c) := cell_at hbx 4
  have p5 : w1.cell? ⟨W.heap.size, 5, none⟩ = some (.int .i64 d) := cell_at hbx 5
  have p6 : w1.cell? ⟨W.heap.size, 6, none⟩ = some (.int .i64 e) := cell_at hbx 6
  have p7 : w1.cell? ⟨W.heap.size, 7, none⟩ = some (.string (bs S)) := cell_at hbx 7
  have hbl := lt_blk hbx
  have hnrow : w1.ownsRow 0 51 1 s.nv s.ns.length (s.ns.map fun n => .pointer (some ⟨n.b, 0, none⟩)) := Sep.rd hC1.vs .nd
  obtain ⟨g, gc, hnf, _, hcl⟩ := own_cell1 hnrow q (.pointer (some ⟨(s.ns[q]).b, 0, none⟩)) (by rw [List.getElem?_map, hi]; rfl)
  have c14 : w1.cell? ⟨wb, 14, none⟩ = some s.nv := hC1.vs.cell 14
  rw [hnf] at c14
  have hwl := hC1.vs.lt
  have HC1 := hide hC1
  generalize (s.ns[q]).b = tb at hcl HD
  clear hC1 hbx hb HC HO hnrow hnf hi
  go_wp2_with fail
  go_quiet ((go_at_call 19; exact Calls.quiet_of_same (unhide HP _)))
  go_wp2_with fail
  refine (unhide HD _ ⟨(unhide HC1).vs.draws _, (unhide HC1).vi⟩).mono ?_
  rintro e' w2 ⟨rfl, s', hs'⟩
  have HS := hide hs'
  clear hs' HD HC1 HP p0 p1 p2 p3 p4 p5 p6 p7 c14 hcl
  go_wp2_with fail
  refine (looks_s wb s' w w2 (unhide HS).vs (unhide HS).vi.hd (by have := (unhide HS).vi.ll; omega) (by have := (unhide HS).vi.ol; omega)).mono ?_
  rintro e' w3 ⟨rfl, k3, rfl⟩
  go_wp2
  go_ret
  exact ⟨rfl, s', (unhide HS).vs.draws k3, (unhide HS).vi⟩
end Go.Proofs.YtnneljcbelgoeaaGreatDoor.wire
/- gossiplaw's made over nodes: a node, its twin and the document's are made, or refused (P4). -/
namespace Go.Proofs.YtnneljcbelgoeaaGreatDoor.wire
open Go.RowKit Go.Maps
/-- A new node's things lie apart. -/
structure Ap (t : Nt) : Prop where
  xy : ∀ k ∈ t.x.feet, k ∉ t.y.feet
  xr : ∀ k ∈ t.x.feet, k ∉ rfeet t.rb t.rv
  yr : ∀ k ∈ t.y.feet, k ∉ rfeet t.rb t.rv
  xb : t.b ∉ t.x.feet
  yb : t.b ∉ t.y.feet
  rb : t.b ∉ rfeet t.rb t.rv
abbrev newA (t : Nt) : List Th := [nodeT t.x, nodeT t.y, refT t.rb t.rv t.r, recT t]
set_option maxRecDepth 100000 in
set_option maxHeartbeats 1000000 in
theorem made_no (wb : Nat) (s : Sg) (w W : World) (h : VS wb s w W) (n : Nat) (hv : VI n s) (hn : n ≤ 18000) (c : Cfg) (hp2 : c.period ≤ 9223372036854775807) (hc : cfgB c = false) (hg : w.cell? ⟨0, 0, none⟩ = some (.iface 207 (.agg #[.pointer (some ⟨1, 64, none⟩)]))) (hlt : 0 < w.heap.size) :
    Calls Tryz.prog 17 #[cfgV c, s.dv] W fun e W' => e = .returned (.tuple #[.pointer none, .bool true]) ∧ VS wb s w W' := by
  have hrow : W.ownsRow 0 3 1 s.dv s.ds.length (s.ds.flatMap intC) := h.has hv.df
  obtain ⟨ao, cap, hdf, _⟩ := row_form hrow
  have hdl : s.ds.length ≤ 1000000 := by have := hv.dn; omega
  rw [hdf] at hrow ⊢
  have hbx := heap_alloc_new W (.cells #[.int .i64 c.self, .int .i64 c.period, .int .i64 c.wait, .int .i64 c.suspect, .int .i64 c.proxies, .int .i64 c.sends] 35)
  have HC := hide (h.alloc (.cells #[.int .i64 c.self, .int .i64 c.period, .int .i64 c.wait, .int .i64 c.suspect, .int .i64 c.proxies, .int .i64 c.sends] 35))
  have HBX := hide hbx
  have HR := hide (hrow.alloc (.cells #[.int .i64 c.self, .int .i64 c.period, .int .i64 c.wait, .int .i64 c.suspect, .int .i64 c.proxies, .int .i64 c.sends] 35))
  have HGT := hide hg
  clear h hrow hdf hbx hg hv
  simp only [cfgV]
  go_enter Tryz.func17, Tryz.ntmps17
  go_wp2_with fail
  generalize W.alloc (.cells #[.int .i64 c.self, .int .i64 c.period, .int .i64 c.wait, .int .i64 c.suspect, .int .i64 c.proxies, .int .i64 c.sends] 35) = W0 at HC HBX HR ⊢
  have hz0 := lt_blk (unhide HBX)
  refine (lconfig_any c W0).mono ?_
  rintro e w1 ⟨rfl, hb1⟩
  have HR1 := hide (own_below (unhide HR) hb1)
  have HB1 := hide hb1
  clear hb1
  go_wp2_with fail
  refine (pnew_no c hc hp2 s.ds hdl (unhide HR1)).mono ?_
  rintro e w2 ⟨rfl, hb2⟩
  have hB2 := (unhide HB1).trans (hb2.mono (unhide HB1).size)
  have hbx2 := (hB2.block W.heap.size hz0).trans (unhide HBX)
  have a0 := cell_at hbx2 0
  have a1 := cell_at hbx2 1
  have a2 := cell_at hbx2 2
  have a3 := cell_at hbx2 3
  have a4 := cell_at hbx2 4
  have a5 := cell_at hbx2 5
  simp only [List.getElem?_toArray, List.getElem?_cons_zero, List.getElem?_cons_succ] at a0 a1 a2 a3 a4 a5
  have HB2 := hide hB2
  clear hb2 hB2 hbx2 HB1 HR1
  go_wp2_with fail
  refine (lconfig_any c w2).mono ?_
  rintro e w3 ⟨rfl, hb3⟩
  have HB3 := hide ((unhide HB2).trans (hb3.mono (unhide HB2).size))
  have HR3 := hide (own_below (unhide HR) (unhide HB3))
  clear hb3 HB2 a0 a1 a2 a3 a4 a5
  go_wp2_with fail
  refine (pnew_no c hc hp2 s.ds hdl (unhide HR3)).mono ?_
  rintro e w4 ⟨rfl, hb4⟩
  have hB4 := (unhide HB3).trans (hb4.mono (unhide HB3).size)
  have hbx4 := (hB4.block W.heap.size hz0).trans (unhide HBX)
  have a0 := cell_at hbx4 0
  have a1 := cell_at hbx4 1
  have a2 := cell_at hbx4 2
  have a3 := cell_at hbx4 3
  have a4 := cell_at hbx4 4
  have a5 := cell_at hbx4 5
  simp only [List.getElem?_toArray, List.getElem?_cons_zero, List.getElem?_cons_succ] at a0 a1 a2 a3 a4 a5
  have HB4 := hide hB4
  clear hb4 hB4 hbx4 HB3 HR3
  go_wp2_with fail
  refine (rnew_no c (.slice ao s.ds.length cap) w4 hc).mono ?_
  rintro e w5 ⟨rfl, hb5⟩
  have H5 := hide (((unhide HC).mono (unhide HB4)).mono hb5)
  clear hb5 HB4 a0 a1 a2 a3 a4 a5 HC HR HBX
  rw [show (Value.iface 108 (.int .i64 1)) = errV 1 from rfl]
  generalize hev : errV 1 = ev
  have HEV := hide hev
  clear hev
  go_wp2_with fail
  rw [← unhide HEV]
  refine (ltold_any 1 w5 ((unhide H5).gate hlt (unhide HGT))).mono ?_
  rintro e w6 ⟨rfl, hb6⟩
  have H6 := hide ((unhide H5).mono hb6)
  clear hb6 H5
  rw [unhide HEV]
  go_wp2_with fail
  rw [← unhide HEV]
  refine (ltold_any 1 w6 ((unhide H6).gate hlt (unhide HGT))).mono ?_
  rintro e w7 ⟨rfl, hb7⟩
  have H7 := hide ((unhide H6).mono hb7)
  clear hb7 H6
  go_wp2
  go_ret2
  exact ⟨rfl, unhide H7⟩
set_option maxRecDepth 100000 in
set_option maxHeartbeats 1000000 in
theorem made_yes (wb : Nat) (s : Sg) (w W : World) (h : VS wb s w W) (n : Nat) (hv : VI n s) (hn : n ≤ 18000) (c : Cfg) (hc : cfgB c = true) (hg : w.cell? ⟨0, 0, none⟩ = some (.iface 207 (.agg #[.pointer (some ⟨1, 64, none⟩)]))) (hlt : 0 < w.heap.size) :
    Calls Tryz.prog 17 #[cfgV c, s.dv] W fun e W' => ∃ t : Nt, e = .returned (.tuple #[.pointer (some ⟨t.b, 0, none⟩), .bool true]) ∧ VS wb { s with a := newA t } w W' ∧ Ap t ∧ t.x.x = Nd.new c s.ds ∧ t.y.x = Nd.new c s.ds ∧ t.r = Rn.new c s.ds ∧ t.rv.d = s.dv := by
  have hrow : W.ownsRow 0 3 1 s.dv s.ds.length (s.ds.flatMap intC) := h.has hv.df
  obtain ⟨ao, cap, hdf, _⟩ := row_form hrow
  have hdl : s.ds.length ≤ 1000000 := by have := hv.dn; omega
  rw [hdf] at hrow
  rw [show (#[cfgV c, s.dv] : Array Value) = #[cfgV c, .slice ao s.ds.length cap] by rw [hdf]]
  have HDF := hide hdf
  have hbx := heap_alloc_new W (.cells #[.int .i64 c.self, .int .i64 c.period, .int .i64 c.wait, .int .i64 c.suspect, .int .i64 c.proxies, .int .i64 c.sends] 35)
  have HC := hide (h.alloc (.cells #[.int .i64 c.self, .int .i64 c.period, .int .i64 c.wait, .int .i64 c.suspect, .int .i64 c.proxies, .int .i64 c.sends] 35))
  have HBX := hide hbx
  have HR := hide (hrow.alloc (.cells #[.int .i64 c.self, .int .i64 c.period, .int .i64 c.wait, .int .i64 c.suspect, .int .i64 c.proxies, .int .i64 c.sends] 35))
  have HGT := hide hg
  clear h hrow hdf hbx hg hv
  simp only [cfgV]
  go_enter Tryz.func17, Tryz.ntmps17
  go_wp2_with fail
  generalize W.alloc (.cells #[.int .i64 c.self, .int .i64 c.period, .int .i64 c.wait, .int .i64 c.suspect, .int .i64 c.proxies, .int .i64 c.sends] 35) = W0 at HC HBX HR ⊢
  have hz0 := lt_blk (unhide HBX)
  refine (lconfig_any c W0).mono ?_
  rintro e w1 ⟨rfl, hb1⟩
  have HR1 := hide (own_below (unhide HR) hb1)
  have HB1 := hide hb1
  clear hb1
  go_wp2_with fail
  refine (pnew_yes c hc s.ds hdl (unhide HR1)).mono ?_
  rintro e w2 ⟨xn, xm, xc, rfl, x1, x2, ⟨x3, x4⟩, hx2, hb2⟩
  have hB2 := (unhide HB1).trans (hb2.mono (unhide HB1).size)
  have hbx2 := (hB2.block W.heap.size hz0).trans (unhide HBX)
  have a0 := cell_at hbx2 0
  have a1 := cell_at hbx2 1
  have a2 := cell_at hbx2 2
  have a3 := cell_at hbx2 3
  have a4 := cell_at hbx2 4
  have a5 := cell_at hbx2 5
  simp only [List.getElem?_toArray, List.getElem?_cons_zero, List.getElem?_cons_succ] at a0 a1 a2 a3 a4 a5
  have hfx : ∀ k ∈ (⟨xn, xm, xc, .slice none 0 0, .slice none 0 0, Nd.new c s.ds⟩ : Nn).feet, W0.heap.size ≤ k := fun k hk => by
    have hz := (unhide HB1).size
    simp only [Nn.feet, feet, Value.ownBlock, Option.toList_none, List.nil_append, List.mem_cons] at hk
    rcases hk with rfl | rfl | rfl | hk
    · omega
    · omega
    · omega
    · have := x4 k hk; omega
  have z0 := hB2.size
  have HB2 := hide hB2
  have HX2 := hide hx2
  have HFX := hide hfx
  clear hb2 hB2 hbx2 HB1 HR1 hx2 hfx x1 x2 x3 x4
  go_wp2_with fail
  refine (lconfig_any c w2).mono ?_
  rintro e w3 ⟨rfl, hb3⟩
  have HB23 := hide hb3
  have HB3 := hide ((unhide HB2).trans (hb3.mono (unhide HB2).size))
  have HR3 := hide (own_below (unhide HR) (unhide HB3))
  clear hb3 HB2 a0 a1 a2 a3 a4 a5
  go_wp2_with fail
  refine (pnew_yes c hc s.ds hdl (unhide HR3)).mono ?_
  rintro e w4 ⟨yn, ym, yc, rfl, y1, y2, ⟨y3, y4⟩, hy4, hb4⟩
  have hB4 := (unhide HB3).trans (hb4.mono (unhide HB3).size)
  have hB24 := (unhide HB23).trans (hb4.mono (unhide HB23).size)
  have hbx4 := (hB4.block W.heap.size hz0).trans (unhide HBX)
  have a0 := cell_at hbx4 0
  have a1 := cell_at hbx4 1
  have a2 := cell_at hbx4 2
  have a3 := cell_at hbx4 3
  have a4 := cell_at hbx4 4
  have a5 := cell_at hbx4 5
  simp only [List.getElem?_toArray, List.getElem?_cons_zero, List.getElem?_cons_succ] at a0 a1 a2 a3 a4 a5
  have hfy : ∀ k ∈ (⟨yn, ym, yc, .slice none 0 0, .slice none 0 0, Nd.new c s.ds⟩ : Nn).feet, w2.heap.size ≤ k := fun k hk => by
    have hz := (unhide HB23).size
    simp only [Nn.feet, feet, Value.ownBlock, Option.toList_none, List.nil_append, List.mem_cons] at hk
    rcases hk with rfl | rfl | rfl | hk
    · omega
    · omega
    · omega
    · have := y4 k hk; omega
  have HB4 := hide hB4
  have HB24 := hide hB24
  have HY4 := hide hy4
  have HFY := hide hfy
  clear hb4 hB4 hB24 hbx4 HB3 HR3 HB23 hy4 hfy y1 y2 y3 y4
  go_wp2_with fail
  refine (rnew_yes c s.ds ao s.ds.length cap w4 hc).mono ?_
  rintro e w5 ⟨rb, rfl, hrb, hb5, hr5⟩
  have HB5 := hide hb5
  have HR5 := hide hr5
  have H5 := hide (((unhide HC).mono (unhide HB4)).mono hb5)
  clear hb5 hr5 a0 a1 a2 a3 a4 a5
  rw [show (Value.nilIface) = errV 0 from rfl]
  generalize hev : errV 0 = ev
  have HEV := hide hev
  clear hev
  go_wp2_with fail
  rw [← unhide HEV]
  refine (ltold_any 0 w5 ((unhide H5).gate hlt (unhide HGT))).mono ?_
  rintro e w6 ⟨rfl, hb6⟩
  have H6 := hide ((unhide H5).mono hb6)
  have HB6 := hide hb6
  clear hb6 H5
  rw [unhide HEV]
  go_wp2_with fail
  rw [← unhide HEV]
  refine (ltold_any 0 w6 ((unhide H6).gate hlt (unhide HGT))).mono ?_
  rintro e w7 ⟨rfl, hb7⟩
  have HB57 := hide ((unhide HB6).trans (hb7.mono (unhide HB6).size))
  have HB7 := hide hb7
  clear hb7 H6 HB6
  go_wp2
  go_ret2
  have hB8 : Below w7.heap.size w7 (w7.alloc (.cells #[.pointer (some ⟨xn, 0, none⟩), .pointer (some ⟨yn, 0, none⟩), .pointer (some ⟨rb, 0, none⟩)] 88)) := (Below.refl _ _).alloc (Nat.le_refl _) _
  have hb8 := heap_alloc_new w7 (.cells #[.pointer (some ⟨xn, 0, none⟩), .pointer (some ⟨yn, 0, none⟩), .pointer (some ⟨rb, 0, none⟩)] 88)
  have z1 := (unhide HB5).size
  have z2 := (unhide HB57).size
  have z3 := (unhide HB24).size
  have z4 := (unhide HB4).size
  have B58 := (unhide HB57).trans (hB8.mono z2)
  have B48 := (unhide HB5).trans (B58.mono z1)
  have B28 := (unhide HB24).trans (B48.mono z3)
  have B08 := (unhide HB4).trans (B48.mono z4)
  have hx8 := (unhide HX2).below B28
  have hy8 := (unhide HY4).below B48
  have hrlt : rb < w5.heap.size := lt_blk (unhide HR5)
  have hr8 := (B58.block rb hrlt).trans (unhide HR5)
  have lx : ∀ k ∈ (⟨xn, xm, xc, .slice none 0 0, .slice none 0 0, Nd.new c s.ds⟩ : Nn).feet, k < w2.heap.size := fun k hk => NAt.feet_lt (unhide HX2) k hk
  have ly : ∀ k ∈ (⟨yn, ym, yc, .slice none 0 0, .slice none 0 0, Nd.new c s.ds⟩ : Nn).feet, k < w4.heap.size := fun k hk => NAt.feet_lt (unhide HY4) k hk
  have lr : ∀ k ∈ rfeet rb (rv0 (.slice ao s.ds.length cap)), k = rb := fun k hk => by simpa [rfeet, Rv.all, rv0, Value.ownBlock] using hk
  refine ⟨⟨w7.heap.size, ⟨xn, xm, xc, .slice none 0 0, .slice none 0 0, Nd.new c s.ds⟩, ⟨yn, ym, yc, .slice none 0 0, .slice none 0 0, Nd.new c s.ds⟩, rb, rv0 (.slice ao s.ds.length cap), Rn.new c s.ds⟩, rfl, ?_, ?_, rfl, rfl, rfl, (unhide HDF).symm⟩
  · refine ((unhide HC).mono B08).mineA _ (fun q hq => ?_) (fun q hq k hk => ?_)
    · simp only [newA, List.mem_cons, List.not_mem_nil, or_false] at hq
      rcases hq with rfl | rfl | rfl | rfl
      · exact hx8
      · exact hy8
      · exact ⟨hr8, ⟨World.ownsRow_nil _ _ _ _, World.ownsRow_nil _ _ _ _, World.ownsRow_nil _ _ _ _, World.ownsRow_nil _ _ _ _, World.ownsRow_nil _ _ _ _, World.ownsRow_nil _ _ _ _⟩⟩
      · exact hb8
    · have hge : W0.heap.size ≤ k := by
        simp only [newA, List.mem_cons, List.not_mem_nil, or_false] at hq
        rcases hq with rfl | rfl | rfl | rfl
        · exact unhide HFX k hk
        · have := unhide HFY k hk; omega
        · have := lr k hk; omega
        · simp [cellsT] at hk; omega
      obtain ⟨b1, b2⟩ := (unhide HC).beyond hge
      exact ⟨b1, fun j _ => b2 j⟩
  · refine ⟨fun k hk hk' => ?_, fun k hk hk' => ?_, fun k hk hk' => ?_, fun hk => ?_, fun hk => ?_, fun hk => ?_⟩
    · have := lx k hk; have := unhide HFY k hk'; omega
    · have := lx k hk; have := lr k hk'; omega
    · have := ly k hk; have := lr k hk'; omega
    · have := lx w7.heap.size hk; omega
    · have := ly w7.heap.size hk; omega
    · have := lr w7.heap.size hk; omega
/-- The new node is one of the script's. -/
theorem VS.addN {wb : Nat} {s : Sg} {w W W1 W2 : World} {t : Nt} (h : VS wb { s with a := newA t } w W) (hap : Ap t) (hb : Below W.heap.size W W1) (hg : W1.grownBy W2 s.nv.ownBlock) (v' : Value) (hown : W2.ownsRow 0 51 1 v' (s.ns.length + 1) ((s.ns.map fun n => .pointer (some ⟨n.b, 0, none⟩)) ++ [.pointer (some ⟨t.b, 0, none⟩)])) (hat : v'.ownBlock = s.nv.ownBlock ∨ v'.ownBlock = some W1.heap.size) :
    VS wb { s with a := [], nv := v', ns := s.ns ++ [t], fz := recT t :: s.fz } w (W2.setCell ⟨wb, 14, none⟩ v') ∧ W2.heap[wb]? = some (.cells s.cells 41 (0, 0)) := by
  have hT : ∀ q, q ≠ Ix.ta → ({ s with a := newA t } : Sg).th wb q = s.th wb q := fun q hq => by cases q <;> first | rfl | exact absurd rfl hq
  have hf : Frm (({ s with a := newA t } : Sg).th wb .nd).feet W1 W2 := Frm.of_grown hg (fun k e => .inl (by simp [Sg.th, rowT, e]))
  have hw : wb ∉ (({ s with a := newA t } : Sg).th wb .nd).feet := fun hm => Sep.apart h .nd .wb (by simp) wb hm (by simp [Sg.th, cellsT])
  have hblk : W2.heap[wb]? = some (.cells s.cells 41 (0, 0)) := (hf.block wb (lt_blk (h.mono hb).blk) hw).trans (h.mono hb).blk
  refine ⟨?_, hblk⟩
  have h2 : Sep w.heap.size w (W2.setCell ⟨wb, 14, none⟩ v') (fun (q : Ix) => match q with
      | .nd => nodesT v' (s.ns ++ [t])
      | .wb => cellsT wb ({ s with nv := v' } : Sg).cells 41
      | q => ({ s with a := newA t } : Sg).th wb q) := by
    refine (Sep.upd2 (T' := (fun (q : Ix) => match q with
      | .nd => nodesT v' (s.ns ++ [t])
      | .wb => cellsT wb ({ s with nv := v' } : Sg).cells 41
      | q => ({ s with a := newA t } : Sg).th wb q)) (h.mono hb) .nd .wb (by simp) hf ?_ (fun k hk => ?_) (frm_cell W2 wb 14 v') ?_ (fun k hk => .inl hk) (fun q h1 h2 => by cases q <;> first | rfl | exact absurd rfl h1 | exact absurd rfl h2)).1
    · simpa [rowT] using hown
    · simp only [Sg.th, rowT, Option.mem_toList] at hk ⊢
      rcases hat with e | e
      · exact .inl (e ▸ hk)
      · rw [e] at hk; cases hk; exact .inr (Nat.le_refl _)
    · show (W2.setCell ⟨wb, 14, none⟩ v').heap[wb]? = some (.cells _ _ (0, 0))
      rw [heap_setCell_same _ _ _ _ _ _ hblk]
      rfl
  generalize W2.setCell ⟨wb, 14, none⟩ v' = W3 at h2
  have hA : ∀ q ∈ newA t, q.rd W3 := h2.rd .ta
  have old : ∀ j, j ≠ s.ns.length → ∀ f, onN (s.ns ++ [t]) j f = onN s.ns j f := fun j hj f => by
    unfold onN
    by_cases e : j < s.ns.length
    · rw [List.getElem?_append_left e]
    · rw [List.getElem?_eq_none (by simp; omega), List.getElem?_eq_none (by omega)]
  have new : ∀ f, onN (s.ns ++ [t]) s.ns.length f = f t := fun f => by
    unfold onN
    simp
  have non : ∀ f, onN s.ns s.ns.length f = Th.no := fun f => by
    unfold onN
    rw [List.getElem?_eq_none (Nat.le_refl _)]
  have inx : ∀ k ∈ t.x.feet, k ∈ (Th.all (newA t)).feet := fun k hk => List.mem_flatMap.2 ⟨nodeT t.x, by simp, hk⟩
  have iny : ∀ k ∈ t.y.feet, k ∈ (Th.all (newA t)).feet := fun k hk => List.mem_flatMap.2 ⟨nodeT t.y, by simp, hk⟩
  have inr : ∀ k ∈ rfeet t.rb t.rv, k ∈ (Th.all (newA t)).feet := fun k hk => List.mem_flatMap.2 ⟨refT t.rb t.rv t.r, by simp, hk⟩
  have inb : t.b ∈ (Th.all (newA t)).feet := List.mem_flatMap.2 ⟨recT t, by simp, by simp [cellsT]⟩
  obtain ⟨T, hTT⟩ : ∃ T : Ix → Th, T = (fun (q : Ix) => match q with
      | .nd => nodesT v' (s.ns ++ [t])
      | .wb => cellsT wb ({ s with nv := v' } : Sg).cells 41
      | q => ({ s with a := newA t } : Sg).th wb q) := ⟨_, rfl⟩
  have org : ∀ q, ∀ k ∈ (({ s with a := [], nv := v', ns := s.ns ++ [t], fz := recT t :: s.fz } : Sg).th wb q).feet, (q ≠ Ix.ta ∧ k ∈ (T q).feet) ∨ (q = .x s.ns.length ∧ k ∈ t.x.feet) ∨ (q = .y s.ns.length ∧ k ∈ t.y.feet) ∨ (q = .r s.ns.length ∧ k ∈ rfeet t.rb t.rv) ∨ (q = .fz ∧ k = t.b) := by
    intro q k hk
    cases q with
    | ta => exact absurd hk (by simp [Sg.th, Th.all])
    | fz =>
      obtain ⟨r, hr, hk2⟩ := List.mem_flatMap.1 hk
      rcases List.mem_cons.1 hr with rfl | hr
      · exact .inr (.inr (.inr (.inr ⟨rfl, by simpa [cellsT] using hk2⟩)))
      · exact .inl ⟨by simp, by rw [hTT]; exact List.mem_flatMap.2 ⟨r, hr, hk2⟩⟩
    | x j =>
      by_cases e : j = s.ns.length
      · subst e
        refine .inr (.inl ⟨rfl, ?_⟩)
        have hk : k ∈ (onN (s.ns ++ [t]) s.ns.length (fun n => nodeT n.x)).feet := hk
        rw [new] at hk; exact hk
      · refine .inl ⟨by simp, ?_⟩
        have hk : k ∈ (onN (s.ns ++ [t]) j (fun n => nodeT n.x)).feet := hk
        rw [old j e] at hk; rw [hTT]; exact hk
    | y j =>
      by_cases e : j = s.ns.length
      · subst e
        refine .inr (.inr (.inl ⟨rfl, ?_⟩))
        have hk : k ∈ (onN (s.ns ++ [t]) s.ns.length (fun n => nodeT n.y)).feet := hk
        rw [new] at hk; exact hk
      · refine .inl ⟨by simp, ?_⟩
        have hk : k ∈ (onN (s.ns ++ [t]) j (fun n => nodeT n.y)).feet := hk
        rw [old j e] at hk; rw [hTT]; exact hk
    | r j =>
      by_cases e : j = s.ns.length
      · subst e
        refine .inr (.inr (.inr (.inl ⟨rfl, ?_⟩)))
        have hk : k ∈ (onN (s.ns ++ [t]) s.ns.length (fun n => refT n.rb n.rv n.r)).feet := hk
        rw [new] at hk; exact hk
      · refine .inl ⟨by simp, ?_⟩
        have hk : k ∈ (onN (s.ns ++ [t]) j (fun n => refT n.rb n.rv n.r)).feet := hk
        rw [old j e] at hk; rw [hTT]; exact hk
    | wb => exact .inl ⟨by simp, by rw [hTT]; exact hk⟩
    | tx => exact .inl ⟨by simp, by rw [hTT]; exact hk⟩
    | nd => exact .inl ⟨by simp, by rw [hTT]; exact hk⟩
    | ow => exact .inl ⟨by simp, by rw [hTT]; exact hk⟩
    | ls => exact .inl ⟨by simp, by rw [hTT]; exact hk⟩
    | ws => exact .inl ⟨by simp, by rw [hTT]; exact hk⟩
    | os => exact .inl ⟨by simp, by rw [hTT]; exact hk⟩
    | ks => exact .inl ⟨by simp, by rw [hTT]; exact hk⟩
    | tb => exact .inl ⟨by simp, by rw [hTT]; exact hk⟩
  have hTa : ∀ q, q ≠ Ix.ta → ∀ k ∈ (T q).feet, k ∉ (Th.all (newA t)).feet := fun q hq k hk hk' => by
    rw [hTT] at hk
    exact h2.apart q .ta hq k hk hk'
  refine ⟨fun q => ?_, fun q q' hne k hk hk' => ?_, fun q k hk => ?_, h2.below, h2.top⟩
  · cases q with
    | ta => intro r hr; cases hr
    | fz =>
      intro r hr
      rcases List.mem_cons.1 hr with rfl | hr
      · exact hA _ (by simp)
      · exact h2.rd .fz r hr
    | x j =>
      by_cases e : j = s.ns.length
      · subst e
        show (onN (s.ns ++ [t]) s.ns.length _).rd W3
        rw [new]; exact hA _ (by simp)
      · show (onN (s.ns ++ [t]) j _).rd W3
        rw [old j e]; exact h2.rd (.x j)
    | y j =>
      by_cases e : j = s.ns.length
      · subst e
        show (onN (s.ns ++ [t]) s.ns.length _).rd W3
        rw [new]; exact hA _ (by simp)
      · show (onN (s.ns ++ [t]) j _).rd W3
        rw [old j e]; exact h2.rd (.y j)
    | r j =>
      by_cases e : j = s.ns.length
      · subst e
        show (onN (s.ns ++ [t]) s.ns.length _).rd W3
        rw [new]; exact hA _ (by simp)
      · show (onN (s.ns ++ [t]) j _).rd W3
        rw [old j e]; exact h2.rd (.r j)
    | wb => exact h2.rd .wb
    | tx => exact h2.rd .tx
    | nd => exact h2.rd .nd
    | ow => exact h2.rd .ow
    | ls => exact h2.rd .ls
    | ws => exact h2.rd .ws
    | os => exact h2.rd .os
    | ks => exact h2.rd .ks
    | tb => exact h2.rd .tb
  · rcases org q k hk with ⟨h1, h1'⟩ | ⟨rfl, h1⟩ | ⟨rfl, h1⟩ | ⟨rfl, h1⟩ | ⟨rfl, rfl⟩
    · rcases org q' k hk' with ⟨g1, g1'⟩ | ⟨rfl, g1⟩ | ⟨rfl, g1⟩ | ⟨rfl, g1⟩ | ⟨rfl, rfl⟩
      · rw [hTT] at h1' g1'
        exact h2.apart q q' hne k h1' g1'
      · exact hTa q h1 k h1' (inx k g1)
      · exact hTa q h1 k h1' (iny k g1)
      · exact hTa q h1 k h1' (inr k g1)
      · exact hTa q h1 _ h1' inb
    · rcases org q' k hk' with ⟨g1, g1'⟩ | ⟨rfl, g1⟩ | ⟨rfl, g1⟩ | ⟨rfl, g1⟩ | ⟨rfl, rfl⟩
      · exact hTa q' g1 k g1' (inx k h1)
      · exact hne rfl
      · exact hap.xy k h1 g1
      · exact hap.xr k h1 g1
      · exact hap.xb h1
    · rcases org q' k hk' with ⟨g1, g1'⟩ | ⟨rfl, g1⟩ | ⟨rfl, g1⟩ | ⟨rfl, g1⟩ | ⟨rfl, rfl⟩
      · exact hTa q' g1 k g1' (iny k h1)
      · exact hap.xy k g1 h1
      · exact hne rfl
      · exact hap.yr k h1 g1
      · exact hap.yb h1
    · rcases org q' k hk' with ⟨g1, g1'⟩ | ⟨rfl, g1⟩ | ⟨rfl, g1⟩ | ⟨rfl, g1⟩ | ⟨rfl, rfl⟩
      · exact hTa q' g1 k g1' (inr k h1)
      · exact hap.xr k g1 h1
      · exact hap.yr k g1 h1
      · exact hne rfl
      · exact hap.rb h1
    · rcases org q' _ hk' with ⟨g1, g1'⟩ | ⟨rfl, g1⟩ | ⟨rfl, g1⟩ | ⟨rfl, g1⟩ | ⟨rfl, _⟩
      · exact hTa q' g1 _ g1' inb
      · exact hap.xb g1
      · exact hap.yb g1
      · exact hap.rb g1
      · exact hne rfl
  · rcases org q k hk with ⟨h1, h1'⟩ | ⟨rfl, h1⟩ | ⟨rfl, h1⟩ | ⟨rfl, h1⟩ | ⟨rfl, rfl⟩
    · rw [hTT] at h1'
      exact h2.low q k h1'
    · exact h2.low .ta k (inx k h1)
    · exact h2.low .ta k (iny k h1)
    · exact h2.low .ta k (inr k h1)
    · exact h2.low .ta _ inb
end Go.Proofs.YtnneljcbelgoeaaGreatDoor.wire
/- gossiplaw's step over nodes: Decode, New. -/
namespace Go.Proofs.YtnneljcbelgoeaaGreatDoor.wire
open Go.RowKit Go.Maps
theorem VI.msg {n : Nat} {s : Sg} (h : VI n s) (m : M6) (uv : Value) (hm : m.ups.length ≤ 8) : VI (n + 1) { s with m := m, uv := uv, fz := rkeysT uv m.ups :: s.fz } := h.setM m uv (by omega)
set_option maxRecDepth 100000 in
set_option maxHeartbeats 1000000 in
theorem vstep_dec (n wb : Nat) (s : Sg) (w W : World) (h : VV n wb s w W) (hn : n ≤ 18000) (o : Op8) (hk : o.kind = 6) (ho : o.ok) (hg : w.cell? ⟨0, 0, none⟩ = some (.iface 207 (.agg #[.pointer (some ⟨1, 64, none⟩)]))) (hlt : 0 < w.heap.size) :
    Calls Tryz.prog 10 #[.pointer (some ⟨wb, 0, none⟩), opv o] W fun e W' => e = .returned (.bool true) ∧ ∃ s', VV (n + 1) wb s' w W' := by
  have HC := hide h
  clear h
  have HO := hide (fun V => vowner_no wb V o (by unfold noneOwn; omega))
  have ha0 := ho.a0
  have ha1 := ho.a1
  clear ho
  obtain ⟨kind, a, b, c, d, e, x, S⟩ := o
  simp only at hk ha0 ha1
  subst hk
  go_enter Tryz.func10, Tryz.ntmps10
  go_wp2_with fail
  refine (unhide HO _).mono ?_
  rintro e w1 ⟨rfl, hb⟩
  have hC1 := (unhide HC).enter _ hb
  have hbx := (hb.block W.heap.size (by simp)).trans (heap_alloc_new W _)
  have p0 : w1.cell? ⟨W.heap.size, 0, none⟩ = some (.int .i64 6) := cell_at hbx 0
  have p2 : w1.cell? ⟨W.heap.size, 2, none⟩ = some (.int .i64 a) := cell_at hbx 2
  have HC1 := hide hC1
  have HB := hide (unhide HC).vi
  clear hC1 hbx hb HC HO
  go_wp2_with fail
  refine (text_s wb s w w1 (unhide HC1).vs (by have := (unhide HB).tn; omega) (unhide HB).tl a ha0 ha1).mono ?_
  rintro e' w2 ⟨l, rfl, hl, k, rfl⟩
  have HC2 := hide ((unhide HC1).vs.draws k)
  generalize w1.drewN k = w2 at HC2 ⊢
  clear p0 p2 HC1
  have hll := (unhide HB).ll
  have hmk := (unhide HB).m1
  have hmk0 := (unhide HB).m0
  have hlw := (unhide HB).hd.lw
  have HLW := hide hlw
  clear hlw
  cases hd : decB l
  · go_wp2_with fail
    refine (decoded_no l w2 (by omega) hd ((unhide HC2).gate hlt hg)).mono ?_
    rintro e' w3 ⟨rfl, hb3⟩
    have h3 := (((unhide HC2).fresh hb3 (Nat.le_refl _) (World.ownsRow_nil w3 w2.heap.size 58 3)).mineA [keysT (.slice none 0 0) []] (by intro q hq; simp at hq; subst hq; exact World.ownsRow_nil _ _ _ _) (fun q hq k hk => by simp at hq; subst hq; simp [rowT, Value.ownBlock] at hk))
    have hcells : ∀ j, w3.cell? ⟨wb, j, none⟩ = s.cells[j]? := h3.cell
    have hfree : ∀ j, w3.frozen? ⟨wb, j, none⟩ = false := h3.free
    have HC4 := hide (h3.setM M6.zero (.slice none 0 0))
    clear h3 hb3 HC2
    go_wp2_with fail
    clear hcells hfree
    generalize ((((((w3.setCell ⟨wb, 1, none⟩ (.int .i64 (M6.zero).kind)).setCell ⟨wb, 2, none⟩ (.int .i64 (M6.zero).frm)).setCell ⟨wb, 3, none⟩ (.int .i64 (M6.zero).inc)).setCell ⟨wb, 4, none⟩ (.int .i64 (M6.zero).seq)).setCell ⟨wb, 5, none⟩ (.int .i64 (M6.zero).tgt)).setCell ⟨wb, 6, none⟩ (.slice none 0 0)) = w4 at HC4 ⊢
    refine (keep_s wb _ w w4 (unhide HC4) (by simp only; omega) (by simp only; rw [unhide HLW]; omega) hmk0 (by simp only; omega) (.slice none 0 0) [] (by simp) rfl).mono ?_
    rintro e' w5 ⟨rfl, lv, wv, x1, y1, z1, L, LL, hL, hLL, h5⟩
    have HF : Hid (VV (n + 1) wb _ w w5) := hide ⟨h5, ((unhide HB).msg M6.zero (.slice none 0 0) (by simp [M6.zero])).kept hll hmk ([] : List K3).length (by simp) (.slice none 0 0) x1 y1 z1 lv wv L LL (by simp at hL; simp [hL]) (by simp at hLL; omega)⟩
    clear h5 HC4 HB
    go_wp2_with fail
    refine (looks_s wb _ w w5 (unhide HF).vs (unhide HF).vi.hd (by have := (unhide HF).vi.ll; omega) (by have := (unhide HF).vi.ol; omega)).mono ?_
    rintro e' w6 ⟨rfl, k6, rfl⟩
    go_wp2
    go_ret
    exact ⟨rfl, _, (unhide HF).vs.draws k6, (unhide HF).vi⟩
  · go_wp2_with fail
    refine (decoded_yes l w2 (by omega) hd).mono ?_
    rintro e' w3 ⟨vr, va, rfl, hr3, ha3, hlen, hb3⟩
    rw [kcells_flat] at hr3 ha3
    obtain ⟨ro, rc, hrf, _⟩ := row_form hr3
    obtain ⟨so, sc, hsf, _⟩ := row_form ha3
    subst hrf
    subst hsf
    have h3 := (((unhide HC2).fresh hb3 (Nat.le_refl _) hr3).mineA [keysT (.slice so (readM l).ups.length sc) (readM l).ups] (by intro q hq; simp at hq; subst hq; exact own_mono ha3 (Nat.zero_le _)) (fun q hq k hk => by
      simp at hq; subst hq
      have hk' : (Value.slice so (readM l).ups.length sc).ownBlock = some k := by simpa [rowT] using hk
      have hlo := (own_lt ha3 hk').1
      obtain ⟨b1, b2⟩ := (unhide HC2).beyond hlo
      refine ⟨b1, fun j hj hm => ?_⟩
      by_cases ej : j = .fz
      · subst ej
        obtain ⟨r, hr, hk2⟩ := List.mem_flatMap.1 hm
        rcases List.mem_cons.1 hr with rfl | hr
        · exact own_ne ha3 hr3 (by decide) k hk' (by simpa [rowT] using hk2)
        · exact b2 .fz (List.mem_flatMap.2 ⟨r, hr, hk2⟩)
      · refine b2 j ?_
        cases j <;> first | exact hm | exact absurd rfl ej))
    have hcells : ∀ j, w3.cell? ⟨wb, j, none⟩ = s.cells[j]? := h3.cell
    have hfree : ∀ j, w3.frozen? ⟨wb, j, none⟩ = false := h3.free
    have HC4 := hide (h3.setM (readM l) (.slice ro (readM l).ups.length rc))
    clear h3 hb3 HC2 hr3 ha3
    go_wp2_with fail
    clear hcells hfree
    generalize ((((((w3.setCell ⟨wb, 1, none⟩ (.int .i64 ((readM l)).kind)).setCell ⟨wb, 2, none⟩ (.int .i64 ((readM l)).frm)).setCell ⟨wb, 3, none⟩ (.int .i64 ((readM l)).inc)).setCell ⟨wb, 4, none⟩ (.int .i64 ((readM l)).seq)).setCell ⟨wb, 5, none⟩ (.int .i64 ((readM l)).tgt)).setCell ⟨wb, 6, none⟩ (.slice ro (readM l).ups.length rc)) = w4 at HC4 ⊢
    refine (keep_s wb _ w w4 (unhide HC4) (by simp only; omega) (by simp only; rw [unhide HLW]; omega) hmk0 (by simp only; omega) (.slice so (readM l).ups.length sc) (readM l).ups (by omega) rfl).mono ?_
    rintro e' w5 ⟨rfl, lv, wv, x1, y1, z1, L, LL, hL, hLL, h5⟩
    have HF : Hid (VV (n + 1) wb _ w w5) := hide ⟨h5, ((unhide HB).msg (readM l) (.slice ro (readM l).ups.length rc) hlen).kept hll hmk (readM l).ups.length (by omega) (.slice so (readM l).ups.length sc) x1 y1 z1 lv wv L LL (by omega) (by omega)⟩
    clear h5 HC4 HB
    go_wp2_with fail
    refine (looks_s wb _ w w5 (unhide HF).vs (unhide HF).vi.hd (by have := (unhide HF).vi.ll; omega) (by have := (unhide HF).vi.ol; omega)).mono ?_
    rintro e' w6 ⟨rfl, k6, rfl⟩
    go_wp2
    go_ret
    exact ⟨rfl, _, (unhide HF).vs.draws k6, (unhide HF).vi⟩
theorem infoPN : (Tryz.prog.info? 51).map (fun i => (i.zero, i.size, i.bytes)) = some (some (.pointer none), 1, 8) := by kernel_rfl
theorem etyPN : Ety Tryz.prog 36 51 1 8 := ety_of Tryz.underlying36 infoPN rfl (by omega) (by omega)
theorem VI.addN {n : Nat} {s : Sg} (h : VI n s) (t : Nt) (v' : Value) (hk : Nk (n + 1) (recT t :: s.fz) t) : VI (n + 1) { s with a := [], nv := v', ns := s.ns ++ [t], fz := recT t :: s.fz } := by
  have u := h.up
  have hf : ∀ q ∈ s.fz, q ∈ recT t :: s.fz := fun q hq => List.mem_cons_of_mem _ hq
  refine { u with uf := hf _ u.uf, df := hf _ u.df, nn := by simp; exact h.nn, nk := fun k hk' => ?_, hd := u.hd.of rfl rfl rfl rfl hf, a := rfl }
  rcases List.mem_append.1 hk' with hk' | hk'
  · exact (u.nk k hk').up (Nat.le_refl _) hf
  · simp at hk'; subst hk'; exact hk
set_option maxRecDepth 100000 in
set_option maxHeartbeats 1000000 in
theorem vstep_new (n wb : Nat) (s : Sg) (w W : World) (h : VV n wb s w W) (hn : n ≤ 18000) (o : Op8) (hk : o.kind = 9) (hg : w.cell? ⟨0, 0, none⟩ = some (.iface 207 (.agg #[.pointer (some ⟨1, 64, none⟩)]))) (hlt : 0 < w.heap.size) :
    Calls Tryz.prog 10 #[.pointer (some ⟨wb, 0, none⟩), opv o] W fun e W' => e = .returned (.bool true) ∧ ∃ s', VV (n + 1) wb s' w W' := by
  have HC := hide h
  clear h
  have HO := hide (fun V => vowner_no wb V o (by unfold noneOwn; omega))
  obtain ⟨kind, a, b, c, d, e, x, S⟩ := o
  simp only at hk
  subst hk
  go_enter Tryz.func10, Tryz.ntmps10
  go_wp2_with fail
  refine (unhide HO _).mono ?_
  rintro e w1 ⟨rfl, hb⟩
  have hC1 := (unhide HC).enter _ hb
  have hbx := (hb.block W.heap.size (by simp)).trans (heap_alloc_new W _)
  have p0 : w1.cell? ⟨W.heap.size, 0, none⟩ = some (.int .i64 9) := cell_at hbx 0
  have p2 : w1.cell? ⟨W.heap.size, 2, none⟩ = some (.int .i64 a) := cell_at hbx 2
  have hcells : ∀ j, w1.cell? ⟨wb, j, none⟩ = s.cells[j]? := hC1.vs.cell
  have hbl := lt_blk hbx
  have hwl := hC1.vs.lt
  have HC1 := hide hC1
  clear hC1 hbx hb HC HO
  have hp := (unhide HC1).vi.c
  obtain ⟨C, hCC⟩ : ∃ C : Cfg, C = ⟨a, s.c.period, s.c.wait, s.c.suspect, s.c.proxies, s.c.sends⟩ := ⟨_, rfl⟩
  have hp2 : C.period ≤ 9223372036854775807 := by rw [hCC]; exact hp.2
  have H2 := hide ((unhide HC1).vs.alloc (.cells #[.int .i64 a, .int .i64 s.c.period, .int .i64 s.c.wait, .int .i64 s.c.suspect, .int .i64 s.c.proxies, .int .i64 s.c.sends] 35))
  have HB2 := hide (heap_alloc_new w1 (.cells #[.int .i64 a, .int .i64 s.c.period, .int .i64 s.c.wait, .int .i64 s.c.suspect, .int .i64 s.c.proxies, .int .i64 s.c.sends] 35))
  have HV := hide (unhide HC1).vi
  obtain ⟨ao, cap, hdf, _⟩ := row_form (show w1.ownsRow 0 3 1 s.dv s.ds.length (s.ds.flatMap intC) from (unhide HC1).vs.has (unhide HC1).vi.df)
  have HDF := hide hdf
  clear hdf hp
  have hvC : cfgV C = .agg #[.int .i64 a, .int .i64 s.c.period, .int .i64 s.c.wait, .int .i64 s.c.suspect, .int .i64 s.c.proxies, .int .i64 s.c.sends] := by rw [hCC]
  have HVC := hide hvC
  have HCC := hide hCC
  clear hCC hvC
  go_wp2_with fail
  clear hcells p0 p2
  generalize w1.alloc (.cells #[.int .i64 a, .int .i64 s.c.period, .int .i64 s.c.wait, .int .i64 s.c.suspect, .int .i64 s.c.proxies, .int .i64 s.c.sends] 35) = W2 at H2 HB2 ⊢
  have b0 := cell_at (unhide HB2) 0
  have b1 := cell_at (unhide HB2) 1
  have b2 := cell_at (unhide HB2) 2
  have b3 := cell_at (unhide HB2) 3
  have b4 := cell_at (unhide HB2) 4
  have b5 := cell_at (unhide HB2) 5
  have c7 : W2.cell? ⟨wb, 7, none⟩ = some s.dv := (unhide H2).cell 7
  rw [unhide HDF] at c7
  simp only [List.getElem?_toArray, List.getElem?_cons_zero, List.getElem?_cons_succ] at b0 b1 b2 b3 b4 b5
  have hl2 := lt_blk (unhide HB2)
  have hwl2 := (unhide H2).lt
  cases hcf : cfgB C
  · have HM : Hid (∀ Y, Below W2.heap.size W2 Y → _) := hide (fun Y (hY : Below W2.heap.size W2 Y) => made_no wb s w Y ((unhide H2).mono hY) n (unhide HV) hn C hp2 hcf hg hlt)
    rw [unhide HVC, unhide HDF] at HM
    go_region_with (go_at_call 17; refine (unhide HM _ (below_draws (Below.refl _ _) _)).mono ?_; rintro e' w3 ⟨rfl, h3⟩)
    all_goals
      have H3 := hide h3
      clear h3 HM b0 b1 b2 b3 b4 b5 c7
      go_wp2
      go_ret
      exact ⟨rfl, _, unhide H3, (unhide HV).up⟩
  · have HM : Hid (∀ Y, Below W2.heap.size W2 Y → _) := hide (fun Y (hY : Below W2.heap.size W2 Y) => made_yes wb s w Y ((unhide H2).mono hY) n (unhide HV) hn C hcf hg hlt)
    rw [unhide HVC] at HM
    rw [show (#[(Value.agg #[.int .i64 a, .int .i64 s.c.period, .int .i64 s.c.wait, .int .i64 s.c.suspect, .int .i64 s.c.proxies, .int .i64 s.c.sends]), s.dv] : Array Value) = #[(Value.agg #[.int .i64 a, .int .i64 s.c.period, .int .i64 s.c.wait, .int .i64 s.c.suspect, .int .i64 s.c.proxies, .int .i64 s.c.sends]), .slice ao s.ds.length cap] by rw [unhide HDF]] at HM
    go_region_with (go_at_call 17; refine (unhide HM _ (below_draws (Below.refl _ _) _)).mono ?_; rintro e' w3 ⟨t, rfl, h3, hap, hx, hy, hr, hrd⟩)
    all_goals
      have hnk : Nk (n + 1) (recT t :: s.fz) t := ⟨List.mem_cons_self .., by rw [hrd, hr]; exact List.mem_cons_of_mem _ (unhide HV).df, by rw [hx, hy], by rw [hx, hr]; exact (Gh.made hcf s.ds ⟨(unhide HV).dr, by have := (unhide HV).dn; omega⟩).mono (by omega)⟩
      have c14 : w3.cell? ⟨wb, 14, none⟩ = some s.nv := h3.cell 14
      have hnrow : w3.ownsRow 0 51 1 s.nv s.ns.length (s.ns.map fun n => .pointer (some ⟨n.b, 0, none⟩)) := Sep.rd h3 .nd
      have hnn := (unhide HV).nn
      have hw3 := h3.lt
      have H3 := hide h3
      have HNK := hide hnk
      have HNR := hide hnrow
      have HAP := hide hap
      clear h3 hnk hnrow HM b0 b1 b2 b3 b4 b5 c7 hx hy hr hrd hap
      go_wp2_with (at_builtin; refine wpList_app rfl _ _ rfl etyPN 0 rfl rfl ((unhide HNR).alloc _) (Src.box (cs := [.pointer (some ⟨t.b, 0, none⟩)]) 1 1 1 (by exact heap_alloc_new w3 _) rfl) (by simp [Value.oneCell']) (by omega) (by omega) ?_)
      intro v4 w4 hown4 hgrow4 hat4
      obtain ⟨vo, vc, hvf, _⟩ := row_form hown4
      subst hvf
      have hP := (unhide H3).addN (unhide HAP) ((Below.refl _ _).alloc (Nat.le_refl _) _) hgrow4 _ hown4 (hat4.imp id (fun e => by rw [e]; simp))
      have d14 : w4.cell? ⟨wb, 14, none⟩ = some s.nv := cell_at hP.2 14
      have e14 : w4.frozen? ⟨wb, 14, none⟩ = false := free_at hP.2 14
      have HP := hide hP.1
      clear hP hown4 hgrow4 hat4 H3 c14 HNR
      go_wp2
      go_ret
      exact ⟨rfl, _, unhide HP, (unhide HV).addN t _ (unhide HNK)⟩
end Go.Proofs.YtnneljcbelgoeaaGreatDoor.wire
/- gossiplaw's upTo over nodes: whatever the script. -/
namespace Go.Proofs.YtnneljcbelgoeaaGreatDoor.wire
open Go.RowKit Go.Maps
theorem vstep_any (n wb : Nat) (s : Sg) (w W : World) (h : VV n wb s w W) (hn : n ≤ 18000) (o : Op8) (ho : o.okx) (hg : w.cell? ⟨0, 0, none⟩ = some (.iface 207 (.agg #[.pointer (some ⟨1, 64, none⟩)]))) (hlt : 0 < w.heap.size) :
    Calls Tryz.prog 10 #[.pointer (some ⟨wb, 0, none⟩), opv o] W fun e W' => e = .returned (.bool true) ∧ ∃ s', VV (n + 1) wb s' w W' := by
  by_cases hown : Op8.own o.kind
  · exact vstep_own n wb s w W h hn o hown ⟨ho.a0, ho.a1, ho.b0, ho.b1, ho.s⟩
  have hno : noneOwn o.kind := by unfold Op8.own at hown; unfold noneOwn; omega
  by_cases h5 : o.kind = 5
  · exact vstep_enc n wb s w W h hn o h5 hg hlt
  by_cases h6 : o.kind = 6
  · exact vstep_dec n wb s w W h hn o h6 ⟨ho.a0, ho.a1, ho.b0, ho.b1, ho.s⟩ hg hlt
  by_cases h9 : o.kind = 9
  · exact vstep_new n wb s w W h hn o h9 hg hlt
  by_cases h11 : o.kind = 11
  · exact vstep_del n wb s w W h hn o h11 ⟨ho.a0, ho.a1, ho.b0, ho.b1, ho.s⟩
  by_cases hz : s.ns.length = 0 ∨ o.kind < 10 ∨ 18 < o.kind
  · exact vstep_none n wb s w W h o hno h5 h6 h9 h11 hz
  · unfold noneOwn at hno
    exact vstep_node n wb s w W h hn o (by omega) ⟨ho.a0, ho.a1, ho.b0, ho.b1, ho.s⟩ ho.x0 ho.x1 (by omega) hg hlt
def Sg.zero : Sg := ⟨.slice none 0 0, [], ⟨0, 0, 0, 0, 0, []⟩, .slice none 0 0, .slice none 0 0, [], ⟨0, 0, 0, 0, 0, 0⟩, .slice none 0 0, [], .slice none 0 0, [], .slice none 0 0, [], .slice none 0 0, [], .slice none 0 0, [], .slice none 0 0, [], 0, [rkeysT (.slice none 0 0) [], intsT (.slice none 0 0) []], [], []⟩
theorem zero_feet (wb : Nat) (q : Ix) (k : Nat) (hk : k ∈ (Sg.zero.th wb q).feet) : q = .wb ∧ k = wb := by
  cases q <;> simp [Sg.th, Sg.zero, rowT, cellsT, Th.all, Th.no, onN, Value.ownBlock] at hk
  exact ⟨rfl, hk⟩
theorem VV.zero (w : World) : VV 0 w.heap.size Sg.zero w (w.alloc (.cells Sg.zero.cells 41)) := by
  refine ⟨⟨fun q => ?_, fun q q' hne k hk hk' => ?_, fun q k hk => ?_, (Below.refl _ _).alloc (Nat.le_refl _) _, by simp⟩, ?_⟩
  · cases q with
    | wb => exact heap_alloc_new w _
    | fz =>
      intro t ht
      simp only [Sg.zero, List.mem_cons, List.not_mem_nil, or_false] at ht
      rcases ht with rfl | rfl
      · exact World.ownsRow_nil _ _ _ _
      · exact World.ownsRow_nil _ _ _ _
    | ta => intro t ht; cases ht
    | tb => intro t ht; cases ht
    | tx => exact World.ownsRow_nil _ _ _ _
    | nd => exact World.ownsRow_nil _ _ _ _
    | ow => exact World.ownsRow_nil _ _ _ _
    | ls => exact World.ownsRow_nil _ _ _ _
    | ws => exact World.ownsRow_nil _ _ _ _
    | os => exact World.ownsRow_nil _ _ _ _
    | ks => exact World.ownsRow_nil _ _ _ _
    | x i => simp [Sg.th, Sg.zero, onN, Th.no]
    | y i => simp [Sg.th, Sg.zero, onN, Th.no]
    | r i => simp [Sg.th, Sg.zero, onN, Th.no]
  · obtain ⟨rfl, _⟩ := zero_feet _ q k hk
    obtain ⟨rfl, _⟩ := zero_feet _ q' k hk'
    exact hne rfl
  · obtain ⟨rfl, rfl⟩ := zero_feet _ q k hk
    exact Nat.le_refl _
  · refine ⟨Nat.zero_le _, fun l hl => (by simp [Sg.zero] at hl), Nat.zero_le _, by simp [Sg.zero], by simp [Sg.zero], Nat.zero_le _, fun z hz => (by simp [Sg.zero] at hz), by simp [Sg.zero], Nat.zero_le _, fun t ht => (by simp [Sg.zero] at ht), Nat.zero_le _, fun p hp => (by simp [Sg.zero] at hp), ⟨rfl, rfl, fun i x y hx _ => (by simp [Sg.zero] at hx), fun i x y hx _ => (by simp [Sg.zero] at hx)⟩, Nat.zero_le _, Nat.zero_le _, Int.le_refl _, by simp [Sg.zero], rfl, rfl⟩
set_option maxRecDepth 100000 in
set_option maxHeartbeats 1000000 in
theorem vupTo_any (l : List Op8) (v : Value) (w : World) (hv : OpsAt w v l) (hl : l.length ≤ 16384) (hok : ∀ o ∈ l, o.okx) (hg : w.cell? ⟨0, 0, none⟩ = some (.iface 207 (.agg #[.pointer (some ⟨1, 64, none⟩)]))) (hlt : 0 < w.heap.size) :
    Calls Tryz.prog 9 #[v] w fun e w' => e = .returned (.int .i64 (-1)) ∧ Below w.heap.size w w' := by
  obtain ⟨ao, cap, rfl⟩ := hv.form
  have HV := hide hv
  have HG := hide hg
  clear hv hg
  go_enter Tryz.func9, Tryz.ntmps9
  go_wp2
  go_loopw [4] (fun i wr => ∃ (j : Nat) (s : Sg), j ≤ l.length ∧ i = .int .i64 j ∧ VV j w.heap.size s w wr) (fun i _ => l.length - (intOf i).toNat)
  case atStart => exact ⟨0, Sg.zero, Nat.zero_le _, rfl, VV.zero w⟩
  case round =>
    obtain ⟨j, s, hj, rfl, hW⟩ := hrel
    by_cases hjl : j < l.length
    · have hji : (j : Int) < (l.length : Int) := by omega
      obtain ⟨b, off, rfl, hbl, hcs⟩ := ((unhide HV).below (Sep.below hW.vs)).elem (by omega)
      obtain ⟨c0, c1, c2, c3, c4, c5, c6, c7⟩ := hcs j hjl
      have HS := hide (vstep_any j w.heap.size s w wr hW (by omega) l[j] (hok _ (List.getElem_mem hjl)) (unhide HG) hlt)
      generalize l[j] = o at c0 c1 c2 c3 c4 c5 c6 c7 HS
      clear hcs hW hbl
      go_wp2_with fail
      clear c0 c1 c2 c3 c4 c5 c6 c7
      refine (unhide HS).mono ?_
      rintro e w1 ⟨rfl, s', hs'⟩
      have HS' := hide hs'
      clear hs' HS
      go_wp2
      go_roundw
      case rel => exact ⟨j + 1, s', by omega, by go_num, unhide HS'⟩
      case measure => simp [intOf]; omega
    · have hb := hide (Sep.below hW.vs)
      clear hW
      go_wp2
      go_ret
      exact ⟨rfl, unhide hb⟩
set_option maxRecDepth 100000 in
set_option maxHeartbeats 1000000 in
theorem all_any (l : List Op8) (v : Value) (w : World) (hv : OpsAt w v l) (hl : l.length ≤ 9223372036854775807) (hs : ∀ o ∈ l, o.s.length ≤ 4611686018427387904) (ha : ∀ o ∈ l, (-9223372036854775808 ≤ o.a ∧ o.a ≤ 9223372036854775807) ∧ (-9223372036854775808 ≤ o.b ∧ o.b ≤ 9223372036854775807) ∧ -9223372036854775808 ≤ o.x ∧ o.x ≤ 9223372036854775807) (hg : w.cell? ⟨0, 0, none⟩ = some (.iface 207 (.agg #[.pointer (some ⟨1, 64, none⟩)]))) :
    Calls Tryz.prog 6 #[v] w fun e w' => e = .returned (.bool true) ∧ Below w.heap.size w w' := by
  have hlt : 0 < w.heap.size := by
    rcases Nat.eq_zero_or_pos w.heap.size with h0 | h
    · simp [World.cell?, h0] at hg
    · exact h
  obtain ⟨ao, cap, rfl⟩ := hv.form
  have HS := hide (small_any l _ w hv hl hs)
  have HV := hide hv
  have HG := hide hg
  clear hv hg
  go_enter Tryz.func6, Tryz.ntmps6
  go_wp2_with fail
  refine (unhide HS).mono ?_
  rintro e w1 ⟨rfl, hb1⟩
  have HB1 := hide hb1
  clear hb1 HS
  cases hsm : smallB l
  · go_wp2
    go_ret
    exact ⟨rfl, unhide HB1⟩
  · have hsm' : l.length + bytesW l ≤ 16384 := by simpa [smallB] using hsm
    have HU := hide (vupTo_any l _ w1 ((unhide HV).below (unhide HB1)) (by omega) (fun o ho => ⟨⟨(ha o ho).1.1, (ha o ho).1.2, (ha o ho).2.1.1, (ha o ho).2.1.2, by have := bytesW_le l o ho; omega⟩, (ha o ho).2.2.1, (ha o ho).2.2.2⟩) (((unhide HB1).cell (p := ⟨0, 0, none⟩) hlt).trans (unhide HG)) (by have := (unhide HB1).size; omega))
    go_wp2_with fail
    refine (unhide HU).mono ?_
    rintro e w2 ⟨rfl, hb2⟩
    have HB2 := hide ((unhide HB1).trans (hb2.mono (unhide HB1).size))
    clear hb2 HU
    go_wp2
    go_ret
    exact ⟨rfl, unhide HB2⟩
end Go.Proofs.YtnneljcbelgoeaaGreatDoor.wire
