/- gossiplaw's owner: a step on what the caller owns. -/
import Derived.Test.YtnneljcbelgoeaaGreatDoorText
import Derived.Test.YtnneljcbelgoeaaGreatDoorKeep
import Derived.Deep.DrawnRows
import Derived.Deep.AppendLies
namespace Go.Proofs.YtnneljcbelgoeaaGreatDoor.wire
open Go.RowKit
theorem infoStr : (Tryz.prog.info? 9).map (fun i => (i.zero, i.size, i.bytes)) = some (some (.string (bs [])), 1, 16) := by kernel_rfl
theorem bd_draws {W : World} (o : Obj) (k : Nat) : Below W.heap.size W ((W.alloc o).drewN k) := below_draws ((Below.refl _ _).alloc (Nat.le_refl _) _) k
/-- The texts' row grows by S. -/
theorem WC.pushT {wb : Nat} {s : St} {w W W1 W2 : World} (h : WC wb s w W) (hb : Below W.heap.size W W1) (hg : W1.grownBy W2 s.tv.ownBlock) (S : List UInt8) (v' : Value) (hown : W2.ownsRow (wb + 1) 9 1 v' (s.ts.length + 1) (s.ts.map (fun l => .string (bs l)) ++ [.string (bs S)])) :
    WC wb { s with tv := v', ts := s.ts ++ [S] } w (W2.setCell ⟨wb, 0, none⟩ v') ∧ W2.heap[wb]? = some (.cells s.cells 41 (0, 0)) := by
  have hr := h.rows
  have hgk : ∀ {e : TypeId} {z : Nat} {x : Value} {n : Nat} {xs : List Value}, e ≠ 9 → W.ownsRow (wb + 1) e z x n xs → W2.ownsRow (wb + 1) e z x n xs := fun he ho => keep_other ho hg hb (fun g hg1 => own_ne hr.t ho (fun e => he e.symm) g hg1)
  obtain ⟨hblk, hbel⟩ := h.grown hb hg (fun g e => (own_lt hr.t e).1)
  refine ⟨?_, hblk⟩
  have hrows : Rows4 (wb + 1) { s with tv := v', ts := s.ts ++ [S] } W2 := by
    refine ⟨by simpa using hown, hgk (by decide) hr.u, hgk (by decide) hr.d, hgk (by decide) hr.l, hgk (by decide) hr.w, hr.lw, fun i x y hx hy => ?_⟩
    obtain ⟨ks, hk, h1, h2⟩ := hr.p i x y hx hy
    exact ⟨ks, hk, hgk (by decide) h1, hgk (by decide) h2⟩
  exact WC.store hblk hbel h.low _ 0 v' rfl hrows
theorem WB.pushT {n : Nat} {s : St} (h : WB n s) (S : List UInt8) (v' : Value) (hS : S.length ≤ 17000) : WB (n + 1) { s with tv := v', ts := s.ts ++ [S] } := by
  obtain ⟨h1, h2, h3, h4, h5, h6, h7, h8, h9⟩ := h
  refine ⟨by simp; omega, fun l hl => ?_, by simp only; omega, by simp only; omega, by simp only; omega, h6, h7, by simp only; omega, h9⟩
  simp only [List.mem_append, List.mem_singleton] at hl
  rcases hl with hl | rfl
  · exact h2 l hl
  · exact hS
/-- One step of a script, plainly. -/
structure Op8 where
  kind : Int
  a : Int
  b : Int
  c : Int
  d : Int
  e : Int
  x : Int
  s : List UInt8
abbrev opv (o : Op8) : Value := .agg #[.int .i64 o.kind, .int .i64 o.x, .int .i64 o.a, .int .i64 o.b, .int .i64 o.c, .int .i64 o.d, .int .i64 o.e, .string (bs o.s)]
set_option maxRecDepth 100000 in
set_option maxHeartbeats 1000000 in
theorem owner_no (wb : Nat) (W : World) (o : Op8) (hk : o.kind ≤ 0 ∨ o.kind = 5 ∨ o.kind = 6) :
    Calls Tryz.prog 11 #[.pointer (some ⟨wb, 0, none⟩), opv o] W fun e W' => e = .returned (.bool false) ∧ Below W.heap.size W W' := by
  obtain ⟨kind, a, b, c, d, e, x, S⟩ := o
  simp only at hk
  have h1 : ¬ kind = 1 := by omega
  have h2 : ¬ kind = 2 := by omega
  have h3 : ¬ kind = 3 := by omega
  have h4 : ¬ kind = 4 := by omega
  have h7 : ¬ kind = 7 := by omega
  have h8 : ¬ kind = 8 := by omega
  have h12 : ¬ kind = 12 := by omega
  go_enter Tryz.func11, Tryz.ntmps11
  go_wp2
  go_ret
  exact ⟨rfl, (Below.refl _ _).alloc (Nat.le_refl _) _⟩
set_option maxRecDepth 100000 in
set_option maxHeartbeats 1000000 in
theorem owner_text (n wb : Nat) (s : St) (w W : World) (h : WV n wb s w W) (hn : n ≤ 18000) (o : Op8) (hk : o.kind = 1) (hS : o.s.length ≤ 17000) :
    Calls Tryz.prog 11 #[.pointer (some ⟨wb, 0, none⟩), opv o] W fun e W' => e = .returned (.bool true) ∧ ∃ s', WV (n + 1) wb s' w W' := by
  have HC := hide h
  clear h
  obtain ⟨kind, a, b, c, d, e, x, S⟩ := o
  simp only at hk hS
  subst hk
  go_enter Tryz.func11, Tryz.ntmps11
  have c0 : W.cell? ⟨wb, 0, none⟩ = some s.tv := (unhide HC).cell 0
  have hwl := (unhide HC).lt
  go_wp2_with fail
  obtain ⟨ti, hti, hz0, hz1, hz2⟩ := info_parts infoStr
  have HC1 := hide ((unhide HC).toWC.alloc (.cells #[.int .i64 1, .int .i64 x, .int .i64 a, .int .i64 b, .int .i64 c, .int .i64 d, .int .i64 e, .string (bs S)] 28))
  have p7 : (W.alloc (.cells #[.int .i64 1, .int .i64 x, .int .i64 a, .int .i64 b, .int .i64 c, .int .i64 d, .int .i64 e, .string (bs S)] 28)).cell? ⟨W.heap.size, 7, none⟩ = some (.string (bs S)) := cell_at (heap_alloc_new W _) 7
  have hB := hide (unhide HC).toWB
  have htn := (unhide HC).tn
  clear HC c0
  generalize (W.alloc (.cells #[.int .i64 1, .int .i64 x, .int .i64 a, .int .i64 b, .int .i64 c, .int .i64 d, .int .i64 e, .string (bs S)] 28)) = W1 at HC1 p7 ⊢
  have c0 : W1.cell? ⟨wb, 0, none⟩ = some s.tv := (unhide HC1).cell 0
  have hw1 := (unhide HC1).lt
  obtain ⟨to, tc, htv⟩ := own_form (unhide HC1).rows.t
  rw [htv] at c0
  go_region_law
    ((refine step_append_lies _ (by rfl) _ _ _ (by rfl) (wb + 1) 9 ti (.string (bs [])) 1 16 Tryz.underlying30 hti hz0 hz1 hz2 rfl (by omega) s.tv s.ts.length (s.ts.map fun l => .string (bs l)) (by first | rfl | (rw [htv]; rfl)) (((unhide HC1).rows.t.alloc _).drew) ⟨W1.heap.size, 0, none⟩ 1 1 [.string (bs S)] (by rfl) (by rfl) (World.news_of_block (cs := #[.string (bs S)]) (t := 9) (fr := (0, 0)) (heap_alloc_new W1 _)) (by simp [Value.oneCell']) (by omega) (by unfold maxLen; omega) (by omega) (by simp; omega) (W1.heap.size + 1) (by simp) ?_; intro gg cap w1 hown1 hgrow hat hlt; have hP := (unhide HC1).pushT (bd_draws _ 1) hgrow S _ hown1; have hfz1 : w1.frozen? ⟨wb, 0, none⟩ = false := free_at hP.2 0; have hc1 : w1.cell? ⟨wb, 0, none⟩ = some s.tv := cell_at hP.2 0))
  all_goals
    have HP := hide hP.1
    clear hP hown1 hgrow hat hfz1 hc1 c0 p7 HC1
    go_wp2
    go_ret
    exact ⟨rfl, _, unhide HP, (unhide hB).pushT S _ hS⟩
end Go.Proofs.YtnneljcbelgoeaaGreatDoor.wire
