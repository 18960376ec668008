import Derived.Test.YtnneljcbelgoeaaGreatDoorG26
import Derived.Deep.RegionLawGrows
import Derived.Deep.DeepAppendRoom
import Derived.BigRegion
import Derived.Test.YtnneljcbelgoeaaGreatDoorG25
import Derived.Deep.DrawnRows
import Derived.Deep.AppendLies
/- gossiplaw's keep: the caller marks a list that came out, appends to it, and holds both. -/
namespace Go.Proofs.YtnneljcbelgoeaaGreatDoor.wire
open Go.RowKit
theorem own_head {W : World} {base : Nat} {e : TypeId} {z g n m cap : Nat} {xs ys : List Value} (h : W.ownsRow base e z (.slice (some ⟨g, 0, none⟩) (n + m) cap) (n + m) (xs ++ ys)) (hx : xs.length = n * z) : W.ownsRow base e z (.slice (some ⟨g, 0, none⟩) n cap) n xs := by
  refine ⟨hx, ?_⟩
  rcases h.2 with ⟨e, _⟩ | ⟨g', cap', cur, e, hb, hh, hn, hc, hs, ht⟩
  · cases e
  · simp only [Value.slice.injEq, Option.some.injEq, Addr.mk.injEq, and_true, true_and] at e
    obtain ⟨rfl, rfl⟩ := e
    refine .inr ⟨g, cap, cur, rfl, hb, hh, by omega, hc, hs, ?_⟩
    have hm : (n * z) ≤ (n + m) * z := Nat.mul_le_mul_right _ (by omega)
    have := congrArg (List.take (n * z)) ht
    rw [List.take_take, Nat.min_eq_left hm, List.take_left' hx] at this
    exact this
theorem step_append_keeps {P : Program} {ops : Array Oper} {o : Oper} {a : Act} {w : World} {K : Act → World → Prop} {Q : Exit → Act → World → Prop} {E : Prop}
    (hg : o.guard = none) (s x : Operand) (t : TypeId) (hop : o.op = Op.call { callee := Callee.builtin Builtin.append, args := #[s, x], argTypes := #[t, t] })
    (e : TypeId) (i : TypeInfo) (z : Value) (size bytes : Nat) (h1 : P.underlying t = some (.slice e)) (h2 : P.info? e = some i) (h3 : i.zero = some z) (h4 : i.size = size) (h5 : i.bytes = bytes) (h6 : z.cells.size = size) (h7 : 0 < size)
    (base : Nat) (v : Value) (n : Nat) (olds : List Value) (hs : a.eval s = v) (hown : w.ownsRow base e size v n olds)
    (ad : Addr) (m c : Nat) (news : List Value) (hx : a.eval x = .slice (some ad) m c) (hn : news.length = m * size) (hc : ∀ j u, news[j]? = some u → w.cell? (ad.add j) = some u) (h1c : ∀ u ∈ news, u.oneCell' = true)
    (b1 : n + m ≤ maxLen) (b2 : (n + m) * bytes ≤ 140737488355328) (hbase : base ≤ w.heap.size)
    (hK : ∀ v' w', w'.ownsRow base e size v' (n + m) (olds ++ news) → w'.ownsRow base e size v n olds → w.grownBy w' v.ownBlock → K (a.put o.dst v') w') :
    if Region.wanted o (yielded ops a.tmps) = true then Oper.wp P o a w K Q else E := by
  have hw : Region.wanted o (yielded ops a.tmps) = true := by simp [Region.wanted, hg]
  rw [if_pos hw]
  have key : ∃ v' w', (Builtin.append_ #[t, t] o.type #[v, .slice (some ad) m c]).run P w = .ok v' w' ∧ w'.ownsRow base e size v' (n + m) (olds ++ news) ∧ w'.ownsRow base e size v n olds ∧ w.grownBy w' v.ownBlock := by
    have hlo := hown.1
    obtain ⟨ao, cap, hv⟩ := own_form hown
    cases ao with
    | none =>
      subst hv
      obtain ⟨v', w', hrun, r1, r2, _⟩ := run_append_own (P := P) w base t o.type e i z size bytes h1 h2 h3 h4 h5 h6 h7 _ n olds hown ad m c news hn hc h1c b1 b2 hbase
      refine ⟨v', w', hrun, r1, own_grown hown r2 (fun g e => ?_), r2⟩
      simp [Value.ownBlock] at e
    | some b =>
      rcases hown.2 with ⟨e0, _⟩ | ⟨g, cap', cur, e0, hb, hh, hnc, hcm, hcs, htake⟩
      · rw [hv] at e0; cases e0
      · subst e0
        simp only [Value.slice.injEq, Option.some.injEq] at hv
        obtain ⟨rfl, _, rfl⟩ := hv
        by_cases hroom : n + m ≤ cap'
        · obtain ⟨w', hrun, r1, r2⟩ := run_append_own_spare (P := P) w base t o.type e i size h1 h2 h4 g n cap' olds hown ad m c news hn hc h1c hroom
          exact ⟨_, w', hrun, r1, own_head r1 hlo, r2⟩
        · obtain ⟨v', w', hrun, r1, r2⟩ := run_append_arg_grows (P := P) w t o.type e i z size bytes h1 h2 h3 h4 h5 h6 h7 ⟨g, 0, none⟩ n cap' olds hlo (fun j u hu => by
            have hj : j < n * size := by have := (List.getElem?_eq_some_iff.1 hu).1; omega
            have hadd : (⟨g, 0, none⟩ : Addr).add j = ⟨g, j, none⟩ := by unfold Addr.add; split <;> simp_all
            rw [hadd, hown.cellAt j hj]
            exact hu) ad m c news hn hc (by omega) b1 b2
          refine ⟨v', w', hrun, ⟨r1.1, ?_⟩, own_grown hown r2 (fun _ e => by cases e), ⟨r2.os, r2.tape, r2.output, r2.size, fun k hk _ => r2.block k hk (by simp)⟩⟩
          rcases r1.2 with r | ⟨g2, c2, cur2, ev, hb2, rest⟩
          · exact .inl r
          · exact .inr ⟨g2, c2, cur2, ev, by omega, rest⟩
  obtain ⟨v', w', hrun, r1, r2, r3⟩ := key
  unfold Oper.wp
  simp [execOp, hop, resolve, invoke, builtin, hs, hx, hrun, Result.andThen]
  exact hK v' w' r1 r2 r3
/-- No held list lies in block g. -/
def FreshW (s : St) (g : Nat) : Prop := (∀ x ∈ s.ls, x.ownBlock ≠ some g) ∧ ∀ x ∈ s.ws, x.ownBlock ≠ some g
theorem WC.other {wb : Nat} {s : St} {w W W' : World} (h : WC wb s w W) (g : Nat) (hg : W.grownBy W' (some g)) (hgb : wb + 1 ≤ g) (hf : FreshW s g) (hty : ∀ {e : TypeId} {z : Nat} {v : Value} {n : Nat} {xs : List Value}, W.ownsRow (wb + 1) e z v n xs → e ≠ 76 → v.ownBlock ≠ some g) : WC wb s w W' := by
  have hr := h.rows
  have hk : ∀ {e : TypeId} {z : Nat} {v : Value} {n : Nat} {xs : List Value}, W.ownsRow (wb + 1) e z v n xs → e ≠ 76 → W'.ownsRow (wb + 1) e z v n xs := fun ho he => own_grown ho hg (fun g' e' => by cases e'; exact hty ho he)
  have hl := h.lt
  have hlo := h.low
  refine ⟨?_, ⟨hk hr.t (by decide), hk hr.u (by decide), hk hr.d (by decide), hk hr.l (by decide), hk hr.w (by decide), hr.lw, fun i x y hx hy => ?_⟩, ?_, h.low⟩
  · rw [hg.block wb hl (by simp; omega)]; exact h.blk
  · obtain ⟨ks, hk, h1, h2⟩ := hr.p i x y hx hy
    exact ⟨ks, hk, own_grown h1 hg (fun g' e' => by cases e'; exact hf.1 x (List.mem_of_getElem? hx)), own_grown h2 hg (fun g' e' => by cases e'; exact hf.2 y (List.mem_of_getElem? hy))⟩
  · exact h.below.grown hg h.below.size (fun k e => by cases e; omega)
theorem key_ne {W : World} {base : Nat} {g n cap : Nat} {ks : List Value} (h : W.ownsRow base 76 3 (.slice (some ⟨g, 0, none⟩) n cap) n ks) {b' : Nat} {e : TypeId} {z : Nat} {v : Value} {n' : Nat} {xs : List Value} (h' : W.ownsRow b' e z v n' xs) (he : e ≠ 76) : v.ownBlock ≠ some g := own_ne h h' (fun e' => he e'.symm) g rfl
theorem WC.put {wb : Nat} {s : St} {w W : World} (h : WC wb s w W) {g n cap : Nat} {ks : List Value} (ho : W.ownsRow (wb + 1) 76 3 (.slice (some ⟨g, 0, none⟩) n cap) n ks) (hf : FreshW s g) (j : Nat) (u : Value) : WC wb s w (W.setCell ⟨g, j, none⟩ u) ∧ (W.setCell ⟨g, j, none⟩ u).ownsRow (wb + 1) 76 3 (.slice (some ⟨g, 0, none⟩) n cap) n (ks.set j u) := by
  obtain ⟨h1, h2⟩ := ho.stored j u
  exact ⟨h.other g h2 (own_lt ho rfl).1 hf (fun ho' he => key_ne ho ho' he), h1⟩
theorem WC.putKey {wb : Nat} {s : St} {w W : World} (h : WC wb s w W) {g n cap : Nat} {ks : List K3} (ho : W.ownsRow (wb + 1) 76 3 (.slice (some ⟨g, 0, none⟩) n cap) n (kcells ks)) (hf : FreshW s g) (k : Nat) (K : K3) (hk : k < ks.length) :
    WC wb s w (((W.setCell ⟨g, k * 3, none⟩ (.int .i64 K.id)).setCell ⟨g, k * 3 + 1, none⟩ (.int .i64 K.inc)).setCell ⟨g, k * 3 + 2, none⟩ (.int .i64 K.st)) ∧ (((W.setCell ⟨g, k * 3, none⟩ (.int .i64 K.id)).setCell ⟨g, k * 3 + 1, none⟩ (.int .i64 K.inc)).setCell ⟨g, k * 3 + 2, none⟩ (.int .i64 K.st)).ownsRow (wb + 1) 76 3 (.slice (some ⟨g, 0, none⟩) n cap) n (kcells (ks.set k K)) := by
  obtain ⟨a1, b1⟩ := h.put ho hf (k * 3) (.int .i64 K.id)
  obtain ⟨a2, b2⟩ := a1.put b1 hf (k * 3 + 1) (.int .i64 K.inc)
  obtain ⟨a3, b3⟩ := a2.put b2 hf (k * 3 + 2) (.int .i64 K.st)
  rw [kcells_set ks k K hk] at b3
  exact ⟨a3, b3⟩
theorem WC.kept {wb : Nat} {s : St} {w W W1 W' : World} (h : WC wb s w W) (hb : Below W.heap.size W W1) {v : Value} {n : Nat} {xs : List Value} (ho : W.ownsRow (wb + 1) 76 3 v n xs) (hg : W1.grownBy W' v.ownBlock) (hf : ∀ g, v.ownBlock = some g → FreshW s g) : WC wb s w W' := by
  have h1 := h.mono hb
  have ho1 := own_below ho hb
  cases hv : v.ownBlock with
  | none =>
    rw [hv] at hg
    exact h1.mono ((Below.refl _ _).grown hg (Nat.le_refl _) (fun k e => by cases e))
  | some g =>
    rw [hv] at hg
    exact h1.other g hg (own_lt ho hv).1 (hf g hv) (fun ho' he => own_ne ho1 ho' (fun e => he e.symm) g hv)
theorem WC.setMark {wb : Nat} {s : St} {w W : World} (h : WC wb s w W) (x : Int) : WC wb { s with mark := x } w (W.setCell ⟨wb, 20, none⟩ (.int .i64 x)) :=
  WC.store h.blk h.below h.low { s with mark := x } 20 (.int .i64 x) rfl ⟨h.rows.t, h.rows.u, h.rows.d, h.rows.l, h.rows.w, h.rows.lw, h.rows.p⟩
set_option maxRecDepth 100000 in
set_option maxHeartbeats 2000000 in
theorem keep_any (wb : Nat) (s : St) (w W : World) (h : WC wb s w W) (hlen : s.ws.length = s.ls.length) (hb : s.ls.length ≤ 39000) (hm0 : 0 ≤ s.mark) (hm1 : s.mark ≤ 1000000) (v : Value) (ks : List K3) (hk : ks.length ≤ 8) (hv : W.ownsRow (wb + 1) 76 3 v ks.length (kcells ks)) (hf : ∀ g, v.ownBlock = some g → FreshW s g) :
    Calls Tryz.prog 15 #[.pointer (some ⟨wb, 0, none⟩), v] W fun e W' => e = .returned (.tuple #[]) ∧ ∃ (lv wv x y x' : Value), WC wb { s with mark := s.mark + ks.length + 2, lv := lv, wv := wv, ls := s.ls ++ [v] ++ [x], ws := s.ws ++ [y] ++ [x'] } w W' := by
  obtain ⟨ao, cap, hvf⟩ := own_form hv
  obtain ⟨ti, hti, hz0, hz1, hz2⟩ := info_parts infoKey'
  subst hvf
  have HC := hide h
  have HV := hide hv
  have HF := hide hf
  clear h hv hf
  go_enter Tryz.func15, Tryz.ntmps15
  go_wp2
  go_loopw [4] (fun i wr => ∃ (j : Nat) (L : List K3), j ≤ ks.length ∧ i = .int .i64 j ∧ L.length = ks.length ∧ WC wb { s with mark := s.mark + j } w wr ∧ wr.ownsRow (wb + 1) 76 3 (.slice ao ks.length cap) ks.length (kcells L)) (fun i _ => ks.length - (intOf i).toNat)
  case atStart => exact ⟨0, ks, Nat.zero_le _, rfl, rfl, by simpa using unhide HC, unhide HV⟩
  case round =>
    obtain ⟨j, L, hj, rfl, hL, hC, hV⟩ := hrel
    by_cases hlt : j < ks.length
    · have hjl : (j : Int) < (ks.length : Int) := by omega
      obtain ⟨g, cap', e1, hg1, hg2⟩ := hV.form (by omega)
      simp only [Value.slice.injEq] at e1
      obtain ⟨rfl, _, rfl⟩ := e1
      have c20 : wr.cell? ⟨wb, 20, none⟩ = some (.int .i64 (s.mark + j)) := hC.cell 20
      have f20 : wr.frozen? ⟨wb, 20, none⟩ = false := hC.free 20
      have hgw := (own_lt hV rfl).1
      have hne : g ≠ wb := by omega
      have hne2 : wb ≠ g := by omega
      obtain ⟨p0, p1, p2⟩ := kcells_get L j (by omega)
      have q0 : wr.cell? ⟨g, j * 3, none⟩ = some (.int .i64 L[j].id) := (hV.cellAt (j * 3) (by omega)).trans p0
      have q1 : wr.cell? ⟨g, j * 3 + 1, none⟩ = some (.int .i64 L[j].inc) := (hV.cellAt (j * 3 + 1) (by omega)).trans p1
      have q2 : wr.cell? ⟨g, j * 3 + 2, none⟩ = some (.int .i64 L[j].st) := (hV.cellAt (j * 3 + 2) (by omega)).trans p2
      have r0 := hV.frozenAt (j * 3)
      have r1 := hV.frozenAt (j * 3 + 1)
      have r2 := hV.frozenAt (j * 3 + 2)
      have h1 := hC.setMark (s.mark + j + 1)
      have h2 := (h1.putKey (ownsRow_setCell_below hV (a := ⟨wb, 20, none⟩) (by simp) _) (unhide HF g rfl) j ⟨-(s.mark + j + 1), 0, 0⟩ (by omega))
      have H2 := hide h2
      clear h1 h2 hC hV p0 p1 p2
      go_wp2
      go_roundw
      case rel => exact ⟨j + 1, _, by omega, by go_num, by simp [hL], by simpa [Int.add_assoc] using (unhide H2).1, (unhide H2).2⟩
      case measure => simp [intOf]; omega
    · have hje : j = ks.length := by omega
      subst hje
      have c20 : wr.cell? ⟨wb, 20, none⟩ = some (.int .i64 (s.mark + ks.length)) := hC.cell 20
      have f20 : wr.frozen? ⟨wb, 20, none⟩ = false := hC.free 20
      have HC1 := hide (hC.setMark (s.mark + ks.length + 2))
      have HV1 := hide (ownsRow_setCell_below hV (a := ⟨wb, 20, none⟩) (by simp) (.int .i64 (s.mark + ks.length + 2)))
      clear hC hV
      go_wp2_with fail
      generalize wr.setCell ⟨wb, 20, none⟩ (.int .i64 (s.mark + ks.length + 2)) = W1 at HC1 HV1 ⊢
      clear c20 f20
      have d20 : W1.cell? ⟨wb, 20, none⟩ = some (.int .i64 (s.mark + ks.length + 2)) := (unhide HC1).cell 20
      have hs1 := (unhide HC1).lt
      go_region_law
        ((refine step_append_keeps (by rfl) _ _ _ (by rfl) 76 ti (.agg #[.int .i64 0, .int .i64 0, .int .i64 0]) 3 24 Tryz.underlying46 hti hz0 hz1 hz2 rfl (by omega) (wb + 1) (.slice ao ks.length cap) ks.length (kcells L) (by rfl) (((unhide HV1).alloc _).drew) ⟨W1.heap.size, 0, none⟩ 2 2 (kcells [⟨IntKind.i64.wrap (1 - (s.mark + ks.length + 2)), 0, 0⟩, ⟨IntKind.i64.wrap (-(s.mark + ks.length + 2)), 0, 0⟩]) (by rfl) (by rfl) (World.news_of_block (cs := (kcells [⟨IntKind.i64.wrap (1 - (s.mark + ks.length + 2)), 0, 0⟩, ⟨IntKind.i64.wrap (-(s.mark + ks.length + 2)), 0, 0⟩]).toArray) (t := 76) (fr := (0, 0)) (heap_alloc_new W1 _)) (kcells_one _) (by unfold maxLen; omega) (by omega) (by simp [heap_drew]; omega) ?_; intro v' w' ho1 ho2 hgr))
      all_goals
        have hlo : ks.length ≤ 8 := hk
        have hsn : kcells L ++ kcells [⟨IntKind.i64.wrap (1 - (s.mark + ks.length + 2)), 0, 0⟩, ⟨IntKind.i64.wrap (-(s.mark + ks.length + 2)), 0, 0⟩] = kcells (L ++ [⟨IntKind.i64.wrap (1 - (s.mark + ks.length + 2)), 0, 0⟩, ⟨IntKind.i64.wrap (-(s.mark + ks.length + 2)), 0, 0⟩]) := (kcells_append _ _).symm
        rw [hsn] at ho1
        have hN : (L ++ [(⟨IntKind.i64.wrap (1 - (s.mark + ks.length + 2)), 0, 0⟩ : K3), ⟨IntKind.i64.wrap (-(s.mark + ks.length + 2)), 0, 0⟩]).length = ks.length + 2 := by simp [hL]
        generalize (L ++ [(⟨IntKind.i64.wrap (1 - (s.mark + ks.length + 2)), 0, 0⟩ : K3), ⟨IntKind.i64.wrap (-(s.mark + ks.length + 2)), 0, 0⟩]) = LL at ho1 hN
        clear hsn
        obtain ⟨bo, bc, hvf⟩ := own_form ho1
        subst hvf
        have hC2 := (unhide HC1).kept (below_draws ((Below.refl _ _).alloc (Nat.le_refl _) _) 1) (unhide HV1) hgr (fun g e => unhide HF g e)
        have H2 := hide hC2
        have HO1 := hide ho1
        have HO2 := hide ho2
        clear ho1 ho2 hgr hC2 HC1 HV1
        go_wp2_with fail
        have hh := hold_any wb _ w w' (unhide H2) hlen (by simp; omega) (.slice ao ks.length cap) L (by omega) (by rw [hL]; exact unhide HO2)
        refine hh.mono ?_
        clear hh
        rintro e w2 ⟨rfl, ⟨lv1, wv1, y1, hC3⟩, hall⟩
        have HO3 := hide (hall (unhide HO1))
        have H3 := hide hC3
        clear hC3 hall H2 HO1 HO2
        go_wp2_with fail
        have hh := hold_any wb _ w w2 (unhide H3) (by simp [hlen]) (by simp; omega) (.slice bo (ks.length + 2) bc) LL (by omega) (by rw [hN]; exact unhide HO3)
        refine hh.mono ?_
        clear hh
        rintro e w3 ⟨rfl, ⟨lv2, wv2, y2, hC4⟩, _⟩
        have H4 := hide hC4
        clear hC4 H3 HO3
        go_wp2
        go_end0
        exact ⟨rfl, _, _, _, _, _, unhide H4⟩
end Go.Proofs.YtnneljcbelgoeaaGreatDoor.wire
/- gossiplaw's owner: a step on what the caller owns. -/
namespace Go.Proofs.YtnneljcbelgoeaaGreatDoor.wire
open Go.RowKit
theorem infoStr : (Tryz.prog.info? 9).map (fun i => (i.zero, i.size, i.bytes)) = some (some (.string (bs [])), 1, 16) := by kernel_rfl
theorem bd_draws {W : World} (o : Obj) (k : Nat) : Below W.heap.size W ((W.alloc o).drewN k) := below_draws ((Below.refl _ _).alloc (Nat.le_refl _) _) k
/-- The texts' row grows by S. -/
theorem WC.pushT {wb : Nat} {s : St} {w W W1 W2 : World} (h : WC wb s w W) (hb : Below W.heap.size W W1) (hg : W1.grownBy W2 s.tv.ownBlock) (S : List UInt8) (v' : Value) (hown : W2.ownsRow (wb + 1) 9 1 v' (s.ts.length + 1) (s.ts.map (fun l => .string (bs l)) ++ [.string (bs S)])) :
    WC wb { s with tv := v', ts := s.ts ++ [S] } w (W2.setCell ⟨wb, 0, none⟩ v') ∧ W2.heap[wb]? = some (.cells s.cells 41 (0, 0)) := by
  have hr := h.rows
  have hgk : ∀ {e : TypeId} {z : Nat} {x : Value} {n : Nat} {xs : List Value}, e ≠ 9 → W.ownsRow (wb + 1) e z x n xs → W2.ownsRow (wb + 1) e z x n xs := fun he ho => keep_other ho hg hb (fun g hg1 => own_ne hr.t ho (fun e => he e.symm) g hg1)
  obtain ⟨hblk, hbel⟩ := h.grown hb hg (fun g e => (own_lt hr.t e).1)
  refine ⟨?_, hblk⟩
  have hrows : Rows4 (wb + 1) { s with tv := v', ts := s.ts ++ [S] } W2 := by
    refine ⟨by simpa using hown, hgk (by decide) hr.u, hgk (by decide) hr.d, hgk (by decide) hr.l, hgk (by decide) hr.w, hr.lw, fun i x y hx hy => ?_⟩
    obtain ⟨ks, hk, h1, h2⟩ := hr.p i x y hx hy
    exact ⟨ks, hk, hgk (by decide) h1, hgk (by decide) h2⟩
  exact WC.store hblk hbel h.low _ 0 v' rfl hrows
theorem WB.pushT {n : Nat} {s : St} (h : WB n s) (S : List UInt8) (v' : Value) (hS : S.length ≤ 17000) : WB (n + 1) { s with tv := v', ts := s.ts ++ [S] } := by
  obtain ⟨h1, h2, h3, h4, h5, h6, h7, h8, h9⟩ := h
  refine ⟨by simp; omega, fun l hl => ?_, by simp only; omega, by simp only; omega, by simp only; omega, h6, h7, by simp only; omega, h9⟩
  simp only [List.mem_append, List.mem_singleton] at hl
  rcases hl with hl | rfl
  · exact h2 l hl
  · exact hS
/-- One step of a script, plainly. -/
structure Op8 where
  kind : Int
  a : Int
  b : Int
  c : Int
  d : Int
  e : Int
  x : Int
  s : List UInt8
abbrev opv (o : Op8) : Value := .agg #[.int .i64 o.kind, .int .i64 o.x, .int .i64 o.a, .int .i64 o.b, .int .i64 o.c, .int .i64 o.d, .int .i64 o.e, .string (bs o.s)]
set_option maxRecDepth 100000 in
set_option maxHeartbeats 1000000 in
theorem owner_no (wb : Nat) (W : World) (o : Op8) (hk : o.kind ≤ 0 ∨ o.kind = 5 ∨ o.kind = 6) :
    Calls Tryz.prog 11 #[.pointer (some ⟨wb, 0, none⟩), opv o] W fun e W' => e = .returned (.bool false) ∧ Below W.heap.size W W' := by
  obtain ⟨kind, a, b, c, d, e, x, S⟩ := o
  simp only at hk
  have h1 : ¬ kind = 1 := by omega
  have h2 : ¬ kind = 2 := by omega
  have h3 : ¬ kind = 3 := by omega
  have h4 : ¬ kind = 4 := by omega
  have h7 : ¬ kind = 7 := by omega
  have h8 : ¬ kind = 8 := by omega
  have h12 : ¬ kind = 12 := by omega
  go_enter Tryz.func11, Tryz.ntmps11
  go_wp2
  go_ret
  exact ⟨rfl, (Below.refl _ _).alloc (Nat.le_refl _) _⟩
set_option maxRecDepth 100000 in
set_option maxHeartbeats 1000000 in
theorem owner_text (n wb : Nat) (s : St) (w W : World) (h : WV n wb s w W) (hn : n ≤ 18000) (o : Op8) (hk : o.kind = 1) (hS : o.s.length ≤ 17000) :
    Calls Tryz.prog 11 #[.pointer (some ⟨wb, 0, none⟩), opv o] W fun e W' => e = .returned (.bool true) ∧ ∃ s', WV (n + 1) wb s' w W' := by
  have HC := hide h
  clear h
  obtain ⟨kind, a, b, c, d, e, x, S⟩ := o
  simp only at hk hS
  subst hk
  go_enter Tryz.func11, Tryz.ntmps11
  have c0 : W.cell? ⟨wb, 0, none⟩ = some s.tv := (unhide HC).cell 0
  have hwl := (unhide HC).lt
  go_wp2_with fail
  obtain ⟨ti, hti, hz0, hz1, hz2⟩ := info_parts infoStr
  have HC1 := hide ((unhide HC).toWC.alloc (.cells #[.int .i64 1, .int .i64 x, .int .i64 a, .int .i64 b, .int .i64 c, .int .i64 d, .int .i64 e, .string (bs S)] 28))
  have p7 : (W.alloc (.cells #[.int .i64 1, .int .i64 x, .int .i64 a, .int .i64 b, .int .i64 c, .int .i64 d, .int .i64 e, .string (bs S)] 28)).cell? ⟨W.heap.size, 7, none⟩ = some (.string (bs S)) := cell_at (heap_alloc_new W _) 7
  have hB := hide (unhide HC).toWB
  have htn := (unhide HC).tn
  clear HC c0
  generalize (W.alloc (.cells #[.int .i64 1, .int .i64 x, .int .i64 a, .int .i64 b, .int .i64 c, .int .i64 d, .int .i64 e, .string (bs S)] 28)) = W1 at HC1 p7 ⊢
  have c0 : W1.cell? ⟨wb, 0, none⟩ = some s.tv := (unhide HC1).cell 0
  have hw1 := (unhide HC1).lt
  obtain ⟨to, tc, htv⟩ := own_form (unhide HC1).rows.t
  rw [htv] at c0
  go_region_law
    ((refine step_append_lies _ (by rfl) _ _ _ (by rfl) (wb + 1) 9 ti (.string (bs [])) 1 16 Tryz.underlying30 hti hz0 hz1 hz2 rfl (by omega) s.tv s.ts.length (s.ts.map fun l => .string (bs l)) (by first | rfl | (rw [htv]; rfl)) (((unhide HC1).rows.t.alloc _).drew) ⟨W1.heap.size, 0, none⟩ 1 1 [.string (bs S)] (by rfl) (by rfl) (World.news_of_block (cs := #[.string (bs S)]) (t := 9) (fr := (0, 0)) (heap_alloc_new W1 _)) (by simp [Value.oneCell']) (by omega) (by unfold maxLen; omega) (by omega) (by simp; omega) (W1.heap.size + 1) (by simp) ?_; intro gg cap w1 hown1 hgrow hat hlt; have hP := (unhide HC1).pushT (bd_draws _ 1) hgrow S _ hown1; have hfz1 : w1.frozen? ⟨wb, 0, none⟩ = false := free_at hP.2 0; have hc1 : w1.cell? ⟨wb, 0, none⟩ = some s.tv := cell_at hP.2 0))
  all_goals
    have HP := hide hP.1
    clear hP hown1 hgrow hat hfz1 hc1 c0 p7 HC1
    go_wp2
    go_ret
    exact ⟨rfl, _, unhide HP, (unhide hB).pushT S _ hS⟩
end Go.Proofs.YtnneljcbelgoeaaGreatDoor.wire
