import Derived.Test.YtnneljcbelgoeaaGreatDoorG19
import Derived.Test.YtnneljcbelgoeaaGreatDoorG13
import Derived.Test.YtnneljcbelgoeaaGreatDoorG17
import Derived.Test.YtnneljcbelgoeaaGreatDoorG27
import Derived.Laws.CopyRow
import Derived.Deep.RegionLawGrows
import Derived.Deep.DeepAppendRoom
import Derived.BigRegion
/- copy of a row into a new one. -/
namespace Go.Proofs.YtnneljcbelgoeaaGreatDoor.wire
open Go.RowKit Go.Maps
theorem made_row {W : World} {base g n z : Nat} {e : TypeId} {xs : List Value} (h : W.ownsRow base e z (.slice (some ⟨g, 0, none⟩) n n) n xs) : ∃ c, W.heap[g]? = some (.cells c e (0, 0)) ∧ c.size = n * z := by
  rcases h.2 with ⟨e, _⟩ | ⟨g', cap, cur, e, _, hh, _, _, hs, ht⟩
  · cases e
  · simp at e
    obtain ⟨rfl, rfl⟩ := e
    exact ⟨cur, hh, hs⟩
theorem run_copy_row {P : Program} {t e : TypeId} {size bytes : Nat} (he : Ety P t e size bytes) (w : World) (ty : TypeId) (g n : Nat) (a : Addr) (c : Nat) (c0 : Array Value) (xs : List Value) (hg : w.heap[g]? = some (.cells c0 e (0, 0))) (h0 : c0.size = n * size) (hx : xs.length = n * size) (h1 : ∀ v ∈ xs, v.oneCell' = true) (hsrc : ∀ j v, xs[j]? = some v → w.cell? (a.add j) = some v) :
    (Builtin.copy_ #[t, t] ty #[.slice (some ⟨g, 0, none⟩) n n, .slice (some a) n c]).run P w = .ok (goInt n) (w.setRow g xs.toArray) := by
  obtain ⟨i, z, ht, hi, hz, hsz, hby, hzs, hpos⟩ := he.ex
  have hl := run_loadCells_list (P := P) w a xs hsrc
  have hst := run_storeCells_at P g 0 e xs 0 c0 w hg (by omega) h1
  have e0 : (List.take (0 + 0) c0.toList ++ xs ++ List.drop (0 + 0 + xs.length) c0.toList) = xs := by
    simp [h0, hx]
  rw [e0] at hst
  rw [hx] at hl
  simp [Builtin.copy_, run_underlying ht, Builtin.lenOf, Builtin.firstCells, sizeOf, typeInfo, hi, hsz, hl, hst]
theorem wpList_copy_row {P : Program} {t e : TypeId} {size bytes : Nat} (he : Ety P t e size bytes) {w : World} {ops : Array Oper} {rest : List Oper} {o : Oper} {a : Act} {Q : Exit → Act → World → Prop} (hgd : o.guard = none) (d s : Operand)
    (ho : o.op = .call { callee := .builtin .copy, args := #[d, s], argTypes := #[t, t] }) (g n : Nat) (v : Value) (hd : a.eval d = .slice (some ⟨g, 0, none⟩) n n) (hs : a.eval s = v) (c0 : Array Value) (xs : List Value)
    (hg : w.heap[g]? = some (.cells c0 e (0, 0))) (h0 : c0.size = n * size) (h1 : ∀ v ∈ xs, v.oneCell' = true) {base : Nat} (hv : w.ownsRow base e size v n xs)
    (h : ∀ w', w'.heap[g]? = some (.cells xs.toArray e (0, 0)) → Below g w w' → wpList P ops Q rest (a.put o.dst (goInt n)) w') : wpList P ops Q (o :: rest) a w := by
  refine wpList_plain hgd fun K hK => ?_
  have hx := hv.1
  rcases hv.2 with ⟨rfl, hn0⟩ | ⟨g', cap, cur, rfl, _, hh, _, _, _, _⟩
  · obtain ⟨i, z, ht, hi, hz, hsz, hby, hzs, hpos⟩ := he.ex
    subst hn0
    have hx0 : xs = [] := List.eq_nil_of_length_eq_zero (by rw [hx]; simp)
    have hc0 : c0 = #[] := Array.eq_empty_of_size_eq_zero (by rw [h0]; simp)
    have hrun := run_copy_nil P w t t o.type e ⟨g, 0, none⟩ 0 0 ht (by rw [hi]; rfl)
    unfold Oper.wp
    simp [execOp, ho, resolve, invoke, builtin, hd, hs, hrun, Result.andThen]
    exact hK _ _ (h w (by rw [hg, hx0, hc0]) (Below.refl _ _))
  · have hrun := run_copy_row he w o.type g n ⟨g', 0, none⟩ cap c0 xs hg h0 hx h1 (fun j u hu => by
      have hj : j < n * size := by
        have := (List.getElem?_eq_some_iff.1 hu).1
        omega
      rw [add0, Nat.zero_add, hv.cellAt j hj]
      exact hu)
    unfold Oper.wp
    simp [execOp, ho, resolve, invoke, builtin, hd, hs, hrun, Result.andThen]
    refine hK _ _ (h _ (setRow_heap w g _ _ _ _ hg) ?_)
    exact ⟨rfl, rfl, rfl, by simp, fun k hk => setRow_other w g k _ (by omega)⟩
/-- append in a region that draws; the list that it grew from reads on. -/
theorem step_keeps {P : Program} {ops : Array Oper} {o : Oper} {a : Act} {w : World} {K : Act → World → Prop} {Q : Exit → Act → World → Prop} {E : Prop}
    (hg : o.guard = none) (s x : Operand) {t : TypeId} (hop : o.op = Op.call { callee := Callee.builtin Builtin.append, args := #[s, x], argTypes := #[t, t] })
    {e : TypeId} {size bytes : Nat} (he : Ety P t e size bytes)
    (v : Value) (n : Nat) (olds : List Value) (hs : a.eval s = v) (hown : w.ownsRow 0 e size v n olds)
    (b m c : Nat) (news : List Value) (hx : a.eval x = .slice (some ⟨b, 0, none⟩) m c) (hn : news.length = m * size) (hb : w.heap[b]? = some (.cells news.toArray e (0, 0))) (h1c : ∀ u ∈ news, u.oneCell' = true)
    (b1 : n + m ≤ 1000000)
    (hK : ∀ v' w', w'.ownsRow 0 e size v' (n + m) (olds ++ news) → w'.ownsRow 0 e size v n olds → w.grownBy w' v.ownBlock → (∀ k, v'.ownBlock = some k → v.ownBlock = some k ∨ w.heap.size ≤ k) → K (a.put o.dst v') w') :
    if Region.wanted o (yielded ops a.tmps) = true then Oper.wp P o a w K Q else E := by
  have hw : Region.wanted o (yielded ops a.tmps) = true := by simp [Region.wanted, hg]
  rw [if_pos hw]
  obtain ⟨i, z, ht, hi, hz, hsize, hby, hzs, hsz⟩ := he.ex
  have hsm := he.small
  have hlim : (n + m) * bytes ≤ 140737488355328 := by have := Nat.mul_le_mul b1 hsm; omega
  have hc : ∀ j u, news[j]? = some u → w.cell? ((⟨b, 0, none⟩ : Addr).add j) = some u := fun j u hu => by
    rw [add0, Nat.zero_add, cell_at hb]
    simpa using hu
  have key : ∃ v' w', (Builtin.append_ #[t, t] o.type #[v, .slice (some ⟨b, 0, none⟩) m c]).run P w = .ok v' w' ∧ w'.ownsRow 0 e size v' (n + m) (olds ++ news) ∧ w'.ownsRow 0 e size v n olds ∧ w.grownBy w' v.ownBlock ∧ (∀ k, v'.ownBlock = some k → v.ownBlock = some k ∨ w.heap.size ≤ k) := by
    have hlo := hown.1
    rcases hown.2 with ⟨e0, hn0⟩ | ⟨g, cap', cur, e0, hb0, hh, hnc, hcm, hcs, htake⟩
    · subst e0
      obtain ⟨v', w', hrun, r1, r2, _, r3⟩ := run_append_own_at (P := P) w 0 t o.type e i z size bytes ht hi hz hsize hby hzs hsz _ n olds hown ⟨b, 0, none⟩ m c news hn hc h1c (by unfold maxLen; omega) hlim (Nat.zero_le _)
      refine ⟨v', w', hrun, r1, own_grown hown r2 (fun g e => ?_), r2, fun k hk => ?_⟩
      · simp [Value.ownBlock] at e
      · rcases r3 with r3 | r3
        · exact .inl (r3 ▸ hk)
        · rw [r3] at hk; cases hk; exact .inr (Nat.le_refl _)
    · subst e0
      by_cases hroom : n + m ≤ cap'
      · obtain ⟨w', hrun, r1, r2⟩ := run_append_own_spare (P := P) w 0 t o.type e i size ht hi hsize g n cap' olds hown ⟨b, 0, none⟩ m c news hn hc h1c hroom
        exact ⟨_, w', hrun, r1, own_head r1 hlo, r2, fun k hk => .inl hk⟩
      · obtain ⟨v', w', hrun, r1, r2⟩ := run_append_arg_grows (P := P) w t o.type e i z size bytes ht hi hz hsize hby hzs hsz ⟨g, 0, none⟩ n cap' olds hlo (fun j u hu => by
          have hj : j < n * size := by have := (List.getElem?_eq_some_iff.1 hu).1; omega
          rw [add0, Nat.zero_add, hown.cellAt j hj]
          exact hu) ⟨b, 0, none⟩ m c news hn hc (by omega) (by unfold maxLen; omega) hlim
        refine ⟨v', w', hrun, own_mono r1 (Nat.zero_le _), own_grown hown r2 (fun _ e => by cases e), ⟨r2.os, r2.tape, r2.output, r2.size, fun k hk _ => r2.block k hk (by simp)⟩, fun k hk => .inr (own_lt r1 hk).1⟩
  obtain ⟨v', w', hrun, r1, r2, r3, r4⟩ := key
  unfold Oper.wp
  simp [execOp, hop, resolve, invoke, builtin, hs, hx, hrun, Result.andThen]
  exact hK v' w' r1 r2 r3 r4
/-- What is one's alone turns. -/
theorem VS.updA {wb : Nat} {s : Sg} {w W W' : World} (h : VS wb s w W) (L : List Th) (hf : Frm (Th.all s.a).feet W W') (hr : ∀ t ∈ L, t.rd W') (hs : ∀ t ∈ L, ∀ k ∈ t.feet, k ∈ (Th.all s.a).feet ∨ W.heap.size ≤ k) : VS wb { s with a := L } w W' := by
  refine Sep.upd h .ta hf hr (fun k hk => ?_) (fun j hj => ?_)
  · obtain ⟨t, ht, hk2⟩ := List.mem_flatMap.1 hk
    exact hs t ht k hk2
  · cases j <;> first | rfl | exact absurd rfl hj
/-- A store into a row that is one's alone. -/
theorem VS.putA {wb : Nat} {s : Sg} {w W : World} (h : VS wb s w W) {e : TypeId} {z g n cap : Nat} {xs : List Value} (ha : s.a = [rowT e z (.slice (some ⟨g, 0, none⟩) n cap) n xs]) (j : Nat) (u : Value) : VS wb { s with a := [rowT e z (.slice (some ⟨g, 0, none⟩) n cap) n (xs.set j u)] } w (W.setCell ⟨g, j, none⟩ u) := by
  have ho : W.ownsRow 0 e z (.slice (some ⟨g, 0, none⟩) n cap) n xs := by
    have := Sep.rd h .ta
    simp only [Sg.th, ha] at this
    exact this _ (List.mem_singleton.2 rfl)
  obtain ⟨h1, h2⟩ := ho.stored j u
  have ef : (Th.all s.a).feet = [g] := by rw [ha]; simp [Th.all, rowT, Value.ownBlock]
  refine h.updA _ (by rw [ef]; exact Frm.of_grown h2 (fun k e => by cases e; exact .inl (by simp))) (by intro t ht; simp at ht; subst ht; exact h1) (fun t ht k hk => ?_)
  simp at ht; subst ht
  rw [ef]
  exact .inl (by simpa [rowT, Value.ownBlock] using hk)
theorem VS.setMark {wb : Nat} {s : Sg} {w W : World} (h : VS wb s w W) (x : Int) : VS wb { s with mark := x } w (W.setCell ⟨wb, 20, none⟩ (.int .i64 x)) :=
  h.store 20 _ rfl (fun q hq => by cases q <;> first | rfl | exact absurd rfl hq)
theorem keys_set (l : List K3) (k : Nat) (K : K3) (h : k < l.length) : (((l.flatMap keyC).set (k * 3) (.int .i64 K.id)).set (k * 3 + 1) (.int .i64 K.inc)).set (k * 3 + 2) (.int .i64 K.st) = (l.set k K).flatMap keyC := by
  have := kcells_set l k K h
  rw [kcells_flat, kcells_flat] at this
  exact this
theorem pks_set : ∀ (l : List Pk) (k : Nat) (p : Pk), k < l.length → ((l.flatMap pkC).set (k * 2) (.int .i64 p.dest)).set (k * 2 + 1) (.string (bs p.bytes)) = (l.set k p).flatMap pkC
  | a :: r, 0, p, _ => by simp [pkC, List.flatMap_cons]
  | a :: r, k + 1, p, h => by
    have ih := pks_set r k p (by simpa using h)
    rw [List.set_cons_succ, List.flatMap_cons, List.flatMap_cons, ← ih]
    simp only [pkC, show (k + 1) * 2 = k * 2 + 1 + 1 by omega, List.cons_append, List.nil_append, List.set_cons_succ]
end Go.Proofs.YtnneljcbelgoeaaGreatDoor.wire
/- gossiplaw's hold: a list is kept, and a copy of it (written by gen/mkvhold.py). -/
namespace Go.Proofs.YtnneljcbelgoeaaGreatDoor.wire
open Go.RowKit Go.Maps
theorem infoLK : (Tryz.prog.info? 46).map (fun i => (i.zero, i.size, i.bytes)) = some (some (.slice none 0 0), 1, 24) := by kernel_rfl
theorem etyLKv : Ety Tryz.prog 38 46 1 24 := ety_of Tryz.underlying38 infoLK rfl (by omega) (by omega)
theorem infoEK : (Tryz.prog.info? 76).map (fun i => (i.zero, i.size, i.bytes)) = some (some (.agg #[.int .i64 0, .int .i64 0, .int .i64 0]), 3, 24) := by kernel_rfl
theorem etyEKv : Ety Tryz.prog 46 76 3 24 := ety_of Tryz.underlying46 infoEK rfl (by omega) (by omega)
theorem oneKv (a : K3) : ∀ u ∈ keyC a, u.oneCell' = true := by intro u hu; simp [keyC] at hu; rcases hu with rfl | rfl | rfl <;> rfl
theorem lenKv (a : K3) : (keyC a).length = 3 := rfl
set_option maxRecDepth 100000 in
set_option maxHeartbeats 2000000 in
theorem hold_s (wb : Nat) (s : Sg) (w W : World) (h : VS wb s w W) (hb1 : s.ls.length ≤ 90000) (hb2 : s.ws.length ≤ 90000) (v : Value) (ks : List K3) (hk : ks.length ≤ 2000) (hv : keysT v ks ∈ s.fz) :
    Calls Tryz.prog 31 #[.pointer (some ⟨wb, 0, none⟩), v] W fun e W' => e = .returned (.tuple #[]) ∧ ∃ (lv wv y : Value), VS wb { s with lv := lv, wv := wv, ls := s.ls ++ [v], ws := s.ws ++ [y], fz := keysT y ks :: s.fz } w W' := by
  have hvr : W.ownsRow 0 76 3 v ks.length (ks.flatMap keyC) := h.has hv
  obtain ⟨ao, cap, hvf, _⟩ := row_form hvr
  subst hvf
  obtain ⟨ti, hti, hz0, hz1, hz2⟩ := info_parts infoEK
  have HC := hide h
  have HV := hide hvr
  have hwl := h.lt
  clear h hvr hv
  go_enter Tryz.func31, Tryz.ntmps31
  go_wp2_with (at_make; refine wpList_make_full _ rfl _ _ 46 rfl 0 76 ti (.agg #[.int .i64 0, .int .i64 0, .int .i64 0]) 3 Tryz.underlying46 hti hz0 hz1 .i64 .i64 _ _ ks.length rfl rfl rfl rfl (by rw [hz2]; omega) (by unfold maxLen; omega) (by omega) ?_)
  intro w1 hown hgrow
  obtain ⟨c0, hblk, hc0⟩ := made_row hown
  have hB1 : Below W.heap.size W w1 := (Below.refl _ _).grown hgrow (Nat.le_refl _) (fun k e => by cases e)
  have HK := hide hblk
  have HB := hide hB1
  have HV1 := hide (own_below (unhide HV) hB1)
  clear hown hgrow hblk hB1
  go_wp2_with (refine wpList_copy_row etyEKv rfl (.tmp 10) (.tmp 11) rfl W.heap.size ks.length (.slice ao ks.length cap) rfl rfl c0 (ks.flatMap keyC) (unhide HK) hc0 (one_of oneKv ks) (unhide HV1) ?_)
  intro w2 hk2 hb2
  have hB2 := (unhide HB).trans hb2
  have hcv : w2.ownsRow 0 76 3 (.slice (some ⟨W.heap.size, 0, none⟩) ks.length ks.length) ks.length (ks.flatMap keyC) :=
    ⟨row_len keyC 3 lenKv ks, .inr ⟨W.heap.size, ks.length, _, rfl, by omega, hk2, Nat.le_refl _, by unfold maxLen; omega, by simp [row_len keyC 3 lenKv ks], by rw [List.take_of_length_le (by simp [row_len keyC 3 lenKv ks])]⟩⟩
  have HC2 := hide (((unhide HC).mono hB2).freeze (s' := { s with fz := keysT (.slice (some ⟨W.heap.size, 0, none⟩) ks.length ks.length) ks :: s.fz }) [keysT (.slice (some ⟨W.heap.size, 0, none⟩) ks.length ks.length) ks] (by intro t ht; simp at ht; subst ht; exact hcv) (by
    intro t ht k hk
    simp at ht; subst ht
    simp [rowT, Value.ownBlock] at hk; subst hk
    obtain ⟨a1, a2⟩ := (unhide HC).beyond (Nat.le_refl W.heap.size)
    exact ⟨a1, fun j _ => a2 j⟩) rfl (fun q hq => by cases q <;> first | rfl | exact absurd rfl hq))
  clear hk2 hb2 hB2 HK HB HV1 hcv HC HV
  have cA : w2.cell? ⟨wb, 16, none⟩ = some s.lv := (unhide HC2).cell 16
  have hs2 := (unhide HC2).lt
  go_wp2_with (at_builtin; refine wpList_app rfl _ _ rfl etyLKv 0 rfl rfl ((show w2.ownsRow 0 46 1 s.lv s.ls.length s.ls from Sep.rd (unhide HC2) .ls).alloc _) (Src.box (cs := [.slice ao ks.length cap]) 1 1 1 (heap_alloc_new w2 _) rfl) (by simp [Value.oneCell']) (by omega) (by omega) ?_)
  intro v3 w3 hown3 hgrow3 hat3
  have hP := (unhide HC2).grow (s' := { s with lv := v3, ls := s.ls ++ [.slice ao ks.length cap], fz := keysT (.slice (some ⟨W.heap.size, 0, none⟩) ks.length ks.length) ks :: s.fz }) .ls (by simp) ((Below.refl _ _).alloc (Nat.le_refl _) _) (Frm.of_grown hgrow3 (fun k e => .inl (by simp [Sg.th, rowT, e]))) (by simpa [Sg.th, rowT] using hown3) (fun k hk => by
    simp only [Sg.th, rowT, Option.mem_toList] at hk ⊢
    rcases hat3 with e | e
    · exact .inl (e ▸ hk)
    · rw [e] at hk; cases hk; exact .inr (by simp)) 16 v3 rfl (fun q h1 h2 => by cases q <;> first | rfl | exact absurd rfl h1 | exact absurd rfl h2)
  obtain ⟨ao3, cp3, hv3, _⟩ := row_form hown3
  subst hv3
  have dA : w3.cell? ⟨wb, 16, none⟩ = some s.lv := cell_at hP.2 16
  have eA : w3.frozen? ⟨wb, 16, none⟩ = false := free_at hP.2 16
  have HP1 := hide hP.1
  clear hP hown3 hgrow3 hat3 cA HC2
  have cB : (w3.setCell ⟨wb, 16, none⟩ (.slice ao3 (s.ls.length + 1) cp3)).cell? ⟨wb, 17, none⟩ = some s.wv := (unhide HP1).cell 17
  have hs4 := (unhide HP1).lt
  rw [World.size_setCell] at hs4
  go_wp2_with (at_builtin; refine wpList_app rfl _ _ rfl etyLKv 0 rfl rfl ((show (w3.setCell ⟨wb, 16, none⟩ (.slice ao3 (s.ls.length + 1) cp3)).ownsRow 0 46 1 s.wv s.ws.length s.ws from Sep.rd (unhide HP1) .ws).alloc _) (Src.box (cs := [.slice (some ⟨W.heap.size, 0, none⟩) ks.length ks.length]) 1 1 1 (by have hh := heap_alloc_new (w3.setCell ⟨wb, 16, none⟩ (.slice ao3 (s.ls.length + 1) cp3)) (.cells #[.slice (some ⟨W.heap.size, 0, none⟩) ks.length ks.length] 46); rw [World.size_setCell] at hh; exact hh) rfl) (by simp [Value.oneCell']) (by omega) (by simp) ?_)
  intro v5 w5 hown5 hgrow5 hat5
  have hP := (unhide HP1).grow (s' := { s with lv := .slice ao3 (s.ls.length + 1) cp3, wv := v5, ls := s.ls ++ [.slice ao ks.length cap], ws := s.ws ++ [.slice (some ⟨W.heap.size, 0, none⟩) ks.length ks.length], fz := keysT (.slice (some ⟨W.heap.size, 0, none⟩) ks.length ks.length) ks :: s.fz }) .ws (by simp) ((Below.refl _ _).alloc (Nat.le_refl _) _) (Frm.of_grown hgrow5 (fun k e => .inl (by simp [Sg.th, rowT, e]))) (by simpa [Sg.th, rowT] using hown5) (fun k hk => by
    simp only [Sg.th, rowT, Option.mem_toList] at hk ⊢
    rcases hat5 with e | e
    · exact .inl (e ▸ hk)
    · rw [e] at hk; cases hk; exact .inr (by simp)) 17 v5 rfl (fun q h1 h2 => by cases q <;> first | rfl | exact absurd rfl h1 | exact absurd rfl h2)
  obtain ⟨ao5, cp5, hv5, _⟩ := row_form hown5
  subst hv5
  have dB : w5.cell? ⟨wb, 17, none⟩ = some s.wv := cell_at hP.2 17
  have eB : w5.frozen? ⟨wb, 17, none⟩ = false := free_at hP.2 17
  have HQ1 := hide hP.1
  clear hP hown5 hgrow5 hat5 cB dA eA HP1
  go_wp2
  go_end0
  exact ⟨rfl, _, _, _, unhide HQ1⟩
end Go.Proofs.YtnneljcbelgoeaaGreatDoor.wire
/- gossiplaw's keep: the caller marks a list that came out, appends to it, and holds both (written by gen/mkvhold.py). -/
namespace Go.Proofs.YtnneljcbelgoeaaGreatDoor.wire
open Go.RowKit Go.Maps
set_option maxRecDepth 100000 in
set_option maxHeartbeats 2000000 in
theorem keep_s (wb : Nat) (s : Sg) (w W : World) (h : VS wb s w W) (hb1 : s.ls.length ≤ 89000) (hb2 : s.ws.length ≤ 89000) (hm0 : 0 ≤ s.mark) (hm1 : s.mark ≤ 100000000) (v : Value) (ks : List K3) (hk : ks.length ≤ 1000) (ha : s.a = [keysT v ks]) :
    Calls Tryz.prog 15 #[.pointer (some ⟨wb, 0, none⟩), v] W fun e W' => e = .returned (.tuple #[]) ∧ ∃ (lv wv x y z : Value) (L LL : List K3), L.length = ks.length ∧ LL.length = ks.length + 2 ∧ VS wb { s with a := [], mark := s.mark + ks.length + 2, lv := lv, wv := wv, ls := s.ls ++ [v] ++ [x], ws := s.ws ++ [y] ++ [z], fz := keysT z LL :: keysT y L :: keysT v L :: keysT x LL :: s.fz } w W' := by
  have hv : W.ownsRow 0 76 3 v ks.length (ks.flatMap keyC) := Sep.rd h .ta _ (by rw [ha]; exact List.mem_singleton.2 rfl)
  obtain ⟨ao, cap, hvf, _⟩ := row_form hv
  subst hvf
  have h0 : VS wb { s with mark := s.mark + ((0 : Nat) : Int), a := [rowT 76 3 (.slice ao ks.length cap) ks.length (ks.flatMap keyC)] } w W := by
    have e : ({ s with mark := s.mark + ((0 : Nat) : Int), a := [rowT 76 3 (.slice ao ks.length cap) ks.length (ks.flatMap keyC)] } : Sg) = s := by rw [show s.mark + ((0 : Nat) : Int) = s.mark by omega, ← ha]
    rw [e]; exact h
  have HC := hide h0
  clear h h0 hv ha
  go_enter Tryz.func15, Tryz.ntmps15
  go_wp2
  go_loopw [4] (fun i wr => ∃ (j : Nat) (L : List K3), j ≤ ks.length ∧ i = .int .i64 j ∧ L.length = ks.length ∧ VS wb { s with mark := s.mark + (j : Int), a := [rowT 76 3 (.slice ao ks.length cap) ks.length (L.flatMap keyC)] } w wr) (fun i _ => ks.length - (intOf i).toNat)
  case atStart => exact ⟨0, ks, Nat.zero_le _, rfl, rfl, unhide HC⟩
  case round =>
    obtain ⟨j, L, hj, rfl, hL, hC⟩ := hrel
    have hV : wr.ownsRow 0 76 3 (.slice ao ks.length cap) ks.length (L.flatMap keyC) := Sep.rd hC .ta _ (List.mem_singleton.2 rfl)
    have hwl := hC.lt
    by_cases hlt : j < ks.length
    · have hjl : (j : Int) < (ks.length : Int) := by omega
      obtain ⟨g, cap', e1, hg1, hg2⟩ := hV.form (by omega)
      simp only [Value.slice.injEq] at e1
      obtain ⟨rfl, _, rfl⟩ := e1
      have c20 : wr.cell? ⟨wb, 20, none⟩ = some (.int .i64 (s.mark + j)) := hC.cell 20
      have f20 : wr.frozen? ⟨wb, 20, none⟩ = false := hC.free 20
      have hne : g ≠ wb := fun e => Sep.apart hC .ta .wb (by simp) g (by simp [Sg.th, Th.all, rowT, Value.ownBlock]) (by simp [Sg.th, cellsT, e])
      have hne2 : wb ≠ g := fun e => hne e.symm
      have hLj : j < L.length := by omega
      have hrow := fun q hq => row_cell keyC 3 lenKv (show wr.ownsRow 0 76 3 (.slice (some ⟨g, 0, none⟩) ks.length cap) L.length (L.flatMap keyC) by rw [hL]; exact hV) j hLj q hq
      have q0 : wr.cell? ⟨g, j * 3, none⟩ = some (.int .i64 L[j].id) := hrow 0 (by omega)
      have q1 : wr.cell? ⟨g, j * 3 + 1, none⟩ = some (.int .i64 L[j].inc) := hrow 1 (by omega)
      have q2 : wr.cell? ⟨g, j * 3 + 2, none⟩ = some (.int .i64 L[j].st) := hrow 2 (by omega)
      have r0 := hV.frozenAt (j * 3)
      have r1 := hV.frozenAt (j * 3 + 1)
      have r2 := hV.frozenAt (j * 3 + 2)
      have h1 := hC.setMark (s.mark + j + 1)
      have h2 := h1.putA (by exact rfl) (j * 3) (.int .i64 (-(s.mark + j + 1)))
      have h3 := h2.putA (by exact rfl) (j * 3 + 1) (.int .i64 0)
      have hP := h3.putA (by exact rfl) (j * 3 + 2) (.int .i64 0)
      rw [show (((L.flatMap keyC).set (j * 3) (.int .i64 (-(s.mark + j + 1)))).set (j * 3 + 1) (.int .i64 0)).set (j * 3 + 2) (.int .i64 0) = (L.set j ⟨-(s.mark + j + 1), 0, 0⟩).flatMap keyC from keys_set L j ⟨-(s.mark + j + 1), 0, 0⟩ hLj] at hP
      have H2 := hide hP
      clear h1 hC hV hP hrow h2 h3
      go_wp2
      go_roundw
      case rel => exact ⟨j + 1, L.set j ⟨-(s.mark + j + 1), 0, 0⟩, by omega, by go_num, (by rw [List.length_set]; exact hL), (by have := unhide H2; rw [show s.mark + ((j + 1 : Nat) : Int) = s.mark + j + 1 by omega]; exact this)⟩
      case measure => simp [intOf]; omega
    · have hje : j = ks.length := by omega
      subst hje
      have c20 : wr.cell? ⟨wb, 20, none⟩ = some (.int .i64 (s.mark + ks.length)) := hC.cell 20
      have f20 : wr.frozen? ⟨wb, 20, none⟩ = false := hC.free 20
      have HC1 := hide (hC.setMark (s.mark + ks.length + 2))
      clear hC hV
      go_wp2_with fail
      generalize wr.setCell ⟨wb, 20, none⟩ (.int .i64 (s.mark + ks.length + 2)) = W1 at HC1 ⊢
      clear c20 f20 hwl
      have d20 : W1.cell? ⟨wb, 20, none⟩ = some (.int .i64 (s.mark + ks.length + 2)) := (unhide HC1).cell 20
      have hs1 := (unhide HC1).lt
      have HV1 : Hid (W1.ownsRow 0 76 3 (.slice ao ks.length cap) ks.length (L.flatMap keyC)) := hide (Sep.rd (unhide HC1) .ta _ (List.mem_singleton.2 rfl))
      go_region_law
        ((refine step_keeps (by rfl) _ _ (by rfl) etyEKv (.slice ao ks.length cap) ks.length (L.flatMap keyC) (by rfl) (((unhide HV1).alloc _).drew) W1.heap.size 2 2 (([⟨IntKind.i64.wrap (1 - (s.mark + ks.length + 2)), 0, 0⟩, ⟨IntKind.i64.wrap (-(s.mark + ks.length + 2)), 0, 0⟩] : List K3).flatMap keyC) (by rfl) (by rfl) (by exact heap_alloc_new W1 _) (one_of oneKv _) (by omega) ?_; intro v' w' ho1 ho2 hgr hat))
      all_goals
        have hsn : L.flatMap keyC ++ ([⟨IntKind.i64.wrap (1 - (s.mark + ks.length + 2)), 0, 0⟩, ⟨IntKind.i64.wrap (-(s.mark + ks.length + 2)), 0, 0⟩] : List K3).flatMap keyC = (L ++ ([⟨IntKind.i64.wrap (1 - (s.mark + ks.length + 2)), 0, 0⟩, ⟨IntKind.i64.wrap (-(s.mark + ks.length + 2)), 0, 0⟩] : List K3)).flatMap keyC := (List.flatMap_append ..).symm
        rw [hsn] at ho1
        have hN : (L ++ ([⟨IntKind.i64.wrap (1 - (s.mark + ks.length + 2)), 0, 0⟩, ⟨IntKind.i64.wrap (-(s.mark + ks.length + 2)), 0, 0⟩] : List K3)).length = ks.length + 2 := by simp [hL]
        generalize (L ++ ([⟨IntKind.i64.wrap (1 - (s.mark + ks.length + 2)), 0, 0⟩, ⟨IntKind.i64.wrap (-(s.mark + ks.length + 2)), 0, 0⟩] : List K3)) = LL at ho1 hN
        clear hsn
        obtain ⟨bo, bc, hvf, _⟩ := row_form ho1
        subst hvf
        have hC2 := ((unhide HC1).mono (below_draws ((Below.refl _ _).alloc (Nat.le_refl _) _) 1)).updA [keysT (.slice ao ks.length cap) L, keysT (.slice bo (ks.length + 2) bc) LL] (Frm.of_grown hgr (fun k e => .inl (by simp only [Th.all, List.flatMap_cons, List.flatMap_nil, List.append_nil, rowT, Option.mem_toList]; exact e))) (by
          intro t ht
          simp only [List.mem_cons, List.not_mem_nil, or_false] at ht
          rcases ht with rfl | rfl
          · show w'.ownsRow 0 _ 3 _ L.length _; rw [hL]; exact ho2
          · show w'.ownsRow 0 _ 3 _ LL.length _; rw [hN]; exact ho1) (by
          intro t ht k hk
          simp only [Th.all, List.flatMap_cons, List.flatMap_nil, List.append_nil, rowT, Option.mem_toList]
          simp only [List.mem_cons, List.not_mem_nil, or_false] at ht
          rcases ht with rfl | rfl
          · exact .inl (by simpa only [rowT, Option.mem_toList] using hk)
          · exact (hat k (by simpa only [rowT, Option.mem_toList] using hk)).imp id id)
        have H2 := hide hC2.freezeA
        clear ho1 ho2 hgr hC2 HC1 HV1 hat
        go_wp2_with fail
        have hh := hold_s wb _ w w' (unhide H2) (by simp only; omega) (by simp only; omega) (.slice ao ks.length cap) L (by omega) (by simp)
        refine hh.mono ?_
        clear hh
        rintro e w2 ⟨rfl, lv1, wv1, y1, hC3⟩
        have H3 := hide hC3
        clear hC3 H2
        go_wp2_with fail
        have hh := hold_s wb _ w w2 (unhide H3) (by simp; omega) (by simp; omega) (.slice bo (ks.length + 2) bc) LL (by omega) (by simp)
        refine hh.mono ?_
        clear hh
        rintro e w3 ⟨rfl, lv2, wv2, y2, hC4⟩
        have H4 := hide hC4
        clear hC4 H3
        go_wp2
        go_end0
        exact ⟨rfl, _, _, _, _, _, L, LL, hL, hN, unhide H4⟩
end Go.Proofs.YtnneljcbelgoeaaGreatDoor.wire
/- gossiplaw's holdOut: a list is kept, and a copy of it (written by gen/mkvhold.py). -/
namespace Go.Proofs.YtnneljcbelgoeaaGreatDoor.wire
open Go.RowKit Go.Maps
theorem infoLO : (Tryz.prog.info? 77).map (fun i => (i.zero, i.size, i.bytes)) = some (some (.slice none 0 0), 1, 24) := by kernel_rfl
theorem etyLOv : Ety Tryz.prog 39 77 1 24 := ety_of Tryz.underlying39 infoLO rfl (by omega) (by omega)
theorem infoEO : (Tryz.prog.info? 78).map (fun i => (i.zero, i.size, i.bytes)) = some (some (.agg #[.int .i64 0, .string (bs [])]), 2, 24) := by kernel_rfl
theorem etyEOv : Ety Tryz.prog 77 78 2 24 := ety_of Tryz.underlying77 infoEO rfl (by omega) (by omega)
theorem oneOv (a : Pk) : ∀ u ∈ pkC a, u.oneCell' = true := by intro u hu; simp [pkC] at hu; rcases hu with rfl | rfl <;> rfl
theorem lenOv (a : Pk) : (pkC a).length = 2 := rfl
set_option maxRecDepth 100000 in
set_option maxHeartbeats 2000000 in
theorem holdOut_s (wb : Nat) (s : Sg) (w W : World) (h : VS wb s w W) (hb1 : s.os.length ≤ 90000) (hb2 : s.ks.length ≤ 90000) (v : Value) (ks : List Pk) (hk : ks.length ≤ 2000) (hv : pksT v ks ∈ s.fz) :
    Calls Tryz.prog 91 #[.pointer (some ⟨wb, 0, none⟩), v] W fun e W' => e = .returned (.tuple #[]) ∧ ∃ (lv wv y : Value), VS wb { s with ov := lv, kv := wv, os := s.os ++ [v], ks := s.ks ++ [y], fz := pksT y ks :: s.fz } w W' := by
  have hvr : W.ownsRow 0 78 2 v ks.length (ks.flatMap pkC) := h.has hv
  obtain ⟨ao, cap, hvf, _⟩ := row_form hvr
  subst hvf
  obtain ⟨ti, hti, hz0, hz1, hz2⟩ := info_parts infoEO
  have HC := hide h
  have HV := hide hvr
  have hwl := h.lt
  clear h hvr hv
  go_enter Tryz.func91, Tryz.ntmps91
  go_wp2_with (at_make; refine wpList_make_full _ rfl _ _ 77 rfl 0 78 ti (.agg #[.int .i64 0, .string (bs [])]) 2 Tryz.underlying77 hti hz0 hz1 .i64 .i64 _ _ ks.length rfl rfl rfl rfl (by rw [hz2]; omega) (by unfold maxLen; omega) (by omega) ?_)
  intro w1 hown hgrow
  obtain ⟨c0, hblk, hc0⟩ := made_row hown
  have hB1 : Below W.heap.size W w1 := (Below.refl _ _).grown hgrow (Nat.le_refl _) (fun k e => by cases e)
  have HK := hide hblk
  have HB := hide hB1
  have HV1 := hide (own_below (unhide HV) hB1)
  clear hown hgrow hblk hB1
  go_wp2_with (refine wpList_copy_row etyEOv rfl (.tmp 10) (.tmp 11) rfl W.heap.size ks.length (.slice ao ks.length cap) rfl rfl c0 (ks.flatMap pkC) (unhide HK) hc0 (one_of oneOv ks) (unhide HV1) ?_)
  intro w2 hk2 hb2
  have hB2 := (unhide HB).trans hb2
  have hcv : w2.ownsRow 0 78 2 (.slice (some ⟨W.heap.size, 0, none⟩) ks.length ks.length) ks.length (ks.flatMap pkC) :=
    ⟨row_len pkC 2 lenOv ks, .inr ⟨W.heap.size, ks.length, _, rfl, by omega, hk2, Nat.le_refl _, by unfold maxLen; omega, by simp [row_len pkC 2 lenOv ks], by rw [List.take_of_length_le (by simp [row_len pkC 2 lenOv ks])]⟩⟩
  have HC2 := hide (((unhide HC).mono hB2).freeze (s' := { s with fz := pksT (.slice (some ⟨W.heap.size, 0, none⟩) ks.length ks.length) ks :: s.fz }) [pksT (.slice (some ⟨W.heap.size, 0, none⟩) ks.length ks.length) ks] (by intro t ht; simp at ht; subst ht; exact hcv) (by
    intro t ht k hk
    simp at ht; subst ht
    simp [rowT, Value.ownBlock] at hk; subst hk
    obtain ⟨a1, a2⟩ := (unhide HC).beyond (Nat.le_refl W.heap.size)
    exact ⟨a1, fun j _ => a2 j⟩) rfl (fun q hq => by cases q <;> first | rfl | exact absurd rfl hq))
  clear hk2 hb2 hB2 HK HB HV1 hcv HC HV
  have cA : w2.cell? ⟨wb, 18, none⟩ = some s.ov := (unhide HC2).cell 18
  have hs2 := (unhide HC2).lt
  go_wp2_with (at_builtin; refine wpList_app rfl _ _ rfl etyLOv 0 rfl rfl ((show w2.ownsRow 0 77 1 s.ov s.os.length s.os from Sep.rd (unhide HC2) .os).alloc _) (Src.box (cs := [.slice ao ks.length cap]) 1 1 1 (heap_alloc_new w2 _) rfl) (by simp [Value.oneCell']) (by omega) (by omega) ?_)
  intro v3 w3 hown3 hgrow3 hat3
  have hP := (unhide HC2).grow (s' := { s with ov := v3, os := s.os ++ [.slice ao ks.length cap], fz := pksT (.slice (some ⟨W.heap.size, 0, none⟩) ks.length ks.length) ks :: s.fz }) .os (by simp) ((Below.refl _ _).alloc (Nat.le_refl _) _) (Frm.of_grown hgrow3 (fun k e => .inl (by simp [Sg.th, rowT, e]))) (by simpa [Sg.th, rowT] using hown3) (fun k hk => by
    simp only [Sg.th, rowT, Option.mem_toList] at hk ⊢
    rcases hat3 with e | e
    · exact .inl (e ▸ hk)
    · rw [e] at hk; cases hk; exact .inr (by simp)) 18 v3 rfl (fun q h1 h2 => by cases q <;> first | rfl | exact absurd rfl h1 | exact absurd rfl h2)
  obtain ⟨ao3, cp3, hv3, _⟩ := row_form hown3
  subst hv3
  have dA : w3.cell? ⟨wb, 18, none⟩ = some s.ov := cell_at hP.2 18
  have eA : w3.frozen? ⟨wb, 18, none⟩ = false := free_at hP.2 18
  have HP1 := hide hP.1
  clear hP hown3 hgrow3 hat3 cA HC2
  have cB : (w3.setCell ⟨wb, 18, none⟩ (.slice ao3 (s.os.length + 1) cp3)).cell? ⟨wb, 19, none⟩ = some s.kv := (unhide HP1).cell 19
  have hs4 := (unhide HP1).lt
  rw [World.size_setCell] at hs4
  go_wp2_with (at_builtin; refine wpList_app rfl _ _ rfl etyLOv 0 rfl rfl ((show (w3.setCell ⟨wb, 18, none⟩ (.slice ao3 (s.os.length + 1) cp3)).ownsRow 0 77 1 s.kv s.ks.length s.ks from Sep.rd (unhide HP1) .ks).alloc _) (Src.box (cs := [.slice (some ⟨W.heap.size, 0, none⟩) ks.length ks.length]) 1 1 1 (by have hh := heap_alloc_new (w3.setCell ⟨wb, 18, none⟩ (.slice ao3 (s.os.length + 1) cp3)) (.cells #[.slice (some ⟨W.heap.size, 0, none⟩) ks.length ks.length] 77); rw [World.size_setCell] at hh; exact hh) rfl) (by simp [Value.oneCell']) (by omega) (by simp) ?_)
  intro v5 w5 hown5 hgrow5 hat5
  have hP := (unhide HP1).grow (s' := { s with ov := .slice ao3 (s.os.length + 1) cp3, kv := v5, os := s.os ++ [.slice ao ks.length cap], ks := s.ks ++ [.slice (some ⟨W.heap.size, 0, none⟩) ks.length ks.length], fz := pksT (.slice (some ⟨W.heap.size, 0, none⟩) ks.length ks.length) ks :: s.fz }) .ks (by simp) ((Below.refl _ _).alloc (Nat.le_refl _) _) (Frm.of_grown hgrow5 (fun k e => .inl (by simp [Sg.th, rowT, e]))) (by simpa [Sg.th, rowT] using hown5) (fun k hk => by
    simp only [Sg.th, rowT, Option.mem_toList] at hk ⊢
    rcases hat5 with e | e
    · exact .inl (e ▸ hk)
    · rw [e] at hk; cases hk; exact .inr (by simp)) 19 v5 rfl (fun q h1 h2 => by cases q <;> first | rfl | exact absurd rfl h1 | exact absurd rfl h2)
  obtain ⟨ao5, cp5, hv5, _⟩ := row_form hown5
  subst hv5
  have dB : w5.cell? ⟨wb, 19, none⟩ = some s.kv := cell_at hP.2 19
  have eB : w5.frozen? ⟨wb, 19, none⟩ = false := free_at hP.2 19
  have HQ1 := hide hP.1
  clear hP hown5 hgrow5 hat5 cB dA eA HP1
  go_wp2
  go_end0
  exact ⟨rfl, _, _, _, unhide HQ1⟩
end Go.Proofs.YtnneljcbelgoeaaGreatDoor.wire
/- gossiplaw's keepOut: the caller marks a list that came out, appends to it, and holds both (written by gen/mkvhold.py). -/
namespace Go.Proofs.YtnneljcbelgoeaaGreatDoor.wire
open Go.RowKit Go.Maps
set_option maxRecDepth 100000 in
set_option maxHeartbeats 2000000 in
theorem keepOut_s (wb : Nat) (s : Sg) (w W : World) (h : VS wb s w W) (hb1 : s.os.length ≤ 89000) (hb2 : s.ks.length ≤ 89000) (hm0 : 0 ≤ s.mark) (hm1 : s.mark ≤ 100000000) (v : Value) (ks : List Pk) (hk : ks.length ≤ 1000) (ha : s.a = [pksT v ks]) :
    Calls Tryz.prog 64 #[.pointer (some ⟨wb, 0, none⟩), v] W fun e W' => e = .returned (.tuple #[]) ∧ ∃ (lv wv x y z : Value) (L LL : List Pk), L.length = ks.length ∧ LL.length = ks.length + 2 ∧ VS wb { s with a := [], mark := s.mark + ks.length + 2, ov := lv, kv := wv, os := s.os ++ [v] ++ [x], ks := s.ks ++ [y] ++ [z], fz := pksT z LL :: pksT y L :: pksT v L :: pksT x LL :: s.fz } w W' := by
  have hv : W.ownsRow 0 78 2 v ks.length (ks.flatMap pkC) := Sep.rd h .ta _ (by rw [ha]; exact List.mem_singleton.2 rfl)
  obtain ⟨ao, cap, hvf, _⟩ := row_form hv
  subst hvf
  have h0 : VS wb { s with mark := s.mark + ((0 : Nat) : Int), a := [rowT 78 2 (.slice ao ks.length cap) ks.length (ks.flatMap pkC)] } w W := by
    have e : ({ s with mark := s.mark + ((0 : Nat) : Int), a := [rowT 78 2 (.slice ao ks.length cap) ks.length (ks.flatMap pkC)] } : Sg) = s := by rw [show s.mark + ((0 : Nat) : Int) = s.mark by omega, ← ha]
    rw [e]; exact h
  have HC := hide h0
  clear h h0 hv ha
  go_enter Tryz.func64, Tryz.ntmps64
  go_wp2
  go_loopw [4] (fun i wr => ∃ (j : Nat) (L : List Pk), j ≤ ks.length ∧ i = .int .i64 j ∧ L.length = ks.length ∧ VS wb { s with mark := s.mark + (j : Int), a := [rowT 78 2 (.slice ao ks.length cap) ks.length (L.flatMap pkC)] } w wr) (fun i _ => ks.length - (intOf i).toNat)
  case atStart => exact ⟨0, ks, Nat.zero_le _, rfl, rfl, unhide HC⟩
  case round =>
    obtain ⟨j, L, hj, rfl, hL, hC⟩ := hrel
    have hV : wr.ownsRow 0 78 2 (.slice ao ks.length cap) ks.length (L.flatMap pkC) := Sep.rd hC .ta _ (List.mem_singleton.2 rfl)
    have hwl := hC.lt
    by_cases hlt : j < ks.length
    · have hjl : (j : Int) < (ks.length : Int) := by omega
      obtain ⟨g, cap', e1, hg1, hg2⟩ := hV.form (by omega)
      simp only [Value.slice.injEq] at e1
      obtain ⟨rfl, _, rfl⟩ := e1
      have c20 : wr.cell? ⟨wb, 20, none⟩ = some (.int .i64 (s.mark + j)) := hC.cell 20
      have f20 : wr.frozen? ⟨wb, 20, none⟩ = false := hC.free 20
      have hne : g ≠ wb := fun e => Sep.apart hC .ta .wb (by simp) g (by simp [Sg.th, Th.all, rowT, Value.ownBlock]) (by simp [Sg.th, cellsT, e])
      have hne2 : wb ≠ g := fun e => hne e.symm
      have hLj : j < L.length := by omega
      have hrow := fun q hq => row_cell pkC 2 lenOv (show wr.ownsRow 0 78 2 (.slice (some ⟨g, 0, none⟩) ks.length cap) L.length (L.flatMap pkC) by rw [hL]; exact hV) j hLj q hq
      have q0 : wr.cell? ⟨g, j * 2, none⟩ = some (.int .i64 L[j].dest) := hrow 0 (by omega)
      have q1 : wr.cell? ⟨g, j * 2 + 1, none⟩ = some (.string (bs L[j].bytes)) := hrow 1 (by omega)
      have r0 := hV.frozenAt (j * 2)
      have r1 := hV.frozenAt (j * 2 + 1)
      have h1 := hC.setMark (s.mark + j + 1)
      have h2 := h1.putA (by exact rfl) (j * 2) (.int .i64 (-(s.mark + j + 1)))
      have hP := h2.putA (by exact rfl) (j * 2 + 1) (.string (bs []))
      rw [show ((L.flatMap pkC).set (j * 2) (.int .i64 (-(s.mark + j + 1)))).set (j * 2 + 1) (.string (bs [])) = (L.set j ⟨-(s.mark + j + 1), []⟩).flatMap pkC from pks_set L j ⟨-(s.mark + j + 1), []⟩ hLj] at hP
      have H2 := hide hP
      clear h1 hC hV hP hrow h2
      go_wp2
      go_roundw
      case rel => exact ⟨j + 1, L.set j ⟨-(s.mark + j + 1), []⟩, by omega, by go_num, (by rw [List.length_set]; exact hL), (by have := unhide H2; rw [show s.mark + ((j + 1 : Nat) : Int) = s.mark + j + 1 by omega]; exact this)⟩
      case measure => simp [intOf]; omega
    · have hje : j = ks.length := by omega
      subst hje
      have c20 : wr.cell? ⟨wb, 20, none⟩ = some (.int .i64 (s.mark + ks.length)) := hC.cell 20
      have f20 : wr.frozen? ⟨wb, 20, none⟩ = false := hC.free 20
      have HC1 := hide (hC.setMark (s.mark + ks.length + 2))
      clear hC hV
      go_wp2_with fail
      generalize wr.setCell ⟨wb, 20, none⟩ (.int .i64 (s.mark + ks.length + 2)) = W1 at HC1 ⊢
      clear c20 f20 hwl
      have d20 : W1.cell? ⟨wb, 20, none⟩ = some (.int .i64 (s.mark + ks.length + 2)) := (unhide HC1).cell 20
      have hs1 := (unhide HC1).lt
      have HV1 : Hid (W1.ownsRow 0 78 2 (.slice ao ks.length cap) ks.length (L.flatMap pkC)) := hide (Sep.rd (unhide HC1) .ta _ (List.mem_singleton.2 rfl))
      go_region_law
        ((refine step_keeps (by rfl) _ _ (by rfl) etyEOv (.slice ao ks.length cap) ks.length (L.flatMap pkC) (by rfl) (((unhide HV1).alloc _).drew) W1.heap.size 2 2 (([⟨IntKind.i64.wrap (1 - (s.mark + ks.length + 2)), []⟩, ⟨IntKind.i64.wrap (-(s.mark + ks.length + 2)), []⟩] : List Pk).flatMap pkC) (by rfl) (by rfl) (by exact heap_alloc_new W1 _) (one_of oneOv _) (by omega) ?_; intro v' w' ho1 ho2 hgr hat))
      all_goals
        have hsn : L.flatMap pkC ++ ([⟨IntKind.i64.wrap (1 - (s.mark + ks.length + 2)), []⟩, ⟨IntKind.i64.wrap (-(s.mark + ks.length + 2)), []⟩] : List Pk).flatMap pkC = (L ++ ([⟨IntKind.i64.wrap (1 - (s.mark + ks.length + 2)), []⟩, ⟨IntKind.i64.wrap (-(s.mark + ks.length + 2)), []⟩] : List Pk)).flatMap pkC := (List.flatMap_append ..).symm
        rw [hsn] at ho1
        have hN : (L ++ ([⟨IntKind.i64.wrap (1 - (s.mark + ks.length + 2)), []⟩, ⟨IntKind.i64.wrap (-(s.mark + ks.length + 2)), []⟩] : List Pk)).length = ks.length + 2 := by simp [hL]
        generalize (L ++ ([⟨IntKind.i64.wrap (1 - (s.mark + ks.length + 2)), []⟩, ⟨IntKind.i64.wrap (-(s.mark + ks.length + 2)), []⟩] : List Pk)) = LL at ho1 hN
        clear hsn
        obtain ⟨bo, bc, hvf, _⟩ := row_form ho1
        subst hvf
        have hC2 := ((unhide HC1).mono (below_draws ((Below.refl _ _).alloc (Nat.le_refl _) _) 1)).updA [pksT (.slice ao ks.length cap) L, pksT (.slice bo (ks.length + 2) bc) LL] (Frm.of_grown hgr (fun k e => .inl (by simp only [Th.all, List.flatMap_cons, List.flatMap_nil, List.append_nil, rowT, Option.mem_toList]; exact e))) (by
          intro t ht
          simp only [List.mem_cons, List.not_mem_nil, or_false] at ht
          rcases ht with rfl | rfl
          · show w'.ownsRow 0 _ 2 _ L.length _; rw [hL]; exact ho2
          · show w'.ownsRow 0 _ 2 _ LL.length _; rw [hN]; exact ho1) (by
          intro t ht k hk
          simp only [Th.all, List.flatMap_cons, List.flatMap_nil, List.append_nil, rowT, Option.mem_toList]
          simp only [List.mem_cons, List.not_mem_nil, or_false] at ht
          rcases ht with rfl | rfl
          · exact .inl (by simpa only [rowT, Option.mem_toList] using hk)
          · exact (hat k (by simpa only [rowT, Option.mem_toList] using hk)).imp id id)
        have H2 := hide hC2.freezeA
        clear ho1 ho2 hgr hC2 HC1 HV1 hat
        go_wp2_with fail
        have hh := holdOut_s wb _ w w' (unhide H2) (by simp only; omega) (by simp only; omega) (.slice ao ks.length cap) L (by omega) (by simp)
        refine hh.mono ?_
        clear hh
        rintro e w2 ⟨rfl, lv1, wv1, y1, hC3⟩
        have H3 := hide hC3
        clear hC3 H2
        go_wp2_with fail
        have hh := holdOut_s wb _ w w2 (unhide H3) (by simp; omega) (by simp; omega) (.slice bo (ks.length + 2) bc) LL (by omega) (by simp)
        refine hh.mono ?_
        clear hh
        rintro e w3 ⟨rfl, lv2, wv2, y2, hC4⟩
        have H4 := hide hC4
        clear hC4 H3
        go_wp2
        go_end0
        exact ⟨rfl, _, _, _, _, _, L, LL, hL, hN, unhide H4⟩
end Go.Proofs.YtnneljcbelgoeaaGreatDoor.wire
