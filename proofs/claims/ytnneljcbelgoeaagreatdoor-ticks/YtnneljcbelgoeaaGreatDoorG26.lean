import Derived.Test.YtnneljcbelgoeaaGreatDoorG25
import Derived.Laws.CopyRow
/- gossiplaw's hold: a list is kept, and a copy of it. -/
namespace Go.Proofs.YtnneljcbelgoeaaGreatDoor.wire
open Go.RowKit
theorem kcells_one (l : List K3) : ∀ v ∈ kcells l, v.oneCell' = true := by
  induction l with
  | nil => intro v h; cases h
  | cons k r ih => intro v h; simp [kcells] at h; rcases h with rfl | rfl | rfl | h; rfl; rfl; rfl; exact ih v h
theorem sizeKey : (Tryz.prog.info? 76).map (·.size) = some 3 := by kernel_rfl
theorem run_copy_keys (w : World) (ty : TypeId) (g n : Nat) (a : Addr) (c : Nat) (L0 ks : List K3) (hg : w.heap[g]? = some (keyBlk L0)) (hL : L0.length = n) (hn : ks.length = n) (hsrc : ∀ j v, (kcells ks)[j]? = some v → w.cell? (a.add j) = some v) :
    (Builtin.copy_ #[46, 46] ty #[.slice (some ⟨g, 0, none⟩) n n, .slice (some a) n c]).run Tryz.prog w = .ok (goInt n) (w.setRow g (kcells ks).toArray) := by
  have hl := run_loadCells_list (P := Tryz.prog) w a (kcells ks) hsrc
  have hst := run_storeCells_at Tryz.prog g 0 76 (kcells ks) 0 (kcells L0).toArray w hg (by simp [kcells_len, hL, hn]) (kcells_one ks)
  have e0 : (List.take (0 + 0) (kcells L0).toArray.toList ++ kcells ks ++ List.drop (0 + 0 + (kcells ks).length) (kcells L0).toArray.toList) = kcells ks := by
    simp [kcells_len, hL, hn]
  rw [e0] at hst
  rw [kcells_len, hn] at hl
  cases hq : Tryz.prog.info? 76 with
  | none => have := sizeKey; simp [hq] at this
  | some i =>
    have hi : i.size = 3 := by have := sizeKey; simpa [hq] using this
    simp [Builtin.copy_, run_underlying Tryz.underlying46, Builtin.lenOf, Builtin.firstCells, sizeOf, typeInfo, hq, hi, hl, hst]
theorem wpList_copy_keys {w : World} {ops : Array Oper} {rest : List Oper} {o : Oper} {a : Act} {Q : Exit → Act → World → Prop} (hgd : o.guard = none) (d s : Operand)
    (ho : o.op = .call { callee := .builtin .copy, args := #[d, s], argTypes := #[46, 46] }) (g n : Nat) (v : Value) (hd : a.eval d = .slice (some ⟨g, 0, none⟩) n n) (hs : a.eval s = v) (L0 ks : List K3)
    (hg : w.heap[g]? = some (keyBlk L0)) (hL : L0.length = n) (hn : ks.length = n) {base : Nat} (hv : w.ownsRow base 76 3 v ks.length (kcells ks))
    (h : ∀ w', w'.heap[g]? = some (keyBlk ks) → Below g w w' → wpList Tryz.prog ops Q rest (a.put o.dst (goInt n)) w') : wpList Tryz.prog ops Q (o :: rest) a w := by
  refine wpList_plain hgd fun K hK => ?_
  rcases hv.2 with ⟨rfl, h0⟩ | ⟨g', cap, cur, rfl, _, hh, _, _, _, _⟩
  · have hk0 : ks = [] := List.length_eq_zero_iff.1 h0
    have hrun := run_copy_nil Tryz.prog w 46 46 o.type 76 ⟨g, 0, none⟩ n n Tryz.underlying46 (by rw [sizeKey]; rfl)
    unfold Oper.wp
    simp [execOp, ho, resolve, invoke, builtin, hd, hs, hrun, Result.andThen]
    have hn0 : n = 0 := by omega
    subst hn0
    have hL0 : L0 = [] := List.length_eq_zero_iff.1 hL
    exact hK _ _ (h w (by rw [hg, hL0, hk0]) (Below.refl _ _))
  · have hrun := run_copy_keys w o.type g n ⟨g', 0, none⟩ cap L0 ks hg hL hn (fun j u hu => by
      have hj : j < ks.length * 3 := by
        have := (List.getElem?_eq_some_iff.1 hu).1
        rw [kcells_len] at this
        exact this
      have hadd : (⟨g', 0, none⟩ : Addr).add j = ⟨g', j, none⟩ := by unfold Addr.add; split <;> simp_all
      rw [hadd, hv.cellAt j hj]
      exact hu)
    rw [hn] at hs
    unfold Oper.wp
    simp [execOp, ho, resolve, invoke, builtin, hd, hs, hrun, Result.andThen]
    refine hK _ _ (h _ (setRow_heap w g _ _ _ _ hg) ?_)
    exact ⟨rfl, rfl, rfl, by simp, fun k hk => setRow_other w g k _ (by omega)⟩
theorem infoKeys : (Tryz.prog.info? 46).map (fun i => (i.zero, i.size, i.bytes)) = some (some (.slice none 0 0), 1, 24) := by kernel_rfl
theorem slice_one {base : Nat} {W : World} {e : TypeId} {z : Nat} {v : Value} {n : Nat} {xs : List Value} (h : W.ownsRow base e z v n xs) : v.oneCell' = true := by
  obtain ⟨ao, cap, rfl⟩ := own_form h
  rfl
/-- The lists' row grows by v; all else stays. -/
theorem WC.pushL {wb : Nat} {s : St} {w W W1 W2 : World} (h : WC wb s w W) (hb : Below W.heap.size W W1) (_hz : W1.heap.size = W.heap.size + 1) (hg : W1.grownBy W2 s.lv.ownBlock) (v lv' : Value) (hown : W2.ownsRow (wb + 1) 46 1 lv' (s.ls.length + 1) (s.ls ++ [v])) (hat : lv'.ownBlock = s.lv.ownBlock ∨ lv'.ownBlock = some (W.heap.size + 1)) (hlen : s.ws.length ≤ s.ls.length) :
    WC wb { s with lv := lv', ls := s.ls ++ [v] } w (W2.setCell ⟨wb, 16, none⟩ lv') ∧ W2.heap[wb]? = some (.cells s.cells 41 (0, 0)) ∧ (∀ {x : Value} {n : Nat} {xs : List Value}, W.ownsRow (wb + 1) 76 3 x n xs → (W2.setCell ⟨wb, 16, none⟩ lv').ownsRow (wb + 1) 76 3 x n xs) := by
  have hr := h.rows
  have hgk : ∀ {e : TypeId} {z : Nat} {x : Value} {n : Nat} {xs : List Value}, e ≠ 46 → W.ownsRow (wb + 1) e z x n xs → W2.ownsRow (wb + 1) e z x n xs := fun he ho => keep_other ho hg hb (fun g hg1 => own_ne hr.l ho (fun e => he e.symm) g hg1)
  obtain ⟨hblk, hbel⟩ := h.grown hb hg (fun g e => (own_lt hr.l e).1)
  have hw2 : W2.ownsRow (wb + 1) 46 1 s.wv s.ws.length s.ws := keep_other hr.w hg hb hr.lw
  refine ⟨?_, hblk, fun ho => ownsRow_setCell_below (hgk (by decide) ho) (by simp) _⟩
  have hrows : Rows4 (wb + 1) { s with lv := lv', ls := s.ls ++ [v] } W2 := by
    refine ⟨hgk (by decide) hr.t, hgk (by decide) hr.u, hgk (by decide) hr.d, by simpa using hown, hw2, fun g e => ?_, fun i x y hx hy => ?_⟩
    · rcases hat with e' | e'
      · exact hr.lw g (e' ▸ e)
      · intro e2
        have hlt := own_lt hr.w e2
        rw [e'] at e
        simp at e
        omega
    · have hi : i < s.ws.length := (List.getElem?_eq_some_iff.1 hy).1
      rw [List.getElem?_append_left (by omega)] at hx
      obtain ⟨ks, hk, h1, h2⟩ := hr.p i x y hx hy
      exact ⟨ks, hk, hgk (by decide) h1, hgk (by decide) h2⟩
  exact WC.store hblk hbel h.low _ 16 lv' rfl hrows
/-- The copies' row grows by y, the copy of the list x that the lists' row has got. -/
theorem WC.pushW {wb : Nat} {s : St} {w W W1 W2 : World} (h : WC wb s w W) (hb : Below W.heap.size W W1) (hg : W1.grownBy W2 s.wv.ownBlock) (_hz : W1.heap.size = W.heap.size + 1) (y wv' : Value) (hown : W2.ownsRow (wb + 1) 46 1 wv' (s.ws.length + 1) (s.ws ++ [y])) (hat : wv'.ownBlock = s.wv.ownBlock ∨ wv'.ownBlock = some (W.heap.size + 1)) (_hlen : s.ls.length = s.ws.length + 1) (x : Value) (hx : s.ls[s.ws.length]? = some x) (ks : List K3) (hks : ks.length ≤ 20) (h1 : W.ownsRow (wb + 1) 76 3 x ks.length (kcells ks)) (h2 : W.ownsRow (wb + 1) 76 3 y ks.length (kcells ks)) :
    WC wb { s with wv := wv', ws := s.ws ++ [y] } w (W2.setCell ⟨wb, 17, none⟩ wv') ∧ W2.heap[wb]? = some (.cells s.cells 41 (0, 0)) ∧ (∀ {x : Value} {n : Nat} {xs : List Value}, W.ownsRow (wb + 1) 76 3 x n xs → (W2.setCell ⟨wb, 17, none⟩ wv').ownsRow (wb + 1) 76 3 x n xs) := by
  have hr := h.rows
  have hgk : ∀ {e : TypeId} {z : Nat} {x : Value} {n : Nat} {xs : List Value}, e ≠ 46 → W.ownsRow (wb + 1) e z x n xs → W2.ownsRow (wb + 1) e z x n xs := fun he ho => keep_other ho hg hb (fun g hg1 => own_ne hr.w ho (fun e => he e.symm) g hg1)
  obtain ⟨hblk, hbel⟩ := h.grown hb hg (fun g e => (own_lt hr.w e).1)
  have hl2 : W2.ownsRow (wb + 1) 46 1 s.lv s.ls.length s.ls := keep_other hr.l hg hb (fun g e e' => hr.lw g e' e)
  refine ⟨?_, hblk, fun ho => ownsRow_setCell_below (hgk (by decide) ho) (by simp) _⟩
  have hrows : Rows4 (wb + 1) { s with wv := wv', ws := s.ws ++ [y] } W2 := by
    refine ⟨hgk (by decide) hr.t, hgk (by decide) hr.u, hgk (by decide) hr.d, hl2, by simpa using hown, fun g e => ?_, fun i a b ha hb' => ?_⟩
    · rcases hat with e' | e'
      · intro e2
        exact hr.lw g e (e' ▸ e2)
      · intro e2
        have hlt := own_lt hr.l e
        simp only at e2
        rw [e'] at e2
        simp at e2
        omega
    · by_cases hi : i < s.ws.length
      · rw [List.getElem?_append_left hi] at hb'
        obtain ⟨ks, hk, o1, o2⟩ := hr.p i a b ha hb'
        exact ⟨ks, hk, hgk (by decide) o1, hgk (by decide) o2⟩
      · have hi2 : i < (s.ws ++ [y]).length := (List.getElem?_eq_some_iff.1 hb').1
        have hie : i = s.ws.length := by simp at hi2; omega
        subst hie
        have ha' : s.ls[s.ws.length]? = some a := ha
        rw [hx] at ha'
        simp at hb' ha'
        subst hb'
        subst ha'
        exact ⟨ks, hks, hgk (by decide) h1, hgk (by decide) h2⟩
  exact WC.store hblk hbel h.low _ 17 wv' rfl hrows
set_option maxRecDepth 100000 in
set_option maxHeartbeats 2000000 in
theorem hold_any (wb : Nat) (s : St) (w W : World) (h : WC wb s w W) (hlen : s.ws.length = s.ls.length) (hb : s.ls.length ≤ 40000) (v : Value) (ks : List K3) (hk : ks.length ≤ 20) (hv : W.ownsRow (wb + 1) 76 3 v ks.length (kcells ks)) :
    Calls Tryz.prog 31 #[.pointer (some ⟨wb, 0, none⟩), v] W fun e W' => e = .returned (.tuple #[]) ∧ (∃ (lv wv y : Value), WC wb { s with lv := lv, wv := wv, ls := s.ls ++ [v], ws := s.ws ++ [y] } w W') ∧ (∀ {x : Value} {n : Nat} {xs : List Value}, W.ownsRow (wb + 1) 76 3 x n xs → W'.ownsRow (wb + 1) 76 3 x n xs) := by
  obtain ⟨ao, cap, hvf⟩ := own_form hv
  subst hvf
  obtain ⟨ti, hti, hz0, hz1, hz2⟩ := info_parts infoKey'
  obtain ⟨tj, htj, hy0, hy1, hy2⟩ := info_parts infoKeys
  have HC := hide h
  have HV := hide hv
  have hwl := h.lt
  have HLEN := hide hlen
  have hb' : s.ws.length ≤ 40000 := by omega
  clear h hv hlen
  go_enter Tryz.func31, Tryz.ntmps31
  go_wp2_with (at_make; refine wpList_make_full _ rfl _ _ 46 rfl (wb + 1) 76 ti (.agg #[.int .i64 0, .int .i64 0, .int .i64 0]) 3 Tryz.underlying46 hti hz0 hz1 .i64 .i64 _ _ ks.length rfl rfl rfl rfl (by rw [hz2]; omega) (by unfold maxLen; omega) (by omega) ?_)
  intro w1 hown hgrow
  have hblk : w1.heap[W.heap.size]? = some (keyBlk (List.replicate ks.length K3.zero)) := made_blk hown
  have hB1 : Below W.heap.size W w1 := (Below.refl _ _).grown hgrow (Nat.le_refl _) (fun k e => by cases e)
  have HK := hide hblk
  have HB := hide hB1
  have HV1 := hide (own_below (unhide HV) hB1)
  clear hown hgrow hblk hB1
  go_wp2_with (refine wpList_copy_keys rfl (.tmp 10) (.tmp 11) rfl W.heap.size ks.length (.slice ao ks.length cap) rfl rfl (List.replicate ks.length K3.zero) ks (unhide HK) (by simp) rfl (unhide HV1) ?_)
  intro w2 hk2 hb2
  have hB2 := (unhide HB).trans hb2
  have HK2 := hide hk2
  have HC2 := hide ((unhide HC).mono hB2)
  have HB2 := hide hB2
  clear hk2 hb2 hB2 HK HB HV1
  have c16 : w2.cell? ⟨wb, 16, none⟩ = some s.lv := (unhide HC2).cell 16
  have hs2 := (unhide HC2).lt
  go_wp2_with (at_builtin; refine wpList_append_lies _ rfl _ _ 38 rfl (wb + 1) 46 tj (.slice none 0 0) 1 24 Tryz.underlying38 htj hy0 hy1 hy2 rfl (by decide) s.lv s.ls.length s.ls rfl ((unhide HC2).rows.l.alloc _) ⟨w2.heap.size, 0, none⟩ 1 1 [.slice ao ks.length cap] rfl rfl (World.news_of_block (heap_alloc_new w2 (.cells #[.slice ao ks.length cap] 46))) (by simp [Value.oneCell']) (by omega) (by unfold maxLen; omega) (by omega) (by simp; omega) (w2.heap.size + 1) (by simp) ?_)
  intro g cp w3 hown3 hgrow3 hat3 _
  have hP := (unhide HC2).pushL ((Below.refl _ _).alloc (Nat.le_refl _) _) (by simp) hgrow3 (.slice ao ks.length cap) _ hown3 (hat3.imp (fun e => by rw [e]; rfl) (fun e => by rw [e]; rfl)) (by have := unhide HLEN; omega)
  have d16 : w3.cell? ⟨wb, 16, none⟩ = some s.lv := cell_at hP.2.1 16
  have e16 : w3.frozen? ⟨wb, 16, none⟩ = false := free_at hP.2.1 16
  have HP1 := hide hP.1
  have HP2 := hide (own_below (unhide HV) (unhide HB2))
  have HP3 := hide (hP.2.2 (own_below (unhide HV) (unhide HB2)))
  have hcv : w2.ownsRow (wb + 1) 76 3 (.slice (some ⟨W.heap.size, 0, none⟩) ks.length ks.length) ks.length (kcells ks) := by
    refine ⟨kcells_len ks, .inr ⟨W.heap.size, ks.length, _, rfl, by omega, unhide HK2, Nat.le_refl _, by unfold maxLen; omega, by simp [kcells_len], by rw [List.take_of_length_le (by simp [kcells_len])]⟩⟩
  have HCV := hide (hP.2.2 hcv)
  have HALL : Hid (∀ {x : Value} {n : Nat} {xs : List Value}, W.ownsRow (wb + 1) 76 3 x n xs → (w3.setCell ⟨wb, 16, none⟩ (.slice (some ⟨g, 0, none⟩) (s.ls.length + 1) cp)).ownsRow (wb + 1) 76 3 x n xs) := fun ho => hP.2.2 (own_below ho (unhide HB2))
  clear hP hown3 hgrow3 hat3 hcv c16
  have c17 : (w3.setCell ⟨wb, 16, none⟩ (.slice (some ⟨g, 0, none⟩) (s.ls.length + 1) cp)).cell? ⟨wb, 17, none⟩ = some s.wv := (unhide HP1).cell 17
  have hs4 := (unhide HP1).lt
  rw [World.size_setCell] at hs4
  go_wp2_with (at_builtin; refine wpList_append_lies _ rfl _ _ 38 rfl (wb + 1) 46 tj (.slice none 0 0) 1 24 Tryz.underlying38 htj hy0 hy1 hy2 rfl (by decide) s.wv s.ws.length s.ws rfl ((unhide HP1).rows.w.alloc _) ⟨w3.heap.size, 0, none⟩ 1 1 [.slice (some ⟨W.heap.size, 0, none⟩) ks.length ks.length] rfl rfl (by have hh := heap_alloc_new (w3.setCell ⟨wb, 16, none⟩ (.slice (some ⟨g, 0, none⟩) (s.ls.length + 1) cp)) (.cells #[.slice (some ⟨W.heap.size, 0, none⟩) ks.length ks.length] 46); rw [World.size_setCell] at hh; exact World.news_of_block hh) (by simp [Value.oneCell']) (by omega) (by unfold maxLen; omega) (by omega) (by simp; omega) (w3.heap.size + 1) (by simp) ?_)
  intro g' cp' w5 hown5 hgrow5 hat5 _
  have hP := (unhide HP1).pushW ((Below.refl _ _).alloc (Nat.le_refl _) _) hgrow5 (by simp) (.slice (some ⟨W.heap.size, 0, none⟩) ks.length ks.length) (.slice (some ⟨g', 0, none⟩) (s.ws.length + 1) cp') hown5 (hat5.imp (fun e => by rw [e]; rfl) (fun e => by rw [e]; simp [Value.ownBlock])) (by have := unhide HLEN; simp; omega) (.slice ao ks.length cap) (by simp [unhide HLEN]) ks hk (unhide HP3) (unhide HCV)
  have d17 : w5.cell? ⟨wb, 17, none⟩ = some s.wv := cell_at hP.2.1 17
  have e17 : w5.frozen? ⟨wb, 17, none⟩ = false := free_at hP.2.1 17
  have HQ1 := hide hP.1
  have HALL2 : Hid (∀ {x : Value} {n : Nat} {xs : List Value}, W.ownsRow (wb + 1) 76 3 x n xs → (w5.setCell ⟨wb, 17, none⟩ (.slice (some ⟨g', 0, none⟩) (s.ws.length + 1) cp')).ownsRow (wb + 1) 76 3 x n xs) := fun ho => hP.2.2 (HALL.out ho)
  clear hP hown5 hgrow5 hat5 c17 d16 e16
  go_wp2
  go_end0
  exact ⟨rfl, ⟨_, _, _, unhide HQ1⟩, HALL2.out⟩
end Go.Proofs.YtnneljcbelgoeaaGreatDoor.wire
