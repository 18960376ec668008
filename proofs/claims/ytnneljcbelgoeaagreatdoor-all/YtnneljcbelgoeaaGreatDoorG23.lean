import Derived.Test.YtnneljcbelgoeaaGreatDoorG22
import Derived.Outline
/- The document's node: what rides along (P7). -/
namespace Go.Proofs.YtnneljcbelgoeaaGreatDoor.wire
open Go.RowKit Go.Maps

set_option maxHeartbeats 4000000 in
set_option maxRecDepth 100000 in
theorem rupdates_any {W : World} {b : Nat} {v : Rv} {r : Rn} (h : RAt W b v r) (hq : r.queue.length ≤ 1000) (hs : ∀ u ∈ r.queue, -1000000 ≤ u.sent ∧ u.sent ≤ 1000000) :
    Calls Tryz.prog 90 #[.pointer (some ⟨b, 0, none⟩)] W fun e w' => ∃ o, e = .returned o ∧ w'.ownsRow W.heap.size 58 3 o r.updates.1.length (r.updates.1.flatMap keyC) ∧ RTo W w' b v r.updates.2 := by
  obtain ⟨qo, qc, hqv, hqb, hqc, hqm⟩ := row_form h.rows.q
  have HOQ := hide (hqv ▸ h.rows.q : W.ownsRow 0 158 4 (.slice qo r.queue.length qc) r.queue.length (r.queue.flatMap ruC))
  have c19 := h.cell 19
  have f19 := h.free 19
  have c5 := h.cell 5
  have hlt := h.ltb
  simp only [refC, List.getElem?_toArray, List.getElem?_cons_zero, List.getElem?_cons_succ, hqv] at c19 c5
  have H0 := hide h
  have HUP : Hid (r.updates = ((updGo r.c.sends 4 r.queue).1, { r with queue := (updGo r.c.sends 4 r.queue).2.1 ++ (updGo r.c.sends 4 r.queue).2.2 })) := hide rfl
  have HU0 : Hid (UpTo r.c.sends r.queue [] r.queue [] 4) := hide ⟨rfl, Nat.le_refl _, by simp, by simp, rfl, by simp, hs, by simp⟩
  obtain ⟨Q, hQ⟩ : ∃ Q, Q = r.queue := ⟨_, rfl⟩
  obtain ⟨sn, hsn⟩ : ∃ sn, sn = r.c.sends := ⟨_, rfl⟩
  rw [← hQ, ← hsn] at HU0 HUP
  rw [← hQ] at HOQ c19 hq hqc
  rw [← hsn] at c5
  clear h hqv hqb hQ hsn hs
  go_enter Tryz.func90, Tryz.ntmps90
  go_wp2_with (at_builtin; refine wpList_app rfl _ _ rfl etyU W.heap.size (n1 := 0) (xs1 := []) rfl rfl (World.ownsRow_nil _ _ _ _) (Src.of_own (unhide HOQ)) (one_of ru_one _) (by omega) (by omega) ?_)
  intro v1 w1 ho1 hg1 _
  have hf1 : Fi ruC 158 4 W w1 v1 Q := by
    have := (Fi.nil ruC 158 4 (Below.refl W.heap.size W)).push (Below.refl _ _) hg1 Q (by simpa using ho1)
    simpa using this
  have HF1 := hide hf1
  clear ho1 hg1 hf1 HOQ
  go_wp2_with fail
  go_loopw [3, 4, 5, 6, 7, 8, 9] (fun vo vl vs _ _ _ _ wr => ∃ O L S m, U3 W wr vo vl vs O L S ∧ Hid (UpTo sn Q O L S m)) (fun vo _ _ _ _ _ _ _ => match vo with | .slice _ n _ => 4 - n | _ => 0)
  case atStart => exact ⟨[], Q, [], 4, ⟨World.ownsRow_nil _ _ _ _, (unhide HF1).own, World.ownsRow_nil _ _ _ _, by simp [Value.ownBlock], (unhide HF1).below⟩, HU0⟩
  case round =>
    obtain ⟨O, L, S, m, hU, HUT⟩ := hrel
    obtain ⟨oo, oc, hov, _⟩ := row_form hU.o
    obtain ⟨lo, lc, hlv, hlb, hlc, hlm⟩ := row_form hU.l
    obtain ⟨so, sc, hsv, _⟩ := row_form hU.s
    subst hov
    subst hlv
    subst hsv
    have hOm := (unhide HUT).len
    have hLl := (unhide HUT).lL
    have hSl := (unhide HUT).lS
    have HU := hide hU
    have hzr := hU.below.size
    have e5 := (hU.below.cell (p := ⟨b, 5, none⟩) hlt).trans c5
    have e19 := (hU.below.cell (p := ⟨b, 19, none⟩) hlt).trans c19
    have g19 := (hU.below.frozen (p := ⟨b, 19, none⟩) hlt).trans f19
    have HLB := hide hlb
    clear hU hlb
    by_cases hgo : O.length < 4 ∧ 0 < L.length
    · obtain ⟨hO4, hL0⟩ := hgo
      have hO4' : (O.length : Int) < 4 := by omega
      have hL0' : (0 : Int) < (L.length : Int) := by omega
      obtain ⟨g, hg, hgl'⟩ := unhide HLB hL0
      subst hg
      obtain ⟨wq, hwq⟩ : ∃ wq, wq = wr := ⟨_, rfl⟩
      subst hwq
      have hcel : ∀ (i : Nat) (hi : i < L.length) (j : Nat), j < 4 → wq.cell? ⟨g, i * 4 + j, none⟩ = (ruC L[i])[j]? := fun i hi j hj => row_cell ruC 4 (fun _ => rfl) (unhide HU).l i hi j hj
      have HCEL := hide hcel
      clear hcel
      go_wp2_with fail
      go_loopw [6, 7] (fun bst i w' => ∃ k : Nat, i = .int .i64 k ∧ 1 ≤ k ∧ k ≤ L.length ∧ bst = .int .i64 (bestN L k) ∧ Below wq.heap.size wq w') (fun _ i _ => L.length - (Go.RowKit.intOf i).toNat)
      case atStart => exact ⟨1, by go_num, by omega, by omega, by rw [bestN_one]; go_num, Below.refl _ _⟩
      case round =>
        obtain ⟨k, rfl, hk1, hk2, rfl, hbw⟩ := hrel
        have hB := bestN_lt' L k (by omega) hk2
        by_cases hkl : k < L.length
        · have hki : (k : Int) < (L.length : Int) := by omega
          have hBi : (bestN L k : Int) < (L.length : Int) := by omega
          have hnx : bestN L (k + 1) = if befB L[k] L[bestN L k] then k else bestN L k := by
            conv => lhs; unfold bestN
            rw [getBang L k hkl, getBang L _ hB]
          have p0 := (hbw.cell (p := ⟨g, k * 4 + 0, none⟩) hgl').trans (unhide HCEL k hkl 0 (by omega))
          have p3 := (hbw.cell (p := ⟨g, k * 4 + 3, none⟩) hgl').trans (unhide HCEL k hkl 3 (by omega))
          have q0 := (hbw.cell (p := ⟨g, bestN L k * 4 + 0, none⟩) hgl').trans (unhide HCEL _ hB 0 (by omega))
          have q3 := (hbw.cell (p := ⟨g, bestN L k * 4 + 3, none⟩) hgl').trans (unhide HCEL _ hB 3 (by omega))
          simp only [ruC, List.getElem?_cons_zero, List.getElem?_cons_succ, Nat.add_zero] at p0 p3 q0 q3
          generalize L[k] = U at p0 p3 hnx
          generalize L[bestN L k] = V at q0 q3 hnx
          obtain ⟨⟨ui, ua, ub⟩, us⟩ := U
          obtain ⟨⟨vi, va, vb⟩, vs⟩ := V
          simp only at p0 p3 q0 q3
          simp only [befB] at hnx
          have HNX := hide hnx
          have HBW := hide hbw
          have hwz := hbw.size
          clear hnx hbw
          by_cases d1 : us < vs
          · have d1' : decide (us < vs) = true := by simpa using d1
            have E : Hid (bestN L (k + 1) = k) := hide (by rw [unhide HNX]; simp [d1])
            go_wp2
            go_quiet (fail)
            go_wp2
            go_roundw
            case rel => exact ⟨k + 1, by go_num, by omega, by omega, by rw [unhide E], (unhide HBW).trans (bdrewN (Below.refl _ _) _)⟩
            case measure => simp [Go.RowKit.intOf]; omega
          have d1' : decide (us < vs) = false := by simpa using d1
          by_cases d2 : us = vs
          · subst d2
            have d2' : (us == us) = true := by simp
            by_cases d3 : ui < vi
            · have d3' : decide (ui < vi) = true := by simpa using d3
              have E : Hid (bestN L (k + 1) = k) := hide (by rw [unhide HNX]; simp [d3])
              go_wp2
              go_quiet (fail)
              go_wp2
              go_roundw
              case rel => exact ⟨k + 1, by go_num, by omega, by omega, by rw [unhide E], (unhide HBW).trans (bdrewN (Below.refl _ _) _)⟩
              case measure => simp [Go.RowKit.intOf]; omega
            · have d3' : decide (ui < vi) = false := by simpa using d3
              have E : Hid (bestN L (k + 1) = bestN L k) := hide (by rw [unhide HNX]; simp [d3])
              go_wp2
              go_quiet (fail)
              go_wp2
              go_roundw
              case rel => exact ⟨k + 1, by go_num, by omega, by omega, by rw [unhide E], (unhide HBW).trans (bdrewN (Below.refl _ _) _)⟩
              case measure => simp [Go.RowKit.intOf]; omega
          · have d2' : (us == vs) = false := by simpa using d2
            have E : Hid (bestN L (k + 1) = bestN L k) := hide (by rw [unhide HNX]; simp [d1, d2])
            go_wp2
            go_quiet (fail)
            go_wp2
            go_roundw
            case rel => exact ⟨k + 1, by go_num, by omega, by omega, by rw [unhide E], (unhide HBW).trans (bdrewN (Below.refl _ _) _)⟩
            case measure => simp [Go.RowKit.intOf]; omega
        · have hke : k = L.length := by omega
          subst hke
          have hbI : bestN L L.length = bestI L := rfl
          rw [hbI] at hB ⊢
          clear hbI
          have hU2 := (unhide HU).mono hbw
          have hsmU := (unhide HUT).smL L[bestI L] (List.getElem_mem hB)
          obtain ⟨m', hm'⟩ : ∃ m', m = m' + 1 := ⟨m - 1, by omega⟩
          subst hm'
          have hst := (unhide HUT).step hB
          have hBi : (bestI L : Int) < (L.length : Int) := by omega
          have p0 := (hbw.cell (p := ⟨g, bestI L * 4 + 0, none⟩) hgl').trans (unhide HCEL _ hB 0 (by omega))
          have p1 := (hbw.cell (p := ⟨g, bestI L * 4 + 1, none⟩) hgl').trans (unhide HCEL _ hB 1 (by omega))
          have p2 := (hbw.cell (p := ⟨g, bestI L * 4 + 2, none⟩) hgl').trans (unhide HCEL _ hB 2 (by omega))
          have p3 := (hbw.cell (p := ⟨g, bestI L * 4 + 3, none⟩) hgl').trans (unhide HCEL _ hB 3 (by omega))
          simp only [ruC, List.getElem?_cons_zero, List.getElem?_cons_succ, Nat.add_zero] at p0 p1 p2 p3
          have e5' := (hbw.cell (p := ⟨b, 5, none⟩) (Nat.lt_of_lt_of_le hlt hzr)).trans e5
          generalize L[bestI L] = U at p0 p1 p2 p3 hst hsmU
          obtain ⟨⟨ui, ua, ub⟩, us⟩ := U
          simp only at p0 p1 p2 p3 hsmU
          have HST := hide hst
          have HU2 := hide hU2
          have hwz := hbw.size
          have hlw : L.length ≤ lc := hlc
          clear hst hU2 hbw HCEL HU
          go_wp2_with (at_builtin; refine wpList_app rfl _ _ rfl etyK W.heap.size rfl rfl (own_below (unhide HU2).o (((Below.refl _ _).alloc (Nat.le_refl _) _).alloc (by simp) _)) (Src.box (cs := keyC ⟨ui, ua, ub⟩) 3 1 1 (heap_new2 wr _ _) (by rfl)) (key_one _) (by omega) (by simp; omega) ?_)
          intro vo' w2 ho2 hg2 hat2
          have hU3 := (unhide HU2).pushO (((Below.refl _ _).alloc (Nat.le_refl _) _).alloc (by simp) _) hg2 ⟨ui, ua, ub⟩ (by simpa using ho2)
          have hz2 := hg2.size
          simp only [World.size_alloc] at hz2
          have hub : w2.heap[wr.heap.size]? = some (.cells #[.int .i64 ui, .int .i64 ua, .int .i64 ub, .int .i64 us] 158 (0, 0)) := by
            refine (hg2.block wr.heap.size (by simp; omega) (fun e => ?_)).trans ((Below.heap_alloc _ _ _ (by simp)).trans (heap_alloc_new wr _))
            have := (own_lt (unhide HU2).o e.symm).2
            omega
          have hn1 : vo'.ownBlock ≠ some wr.heap.size := fun e => by
            rcases hat2 with a | a
            · have := (own_lt (unhide HU2).o (a ▸ e)).2; omega
            · rw [a] at e; simp at e; omega
          have hn2 : (Value.slice (some ⟨g, 0, none⟩) L.length lc).ownBlock ≠ some wr.heap.size := fun e => by have := (own_lt (unhide HU2).l e).2; omega
          have hn3 : (Value.slice so S.length sc).ownBlock ≠ some wr.heap.size := fun e => by have := (own_lt (unhide HU2).s e).2; omega
          have hU4 := hU3.set wr.heap.size 3 (.int .i64 (us + 1)) (by omega) hn1 hn2 hn3
          have hub4 := heap_setCell_same w2 wr.heap.size 3 _ _ (.int .i64 (us + 1)) hub
          have t0 := cell_at hub 3
          have tf := free_at hub 3
          have d5 := (hU4.below.cell (p := ⟨b, 5, none⟩) hlt).trans c5
          simp only [List.getElem?_toArray, List.getElem?_cons_zero, List.getElem?_cons_succ] at t0
          simp only [List.setIfInBounds_toArray, List.set_cons_succ, List.set_cons_zero] at hub4
          obtain ⟨oo', oc', hov', _⟩ := row_form hU4.o
          have hwl : w2.heap.size = (w2.setCell ⟨wr.heap.size, 3, none⟩ (.int .i64 (us + 1))).heap.size := by simp
          have HU4 := hide hU4
          have HUB4 := hide hub4
          clear hU3 ho2 hg2 hat2 hub hn1 hn2 hn3 hU4 hub4 p0 p1 p2 p3 HU2 e5'
          go_wp2_with fail
          generalize w2.setCell ⟨wr.heap.size, 3, none⟩ (.int .i64 (us + 1)) = w4 at HU4 HUB4 d5 hwl ⊢
          have hz4 : wr.heap.size + 1 + 1 ≤ w4.heap.size := by omega
          have j0 := cell_at (unhide HUB4) 0
          have j1 := cell_at (unhide HUB4) 1
          have j2 := cell_at (unhide HUB4) 2
          have j3 := cell_at (unhide HUB4) 3
          simp only [List.getElem?_toArray, List.getElem?_cons_zero, List.getElem?_cons_succ] at j0 j1 j2 j3
          subst hov'
          have hol : (O ++ [(⟨ui, ua, ub⟩ : K3)]).length = O.length + 1 := by simp
          clear t0 tf hwl HUB4
          obtain ⟨S', hS'⟩ : ∃ S', S' = S ++ (if us + 1 < sn then [(⟨⟨ui, ua, ub⟩, us + 1⟩ : RU)] else []) := ⟨_, rfl⟩
          rw [← hS'] at HST
          by_cases hsn : us + 1 < sn
          case' pos =>
            have hsn' : decide (us + 1 < sn) = true := by simpa using hsn
            rw [if_pos hsn] at hS'
            go_quiet (fail)
            go_wp2_with (at_builtin; refine wpList_app rfl _ _ rfl etyU W.heap.size rfl rfl (own_below (unhide HU4).s (bdrewN ((Below.refl _ _).alloc (Nat.le_refl _) _) _)) (Src.box (cs := ruC ⟨⟨ui, ua, ub⟩, us + 1⟩) 4 1 1 (heap_alloc_new w4 _) (by rfl)) (ru_one _) (by omega) (by simp; omega) ?_)
            intro vs' w5 ho5 hg5 hat5
            have hU5 := (unhide HU4).pushS (bdrewN ((Below.refl _ _).alloc (Nat.le_refl _) _) _) hg5 (by simpa using hat5) ⟨⟨ui, ua, ub⟩, us + 1⟩ (by simpa using ho5)
            rw [← hS'] at hU5
            have hz5 : w4.heap.size ≤ w5.heap.size := by have := hg5.size; simp at this; omega
            have HU5 := hide hU5
            clear hU5 ho5 hg5 hat5 hsn hsn' hS' j0 j1 j2 j3 d5 HU4
          case' neg =>
            have hsn' : decide (us + 1 < sn) = false := by simpa using hsn
            rw [if_neg hsn, List.append_nil] at hS'
            subst hS'
            have HU5 := hide (fun q => (unhide HU4).mono (bdrewN (Below.refl _ _) q))
            clear hsn HU4
            go_quiet (fail)
            have hz5 : w4.heap.size ≤ (w4.drewN nq).heap.size := by simp
            replace HU5 := hide (unhide HU5 nq)
            generalize w4.drewN nq = w5 at HU5 hz5 ⊢
            obtain ⟨so', sc', hsv', _⟩ := row_form (unhide HU5).s
            clear j0 j1 j2 j3 d5
          all_goals
            have hlp : (L.take (bestI L)).length = bestI L := by simp; omega
            have HLP := hide hlp
            clear hlp
            go_wp2_with (at_builtin; refine wpList_app rfl _ _ rfl etyU w5.heap.size (n := bestI L) (xs := (L.flatMap ruC).take (bestI L * 4)) (n1 := 0) (xs1 := []) rfl rfl (World.ownsRow_nil _ _ _ _) ?_ (fun u hu => one_of ru_one _ u (List.mem_of_mem_take hu)) (by omega) (by omega) ?_)
            · (simp [Act.eval]; exact Src.head (unhide HU5).l _ (by omega))
            intro v6 w6 ho6 hg6 _
            have hf6 : Fi ruC 158 4 w5 w6 v6 (L.take (bestI L)) := by
              have := (Fi.nil ruC 158 4 (Below.refl w5.heap.size w5)).push (Below.refl _ _) hg6 (L.take (bestI L)) (by rw [row_take ruC 4 (fun _ => rfl)] at ho6; rw [unhide HLP]; simpa using ho6)
              simpa using this
            have HF6 := hide hf6
            have hz6 := hf6.below.size
            have HL6 := hide (own_below (unhide HU5).l hf6.below)
            clear ho6 hg6 hf6
            go_wp2_with (refine wpList_tail rfl _ _ rfl etyU (bestI L + 1) rfl rfl (unhide HL6) (by omega) ?_)
            intro vt hvt
            have HVT := hide hvt
            clear hvt
            go_wp2_with (at_builtin; refine wpList_app rfl _ _ rfl etyU w5.heap.size rfl rfl (unhide HF6).own (unhide HVT) (fun u hu => one_of ru_one _ u (List.mem_of_mem_drop hu)) (by have := unhide HLP; omega) (by omega) ?_)
            intro v7 w7 ho7 hg7 _
            have hf7 := (unhide HF6).push (Below.refl _ _) hg7 (L.drop (bestI L + 1)) (by rw [row_drop ruC 4 (fun _ => rfl)] at ho7; first | (rw [List.length_take, List.length_drop]; exact ho7) | (rw [unhide HLP, List.length_drop]; exact ho7) | simpa using ho7)
            rw [← List.eraseIdx_eq_take_drop_succ] at hf7
            have hU7 := (unhide HU5).newL hf7
            have HU7 := hide hU7
            obtain ⟨lo7, lc7, hv7, _⟩ := row_form hU7.l
            subst hv7
            clear hf7 hU7 ho7 hg7 HVT HL6 HF6
            go_wp2
            go_roundw
            case rel =>
              rw [hol] at HU7
              exact ⟨O ++ [⟨ui, ua, ub⟩], L.eraseIdx (bestI L), _, m', unhide HU7, HST⟩
            case measure => simp; omega
    · have hno : m = 0 ∨ L.length = 0 := by omega
      have hn := updGo_none sn m L hno
      have e1 := (unhide HUT).one
      have e2 := (unhide HUT).two
      have e3 := (unhide HUT).three
      rw [hn] at e1 e2 e3
      simp only [List.append_nil] at e1 e2 e3
      have HE : Hid (r.updates = (O, { r with queue := L ++ S })) := hide (by rw [unhide HUP, e1, e2, e3])
      clear hn e1 e2 e3 hno HUP
      have hcs : (4 ≤ O.length) ∨ (O.length < 4 ∧ L.length = 0) := by omega
      rcases hcs with hO4 | ⟨hO4, hL0⟩
      case' inl => have hO4' : ¬ (O.length : Int) < 4 := by omega
      case' inr =>
        have hO4' : (O.length : Int) < 4 := by omega
        have hL0' : ¬ (0 : Int) < (L.length : Int) := by omega
        clear hL0
      all_goals
        clear hgo
        go_wp2_with (at_builtin; refine wpList_app rfl _ _ rfl etyU W.heap.size rfl rfl (unhide HU).l (Src.of_own (unhide HU).s) (one_of ru_one _) (by omega) (by omega) ?_)
        intro v' w3 ho3 hg3 _
        have hb3 : Below W.heap.size W w3 := (unhide HU).below.grown hg3 (unhide HU).below.size (fun k e => (own_lt (unhide HU).l e).1)
        have HO3 := hide (own_grown' (unhide HU).o hg3 (row_apart (unhide HU).l (unhide HU).o (by decide)))
        have e19' := (hb3.cell (p := ⟨b, 19, none⟩) hlt).trans c19
        have g19' := (hb3.frozen (p := ⟨b, 19, none⟩) hlt).trans f19
        obtain ⟨ao', cap', hv'⟩ := own_form ho3
        subst hv'
        have HT := hide ((unhide H0).setQ (l := L ++ S) (Frm.of_below hb3 (Nat.le_refl _)) (fun g hg => .inr (own_lt ho3 hg).1) (by rw [List.flatMap_append, List.length_append]; exact own_base0 ho3))
        have hbb : W.heap.size ≤ b → False := by omega
        clear ho3 hg3 hb3 e19 g19
        go_wp2
        go_ret
        rw [unhide HE]
        exact ⟨_, rfl, ownsRow_setCell_other (unhide HO3) (fun e => hbb (own_lt (unhide HO3) e).1) _, unhide HT⟩
end Go.Proofs.YtnneljcbelgoeaaGreatDoor.wire
