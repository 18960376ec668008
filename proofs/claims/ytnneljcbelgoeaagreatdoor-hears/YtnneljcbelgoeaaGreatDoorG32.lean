import Derived.Test.YtnneljcbelgoeaaGreatDoorG13
import Derived.Outline
import Derived.Test.YtnneljcbelgoeaaGreatDoorG24
import Derived.Test.YtnneljcbelgoeaaGreatDoorG31
/- The document's node: what rides along (P7). -/
namespace Go.Proofs.YtnneljcbelgoeaaGreatDoor.wire
open Go.RowKit Go.Maps

set_option maxHeartbeats 4000000 in
set_option maxRecDepth 100000 in
theorem rupdates_any {W : World} {b : Nat} {v : Rv} {r : Rn} (h : RAt W b v r) (hq : r.queue.length ≤ 1000) (hs : ∀ u ∈ r.queue, -1000000 ≤ u.sent ∧ u.sent ≤ 1000000) :
    Calls Tryz.prog 90 #[.pointer (some ⟨b, 0, none⟩)] W fun e w' => ∃ o, e = .returned o ∧ w'.ownsRow W.heap.size 58 3 o r.updates.1.length (r.updates.1.flatMap keyC) ∧ RTo W w' b v r.updates.2 := by
  obtain ⟨qo, qc, hqv, hqb, hqc, hqm⟩ := row_form h.rows.q
  have HOQ := hide (hqv ▸ h.rows.q : W.ownsRow 0 158 4 (.slice qo r.queue.length qc) r.queue.length (r.queue.flatMap ruC))
  have c19 := h.cell 19
  have f19 := h.free 19
  have c5 := h.cell 5
  have hlt := h.ltb
  simp only [refC, List.getElem?_toArray, List.getElem?_cons_zero, List.getElem?_cons_succ, hqv] at c19 c5
  have H0 := hide h
  have HUP : Hid (r.updates = ((updGo r.c.sends 4 r.queue).1, { r with queue := (updGo r.c.sends 4 r.queue).2.1 ++ (updGo r.c.sends 4 r.queue).2.2 })) := hide rfl
  have HU0 : Hid (UpTo r.c.sends r.queue [] r.queue [] 4) := hide ⟨rfl, Nat.le_refl _, by simp, by simp, rfl, by simp, hs, by simp⟩
  obtain ⟨Q, hQ⟩ : ∃ Q, Q = r.queue := ⟨_, rfl⟩
  obtain ⟨sn, hsn⟩ : ∃ sn, sn = r.c.sends := ⟨_, rfl⟩
  rw [← hQ, ← hsn] at HU0 HUP
  rw [← hQ] at HOQ c19 hq hqc
  rw [← hsn] at c5
  clear h hqv hqb hQ hsn hs
  go_enter Tryz.func90, Tryz.ntmps90
  go_wp2_with (at_builtin; refine wpList_app rfl _ _ rfl etyU W.heap.size (n1 := 0) (xs1 := []) rfl rfl (World.ownsRow_nil _ _ _ _) (Src.of_own (unhide HOQ)) (one_of ru_one _) (by omega) (by omega) ?_)
  intro v1 w1 ho1 hg1 _
  have hf1 : Fi ruC 158 4 W w1 v1 Q := by
    have := (Fi.nil ruC 158 4 (Below.refl W.heap.size W)).push (Below.refl _ _) hg1 Q (by simpa using ho1)
    simpa using this
  have HF1 := hide hf1
  clear ho1 hg1 hf1 HOQ
  go_wp2_with fail
  go_loopw [3, 4, 5, 6, 7, 8, 9] (fun vo vl vs _ _ _ _ wr => ∃ O L S m, U3 W wr vo vl vs O L S ∧ Hid (UpTo sn Q O L S m)) (fun vo _ _ _ _ _ _ _ => match vo with | .slice _ n _ => 4 - n | _ => 0)
  case atStart => exact ⟨[], Q, [], 4, ⟨World.ownsRow_nil _ _ _ _, (unhide HF1).own, World.ownsRow_nil _ _ _ _, by simp [Value.ownBlock], (unhide HF1).below⟩, HU0⟩
  case round =>
    obtain ⟨O, L, S, m, hU, HUT⟩ := hrel
    obtain ⟨oo, oc, hov, _⟩ := row_form hU.o
    obtain ⟨lo, lc, hlv, hlb, hlc, hlm⟩ := row_form hU.l
    obtain ⟨so, sc, hsv, _⟩ := row_form hU.s
    subst hov
    subst hlv
    subst hsv
    have hOm := (unhide HUT).len
    have hLl := (unhide HUT).lL
    have hSl := (unhide HUT).lS
    have HU := hide hU
    have hzr := hU.below.size
    have e5 := (hU.below.cell (p := ⟨b, 5, none⟩) hlt).trans c5
    have e19 := (hU.below.cell (p := ⟨b, 19, none⟩) hlt).trans c19
    have g19 := (hU.below.frozen (p := ⟨b, 19, none⟩) hlt).trans f19
    have HLB := hide hlb
    clear hU hlb
    by_cases hgo : O.length < 4 ∧ 0 < L.length
    · obtain ⟨hO4, hL0⟩ := hgo
      have hO4' : (O.length : Int) < 4 := by omega
      have hL0' : (0 : Int) < (L.length : Int) := by omega
      obtain ⟨g, hg, hgl'⟩ := unhide HLB hL0
      subst hg
      obtain ⟨wq, hwq⟩ : ∃ wq, wq = wr := ⟨_, rfl⟩
      subst hwq
      have hcel : ∀ (i : Nat) (hi : i < L.length) (j : Nat), j < 4 → wq.cell? ⟨g, i * 4 + j, none⟩ = (ruC L[i])[j]? := fun i hi j hj => row_cell ruC 4 (fun _ => rfl) (unhide HU).l i hi j hj
      have HCEL := hide hcel
      clear hcel
      go_wp2_with fail
      go_loopw [6, 7] (fun bst i w' => ∃ k : Nat, i = .int .i64 k ∧ 1 ≤ k ∧ k ≤ L.length ∧ bst = .int .i64 (bestN L k) ∧ Below wq.heap.size wq w') (fun _ i _ => L.length - (Go.RowKit.intOf i).toNat)
      case atStart => exact ⟨1, by go_num, by omega, by omega, by rw [bestN_one]; go_num, Below.refl _ _⟩
      case round =>
        obtain ⟨k, rfl, hk1, hk2, rfl, hbw⟩ := hrel
        have hB := bestN_lt' L k (by omega) hk2
        by_cases hkl : k < L.length
        · have hki : (k : Int) < (L.length : Int) := by omega
          have hBi : (bestN L k : Int) < (L.length : Int) := by omega
          have hnx : bestN L (k + 1) = if befB L[k] L[bestN L k] then k else bestN L k := by
            conv => lhs; unfold bestN
            rw [getBang L k hkl, getBang L _ hB]
          have p0 := (hbw.cell (p := ⟨g, k * 4 + 0, none⟩) hgl').trans (unhide HCEL k hkl 0 (by omega))
          have p3 := (hbw.cell (p := ⟨g, k * 4 + 3, none⟩) hgl').trans (unhide HCEL k hkl 3 (by omega))
          have q0 := (hbw.cell (p := ⟨g, bestN L k * 4 + 0, none⟩) hgl').trans (unhide HCEL _ hB 0 (by omega))
          have q3 := (hbw.cell (p := ⟨g, bestN L k * 4 + 3, none⟩) hgl').trans (unhide HCEL _ hB 3 (by omega))
          simp only [ruC, List.getElem?_cons_zero, List.getElem?_cons_succ, Nat.add_zero] at p0 p3 q0 q3
          generalize L[k] = U at p0 p3 hnx
          generalize L[bestN L k] = V at q0 q3 hnx
          obtain ⟨⟨ui, ua, ub⟩, us⟩ := U
          obtain ⟨⟨vi, va, vb⟩, vs⟩ := V
          simp only at p0 p3 q0 q3
          simp only [befB] at hnx
          have HNX := hide hnx
          have HBW := hide hbw
          have hwz := hbw.size
          clear hnx hbw
          by_cases d1 : us < vs
          · have d1' : decide (us < vs) = true := by simpa using d1
            have E : Hid (bestN L (k + 1) = k) := hide (by rw [unhide HNX]; simp [d1])
            go_wp2
            go_quiet (fail)
            go_wp2
            go_roundw
            case rel => exact ⟨k + 1, by go_num, by omega, by omega, by rw [unhide E], (unhide HBW).trans (bdrewN (Below.refl _ _) _)⟩
            case measure => simp [Go.RowKit.intOf]; omega
          have d1' : decide (us < vs) = false := by simpa using d1
          by_cases d2 : us = vs
          · subst d2
            have d2' : (us == us) = true := by simp
            by_cases d3 : ui < vi
            · have d3' : decide (ui < vi) = true := by simpa using d3
              have E : Hid (bestN L (k + 1) = k) := hide (by rw [unhide HNX]; simp [d3])
              go_wp2
              go_quiet (fail)
              go_wp2
              go_roundw
              case rel => exact ⟨k + 1, by go_num, by omega, by omega, by rw [unhide E], (unhide HBW).trans (bdrewN (Below.refl _ _) _)⟩
              case measure => simp [Go.RowKit.intOf]; omega
            · have d3' : decide (ui < vi) = false := by simpa using d3
              have E : Hid (bestN L (k + 1) = bestN L k) := hide (by rw [unhide HNX]; simp [d3])
              go_wp2
              go_quiet (fail)
              go_wp2
              go_roundw
              case rel => exact ⟨k + 1, by go_num, by omega, by omega, by rw [unhide E], (unhide HBW).trans (bdrewN (Below.refl _ _) _)⟩
              case measure => simp [Go.RowKit.intOf]; omega
          · have d2' : (us == vs) = false := by simpa using d2
            have E : Hid (bestN L (k + 1) = bestN L k) := hide (by rw [unhide HNX]; simp [d1, d2])
            go_wp2
            go_quiet (fail)
            go_wp2
            go_roundw
            case rel => exact ⟨k + 1, by go_num, by omega, by omega, by rw [unhide E], (unhide HBW).trans (bdrewN (Below.refl _ _) _)⟩
            case measure => simp [Go.RowKit.intOf]; omega
        · have hke : k = L.length := by omega
          subst hke
          have hbI : bestN L L.length = bestI L := rfl
          rw [hbI] at hB ⊢
          clear hbI
          have hU2 := (unhide HU).mono hbw
          have hsmU := (unhide HUT).smL L[bestI L] (List.getElem_mem hB)
          obtain ⟨m', hm'⟩ : ∃ m', m = m' + 1 := ⟨m - 1, by omega⟩
          subst hm'
          have hst := (unhide HUT).step hB
          have hBi : (bestI L : Int) < (L.length : Int) := by omega
          have p0 := (hbw.cell (p := ⟨g, bestI L * 4 + 0, none⟩) hgl').trans (unhide HCEL _ hB 0 (by omega))
          have p1 := (hbw.cell (p := ⟨g, bestI L * 4 + 1, none⟩) hgl').trans (unhide HCEL _ hB 1 (by omega))
          have p2 := (hbw.cell (p := ⟨g, bestI L * 4 + 2, none⟩) hgl').trans (unhide HCEL _ hB 2 (by omega))
          have p3 := (hbw.cell (p := ⟨g, bestI L * 4 + 3, none⟩) hgl').trans (unhide HCEL _ hB 3 (by omega))
          simp only [ruC, List.getElem?_cons_zero, List.getElem?_cons_succ, Nat.add_zero] at p0 p1 p2 p3
          have e5' := (hbw.cell (p := ⟨b, 5, none⟩) (Nat.lt_of_lt_of_le hlt hzr)).trans e5
          generalize L[bestI L] = U at p0 p1 p2 p3 hst hsmU
          obtain ⟨⟨ui, ua, ub⟩, us⟩ := U
          simp only at p0 p1 p2 p3 hsmU
          have HST := hide hst
          have HU2 := hide hU2
          have hwz := hbw.size
          have hlw : L.length ≤ lc := hlc
          clear hst hU2 hbw HCEL HU
          go_wp2_with (at_builtin; refine wpList_app rfl _ _ rfl etyK W.heap.size rfl rfl (own_below (unhide HU2).o (((Below.refl _ _).alloc (Nat.le_refl _) _).alloc (by simp) _)) (Src.box (cs := keyC ⟨ui, ua, ub⟩) 3 1 1 (heap_new2 wr _ _) (by rfl)) (key_one _) (by omega) (by simp; omega) ?_)
          intro vo' w2 ho2 hg2 hat2
          have hU3 := (unhide HU2).pushO (((Below.refl _ _).alloc (Nat.le_refl _) _).alloc (by simp) _) hg2 ⟨ui, ua, ub⟩ (by simpa using ho2)
          have hz2 := hg2.size
          simp only [World.size_alloc] at hz2
          have hub : w2.heap[wr.heap.size]? = some (.cells #[.int .i64 ui, .int .i64 ua, .int .i64 ub, .int .i64 us] 158 (0, 0)) := by
            refine (hg2.block wr.heap.size (by simp; omega) (fun e => ?_)).trans ((Below.heap_alloc _ _ _ (by simp)).trans (heap_alloc_new wr _))
            have := (own_lt (unhide HU2).o e.symm).2
            omega
          have hn1 : vo'.ownBlock ≠ some wr.heap.size := fun e => by
            rcases hat2 with a | a
            · have := (own_lt (unhide HU2).o (a ▸ e)).2; omega
            · rw [a] at e; simp at e; omega
          have hn2 : (Value.slice (some ⟨g, 0, none⟩) L.length lc).ownBlock ≠ some wr.heap.size := fun e => by have := (own_lt (unhide HU2).l e).2; omega
          have hn3 : (Value.slice so S.length sc).ownBlock ≠ some wr.heap.size := fun e => by have := (own_lt (unhide HU2).s e).2; omega
          have hU4 := hU3.set wr.heap.size 3 (.int .i64 (us + 1)) (by omega) hn1 hn2 hn3
          have hub4 := heap_setCell_same w2 wr.heap.size 3 _ _ (.int .i64 (us + 1)) hub
          have t0 := cell_at hub 3
          have tf := free_at hub 3
          have d5 := (hU4.below.cell (p := ⟨b, 5, none⟩) hlt).trans c5
          simp only [List.getElem?_toArray, List.getElem?_cons_zero, List.getElem?_cons_succ] at t0
          simp only [List.setIfInBounds_toArray, List.set_cons_succ, List.set_cons_zero] at hub4
          obtain ⟨oo', oc', hov', _⟩ := row_form hU4.o
          have hwl : w2.heap.size = (w2.setCell ⟨wr.heap.size, 3, none⟩ (.int .i64 (us + 1))).heap.size := by simp
          have HU4 := hide hU4
          have HUB4 := hide hub4
          clear hU3 ho2 hg2 hat2 hub hn1 hn2 hn3 hU4 hub4 p0 p1 p2 p3 HU2 e5'
          go_wp2_with fail
          generalize w2.setCell ⟨wr.heap.size, 3, none⟩ (.int .i64 (us + 1)) = w4 at HU4 HUB4 d5 hwl ⊢
          have hz4 : wr.heap.size + 1 + 1 ≤ w4.heap.size := by omega
          have j0 := cell_at (unhide HUB4) 0
          have j1 := cell_at (unhide HUB4) 1
          have j2 := cell_at (unhide HUB4) 2
          have j3 := cell_at (unhide HUB4) 3
          simp only [List.getElem?_toArray, List.getElem?_cons_zero, List.getElem?_cons_succ] at j0 j1 j2 j3
          subst hov'
          have hol : (O ++ [(⟨ui, ua, ub⟩ : K3)]).length = O.length + 1 := by simp
          clear t0 tf hwl HUB4
          obtain ⟨S', hS'⟩ : ∃ S', S' = S ++ (if us + 1 < sn then [(⟨⟨ui, ua, ub⟩, us + 1⟩ : RU)] else []) := ⟨_, rfl⟩
          rw [← hS'] at HST
          by_cases hsn : us + 1 < sn
          case' pos =>
            have hsn' : decide (us + 1 < sn) = true := by simpa using hsn
            rw [if_pos hsn] at hS'
            go_quiet (fail)
            go_wp2_with (at_builtin; refine wpList_app rfl _ _ rfl etyU W.heap.size rfl rfl (own_below (unhide HU4).s (bdrewN ((Below.refl _ _).alloc (Nat.le_refl _) _) _)) (Src.box (cs := ruC ⟨⟨ui, ua, ub⟩, us + 1⟩) 4 1 1 (heap_alloc_new w4 _) (by rfl)) (ru_one _) (by omega) (by simp; omega) ?_)
            intro vs' w5 ho5 hg5 hat5
            have hU5 := (unhide HU4).pushS (bdrewN ((Below.refl _ _).alloc (Nat.le_refl _) _) _) hg5 (by simpa using hat5) ⟨⟨ui, ua, ub⟩, us + 1⟩ (by simpa using ho5)
            rw [← hS'] at hU5
            have hz5 : w4.heap.size ≤ w5.heap.size := by have := hg5.size; simp at this; omega
            have HU5 := hide hU5
            clear hU5 ho5 hg5 hat5 hsn hsn' hS' j0 j1 j2 j3 d5 HU4
          case' neg =>
            have hsn' : decide (us + 1 < sn) = false := by simpa using hsn
            rw [if_neg hsn, List.append_nil] at hS'
            subst hS'
            have HU5 := hide (fun q => (unhide HU4).mono (bdrewN (Below.refl _ _) q))
            clear hsn HU4
            go_quiet (fail)
            have hz5 : w4.heap.size ≤ (w4.drewN nq).heap.size := by simp
            replace HU5 := hide (unhide HU5 nq)
            generalize w4.drewN nq = w5 at HU5 hz5 ⊢
            obtain ⟨so', sc', hsv', _⟩ := row_form (unhide HU5).s
            clear j0 j1 j2 j3 d5
          all_goals
            have hlp : (L.take (bestI L)).length = bestI L := by simp; omega
            have HLP := hide hlp
            clear hlp
            go_wp2_with (at_builtin; refine wpList_app rfl _ _ rfl etyU w5.heap.size (n := bestI L) (xs := (L.flatMap ruC).take (bestI L * 4)) (n1 := 0) (xs1 := []) rfl rfl (World.ownsRow_nil _ _ _ _) ?_ (fun u hu => one_of ru_one _ u (List.mem_of_mem_take hu)) (by omega) (by omega) ?_)
            · (simp [Act.eval]; exact Src.head (unhide HU5).l _ (by omega))
            intro v6 w6 ho6 hg6 _
            have hf6 : Fi ruC 158 4 w5 w6 v6 (L.take (bestI L)) := by
              have := (Fi.nil ruC 158 4 (Below.refl w5.heap.size w5)).push (Below.refl _ _) hg6 (L.take (bestI L)) (by rw [row_take ruC 4 (fun _ => rfl)] at ho6; rw [unhide HLP]; simpa using ho6)
              simpa using this
            have HF6 := hide hf6
            have hz6 := hf6.below.size
            have HL6 := hide (own_below (unhide HU5).l hf6.below)
            clear ho6 hg6 hf6
            go_wp2_with (refine wpList_tail rfl _ _ rfl etyU (bestI L + 1) rfl rfl (unhide HL6) (by omega) ?_)
            intro vt hvt
            have HVT := hide hvt
            clear hvt
            go_wp2_with (at_builtin; refine wpList_app rfl _ _ rfl etyU w5.heap.size rfl rfl (unhide HF6).own (unhide HVT) (fun u hu => one_of ru_one _ u (List.mem_of_mem_drop hu)) (by have := unhide HLP; omega) (by omega) ?_)
            intro v7 w7 ho7 hg7 _
            have hf7 := (unhide HF6).push (Below.refl _ _) hg7 (L.drop (bestI L + 1)) (by rw [row_drop ruC 4 (fun _ => rfl)] at ho7; first | (rw [List.length_take, List.length_drop]; exact ho7) | (rw [unhide HLP, List.length_drop]; exact ho7) | simpa using ho7)
            rw [← List.eraseIdx_eq_take_drop_succ] at hf7
            have hU7 := (unhide HU5).newL hf7
            have HU7 := hide hU7
            obtain ⟨lo7, lc7, hv7, _⟩ := row_form hU7.l
            subst hv7
            clear hf7 hU7 ho7 hg7 HVT HL6 HF6
            go_wp2
            go_roundw
            case rel =>
              rw [hol] at HU7
              exact ⟨O ++ [⟨ui, ua, ub⟩], L.eraseIdx (bestI L), _, m', unhide HU7, HST⟩
            case measure => simp; omega
    · have hno : m = 0 ∨ L.length = 0 := by omega
      have hn := updGo_none sn m L hno
      have e1 := (unhide HUT).one
      have e2 := (unhide HUT).two
      have e3 := (unhide HUT).three
      rw [hn] at e1 e2 e3
      simp only [List.append_nil] at e1 e2 e3
      have HE : Hid (r.updates = (O, { r with queue := L ++ S })) := hide (by rw [unhide HUP, e1, e2, e3])
      clear hn e1 e2 e3 hno HUP
      have hcs : (4 ≤ O.length) ∨ (O.length < 4 ∧ L.length = 0) := by omega
      rcases hcs with hO4 | ⟨hO4, hL0⟩
      case' inl => have hO4' : ¬ (O.length : Int) < 4 := by omega
      case' inr =>
        have hO4' : (O.length : Int) < 4 := by omega
        have hL0' : ¬ (0 : Int) < (L.length : Int) := by omega
        clear hL0
      all_goals
        clear hgo
        go_wp2_with (at_builtin; refine wpList_app rfl _ _ rfl etyU W.heap.size rfl rfl (unhide HU).l (Src.of_own (unhide HU).s) (one_of ru_one _) (by omega) (by omega) ?_)
        intro v' w3 ho3 hg3 _
        have hb3 : Below W.heap.size W w3 := (unhide HU).below.grown hg3 (unhide HU).below.size (fun k e => (own_lt (unhide HU).l e).1)
        have HO3 := hide (own_grown' (unhide HU).o hg3 (row_apart (unhide HU).l (unhide HU).o (by decide)))
        have e19' := (hb3.cell (p := ⟨b, 19, none⟩) hlt).trans c19
        have g19' := (hb3.frozen (p := ⟨b, 19, none⟩) hlt).trans f19
        obtain ⟨ao', cap', hv'⟩ := own_form ho3
        subst hv'
        have HT := hide ((unhide H0).setQ (l := L ++ S) (Frm.of_below hb3 (Nat.le_refl _)) (fun g hg => .inr (own_lt ho3 hg).1) (by rw [List.flatMap_append, List.length_append]; exact own_base0 ho3))
        have hbb : W.heap.size ≤ b → False := by omega
        clear ho3 hg3 hb3 e19 g19
        go_wp2
        go_ret
        rw [unhide HE]
        exact ⟨_, rfl, ownsRow_setCell_other (unhide HO3) (fun e => hbb (own_lt (unhide HO3) e).1) _, unhide HT⟩
end Go.Proofs.YtnneljcbelgoeaaGreatDoor.wire
/- The document's node: a message goes out. -/
namespace Go.Proofs.YtnneljcbelgoeaaGreatDoor.wire
open Go.RowKit Go.Maps

theorem flat_kcells (l : List K3) : l.flatMap keyC = kcells l := by
  induction l with
  | nil => rfl
  | cons k r ih => simp [kcells, List.flatMap_cons, keyC, ih]
theorem at_new {w : World} {v v' : Value} {H : Nat} (hs : w.heap.size ≤ H) (h : v'.ownBlock = v.ownBlock ∨ v'.ownBlock = some H) : ∀ g, v'.ownBlock = some g → v.ownBlock = some g ∨ w.heap.size ≤ g := fun g hg => by
  rcases h with h | h
  · exact .inl (h ▸ hg)
  · rw [h] at hg; cases hg; exact .inr hs
theorem RAt.aside {W W' : World} {b : Nat} {v : Rv} {r : Rn} (h : RAt W b v r) {g : Nat} {cs : Array Value} {t : TypeId} (hg : W.heap[g]? = some (.cells cs t (0, 0))) (hn : g ∉ rfeet b v) (ht : t ≠ 3) (hf : Frm [g] W W') : RAt W' b v r :=
  h.frm hf (fun k hk e => by simp only [List.mem_singleton] at e; subst e; exact hn hk) (fun k hk e => by
    simp only [List.mem_singleton] at e
    subst e
    obtain ⟨cs', hb⟩ := h.rows.d.blk hk
    rw [hg] at hb
    simp only [Option.some.injEq, Obj.cells.injEq] at hb
    exact ht hb.2.1)
set_option maxHeartbeats 2000000 in
set_option maxRecDepth 100000 in
/-- What goes out by itself. -/
theorem rsend_own {W : World} {b : Nat} {v : Rv} {r : Rn} (h : RAt W b v r) (ho : r.out.length ≤ 1000) (dest kind seq tgt : Int) (hk : 4 ≤ kind) (ups : List K3) (vu : Value) (hu : KeysAt W vu ups) (hw : wholeB ⟨kind, r.self.id, r.self.inc, seq, tgt, ups⟩ = true) :
    Calls Tryz.prog 62 #[.pointer (some ⟨b, 0, none⟩), .int .i64 dest, .agg #[.int .i64 kind, .int .i64 0, .int .i64 0, .int .i64 seq, .int .i64 tgt, vu]] W fun e w' => e = .returned (.tuple #[]) ∧ RTo W w' b v (r.sendTo dest kind seq tgt ups) := by
  obtain ⟨ao, cap, rfl⟩ := hu.form
  obtain ⟨xo, xc, hxv, _⟩ := row_form h.rows.x
  have c10 := h.cell 10
  have c11 := h.cell 11
  have c24 := h.cell 24
  have f24 := h.free 24
  have hlt := h.ltb
  simp only [refC, List.getElem?_toArray, List.getElem?_cons_zero, List.getElem?_cons_succ, hxv] at c10 c11 c24
  have hb0 := (Below.refl W.heap.size W).alloc (Nat.le_refl _) (.cells #[.int .i64 kind, .int .i64 r.self.id, .int .i64 r.self.inc, .int .i64 seq, .int .i64 tgt, .slice ao ups.length cap] 33)
  have HB := hide (rbytes_any ⟨kind, r.self.id, r.self.inc, seq, tgt, ups⟩ (.slice ao ups.length cap) _ (hu.below hb0) hw)
  have HB0 := hide hb0
  have H0 := hide h
  have hk' : ¬ kind < 4 := by omega
  clear h hb0 hu hw
  go_enter Tryz.func62, Tryz.ntmps62
  go_wp2_with fail
  refine (unhide HB).mono ?_
  rintro e w1 ⟨rfl, hb1⟩
  have hb1' := (unhide HB0).trans (hb1.mono (unhide HB0).size)
  have h1 := (unhide H0).below hb1'
  have HB1 := hide hb1'
  have HX1 := hide (hxv ▸ h1.rows.x : w1.ownsRow 0 60 2 (.slice xo r.out.length xc) r.out.length (r.out.flatMap pkC))
  have d24 := (hb1'.cell (p := ⟨b, 24, none⟩) hlt).trans c24
  have hlt1 := h1.ltb
  have H1 := hide h1
  clear hb1 hb1' h1 HB
  go_wp2_with (at_builtin; refine wpList_app rfl _ _ rfl etyP 0 rfl rfl (own_below (unhide HX1) ((Below.refl _ _).alloc (Nat.le_refl _) _)) (Src.box (cs := pkC ⟨dest, bytesM ⟨kind, r.self.id, r.self.inc, seq, tgt, ups⟩⟩) 2 1 1 (heap_alloc_new w1 _) (by rfl)) (pk_one _) (by omega) (by omega) ?_)
  intro v' w2 ho2 hg2 hat2
  have hf2 : Frm v.x.ownBlock.toList w1 w2 := hxv ▸ (Frm.of_below ((Below.refl _ _).alloc (Nat.le_refl _) _) (Nat.le_refl _)).trans (frm_grown hg2) (fun j hj => .inl hj)
  have hat3 : ∀ g, v'.ownBlock = some g → v.x.ownBlock = some g ∨ w1.heap.size ≤ g := hxv ▸ at_new (w := w1) (by omega) hat2
  have hs2 := (unhide H1).setX (l := r.out ++ [⟨dest, bytesM ⟨kind, r.self.id, r.self.inc, seq, tgt, ups⟩⟩]) hf2 hat3 (by simpa using ho2)
  have hbb : w2.heap[b]? = some (.cells (refC r v) 93 (0, 0)) := (hf2.block b hlt1 (fun hm => (unhide H1).rows.not (unhide H1).blk |>.1 (by simp only [Rv.all, List.mem_append]; simp [hm]))).trans (unhide H1).blk
  have e24 := cell_at hbb 24
  have g24 := free_at hbb 24
  obtain ⟨ao', cap', hv'⟩ := own_form ho2
  subst hv'
  simp only [refC, List.getElem?_toArray, List.getElem?_cons_zero, List.getElem?_cons_succ, hxv] at e24
  have HS := hide (RTo.from (unhide HB1) hs2)
  clear hs2 hbb hf2 hat3 ho2 hg2 hat2 HX1
  go_wp2
  go_end0
  exact ⟨rfl, unhide HS⟩
set_option maxHeartbeats 2000000 in
set_option maxRecDepth 100000 in
/-- What goes out with what rides along. -/
theorem rsend_direct {W : World} {b : Nat} {v : Rv} {r : Rn} (h : RAt W b v r) (ho : r.out.length ≤ 1000) (hq : r.queue.length ≤ 1000) (hs : ∀ u ∈ r.queue, -1000000 ≤ u.sent ∧ u.sent ≤ 1000000) (dest kind seq tgt : Int) (hk : kind < 4) (hw : wholeB ⟨kind, r.self.id, r.self.inc, seq, tgt, r.updates.1⟩ = true) :
    Calls Tryz.prog 62 #[.pointer (some ⟨b, 0, none⟩), .int .i64 dest, .agg #[.int .i64 kind, .int .i64 0, .int .i64 0, .int .i64 seq, .int .i64 tgt, .slice none 0 0]] W fun e w' => e = .returned (.tuple #[]) ∧ RTo W w' b v (r.direct dest kind seq tgt) := by
  have c10 := h.cell 10
  have c11 := h.cell 11
  have hlt := h.ltb
  simp only [refC, List.getElem?_toArray, List.getElem?_cons_zero, List.getElem?_cons_succ] at c10 c11
  have hb0 := (Below.refl W.heap.size W).alloc (Nat.le_refl _) (.cells #[.int .i64 kind, .int .i64 r.self.id, .int .i64 r.self.inc, .int .i64 seq, .int .i64 tgt, .slice none 0 0] 33)
  have hx0 : (W.alloc (.cells #[.int .i64 kind, .int .i64 r.self.id, .int .i64 r.self.inc, .int .i64 seq, .int .i64 tgt, .slice none 0 0] 33)).heap[W.heap.size]? = some (.cells #[.int .i64 kind, .int .i64 r.self.id, .int .i64 r.self.inc, .int .i64 seq, .int .i64 tgt, .slice none 0 0] 33 (0, 0)) := heap_alloc_new W _
  have h0 := h.below hb0
  have HNF := hide (fun hm => by have := h.lt hm; omega : W.heap.size ∉ rfeet b v)
  have HU := hide (rupdates_any h0 hq hs)
  have HB0 := hide hb0
  have HX0 := hide hx0
  have hz0 : W.heap.size < (W.alloc (.cells #[.int .i64 kind, .int .i64 r.self.id, .int .i64 r.self.inc, .int .i64 seq, .int .i64 tgt, .slice none 0 0] 33)).heap.size := by simp
  have HZ0 := hide hz0
  have HDR : Hid (r.direct dest kind seq tgt = r.updates.2.sendTo dest kind seq tgt r.updates.1) := hide rfl
  have HSE : Hid (r.updates.2.self = r.self ∧ r.updates.2.out = r.out) := hide ⟨rfl, rfl⟩
  clear h h0 hb0 hx0 hz0
  go_enter Tryz.func62, Tryz.ntmps62
  go_wp2_with fail
  generalize W.alloc (.cells #[.int .i64 kind, .int .i64 r.self.id, .int .i64 r.self.inc, .int .i64 seq, .int .i64 tgt, .slice none 0 0] 33) = w0 at HU HB0 HX0 HZ0 ⊢
  refine (unhide HU).mono ?_
  rintro e w1 ⟨o, rfl, ho1, ht1⟩
  obtain ⟨oo, oc, hov⟩ := own_form ho1
  obtain ⟨v1, hd1, ha1, hf1, hs1⟩ := ht1
  generalize r.updates = UP at *
  obtain ⟨ups, r1⟩ := UP
  simp only at *
  subst hov
  have hx1 := (hf1.block _ (unhide HZ0) (unhide HNF)).trans (unhide HX0)
  have hnf1 : W.heap.size ∉ rfeet b v1 := fun hm => by
    rcases hs1 _ hm with h | h
    · exact unhide HNF h
    · have := unhide HZ0; omega
  have m5 := cell_at hx1 5
  have z5 := free_at hx1 5
  simp only [List.getElem?_toArray, List.getElem?_cons_zero, List.getElem?_cons_succ] at m5
  have hf2 := frm_set w1 W.heap.size 5 (.slice oo ups.length oc)
  have ha2 := ha1.aside hx1 hnf1 (by decide) hf2
  have hx2 := heap_setCell_same w1 W.heap.size 5 _ _ (.slice oo ups.length oc) hx1
  simp only [List.setIfInBounds_toArray, List.set_cons_succ, List.set_cons_zero] at hx2
  have ho2 : (w1.setCell ⟨W.heap.size, 5, none⟩ (.slice oo ups.length oc)).ownsRow w0.heap.size 58 3 (.slice oo ups.length oc) ups.length (ups.flatMap keyC) := ownsRow_setCell_other ho1 (fun e => by have h1 := (own_lt ho1 e).1; have h2 := unhide HZ0; have h3 : w0.heap.size ≤ W.heap.size := h1; omega) _
  have hfW : Frm (rfeet b v) W (w1.setCell ⟨W.heap.size, 5, none⟩ (.slice oo ups.length oc)) := ((Frm.of_below (unhide HB0) (Nat.le_refl _)).trans hf1 (fun j hj => .inl hj)).trans hf2 (fun j hj => .inr (by simp only [List.mem_singleton] at hj; omega))
  have hsW : ∀ k ∈ rfeet b v1, k ∈ rfeet b v ∨ W.heap.size ≤ k := fun k hk => (hs1 k hk).elim .inl (fun h => .inr (Nat.le_trans (unhide HB0).size h))
  have hlt1 := lt_blk hx1
  generalize hw2 : w1.setCell ⟨W.heap.size, 5, none⟩ (.slice oo ups.length oc) = w2 at ha2 hx2 ho2 hfW
  have HBY := hide (rbytes_any ⟨kind, r.self.id, r.self.inc, seq, tgt, ups⟩ (.slice oo ups.length oc) w2 (rkeysAt_of_own (base := w0.heap.size) (by rw [← flat_kcells]; exact ho2)) hw)
  have i0 := cell_at hx2 0
  have i1 := cell_at hx2 1
  have i2 := cell_at hx2 2
  have i3 := cell_at hx2 3
  have i4 := cell_at hx2 4
  have i5 := cell_at hx2 5
  simp only [List.getElem?_toArray, List.getElem?_cons_zero, List.getElem?_cons_succ] at i0 i1 i2 i3 i4 i5
  have hlt2 := lt_blk hx2
  have H2 := hide ha2
  have HFW := hide hfW
  have HSW := hide hsW
  have HD1 := hide hd1
  obtain ⟨hse1, hse2⟩ := unhide HSE
  have hol : r1.out.length ≤ 1000 := by rw [hse2]; exact ho
  have HE1 : Hid (r1.sendTo dest kind seq tgt ups = { r1 with out := r1.out ++ [⟨dest, bytesM ⟨kind, r.self.id, r.self.inc, seq, tgt, ups⟩⟩] }) := hide (by unfold Rn.sendTo; rw [hse1])
  clear ha2 hx2 ho2 hfW hsW hd1 hf2 hx1 hnf1 ho1 ha1 hf1 hs1 hse1 hse2 HU HSE hw hs
  go_wp2_with fail
  clear hw2 m5 z5
  refine (unhide HBY).mono ?_
  rintro e w3 ⟨rfl, hb3⟩
  have h3 := (unhide H2).below hb3
  obtain ⟨xo, xc, hxv, _⟩ := row_form h3.rows.x
  have HX3 := hide (hxv ▸ h3.rows.x : w3.ownsRow 0 60 2 (.slice xo r1.out.length xc) r1.out.length (r1.out.flatMap pkC))
  have d24 := h3.cell 24
  simp only [refC, List.getElem?_toArray, List.getElem?_cons_zero, List.getElem?_cons_succ, hxv] at d24
  have hlt3 := h3.ltb
  have H3 := hide h3
  have HB3 := hide hb3
  clear h3 hb3 HBY i0 i1 i2 i3 i4 i5
  go_wp2_with (at_builtin; refine wpList_app rfl _ _ rfl etyP 0 rfl rfl (own_below (unhide HX3) ((Below.refl _ _).alloc (Nat.le_refl _) _)) (Src.box (cs := pkC ⟨dest, bytesM ⟨kind, r.self.id, r.self.inc, seq, tgt, ups⟩⟩) 2 1 1 (heap_alloc_new w3 _) (by rfl)) (pk_one _) (by omega) (by omega) ?_)
  intro v' w4 ho4 hg4 hat4
  have hf4 : Frm v1.x.ownBlock.toList w3 w4 := hxv ▸ (Frm.of_below ((Below.refl _ _).alloc (Nat.le_refl _) _) (Nat.le_refl _)).trans (frm_grown hg4) (fun j hj => .inl hj)
  have hat5 : ∀ g, v'.ownBlock = some g → v1.x.ownBlock = some g ∨ w3.heap.size ≤ g := hxv ▸ at_new (w := w3) (by omega) hat4
  have hs4 := (unhide H3).setX (l := r1.out ++ [⟨dest, bytesM ⟨kind, r.self.id, r.self.inc, seq, tgt, ups⟩⟩]) hf4 hat5 (by simpa using ho4)
  have hbb : w4.heap[b]? = some (.cells (refC r1 v1) 93 (0, 0)) := (hf4.block b hlt3 (fun hm => (unhide H3).rows.not (unhide H3).blk |>.1 (by simp only [Rv.all, List.mem_append]; simp [hm]))).trans (unhide H3).blk
  have e24 := cell_at hbb 24
  have g24 := free_at hbb 24
  obtain ⟨ao', cap', hv'⟩ := own_form ho4
  subst hv'
  simp only [refC, List.getElem?_toArray, List.getElem?_cons_zero, List.getElem?_cons_succ, hxv] at e24
  have HS := hide (RTo.trans (unhide HD1) (unhide HFW) (unhide HSW) (RTo.from (unhide HB3) hs4))
  clear hs4 hbb hf4 hat5 ho4 hg4 hat4 HX3
  go_wp2
  go_end0
  rw [unhide HDR, unhide HE1]
  exact ⟨rfl, unhide HS⟩
end Go.Proofs.YtnneljcbelgoeaaGreatDoor.wire
/- The document's node: the table, to one that joins (P7). -/
namespace Go.Proofs.YtnneljcbelgoeaaGreatDoor.wire
open Go.RowKit Go.Maps

/-- What is left of one's own key among the others'. -/
def tabRest (put : Bool) (s : K3) (l : List K3) : List K3 := if put then l else putSelf s l
set_option maxHeartbeats 2000000 in
set_option maxRecDepth 100000 in
theorem rtable_any {W : World} {b : Nat} {v : Rv} {r : Rn} (h : RAt W b v r) (hl : r.others.length ≤ 7) (ho : r.out.length ≤ 1000) (m : M6) (vu : Value) (hw : wholeB ⟨5, r.self.id, r.self.inc, m.seq, 0, putSelf r.self (r.others.map RM.k)⟩ = true) (huv : ∃ ao n c, vu = .slice ao n c) :
    Calls Tryz.prog 88 #[.pointer (some ⟨b, 0, none⟩), mval m vu] W fun e w' => e = .returned (.tuple #[]) ∧ RTo W w' b v (r.tabled m) := by
  obtain ⟨ua, un, uc, rfl⟩ := huv
  have h0 := h.alloc (.cells #[.int .i64 m.kind, .int .i64 m.frm, .int .i64 m.inc, .int .i64 m.seq, .int .i64 m.tgt, .slice ua un uc] 33)
  have hb0 := (Below.refl W.heap.size W).alloc (Nat.le_refl _) (.cells #[.int .i64 m.kind, .int .i64 m.frm, .int .i64 m.inc, .int .i64 m.seq, .int .i64 m.tgt, .slice ua un uc] 33)
  have hx0 : (W.alloc (.cells #[.int .i64 m.kind, .int .i64 m.frm, .int .i64 m.inc, .int .i64 m.seq, .int .i64 m.tgt, .slice ua un uc] 33)).heap[W.heap.size]? = some (.cells #[.int .i64 m.kind, .int .i64 m.frm, .int .i64 m.inc, .int .i64 m.seq, .int .i64 m.tgt, .slice ua un uc] 33 (0, 0)) := heap_alloc_new W _
  generalize hw1 : W.alloc (.cells #[.int .i64 m.kind, .int .i64 m.frm, .int .i64 m.inc, .int .i64 m.seq, .int .i64 m.tgt, .slice ua un uc] 33) = w1 at h0 hb0 hx0
  obtain ⟨oo, oc, hov, hob, hocc, _⟩ := row_form h0.rows.o
  have HOW := hide (hov ▸ h0.rows.o : w1.ownsRow 0 134 4 (.slice oo r.others.length oc) r.others.length (r.others.flatMap rmC))
  have c13 := h0.cell 13
  have c10 := h0.cell 10
  have c11 := h0.cell 11
  have c12 := h0.cell 12
  have k1 := cell_at hx0 1
  have k3 := cell_at hx0 3
  have hlt := h0.ltb
  have hltk := lt_blk hx0
  simp only [refC, List.getElem?_toArray, List.getElem?_cons_zero, List.getElem?_cons_succ, hov] at c13 c10 c11 c12 k1 k3
  have H0 := hide h0
  have HB0 := hide hb0
  have HOB := hide hob
  have HW := hide hw
  have HTB : Hid (r.tabled m = r.sendTo m.frm 5 m.seq 0 (putSelf r.self (r.others.map RM.k))) := hide rfl
  clear h h0 hb0 hx0 hov hob hw
  generalize hA : r.others = A at *
  generalize hS : r.self = s at *
  obtain ⟨si, sa, sb⟩ := s
  simp only at c10 c11 c12
  go_enter Tryz.func88, Tryz.ntmps88
  go_wp2_with fail
  clear hw1
  go_loopw [4, 5, 6] (fun l p i wr => ∃ (k : Nat) (put : Bool) (L : List K3), i = .int .i64 k ∧ k ≤ A.length ∧ p = .bool put ∧ Fi keyC 58 3 w1 wr l L ∧ ((put = false → L.length ≤ k) ∧ L.length ≤ k + 1) ∧ Hid (putSelf ⟨si, sa, sb⟩ (A.map RM.k) = L ++ tabRest put ⟨si, sa, sb⟩ ((A.drop k).map RM.k))) (fun _ _ i _ => A.length - (Go.RowKit.intOf i).toNat)
  case atStart => exact ⟨0, false, [], by go_num, by omega, rfl, Fi.nil _ _ _ (Below.refl _ _), ⟨by simp, by simp⟩, hide (by simp [tabRest])⟩
  case round =>
    obtain ⟨k, put, L, rfl, hk, rfl, hfi, ⟨hLf, hLl⟩, HP⟩ := hrel
    have HLF := hide hLf
    clear hLf
    have hbw := hfi.below
    have e13 := (hbw.cell (p := ⟨b, 13, none⟩) hlt).trans c13
    have e10 := (hbw.cell (p := ⟨b, 10, none⟩) hlt).trans c10
    have e11 := (hbw.cell (p := ⟨b, 11, none⟩) hlt).trans c11
    have e12 := (hbw.cell (p := ⟨b, 12, none⟩) hlt).trans c12
    have f1 := (hbw.cell (p := ⟨W.heap.size, 1, none⟩) hltk).trans k1
    have f3 := (hbw.cell (p := ⟨W.heap.size, 3, none⟩) hltk).trans k3
    have hwz := hbw.size
    obtain ⟨ro, rc, hrv, _⟩ := row_form hfi.own
    subst hrv
    have HFI := hide hfi
    by_cases hlt2 : k < A.length
    · obtain ⟨g, hg, hgl⟩ := unhide HOB (by omega)
      subst hg
      have hcell : ∀ j, j < 4 → w1.cell? ⟨g, k * 4 + j, none⟩ = (rmC A[k])[j]? := fun j hj => row_cell rmC 4 (fun _ => rfl) (unhide HOW) k hlt2 j hj
      have p0 := hcell 0 (by omega)
      have p1 := hcell 1 (by omega)
      have p2 := hcell 2 (by omega)
      simp only [rmC, List.getElem?_cons_zero, List.getElem?_cons_succ, Nat.add_zero] at p0 p1 p2
      have hdr : (A.drop k).map RM.k = A[k].k :: (A.drop (k + 1)).map RM.k := by rw [List.drop_eq_getElem_cons hlt2, List.map_cons]
      have hP := unhide HP
      rw [hdr] at hP
      generalize A[k] = U at p0 p1 p2 hP
      obtain ⟨⟨ui, ua', ub⟩, ud⟩ := U
      simp only at p0 p1 p2 hP
      have q0 := (hbw.cell (p := ⟨g, k * 4, none⟩) hgl).trans p0
      have q1 := (hbw.cell (p := ⟨g, k * 4 + 1, none⟩) hgl).trans p1
      have q2 := (hbw.cell (p := ⟨g, k * 4 + 2, none⟩) hgl).trans p2
      have hki : (k : Int) < (A.length : Int) := by omega
      clear hfi hbw hcell hdr HP
      cases put with
      | true =>
        have HP2 : Hid (putSelf ⟨si, sa, sb⟩ (A.map RM.k) = (L ++ [⟨ui, ua', ub⟩]) ++ tabRest true ⟨si, sa, sb⟩ ((A.drop (k + 1)).map RM.k)) := hide (by rw [hP]; simp [tabRest])
        clear hP
        go_wp2
        go_quiet (fail)
        go_wp2_with (at_builtin; refine wpList_app rfl _ _ rfl etyK w1.heap.size rfl rfl (own_below (unhide HFI).own (bdrewN ((Below.refl _ _).alloc (Nat.le_refl _) _) _)) (Src.box (cs := keyC ⟨ui, ua', ub⟩) 3 1 1 (heap_alloc_new wr _) (by rfl)) (key_one _) (by omega) (by simp; omega) ?_)
        intro v' w3 ho3 hg3 _
        have HFI3 := hide ((unhide HFI).push (bdrewN ((Below.refl _ _).alloc (Nat.le_refl _) _) _) hg3 [⟨ui, ua', ub⟩] (by simpa using ho3))
        clear ho3 hg3
        go_wp2
        go_roundw
        case rel => exact ⟨k + 1, true, L ++ [⟨ui, ua', ub⟩], by go_num, by omega, rfl, unhide HFI3, ⟨(by first | (intro e; exact absurd e (by decide)) | (intro _; simp; omega) | (simp; omega)), (by simp; omega)⟩, HP2⟩
        case measure => simp [Go.RowKit.intOf]; omega
      | false =>
        have hLk : L.length ≤ k := by first | exact unhide HLF rfl | exact unhide HLF trivial
        by_cases hsi : si < ui
        · have hsi' : decide (si < ui) = true := by simpa using hsi
          have HP2 : Hid (putSelf ⟨si, sa, sb⟩ (A.map RM.k) = (L ++ [⟨si, sa, sb⟩] ++ [⟨ui, ua', ub⟩]) ++ tabRest true ⟨si, sa, sb⟩ ((A.drop (k + 1)).map RM.k)) := hide (by rw [hP]; simp [tabRest, putSelf, hsi])
          clear hP
          go_wp2
          go_quiet (fail)
          go_wp2_with (at_builtin; refine wpList_app rfl _ _ rfl etyK w1.heap.size rfl rfl (own_below (unhide HFI).own (bdrewN ((Below.refl _ _).alloc (Nat.le_refl _) _) _)) (Src.box (cs := keyC ⟨si, sa, sb⟩) 3 1 1 (heap_alloc_new wr _) (by rfl)) (key_one _) (by omega) (by simp; omega) ?_)
          intro v' w3 ho3 hg3 _
          have hfi3 := (unhide HFI).push (bdrewN ((Below.refl _ _).alloc (Nat.le_refl _) _) _) hg3 [⟨si, sa, sb⟩] (by simpa using ho3)
          have HFI3 := hide hfi3
          have hz3 := hfi3.below.size
          have i13 := (hfi3.below.cell (p := ⟨b, 13, none⟩) hlt).trans c13
          have j0 := (hfi3.below.cell (p := ⟨g, k * 4, none⟩) hgl).trans p0
          have j1 := (hfi3.below.cell (p := ⟨g, k * 4 + 1, none⟩) hgl).trans p1
          have j2 := (hfi3.below.cell (p := ⟨g, k * 4 + 2, none⟩) hgl).trans p2
          have hl3 : (L ++ [(⟨si, sa, sb⟩ : K3)]).length ≤ k + 2 := by simp; omega
          clear ho3 hg3 hfi3 HFI q0 q1 q2 e10 e11 e12 e13
          go_wp2_with (at_builtin; refine wpList_app rfl _ _ rfl etyK w1.heap.size rfl rfl (own_below (unhide HFI3).own ((Below.refl _ _).alloc (Nat.le_refl _) _)) (Src.box (cs := keyC ⟨ui, ua', ub⟩) 3 1 1 (heap_alloc_new w3 _) (by rfl)) (key_one _) (by omega) (by simp; omega) ?_)
          intro v4 w4 ho4 hg4 _
          have HFI4 := hide ((unhide HFI3).push ((Below.refl _ _).alloc (Nat.le_refl _) _) hg4 [⟨ui, ua', ub⟩] (by first | simpa using ho4 | (rw [List.length_append]; simpa using ho4)))
          clear ho4 hg4
          go_wp2
          go_roundw
          case rel => exact ⟨k + 1, true, L ++ [⟨si, sa, sb⟩] ++ [⟨ui, ua', ub⟩], by go_num, by omega, rfl, unhide HFI4, ⟨(by intro e; exact absurd e (by decide)), (by simp; omega)⟩, HP2⟩
          case measure => simp [Go.RowKit.intOf]; omega
        · have hsi' : decide (si < ui) = false := by simpa using hsi
          have HP2 : Hid (putSelf ⟨si, sa, sb⟩ (A.map RM.k) = (L ++ [⟨ui, ua', ub⟩]) ++ tabRest false ⟨si, sa, sb⟩ ((A.drop (k + 1)).map RM.k)) := hide (by rw [hP]; simp [tabRest, putSelf, hsi])
          clear hP
          go_wp2
          go_quiet (fail)
          go_wp2_with (at_builtin; refine wpList_app rfl _ _ rfl etyK w1.heap.size rfl rfl (own_below (unhide HFI).own (bdrewN ((Below.refl _ _).alloc (Nat.le_refl _) _) _)) (Src.box (cs := keyC ⟨ui, ua', ub⟩) 3 1 1 (heap_alloc_new wr _) (by rfl)) (key_one _) (by omega) (by simp; omega) ?_)
          intro v' w3 ho3 hg3 _
          have HFI3 := hide ((unhide HFI).push (bdrewN ((Below.refl _ _).alloc (Nat.le_refl _) _) _) hg3 [⟨ui, ua', ub⟩] (by simpa using ho3))
          clear ho3 hg3
          go_wp2
          go_roundw
          case rel => exact ⟨k + 1, false, L ++ [⟨ui, ua', ub⟩], by go_num, by omega, rfl, unhide HFI3, ⟨(by first | (intro e; exact absurd e (by decide)) | (intro _; simp; omega) | (simp; omega)), (by simp; omega)⟩, HP2⟩
          case measure => simp [Go.RowKit.intOf]; omega
    · have hke : k = A.length := by omega
      have hP := unhide HP
      rw [hke, List.drop_length] at hP
      clear hfi hbw HP
      cases put with
      | true =>
        have hP2 : putSelf ⟨si, sa, sb⟩ (A.map RM.k) = L := by rw [hP]; simp [tabRest]
        have hC := rsend_own (((unhide H0).below (unhide HFI).below)) ho m.frm 5 m.seq 0 (by omega) L (.slice ro L.length rc) (rkeysAt_of_own (base := w1.heap.size) (by rw [← flat_kcells]; exact (unhide HFI).own)) (by rw [hS, ← hP2]; exact unhide HW)
        have HC := hide hC
        have HE : Hid (r.tabled m = r.sendTo m.frm 5 m.seq 0 L) := hide (by rw [unhide HTB, hP2])
        clear hP hP2 hC
        go_wp2_with fail
        refine (unhide HC).mono ?_
        rintro e w5 ⟨rfl, h5⟩
        have HT := hide (RTo.from (unhide HB0) (RTo.from (unhide HFI).below h5))
        clear h5 HC
        go_wp2
        go_end0
        rw [unhide HE]
        exact ⟨rfl, unhide HT⟩
      | false =>
        have hP2 : putSelf ⟨si, sa, sb⟩ (A.map RM.k) = L ++ [⟨si, sa, sb⟩] := by rw [hP]; simp [tabRest, putSelf]
        have HP2 := hide hP2
        clear hP hP2
        go_wp2_with (at_builtin; refine wpList_app rfl _ _ rfl etyK w1.heap.size rfl rfl (own_below (unhide HFI).own ((Below.refl _ _).alloc (Nat.le_refl _) _)) (Src.box (cs := keyC ⟨si, sa, sb⟩) 3 1 1 (heap_alloc_new wr _) (by rfl)) (key_one _) (by omega) (by simp; omega) ?_)
        intro v' w3 ho3 hg3 _
        have hfi3 := (unhide HFI).push ((Below.refl _ _).alloc (Nat.le_refl _) _) hg3 [⟨si, sa, sb⟩] (by simpa using ho3)
        obtain ⟨ao', cap', hv'⟩ := own_form ho3
        subst hv'
        have hC := rsend_own (((unhide H0).below hfi3.below)) ho m.frm 5 m.seq 0 (by omega) (L ++ [⟨si, sa, sb⟩]) _ (rkeysAt_of_own (base := w1.heap.size) (by rw [← flat_kcells]; exact hfi3.own)) (by rw [hS, ← unhide HP2]; exact unhide HW)
        have HC := hide hC
        have HE : Hid (r.tabled m = r.sendTo m.frm 5 m.seq 0 (L ++ [⟨si, sa, sb⟩])) := hide (by rw [unhide HTB, unhide HP2])
        have HFI3 := hide hfi3
        have s1 := (hfi3.below.cell (p := ⟨W.heap.size, 1, none⟩) hltk).trans k1
        have s3 := (hfi3.below.cell (p := ⟨W.heap.size, 3, none⟩) hltk).trans k3
        clear ho3 hg3 hfi3 hC
        go_wp2_with fail
        refine (unhide HC).mono ?_
        rintro e w5 ⟨rfl, h5⟩
        have HT := hide (RTo.from (unhide HB0) (RTo.from (unhide HFI3).below h5))
        clear h5 HC
        go_wp2
        go_end0
        rw [unhide HE]
        exact ⟨rfl, unhide HT⟩
end Go.Proofs.YtnneljcbelgoeaaGreatDoor.wire
/- The document's node: an ack (P7). -/
namespace Go.Proofs.YtnneljcbelgoeaaGreatDoor.wire
open Go.RowKit Go.Maps

def zeroRel : Rel := ⟨0, 0, 0, 0, 0⟩
/-- The last of those that an ack answers. -/
def lastIts (m : M6) (l : List Rel) : Rel := ((l.filter (itsB m)).getLast?).getD zeroRel
theorem lastIts_step (m : M6) (l : List Rel) (k : Nat) (h : k < l.length) : lastIts m (l.take (k + 1)) = if itsB m l[k] then l[k] else lastIts m (l.take k) := by
  unfold lastIts
  rw [take_filter (itsB m) l k h]
  by_cases e : itsB m l[k] = true
  · rw [if_pos e, if_pos e]; simp
  · rw [if_neg e, if_neg e]; simp
theorem ackd_eq (r : Rn) (m : M6) : r.ackd m = if 0 < (lastIts m r.rels).num then ({ r with acked := if 0 < r.probe ∧ m.seq = r.no ∧ m.tgt = r.probe then true else r.acked, rels := r.rels.filter (fun q => !(itsB m q)) } : Rn).direct (lastIts m r.rels).asker 2 (lastIts m r.rels).under (lastIts m r.rels).tgt else { r with acked := if 0 < r.probe ∧ m.seq = r.no ∧ m.tgt = r.probe then true else r.acked, rels := r.rels.filter (fun q => !(itsB m q)) } := by
  unfold Rn.ackd lastIts
  cases (r.rels.filter (itsB m)).getLast? with
  | none => rw [if_neg (show ¬ 0 < ((none : Option Rel).getD zeroRel).num by decide)]
  | some d => rfl
theorem lastIts_mem {m : M6} {l : List Rel} (h : 0 < (lastIts m l).num) : lastIts m l ∈ l := by
  unfold lastIts at h ⊢
  cases e : (l.filter (itsB m)).getLast? with
  | none => rw [e] at h; exact absurd h (by decide)
  | some d => exact (List.mem_filter.1 (List.mem_of_getLast? e)).1
/-- Between two rounds: who is left, in memory of its own; in block db the one that is done. -/
structure Ak (w2 wr : World) (rv : Value) (L : List Rel) (db : Nat) (D : Rel) : Prop where
  fi : Fi rrC 132 5 w2 wr rv L
  ne : rv.ownBlock ≠ some db
  low : w2.heap.size ≤ db
  blk : wr.heap[db]? = some (.cells (rrC D).toArray 132 (0, 0))
theorem Ak.mono {w2 wr w' : World} {rv : Value} {L : List Rel} {db : Nat} {D : Rel} (h : Ak w2 wr rv L db D) (hb : Below wr.heap.size wr w') : Ak w2 w' rv L db D := ⟨h.fi.mono hb, h.ne, h.low, (hb.block _ (lt_blk h.blk)).trans h.blk⟩
theorem Ak.push {w2 wr w1 w3 : World} {rv v' : Value} {L : List Rel} {db : Nat} {D : Rel} (h : Ak w2 wr rv L db D) (hb : Below wr.heap.size wr w1) (hg : w1.grownBy w3 rv.ownBlock) (hat : v'.ownBlock = rv.ownBlock ∨ v'.ownBlock = some w1.heap.size) (q : Rel) (ho : w3.ownsRow w2.heap.size 132 5 v' (L.length + 1) (L.flatMap rrC ++ rrC q)) : Ak w2 w3 v' (L ++ [q]) db D := by
  have h1 := h.mono hb
  refine ⟨h.fi.push hb hg [q] (by simpa using ho), fun e => ?_, h.low, (hg.block db (lt_blk h1.blk) (fun e => h.ne e.symm)).trans h1.blk⟩
  rcases hat with a | a
  · exact h.ne (a ▸ e)
  · rw [a] at e; cases e; have := lt_blk h1.blk; omega
theorem Ak.put {w2 wr : World} {rv : Value} {L : List Rel} {db : Nat} {D : Rel} (h : Ak w2 wr rv L db D) (q : Rel) :
    Ak w2 (((((wr.setCell ⟨db, 0, none⟩ (.int .i64 q.num)).setCell ⟨db, 1, none⟩ (.int .i64 q.tgt)).setCell ⟨db, 2, none⟩ (.int .i64 q.asker)).setCell ⟨db, 3, none⟩ (.int .i64 q.under)).setCell ⟨db, 4, none⟩ (.int .i64 q.till)) rv L db q := by
  have k : ∀ {V : World} {E : Rel} (j : Nat) (u : Value) (E' : Rel), Ak w2 V rv L db E → (rrC E).set j u = rrC E' → Ak w2 (V.setCell ⟨db, j, none⟩ u) rv L db E' := fun {V E} j u E' hA he => by
    refine ⟨⟨own_frm hA.fi.own (frm_set V db j u) (fun k hk e => hA.ne (by simp only [List.mem_singleton] at e; rw [← e]; exact hk)), hA.fi.below.setCell hA.low u⟩, hA.ne, hA.low, ?_⟩
    rw [heap_setCell_same V db j _ _ u hA.blk, List.setIfInBounds_toArray, he]
  have a1 := k 0 (.int .i64 q.num) ⟨D.tgt, q.num, D.asker, D.under, D.till⟩ h rfl
  have a2 := k 1 (.int .i64 q.tgt) ⟨q.tgt, q.num, D.asker, D.under, D.till⟩ a1 rfl
  have a3 := k 2 (.int .i64 q.asker) ⟨q.tgt, q.num, q.asker, D.under, D.till⟩ a2 rfl
  have a4 := k 3 (.int .i64 q.under) ⟨q.tgt, q.num, q.asker, q.under, D.till⟩ a3 rfl
  exact k 4 (.int .i64 q.till) q a4 rfl
set_option maxHeartbeats 2000000 in
set_option maxRecDepth 100000 in
theorem racked_any {W : World} {b : Nat} {v : Rv} {r : Rn} (h : RAt W b v r) (ho : r.out.length ≤ 1000) (hq : r.queue.length ≤ 1000) (hs : ∀ u ∈ r.queue, -1000000 ≤ u.sent ∧ u.sent ≤ 1000000) (hr4 : r.rels.length ≤ 1000) (m : M6) (vu : Value) (huv : ∃ ao n c, vu = .slice ao n c)
    (hwR : ∀ d ∈ r.rels, wholeB ⟨2, r.self.id, r.self.inc, d.under, d.tgt, r.updates.1⟩ = true) :
    Calls Tryz.prog 86 #[.pointer (some ⟨b, 0, none⟩), mval m vu] W fun e w' => e = .returned (.tuple #[]) ∧ RTo W w' b v (r.ackd m) := by
  obtain ⟨ua, un, uc, rfl⟩ := huv
  have h0 := h.alloc (.cells #[.int .i64 m.kind, .int .i64 m.frm, .int .i64 m.inc, .int .i64 m.seq, .int .i64 m.tgt, .slice ua un uc] 33)
  have hb0 := (Below.refl W.heap.size W).alloc (Nat.le_refl _) (.cells #[.int .i64 m.kind, .int .i64 m.frm, .int .i64 m.inc, .int .i64 m.seq, .int .i64 m.tgt, .slice ua un uc] 33)
  have hx0 : (W.alloc (.cells #[.int .i64 m.kind, .int .i64 m.frm, .int .i64 m.inc, .int .i64 m.seq, .int .i64 m.tgt, .slice ua un uc] 33)).heap[W.heap.size]? = some (.cells #[.int .i64 m.kind, .int .i64 m.frm, .int .i64 m.inc, .int .i64 m.seq, .int .i64 m.tgt, .slice ua un uc] 33 (0, 0)) := heap_alloc_new W _
  have HNF := hide (fun hm => by have := h.lt hm; omega : W.heap.size ∉ rfeet b v)
  generalize hw1 : W.alloc (.cells #[.int .i64 m.kind, .int .i64 m.frm, .int .i64 m.inc, .int .i64 m.seq, .int .i64 m.tgt, .slice ua un uc] 33) = w1 at h0 hb0 hx0
  have c15 := h0.cell 15
  have c17 := h0.cell 17
  have c18 := h0.cell 18
  have f18 := h0.free 18
  have k3 := cell_at hx0 3
  have k4 := cell_at hx0 4
  have hlt := h0.ltb
  have hltk := lt_blk hx0
  simp only [refC, List.getElem?_toArray, List.getElem?_cons_zero, List.getElem?_cons_succ] at c15 c17 c18 k3 k4
  have H0 := hide h0
  have HB0 := hide hb0
  have HX0 := hide hx0
  have HQS := hide hs
  have HWR := hide hwR
  have HAE := hide (ackd_eq r m)
  obtain ⟨D, hD⟩ : ∃ D, D = (decide (0 < r.probe) && (decide (m.seq = r.no) && decide (m.tgt = r.probe))) := ⟨_, rfl⟩
  have HAC : Hid ((if 0 < r.probe ∧ m.seq = r.no ∧ m.tgt = r.probe then true else r.acked) = if D then true else r.acked) := hide (by rw [hD]; by_cases e1 : 0 < r.probe <;> by_cases e2 : m.seq = r.no <;> by_cases e3 : m.tgt = r.probe <;> simp [e1, e2, e3])
  have HD := hide hD
  clear h h0 hb0 hx0 hs hwR hD
  go_enter Tryz.func86, Tryz.ntmps86
  go_upto_region 1 with fail
  clear hw1
  go_cut [30] (fun p wq => p = .bool D ∧ ∃ q, wq = w1.drewN q)
  case first =>
    by_cases d1 : 0 < r.probe
    · have d1' : decide (0 < r.probe) = true := by simpa using d1
      by_cases d2 : m.seq = r.no
      · have d2' : (m.seq == r.no) = true := by simpa using d2
        by_cases d3 : m.tgt = r.probe
        · have d3' : (m.tgt == r.probe) = true := by simpa using d3
          have E : Hid (D = true) := hide (by rw [unhide HD]; simp [d1, d2, d3])
          clear d2 d3
          go_quiet (fail)
          go_wp2
          go_meet
          case rel => exact ⟨by rw [unhide E], _, rfl⟩
        · have d3' : (m.tgt == r.probe) = false := by simpa using d3
          have E : Hid (D = false) := hide (by rw [unhide HD]; simp [d3])
          clear d2 d3
          go_quiet (fail)
          go_wp2
          go_meet
          case rel => exact ⟨by rw [unhide E], _, rfl⟩
      · have d2' : (m.seq == r.no) = false := by simpa using d2
        have E : Hid (D = false) := hide (by rw [unhide HD]; simp [d2])
        clear d2
        go_quiet (fail)
        go_wp2
        go_meet
        case rel => exact ⟨by rw [unhide E], _, rfl⟩
    · have d1' : decide (0 < r.probe) = false := by simpa using d1
      have E : Hid (D = false) := hide (by rw [unhide HD]; simp [d1])
      clear d1
      go_quiet (fail)
      go_wp2
      go_meet
      case rel => exact ⟨by rw [unhide E], _, rfl⟩
  case rest =>
    obtain ⟨rfl, q, hwc⟩ := hcut
    subst hwc
    go_upto_if 30 with fail
    go_cut [] (fun wq => RTo w1 wq b v { r with acked := if D then true else r.acked })
    case first =>
      have HS := hide (RTo.from (bdrewN (Below.refl _ _) q) ((((unhide H0).drewN q).set 18 (.bool true) (r' := { r with acked := true }) rfl).2))
      have HS' := hide (RTo.same (unhide H0) (bdrewN (Below.refl _ _) q))
      cases D with
      | true =>
        go_wp2
        go_meet
        case rel => exact unhide HS
      | false =>
        go_wp2
        go_meet
        case rel => exact unhide HS'
    case rest =>
      obtain ⟨w2, hw2⟩ : ∃ w2, w2 = wc := ⟨_, rfl⟩
      rw [← hw2] at hcut ⊢
      clear hw2 c15 c17 c18 f18 k3 k4
      obtain ⟨R1, hR1⟩ : ∃ R1 : Rn, R1 = { r with acked := if D then true else r.acked } := ⟨_, rfl⟩
      rw [← hR1] at hcut
      obtain ⟨v1, hd1, ha1, hf1, hs1⟩ := hcut
      have hx2 := (hf1.block _ hltk (unhide HNF)).trans (unhide HX0)
      have hnf1 : W.heap.size ∉ rfeet b v1 := fun hm => by
        rcases hs1 _ hm with h | h
        · exact unhide HNF h
        · omega
      have hrl : R1.rels = r.rels := by rw [hR1]
      have e0 : R1.out = r.out ∧ R1.queue = r.queue ∧ R1.self = r.self ∧ R1.updates.1 = r.updates.1 := by rw [hR1]; exact ⟨rfl, rfl, rfl, rfl⟩
      have HFIN : Hid (r.ackd m = if 0 < (lastIts m R1.rels).num then ({ R1 with rels := R1.rels.filter (fun q => !(itsB m q)) } : Rn).direct (lastIts m R1.rels).asker 2 (lastIts m R1.rels).under (lastIts m R1.rels).tgt else { R1 with rels := R1.rels.filter (fun q => !(itsB m q)) }) := hide (by rw [unhide HAE, unhide HAC, hR1])
      obtain ⟨lo, lc, hlv, hlb, hlcc, _⟩ := row_form ha1.rows.l
      have HOL := hide (hlv ▸ ha1.rows.l : w2.ownsRow 0 132 5 (.slice lo R1.rels.length lc) R1.rels.length (R1.rels.flatMap rrC))
      have c20 := ha1.cell 20
      have f20 := ha1.free 20
      have k3 := cell_at hx2 3
      have k4 := cell_at hx2 4
      have hlt2 := ha1.ltb
      have hltk2 := lt_blk hx2
      simp only [refC, List.getElem?_toArray, List.getElem?_cons_zero, List.getElem?_cons_succ, hlv] at c20 k3 k4
      have HA1 := hide ha1
      have HF1 := hide hf1
      have HS1 := hide hs1
      have HD1 := hide hd1
      have HLB := hide hlb
      have HE0 := hide e0
      have HRL := hide hrl
      have hr4' : R1.rels.length ≤ 1000 := by rw [hrl]; exact hr4
      clear ha1 hf1 hs1 hd1 hx2 hnf1 hlb hlv hR1 hrl e0 HAE HAC HD hr4
      obtain ⟨Q, hQ⟩ : ∃ Q, Q = R1.rels := ⟨_, rfl⟩
      rw [← hQ] at hr4' HOL c20 HLB hlcc HFIN HRL
      have HQ := hide hQ
      clear hQ
      have HAK0 : Hid (Ak w2 (w2.alloc (.cells #[.int .i64 0, .int .i64 0, .int .i64 0, .int .i64 0, .int .i64 0] 132)) (.slice none 0 0) [] w2.heap.size zeroRel) := hide ⟨Fi.nil _ _ _ ((Below.refl _ _).alloc (Nat.le_refl _) _), by simp [Value.ownBlock], Nat.le_refl _, heap_alloc_new w2 _⟩
      go_wp2_with fail
      go_loopw [4, 6, 7] (fun rv i _ wr => ∃ k : Nat, i = .int .i64 k ∧ k ≤ Q.length ∧ Ak w2 wr rv ((Q.take k).filter (fun q => !(itsB m q))) w2.heap.size (lastIts m (Q.take k))) (fun _ i _ _ => Q.length - (Go.RowKit.intOf i).toNat)
      case atStart => exact ⟨0, by go_num, by omega, by simpa [lastIts] using unhide HAK0⟩
      case round =>
        obtain ⟨k, rfl, hk, hak⟩ := hrel
        have hbw := hak.fi.below
        have e20 := (hbw.cell (p := ⟨b, 20, none⟩) hlt2).trans c20
        have g20 := (hbw.frozen (p := ⟨b, 20, none⟩) hlt2).trans f20
        have e3 := (hbw.cell (p := ⟨W.heap.size, 3, none⟩) hltk2).trans k3
        have e4 := (hbw.cell (p := ⟨W.heap.size, 4, none⟩) hltk2).trans k4
        have hwz := hbw.size
        have hdl := lt_blk hak.blk
        have hlkr : W.heap.size < wr.heap.size := by omega
        have hltr : b < wr.heap.size := by omega
        have hkd : W.heap.size ≠ w2.heap.size := by omega
        have hbd : b ≠ w2.heap.size := by omega
        obtain ⟨ro, rc, hrv, _⟩ := row_form hak.fi.own
        subst hrv
        have HAK := hide hak
        have hfl : ((Q.take k).filter (fun q => !(itsB m q))).length ≤ Q.length := Nat.le_trans (List.length_filter_le _ _) (by simp; omega)
        by_cases hlt3 : k < Q.length
        · obtain ⟨g, hg, hgl⟩ := unhide HLB (by omega)
          subst hg
          have hcell : ∀ j, j < 5 → wr.cell? ⟨g, k * 5 + j, none⟩ = (rrC Q[k])[j]? := fun j hj => (hbw.cell (p := ⟨g, k * 5 + j, none⟩) hgl).trans (row_cell rrC 5 (fun _ => rfl) (unhide HOL) k hlt3 j hj)
          have q0 := hcell 0 (by omega)
          have q1 := hcell 1 (by omega)
          have q2 := hcell 2 (by omega)
          have q3 := hcell 3 (by omega)
          have q4 := hcell 4 (by omega)
          simp only [rrC, List.getElem?_cons_zero, List.getElem?_cons_succ, Nat.add_zero] at q0 q1 q2 q3 q4
          have htf := take_filter (fun q : Rel => !(itsB m q)) Q k hlt3
          have hls := lastIts_step m Q k hlt3
          generalize Q[k] = U at q0 q1 q2 q3 q4 htf hls
          obtain ⟨ut, un', uk, uu, ul⟩ := U
          simp only [itsB] at htf hls
          simp only at q0 q1 q2 q3 q4
          have hki : (k : Int) < (Q.length : Int) := by omega
          have HTF := hide htf
          have HLS := hide hls
          clear hak hbw hcell htf hls
          have d0 := cell_at (unhide HAK).blk 0
          have d1 := cell_at (unhide HAK).blk 1
          have d2 := cell_at (unhide HAK).blk 2
          have d3 := cell_at (unhide HAK).blk 3
          have d4 := cell_at (unhide HAK).blk 4
          have z0 := free_at (unhide HAK).blk 0
          have z1 := free_at (unhide HAK).blk 1
          have z2 := free_at (unhide HAK).blk 2
          have z3 := free_at (unhide HAK).blk 3
          have z4 := free_at (unhide HAK).blk 4
          simp only [rrC, List.getElem?_toArray, List.getElem?_cons_zero, List.getElem?_cons_succ] at d0 d1 d2 d3 d4
          by_cases h1 : un' = m.seq
          · by_cases h2 : ut = m.tgt
            · have h1' : (un' == m.seq) = true := by simpa using h1
              have h2' : (ut == m.tgt) = true := by simpa using h2
              have EF : Hid ((Q.take (k + 1)).filter (fun q => !(itsB m q)) = (Q.take k).filter (fun q => !(itsB m q))) := hide (by have := unhide HTF; simp only [itsB] at this ⊢; rw [this]; simp [h1, h2])
              have EL : Hid (lastIts m (Q.take (k + 1)) = ⟨ut, un', uk, uu, ul⟩) := hide (by rw [unhide HLS]; simp [h1, h2])
              have HPUT := hide (((unhide HAK).put ⟨ut, un', uk, uu, ul⟩).mono ((Below.refl _ _).alloc (Nat.le_refl _) (.cells #[.int .i64 un', .int .i64 ut, .int .i64 uk, .int .i64 uu, .int .i64 ul] 132)))
              clear h1 h2
              go_wp2
              go_roundw
              case rel => exact ⟨k + 1, by go_num, by omega, by rw [unhide EF, unhide EL]; exact unhide HPUT⟩
              case measure => simp [Go.RowKit.intOf]; omega
            · have h1' : (un' == m.seq) = true := by simpa using h1
              have h2' : (ut == m.tgt) = false := by simpa using h2
              have EF : Hid ((Q.take (k + 1)).filter (fun q => !(itsB m q)) = (Q.take k).filter (fun q => !(itsB m q)) ++ [⟨ut, un', uk, uu, ul⟩]) := hide (by have := unhide HTF; simp only [itsB] at this ⊢; rw [this]; simp [h2])
              have EL : Hid (lastIts m (Q.take (k + 1)) = lastIts m (Q.take k)) := hide (by rw [unhide HLS]; simp [h2])
              clear h1 h2
              go_wp2_with (at_builtin; refine wpList_app rfl _ _ rfl etyR w2.heap.size rfl rfl (own_below (unhide HAK).fi.own (((Below.refl _ _).alloc (Nat.le_refl _) _).alloc (by simp) _)) (Src.box (cs := rrC ⟨ut, un', uk, uu, ul⟩) 5 1 1 (heap_new2 wr _ _) (by rfl)) (rr_one _) (by omega) (by simp; omega) ?_)
              intro v' w3 ho3 hg3 hat3
              have HAK3 := hide ((unhide HAK).push (((Below.refl _ _).alloc (Nat.le_refl _) _).alloc (by simp) _) hg3 (by simpa using hat3) ⟨ut, un', uk, uu, ul⟩ (by simpa using ho3))
              clear ho3 hg3 hat3
              go_wp2
              go_roundw
              case rel => exact ⟨k + 1, by go_num, by omega, by rw [unhide EF, unhide EL]; exact unhide HAK3⟩
              case measure => simp [Go.RowKit.intOf]; omega
          · have h1' : (un' == m.seq) = false := by simpa using h1
            have EF : Hid ((Q.take (k + 1)).filter (fun q => !(itsB m q)) = (Q.take k).filter (fun q => !(itsB m q)) ++ [⟨ut, un', uk, uu, ul⟩]) := hide (by have := unhide HTF; simp only [itsB] at this ⊢; rw [this]; simp [h1])
            have EL : Hid (lastIts m (Q.take (k + 1)) = lastIts m (Q.take k)) := hide (by rw [unhide HLS]; simp [h1])
            clear h1
            go_wp2_with (at_builtin; refine wpList_app rfl _ _ rfl etyR w2.heap.size rfl rfl (own_below (unhide HAK).fi.own (((Below.refl _ _).alloc (Nat.le_refl _) _).alloc (by simp) _)) (Src.box (cs := rrC ⟨ut, un', uk, uu, ul⟩) 5 1 1 (heap_new2 wr _ _) (by rfl)) (rr_one _) (by omega) (by simp; omega) ?_)
            intro v' w3 ho3 hg3 hat3
            have HAK3 := hide ((unhide HAK).push (((Below.refl _ _).alloc (Nat.le_refl _) _).alloc (by simp) _) hg3 (by simpa using hat3) ⟨ut, un', uk, uu, ul⟩ (by simpa using ho3))
            clear ho3 hg3 hat3
            go_wp2
            go_roundw
            case rel => exact ⟨k + 1, by go_num, by omega, by rw [unhide EF, unhide EL]; exact unhide HAK3⟩
            case measure => simp [Go.RowKit.intOf]; omega
        · have hke : k = Q.length := by omega
          subst hke
          have hS := (unhide HA1).setL (l := (Q.take Q.length).filter (fun q => !(itsB m q))) (Frm.of_below (unhide HAK).fi.below (Nat.le_refl _)) (fun g hg => .inr (own_lt (unhide HAK).fi.own hg).1) (own_base0 (unhide HAK).fi.own)
          have hbk := (heap_setCell_other wr ⟨b, 20, none⟩ w2.heap.size (.slice ro ((Q.take Q.length).filter (fun q => !(itsB m q))).length rc) (by simpa using hbd.symm)).trans (unhide HAK).blk
          rw [List.take_length] at hS hbk
          obtain ⟨v5, hd5, ha5, hf5, hs5⟩ := hS
          obtain ⟨X, hX⟩ : ∃ X, X = lastIts m Q := ⟨_, rfl⟩
          rw [← hX] at hbk HFIN
          have u0 := cell_at hbk 0
          have u1 := cell_at hbk 1
          have u2 := cell_at hbk 2
          have u3 := cell_at hbk 3
          simp only [rrC, List.getElem?_toArray, List.getElem?_cons_zero, List.getElem?_cons_succ] at u0 u1 u2 u3
          obtain ⟨n1, n2, n3, n4⟩ := unhide HE0
          have HT := hide (fun w' (R' : Rn) (h : RTo _ w' b v5 R') => RTo.from (unhide HB0) (RTo.trans (unhide HD1) (unhide HF1) (unhide HS1) (RTo.trans hd5 hf5 hs5 h)))
          have HA5 := hide ha5
          by_cases hn : 0 < X.num
          · have hmem : X ∈ r.rels := by
              rw [hX] at hn ⊢
              rw [← unhide HRL]
              exact lastIts_mem hn
            have HSD := hide (rsend_direct ha5 (by rw [n1]; exact ho) (by rw [n2]; exact hq) (by rw [n2]; exact unhide HQS) X.asker 2 X.under X.tgt (by omega) (by
              have := unhide HWR X hmem
              rw [← n3, ← n4] at this
              exact this))
            have HE : Hid (r.ackd m = ({ R1 with rels := Q.filter (fun q => !(itsB m q)) } : Rn).direct X.asker 2 X.under X.tgt) := hide (by rw [unhide HFIN, if_pos hn])
            clear hak hbw hbk hX ha5 hf5 hs5 hd5 hmem n1 n2 n3 n4 HFIN
            go_wp2_with fail
            refine (unhide HSD).mono ?_
            rintro e w7 ⟨rfl, h7⟩
            have HT7 := hide (unhide HT w7 _ h7)
            clear h7 HSD
            go_wp2
            go_end0
            rw [unhide HE]
            exact ⟨rfl, unhide HT7⟩
          · have HE : Hid (r.ackd m = { R1 with rels := Q.filter (fun q => !(itsB m q)) }) := hide (by rw [unhide HFIN, if_neg hn])
            have HT7 := hide (unhide HT _ _ (RTo.same ha5 (Below.refl _ _)))
            clear hak hbw hbk hX ha5 hf5 hs5 hd5 n1 n2 n3 n4 HFIN
            go_wp2
            go_end0
            rw [unhide HE]
            exact ⟨rfl, unhide HT7⟩
end Go.Proofs.YtnneljcbelgoeaaGreatDoor.wire
