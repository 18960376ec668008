import Derived.Test.YtnneljcbelgoeaaGreatDoorG07
import Derived.Test.YtnneljcbelgoeaaGreatDoorG11
import Derived.Test.YtnneljcbelgoeaaGreatDoorG04
import Derived.Test.YtnneljcbelgoeaaGreatDoorG05
/- The document's node: greater, next, draw, own, Leave. -/
namespace Go.Proofs.YtnneljcbelgoeaaGreatDoor.wire
open Go.RowKit Go.Maps

set_option maxHeartbeats 1000000 in
theorem rgreater_any (a b : K3) (w : World) : Calls Tryz.prog 105 #[kval a, kval b] w fun e w' => e = .returned (.bool (greaterB a b)) ∧ Below w.heap.size w w' := by
  obtain ⟨a1, a2, a3⟩ := a
  obtain ⟨b1, b2, b3⟩ := b
  have hc : (b2 < a2 ∧ greaterB ⟨a1, a2, a3⟩ ⟨b1, b2, b3⟩ = true) ∨ (¬ b2 < a2 ∧ (a2 == b2) = false ∧ greaterB ⟨a1, a2, a3⟩ ⟨b1, b2, b3⟩ = false) ∨ (a2 = b2 ∧ greaterB ⟨a1, a2, a3⟩ ⟨b1, b2, b3⟩ = decide (b3 < a3)) := by
    by_cases h1 : b2 < a2
    · exact .inl ⟨h1, by simp only [greaterB]; rw [if_neg (by omega)]; simpa using h1⟩
    · by_cases h2 : a2 = b2
      · exact .inr (.inr ⟨h2, by simp only [greaterB]; rw [if_pos h2]⟩)
      · exact .inr (.inl ⟨h1, by simpa using h2, by simp only [greaterB]; rw [if_neg h2]; simpa using h1⟩)
  generalize greaterB ⟨a1, a2, a3⟩ ⟨b1, b2, b3⟩ = G at hc
  have hb : ∀ o1 o2, Below w.heap.size w ((w.alloc o1).alloc o2) := fun o1 o2 => ((Below.refl _ _).alloc (Nat.le_refl _) _).alloc (by simp) _
  simp only [kval]
  rcases hc with ⟨h1, rfl⟩ | ⟨h1, h2, rfl⟩ | ⟨rfl, rfl⟩
  · go_enter Tryz.func105, Tryz.ntmps105
    go_wp2
    go_ret
    exact ⟨rfl, hb _ _⟩
  · go_enter Tryz.func105, Tryz.ntmps105
    go_wp2
    go_ret
    exact ⟨rfl, hb _ _⟩
  · have h1 : ¬ a2 < a2 := by omega
    go_enter Tryz.func105, Tryz.ntmps105
    go_wp2
    go_ret
    exact ⟨rfl, hb _ _⟩
theorem frm_own (W : World) (b : Nat) (v : Rv) {j : Nat} (u : Value) : Frm (rfeet b v) W (W.setCell ⟨b, j, none⟩ u) := (Frm.refl _ W).trans (frm_set W b j u) (by simp [rfeet])
set_option maxHeartbeats 1000000 in
theorem rnext_any {W : World} {b : Nat} {v : Rv} {r : Rn} (h : RAt W b v r) (hs : 0 ≤ r.seq ∧ r.seq ≤ 1000000000000) :
    Calls Tryz.prog 61 #[.pointer (some ⟨b, 0, none⟩)] W fun e w' => e = .returned (.int .i64 (r.seq + 1)) ∧ RTo W w' b v { r with seq := r.seq + 1 } := by
  have c9 := h.cell 9
  have f9 := h.free 9
  have hlt := h.ltb
  simp only [refC, List.getElem?_toArray, List.getElem?_cons_zero, List.getElem?_cons_succ] at c9
  have HS := hide (h.set 9 (.int .i64 (r.seq + 1)) (r' := { r with seq := r.seq + 1 }) rfl).2
  clear h
  go_enter Tryz.func61, Tryz.ntmps61
  go_wp2
  go_ret
  exact ⟨rfl, unhide HS⟩
set_option maxHeartbeats 1000000 in
set_option maxRecDepth 100000 in
theorem rdraw_any {W : World} {b : Nat} {v : Rv} {r : Rn} (h : RAt W b v r) (hdl : DlOk r.draws) (hd : r.drawn ≤ 1000000000000) (n : Int) (hn0 : 1 ≤ n) (hn1 : n ≤ 1000000) :
    Calls Tryz.prog 107 #[.pointer (some ⟨b, 0, none⟩), .int .i64 n] W fun e w' => e = .returned (.int .i64 (r.draw n).1) ∧ RTo W w' b v (r.draw n).2 := by
  have c6 := h.cell 6
  have c7 := h.cell 7
  have f7 := h.free 7
  have hlt := h.ltb
  simp only [refC, List.getElem?_toArray, List.getElem?_cons_zero, List.getElem?_cons_succ] at c6 c7
  have hl := hdl.len
  rcases h.rows.d with ⟨hv, hl0⟩ | ⟨g, off, cap, cs, hv, hg, hcap, hcm, hcs⟩
  · rw [hv] at c6
    have e1 : r.draw n = (0, r) := by simp [Rn.draw, hl0]
    rw [e1]
    have HS := hide (RTo.same h (Below.refl _ _))
    clear h hdl
    go_enter Tryz.func107, Tryz.ntmps107
    go_wp2
    go_ret
    exact ⟨rfl, unhide HS⟩
  · rw [hv] at c6
    by_cases h0 : r.draws.length = 0
    · rw [h0] at c6
      have e1 : r.draw n = (0, r) := by simp [Rn.draw, h0]
      rw [e1]
      have HS := hide (RTo.same h (Below.refl _ _))
      clear h hdl
      go_enter Tryz.func107, Tryz.ntmps107
      go_wp2
      go_ret
      exact ⟨rfl, unhide HS⟩
    · have e1 : r.draw n = (drawZ r.draws r.drawn n, { r with drawn := r.drawn + 1 }) := by simp [Rn.draw, h0]
      rw [e1]
      have hmod : r.drawn % r.draws.length < r.draws.length := Nat.mod_lt _ (by omega)
      have hcell : W.cell? ⟨g, off + r.drawn % r.draws.length, none⟩ = some (.int .i64 (r.draws.getD (r.drawn % r.draws.length) 0)) := by
        rw [cell_at hg, hcs _ hmod, List.getD_eq_getElem?_getD, List.getElem?_eq_getElem hmod, Option.getD_some]
      have hr := hdl.rng _ (List.getElem_mem hmod)
      have hgd : r.draws.getD (r.drawn % r.draws.length) 0 = r.draws[r.drawn % r.draws.length] := by rw [List.getD_eq_getElem?_getD, List.getElem?_eq_getElem hmod, Option.getD_some]
      have hs : ∀ q, RTo W ((W.drewN q).setCell ⟨b, 7, none⟩ (.int .i64 ((r.drawn : Int) + 1))) b v { r with drawn := r.drawn + 1 } := fun q => RTo.from (bdrewN (Below.refl _ _) q) ((h.drewN q).set 7 (.int .i64 ((r.drawn : Int) + 1)) (r' := { r with drawn := r.drawn + 1 }) (by simp [refC])).2
      have HS := hide hs
      clear hs
      have hdz : drawZ r.draws r.drawn n = (if r.draws.getD (r.drawn % r.draws.length) 0 < 0 then -(r.draws.getD (r.drawn % r.draws.length) 0 + 1) else r.draws.getD (r.drawn % r.draws.length) 0).tmod n := rfl
      rw [hdz]
      rw [← hgd] at hr
      generalize r.draws.getD (r.drawn % r.draws.length) 0 = z at hcell hr ⊢
      have htm : ((r.drawn : Int).tmod (r.draws.length : Int)) = ((r.drawn % r.draws.length : Nat) : Int) := by
        rw [Int.tmod_eq_emod_of_nonneg (by omega)]; simp
      have hlen0 : ((r.draws.length : Int) == 0) = false := by rw [beq_eq_false_iff_ne]; omega
      have hnz : (n == 0) = false := by simp; omega
      have hmi : ((r.drawn % r.draws.length : Nat) : Int) < (r.draws.length : Int) := Int.ofNat_lt.2 hmod
      have hgl := lt_blk hg
      generalize r.drawn % r.draws.length = M at hcell htm hmi hmod
      clear h hdl hg hdz hgd hcs hv
      by_cases hz : z < 0
      all_goals
        go_enter Tryz.func107, Tryz.ntmps107
        go_wp2
        go_quiet (fail)
        go_wp2
        go_ret
      · exact ⟨rfl, (unhide HS) _⟩
      · exact ⟨by rw [Int.tmod_eq_emod_of_nonneg (by omega)]; rfl, (unhide HS) _⟩
set_option maxHeartbeats 1000000 in
set_option maxRecDepth 100000 in
theorem rown_any {W : World} {b : Nat} {v : Rv} {r : Rn} (h : RAt W b v r) (he : r.evs.length ≤ 8) (hq : r.queue.length ≤ 1000) (hl : 0 ≤ r.lost ∧ r.lost ≤ 1000000000000) (k : K3) (hk : 1 ≤ k.inc ∧ k.inc ≤ 1073741824) :
    Calls Tryz.prog 103 #[.pointer (some ⟨b, 0, none⟩), kval k] W fun e w' => e = .returned (.tuple #[]) ∧ RTo W w' b v (r.own k) := by
  obtain ⟨ka, kb, kc⟩ := k
  simp only at hk
  have h0 := h.alloc (.cells #[.int .i64 ka, .int .i64 kb, .int .i64 kc] 58)
  have hb0 := (Below.refl W.heap.size W).alloc (Nat.le_refl _) (.cells #[.int .i64 ka, .int .i64 kb, .int .i64 kc] 58)
  have hx0 : (W.alloc (.cells #[.int .i64 ka, .int .i64 kb, .int .i64 kc] 58)).heap[W.heap.size]? = some (.cells #[.int .i64 ka, .int .i64 kb, .int .i64 kc] 58 (0, 0)) := heap_alloc_new W _
  generalize hw1 : W.alloc (.cells #[.int .i64 ka, .int .i64 kb, .int .i64 kc] 58) = w1 at h0 hb0 hx0
  have c10 := h0.cell 10
  have c11 := h0.cell 11
  have c12 := h0.cell 12
  have f11 := h0.free 11
  have hlt := h0.ltb
  have k0 := cell_at hx0 0
  have k1 := cell_at hx0 1
  have k2 := cell_at hx0 2
  have hltk := lt_blk hx0
  have hne : W.heap.size ≠ b := by have := h.ltb; omega
  simp only [refC, List.getElem?_toArray, List.getElem?_cons_zero, List.getElem?_cons_succ] at c10 c11 c12 k0 k1 k2
  have H0 := hide h0
  have HB0 := hide hb0
  have hco : r.own ⟨ka, kb, kc⟩ = if decide (r.self.st = 4) || (decide (kc = 1) || (decide (kb < r.self.inc) || decide (kb = 1073741824))) then r else ({ r with self := ⟨r.self.id, kb + 1, r.self.st⟩ } : Rn).changed ⟨r.self.id, kb + 1, r.self.st⟩ := rfl
  rw [hco]
  clear hco h h0 hb0 hx0
  by_cases a1 : r.self.st = 4
  · rw [if_pos (by simp [a1])]
    have b1 : (r.self.st == 4) = true := by simp [a1]
    go_enter Tryz.func103, Tryz.ntmps103
    go_wp2
    go_quiet (fail)
    go_wp2
    refine bodyPost_ret (results_none rfl _ _ _) rfl ?_
    exact ⟨rfl, RTo.from (unhide HB0) (RTo.same (unhide H0) (bdrewN (Below.refl _ _) _))⟩
  have b1 : (r.self.st == 4) = false := by simp [a1]
  by_cases a2 : kc = 1
  · rw [if_pos (by simp [a2])]
    subst a2
    have b2 : ((1 : Int) == 1) = true := rfl
    go_enter Tryz.func103, Tryz.ntmps103
    go_wp2
    go_quiet (fail)
    go_wp2
    refine bodyPost_ret (results_none rfl _ _ _) rfl ?_
    exact ⟨rfl, RTo.from (unhide HB0) (RTo.same (unhide H0) (bdrewN (Below.refl _ _) _))⟩
  have b2 : (kc == 1) = false := by simp [a2]
  by_cases a3 : kb < r.self.inc
  · rw [if_pos (by simp [a3])]
    have b3 : decide (kb < r.self.inc) = true := by simp [a3]
    go_enter Tryz.func103, Tryz.ntmps103
    go_wp2
    go_quiet (fail)
    go_wp2
    refine bodyPost_ret (results_none rfl _ _ _) rfl ?_
    exact ⟨rfl, RTo.from (unhide HB0) (RTo.same (unhide H0) (bdrewN (Below.refl _ _) _))⟩
  have b3 : decide (kb < r.self.inc) = false := by simpa using a3
  by_cases a4 : kb = 1073741824
  · rw [if_pos (by simp [a4])]
    subst a4
    go_enter Tryz.func103, Tryz.ntmps103
    go_wp2
    go_quiet (fail)
    go_wp2
    refine bodyPost_ret (results_none rfl _ _ _) rfl ?_
    exact ⟨rfl, RTo.from (unhide HB0) (RTo.same (unhide H0) (bdrewN (Below.refl _ _) _))⟩
  have b4 : (kb == 1073741824) = false := by simp [a4]
  rw [if_neg (by simp [a1, a2, a4]; omega)]
  have HS := hide (fun q => ((unhide H0).drewN q).set 11 (.int .i64 (kb + 1)) (r' := { r with self := ⟨r.self.id, kb + 1, r.self.st⟩ }) rfl)
  clear H0
  go_enter Tryz.func103, Tryz.ntmps103
  go_wp2
  go_quiet (fail)
  go_wp2_with fail
  refine (rchanged_any (unhide HS _).1 he hq hl ⟨r.self.id, kb + 1, r.self.st⟩).mono ?_
  rintro e w2 ⟨rfl, h2⟩
  have HT := hide (RTo.from (unhide HB0) (RTo.from (bdrewN (Below.refl _ _) _) (RTo.trans rfl (frm_own _ _ _ _) (fun _ hk => .inl hk) h2)))
  clear h2 HS
  go_wp2
  go_end0
  exact ⟨rfl, unhide HT⟩
theorem rleave_any {W : World} {b : Nat} {v : Rv} {r : Rn} (h : RAt W b v r) (he : r.evs.length ≤ 8) (hq : r.queue.length ≤ 1000) (hl : 0 ≤ r.lost ∧ r.lost ≤ 1000000000000) :
    Calls Tryz.prog 40 #[.pointer (some ⟨b, 0, none⟩)] W fun e w' => e = .returned (.int .i64 (if r.self.st = 4 then 4 else 0)) ∧ RTo W w' b v (if r.self.st = 4 then r else r.leave) := by
  have c10 := h.cell 10
  have c11 := h.cell 11
  have c12 := h.cell 12
  have f12 := h.free 12
  have hlt := h.ltb
  simp only [refC, List.getElem?_toArray, List.getElem?_cons_zero, List.getElem?_cons_succ] at c10 c11 c12
  have H0 := hide h
  clear h
  by_cases a1 : r.self.st = 4
  · rw [if_pos a1, if_pos a1]
    have b1 : (r.self.st == 4) = true := by simp [a1]
    go_enter Tryz.func40, Tryz.ntmps40
    go_wp2
    go_ret
    exact ⟨rfl, RTo.same (unhide H0) (Below.refl _ _)⟩
  · rw [if_neg a1, if_neg a1]
    have b1 : (r.self.st == 4) = false := by simp [a1]
    have HS := hide ((unhide H0).set 12 (.int .i64 4) (r' := { r with self := ⟨r.self.id, r.self.inc, 4⟩ }) rfl)
    clear H0
    go_enter Tryz.func40, Tryz.ntmps40
    go_wp2_with fail
    refine (rchanged_any (unhide HS).1 he hq hl ⟨r.self.id, r.self.inc, 4⟩).mono ?_
    rintro e w2 ⟨rfl, h2⟩
    have HT := hide (RTo.trans rfl (frm_own W b v _) (fun _ hk => .inl hk) h2)
    clear h2 HS
    go_wp2
    go_ret
    exact ⟨rfl, unhide HT⟩
end Go.Proofs.YtnneljcbelgoeaaGreatDoor.wire
/- The document's node: find. -/
namespace Go.Proofs.YtnneljcbelgoeaaGreatDoor.wire
open Go.RowKit Go.Maps

/-- Where one stands among the others, or would. -/
def posR (n : Int) (l : List RM) : Nat := (l.takeWhile (fun m => decide (m.k.id < n))).length
def thereR (n : Int) (l : List RM) : Bool := (findR n l).isSome
theorem posR_at (n : Int) : ∀ (l : List RM) (k : Nat) (h : k < l.length), (∀ j (hj : j < k), (l[j]'(by omega)).k.id < n) → ¬ l[k].k.id < n → posR n l = k
  | a :: r, 0, _, _, h2 => by
    have : ¬ a.k.id < n := h2
    simp [posR, this]
  | a :: r, k + 1, h, h1, h2 => by
    have ha : a.k.id < n := h1 0 (by omega)
    have ih := posR_at n r k (by simpa using h) (fun j hj => h1 (j + 1) (by omega)) h2
    unfold posR at ih ⊢
    rw [List.takeWhile_cons, if_pos (by simpa using ha), List.length_cons, ih]
theorem posR_end (n : Int) : ∀ (l : List RM), (∀ j (hj : j < l.length), l[j].k.id < n) → posR n l = l.length
  | [], _ => rfl
  | a :: r, h => by
    have ha : a.k.id < n := h 0 (by simp)
    have ih := posR_end n r (fun j hj => h (j + 1) (by simpa using hj))
    unfold posR at ih ⊢
    rw [List.takeWhile_cons, if_pos (by simpa using ha), List.length_cons, List.length_cons, ih]
/-- The others rise. -/
abbrev RiseR (l : List RM) : Prop := l.Pairwise (fun a b => a.k.id < b.k.id)
theorem there_at {n : Int} {l : List RM} (hr : RiseR l) (k : Nat) (h : k < l.length) (h1 : ∀ j (hj : j < k), (l[j]'(by omega)).k.id < n) (h2 : ¬ l[k].k.id < n) : thereR n l = decide (l[k].k.id = n) := by
  by_cases e : l[k].k.id = n
  · rw [decide_eq_true e]
    unfold thereR findR
    rw [List.find?_isSome]
    exact ⟨l[k], List.getElem_mem h, by simpa using e⟩
  · rw [decide_eq_false e]
    unfold thereR findR
    rw [Bool.eq_false_iff]
    intro hs
    rw [List.find?_isSome] at hs
    obtain ⟨m, hm, he⟩ := hs
    obtain ⟨j, hj, rfl⟩ := List.getElem_of_mem hm
    have he' : l[j].k.id = n := by simpa using he
    rcases Nat.lt_trichotomy j k with hjk | hjk | hjk
    · have := h1 j hjk; omega
    · subst hjk; exact e he'
    · have := List.pairwise_iff_getElem.1 hr k j h hj hjk; omega
theorem there_end {n : Int} {l : List RM} (h1 : ∀ j (hj : j < l.length), l[j].k.id < n) : thereR n l = false := by
  unfold thereR findR
  rw [Bool.eq_false_iff]
  intro hs
  rw [List.find?_isSome] at hs
  obtain ⟨m, hm, he⟩ := hs
  obtain ⟨j, hj, rfl⟩ := List.getElem_of_mem hm
  have he' : l[j].k.id = n := by simpa using he
  have := h1 j hj
  omega
set_option maxHeartbeats 2000000 in
set_option maxRecDepth 100000 in
theorem rfind_any {W : World} {b : Nat} {v : Rv} {r : Rn} (h : RAt W b v r) (hr : RiseR r.others) (hl : r.others.length ≤ 1000) (n : Int) :
    Calls Tryz.prog 104 #[.pointer (some ⟨b, 0, none⟩), .int .i64 n] W fun e w' => e = .returned (.tuple #[.int .i64 (posR n r.others), .bool (thereR n r.others)]) ∧ Below W.heap.size W w' := by
  obtain ⟨ao, cap, ev, hao, hc1, hc2⟩ := row_form h.rows.o
  have hrow := h.rows.o
  rw [ev] at hrow
  have c13 := h.cell 13
  simp only [refC, List.getElem?_toArray, List.getElem?_cons_zero, List.getElem?_cons_succ, ev] at c13
  have hblt := h.ltb
  have HROW := hide hrow
  have HAO := hide hao
  have HRR := hide hr
  generalize r.others = L at c13 HROW HAO HRR hl hc1
  clear h hrow hao hr ev
  go_enter Tryz.func104, Tryz.ntmps104
  go_wp2
  go_loopw [6] (fun i wr => ∃ k : Nat, i = .int .i64 k ∧ k ≤ L.length ∧ wr = W ∧ Hid (∀ j (hj : j < L.length), j < k → L[j].k.id < n)) (fun i _ => L.length - (Go.RowKit.intOf i).toNat)
  case atStart => exact ⟨0, by go_num, by omega, rfl, fun j _ hj => absurd hj (by omega)⟩
  case round =>
    obtain ⟨k, rfl, hk, hww, HLE⟩ := hrel
    subst hww
    by_cases hlt : k < L.length
    · have hlt' : (k : Int) < (L.length : Int) := by omega
      obtain ⟨g, hao, hg⟩ := unhide HAO (by omega)
      subst hao
      have d0 := row_cell rmC 4 (fun _ => rfl) (unhide HROW) k hlt 0 (by omega)
      simp only [rmC, List.getElem?_cons_zero, Nat.add_zero] at d0
      by_cases hge : L[k].k.id < n
      · have hge' : ¬ n ≤ L[k].k.id := by omega
        have HLE2 : Hid (∀ j (hj : j < L.length), j < k + 1 → L[j].k.id < n) := hide (fun j hj hj2 => by
          by_cases e : j = k
          · subst e; exact hge
          · exact unhide HLE j hj (by omega))
        go_wp2
        go_roundw
        case rel => exact ⟨k + 1, by go_num, by omega, trivial, HLE2⟩
        case measure => simp [Go.RowKit.intOf]; omega
      · have hge' : n ≤ L[k].k.id := by omega
        have hp := posR_at n L k hlt (fun j hj => unhide HLE j (by omega) hj) hge
        have ht := there_at (unhide HRR) k hlt (fun j hj => unhide HLE j (by omega) hj) hge
        have HP := hide hp
        have HT := hide ht
        clear hp ht
        go_wp2
        go_quiet (fail)
        go_wp2
        go_ret2
        rw [unhide HP, unhide HT]
        exact ⟨rfl, bdrewN (Below.refl _ _) _⟩
    · have hke : k = L.length := by omega
      have hp := posR_end n L (fun j hj => unhide HLE j hj (by omega))
      have ht := there_end (n := n) (l := L) (fun j hj => unhide HLE j hj (by omega))
      have HP := hide hp
      have HT := hide ht
      clear hp ht
      go_wp2
      go_ret2
      rw [unhide HP, unhide HT]
      exact ⟨rfl, Below.refl _ _⟩
end Go.Proofs.YtnneljcbelgoeaaGreatDoor.wire
/- The document's node: its table is written. -/
namespace Go.Proofs.YtnneljcbelgoeaaGreatDoor.wire
open Go.RowKit Go.Maps

/-- A cut from the k-th on, at a plain region's list. -/
theorem wpList_tail {P : Program} {w : World} {ops : Array Oper} {rest : List Oper} {o : Oper} {a : Act} {Q : Exit → Act → World → Prop} (hgd : o.guard = none) (x lo : Operand) {t : TypeId} (ho : o.op = .slice t x (some lo) none none)
    {e : TypeId} {size bytes : Nat} (he : Ety P t e size bytes) {base : Nat} {ao : Option Addr} {n cap : Nat} {xs : List Value} (k : Nat) (hx : a.eval x = .slice ao n cap) (hlo : a.eval lo = .int .i64 k) (hown : w.ownsRow base e size (.slice ao n cap) n xs) (hk : k ≤ n)
    (h : ∀ v', Src w size v' (n - k) (xs.drop (k * size)) → wpList P ops Q rest (a.put o.dst v') w) : wpList P ops Q (o :: rest) a w := by
  refine wpList_plain hgd fun K hK => ?_
  obtain ⟨i, z, ht, hi, hz, hsize, hby, hzs, hsz⟩ := he.ex
  have hel : P.elem t = e := by simp [Program.elem, ht]
  have ht' : P.underlying t = some (.slice (P.elem t)) := by rw [hel]; exact ht
  have hrun : (Instr.sliceAt t (.slice ao n cap) (some (.int .i64 k)) none none).run P w = .ok (sliced ao k n cap size) w := by
    rw [run_sliceAt_slice w t _ _ _ _ ht', run_slice_l w t ao n cap ht' .i64 k (by omega) (by omega)]
    simp [hel, sizeOf, typeInfo, hi, hsize, Result.andThen]
  unfold Oper.wp
  simp [execOp, ho, hx, hlo, hrun, Result.andThen]
  exact hK _ _ (h _ (Src.drop hown k hk))
theorem row_set {α : Type} (f : α → List Value) (s : Nat) (hf : ∀ a, (f a).length = s) : ∀ (l : List α) (i : Nat) (h : i < l.length) (j : Nat) (_ : j < s) (u : Value) (m : α) (_ : f m = (f l[i]).set j u), (l.flatMap f).set (i * s + j) u = (l.set i m).flatMap f
  | a :: r, 0, _, j, hj, u, m, hm => by
    rw [List.flatMap_cons, Nat.zero_mul, Nat.zero_add, List.set_append_left _ _ (by rw [hf]; exact hj), List.set_cons_zero, List.flatMap_cons, hm]; rfl
  | a :: r, i + 1, h, j, hj, u, m, hm => by
    have ih := row_set f s hf r i (by simpa using h) j hj u m hm
    rw [List.flatMap_cons, List.set_append_right _ _ (by rw [hf, Nat.add_mul]; omega), List.set_cons_succ, List.flatMap_cons, ← ih, hf]
    congr 2
    rw [Nat.add_mul]; omega
/-- A cell of the table is written. -/
theorem RAt.putO {W : World} {b : Nat} {v : Rv} {r : Rn} (h : RAt W b v r) {g n cap : Nat} (hv : v.o = .slice (some ⟨g, 0, none⟩) n cap) (i j : Nat) (hi : i < r.others.length) (hj : j < 4) (u : Value) (m : RM) (hm : rmC m = (rmC r.others[i]).set j u) :
    RAt (W.setCell ⟨g, i * 4 + j, none⟩ u) b v { r with others := r.others.set i m } := by
  have hn : n = r.others.length := by
    obtain ⟨ao, cap', e, _⟩ := row_form h.rows.o
    rw [hv] at e
    cases e; rfl
  subst hn
  have ho := h.rows.o
  rw [hv] at ho
  obtain ⟨h1, h2⟩ := ho.stored (i * 4 + j) u
  rw [row_set rmC 4 (fun _ => rfl) r.others i hi j hj u m hm] at h1
  have hf : Frm v.o.ownBlock.toList W (W.setCell ⟨g, i * 4 + j, none⟩ u) := Frm.of_grown h2 (fun k hk => .inl (by rw [hv]; simpa [Value.ownBlock] using hk.symm))
  have hr := h.rows.setO (u := v.o) hf (l := r.others.set i m) (by rw [List.length_set, hv]; exact h1)
  refine ⟨(hf.block b h.ltb (fun hm => (h.rows.not h.blk).1 (by simp only [Rv.all, List.mem_append]; simp [hm]))).trans h.blk, hr⟩
theorem RAt.putM {W : World} {b : Nat} {v : Rv} {r : Rn} (h : RAt W b v r) {g n cap : Nat} (hv : v.o = .slice (some ⟨g, 0, none⟩) n cap) (i : Nat) (hi : i < r.others.length) (m : RM) :
    RAt ((((W.setCell ⟨g, i * 4, none⟩ (.int .i64 m.k.id)).setCell ⟨g, i * 4 + 1, none⟩ (.int .i64 m.k.inc)).setCell ⟨g, i * 4 + 2, none⟩ (.int .i64 m.k.st)).setCell ⟨g, i * 4 + 3, none⟩ (.int .i64 m.due)) b v { r with others := r.others.set i m } := by
  obtain ⟨⟨ma, mb, mc⟩, md⟩ := m
  have h0 := h.putO hv i 0 hi (by omega) (.int .i64 ma) ⟨⟨ma, r.others[i].k.inc, r.others[i].k.st⟩, r.others[i].due⟩ rfl
  have h1 := h0.putO hv i 1 (by simpa using hi) (by omega) (.int .i64 mb) ⟨⟨ma, mb, r.others[i].k.st⟩, r.others[i].due⟩ (by simp [rmC])
  have h2 := h1.putO hv i 2 (by simpa using hi) (by omega) (.int .i64 mc) ⟨⟨ma, mb, mc⟩, r.others[i].due⟩ (by simp [rmC])
  have h3 := h2.putO hv i 3 (by simpa using hi) (by omega) (.int .i64 md) ⟨⟨ma, mb, mc⟩, md⟩ (by simp [rmC])
  simpa using h3
theorem frm_setO' (W : World) (b : Nat) {v : Rv} {g n cap : Nat} (hv : v.o = .slice (some ⟨g, 0, none⟩) n cap) (j : Nat) (u : Value) : Frm (rfeet b v) W (W.setCell ⟨g, j, none⟩ u) :=
  (Frm.refl _ W).trans (frm_set W g j u) (by simp [rfeet, Rv.all, hv, Value.ownBlock])
theorem RAt.putM_to {W : World} {b : Nat} {v : Rv} {r : Rn} (h : RAt W b v r) {g n cap : Nat} (hv : v.o = .slice (some ⟨g, 0, none⟩) n cap) (i : Nat) (hi : i < r.others.length) (m : RM) :
    RTo W ((((W.setCell ⟨g, i * 4, none⟩ (.int .i64 m.k.id)).setCell ⟨g, i * 4 + 1, none⟩ (.int .i64 m.k.inc)).setCell ⟨g, i * 4 + 2, none⟩ (.int .i64 m.k.st)).setCell ⟨g, i * 4 + 3, none⟩ (.int .i64 m.due)) b v { r with others := r.others.set i m } :=
  ⟨v, rfl, h.putM hv i hi m, (((frm_setO' W b hv _ _).trans (frm_setO' _ b hv _ _) (fun _ hk => .inl hk)).trans (frm_setO' _ b hv _ _) (fun _ hk => .inl hk)).trans (frm_setO' _ b hv _ _) (fun _ hk => .inl hk), fun _ hk => .inl hk⟩
theorem RAt.putD_to {W : World} {b : Nat} {v : Rv} {r : Rn} (h : RAt W b v r) {g n cap : Nat} (hv : v.o = .slice (some ⟨g, 0, none⟩) n cap) (i : Nat) (hi : i < r.others.length) (d : Int) :
    RTo W (W.setCell ⟨g, i * 4 + 3, none⟩ (.int .i64 d)) b v { r with others := r.others.set i ⟨r.others[i].k, d⟩ } :=
  ⟨v, rfl, h.putO hv i 3 hi (by omega) (.int .i64 d) ⟨r.others[i].k, d⟩ (by simp [rmC]), frm_setO' W b hv _ _, fun _ hk => .inl hk⟩
theorem frm_setO {W : World} {b : Nat} {v : Rv} {_r : Rn} {g n cap j : Nat} (hv : v.o = .slice (some ⟨g, 0, none⟩) n cap) (u : Value) : Frm (rfeet b v) W (W.setCell ⟨g, j, none⟩ u) :=
  (Frm.refl _ W).trans (frm_set W g j u) (by simp [rfeet, Rv.all, hv, Value.ownBlock])
/-- What a node of the document keeps to: its numbers are small. -/
structure RBd (r : Rn) : Prop where
  evs : r.evs.length ≤ 8
  queue : r.queue.length ≤ 1000
  lost : 0 ≤ r.lost ∧ r.lost ≤ 1000000000000
  clock : 0 ≤ r.clock ∧ r.clock ≤ 1000000000000
  susp : 0 ≤ r.c.suspect ∧ r.c.suspect ≤ 500
  len : r.others.length ≤ 7
  rise : RiseR r.others
  pass : r.pass.length ≤ 1000
theorem putR_at (m : RM) : ∀ (l : List RM), RiseR l → (hi : posR m.k.id l < l.length) → (l[posR m.k.id l]).k.id = m.k.id → l.set (posR m.k.id l) m = putR m l
  | a :: r, hr, hi, he => by
    obtain ⟨h1, h2⟩ := List.pairwise_cons.1 hr
    by_cases c : a.k.id < m.k.id
    · have e : posR m.k.id (a :: r) = posR m.k.id r + 1 := by simp [posR, c]
      simp only [e] at hi he ⊢
      rw [List.set_cons_succ]
      unfold putR
      rw [if_neg (by omega), if_neg (by omega), putR_at m r h2 (by simpa using hi) (by simpa using he)]
    · have e : posR m.k.id (a :: r) = 0 := by simp [posR, c]
      simp only [e] at hi he ⊢
      simp only [List.getElem_cons_zero] at he
      unfold putR
      rw [List.set_cons_zero, if_neg (by omega), if_pos he.symm]
theorem putR_new (m : RM) : ∀ (l : List RM), RiseR l → thereR m.k.id l = false → l.take (posR m.k.id l) ++ m :: l.drop (posR m.k.id l) = putR m l
  | [], _, _ => by simp [posR, putR]
  | a :: r, hr, he => by
    obtain ⟨h1, h2⟩ := List.pairwise_cons.1 hr
    have hne : a.k.id ≠ m.k.id := fun e => by simp [thereR, findR, e] at he
    by_cases c : a.k.id < m.k.id
    · have e : posR m.k.id (a :: r) = posR m.k.id r + 1 := by simp [posR, c]
      have hr' : thereR m.k.id r = false := by
        have : (a.k.id == m.k.id) = false := by simpa using hne
        simpa [thereR, findR, List.find?_cons, this] using he
      rw [e, List.take_succ_cons, List.drop_succ_cons]
      unfold putR
      rw [if_neg (by omega), if_neg (by omega), ← putR_new m r h2 hr']
      rfl
    · have e : posR m.k.id (a :: r) = 0 := by simp [posR, c]
      rw [e]
      unfold putR
      rw [if_pos (by omega)]
      rfl
theorem posR_le (n : Int) (l : List RM) : posR n l ≤ l.length := by
  unfold posR
  exact (List.takeWhile_sublist _).length_le
/-- Who is there stands at its place. -/
theorem there_pos {n : Int} : ∀ {l : List RM}, RiseR l → thereR n l = true → ∃ h : posR n l < l.length, (l[posR n l]).k.id = n ∧ findR n l = some l[posR n l]
  | [], _, he => by simp [thereR, findR] at he
  | a :: r, hr, he => by
    obtain ⟨h1, h2⟩ := List.pairwise_cons.1 hr
    by_cases c : a.k.id < n
    · have e : posR n (a :: r) = posR n r + 1 := by simp [posR, c]
      have hn : (a.k.id == n) = false := by simp; omega
      have hr' : thereR n r = true := by simpa [thereR, findR, List.find?_cons, hn] using he
      obtain ⟨p, q, s⟩ := there_pos h2 hr'
      refine ⟨by rw [e]; simpa using p, ?_, ?_⟩
      · simp only [e, List.getElem_cons_succ]; exact q
      · simp only [e, List.getElem_cons_succ]
        rw [← s]
        simp [findR, hn]
    · have e : posR n (a :: r) = 0 := by simp [posR, c]
      have hz : a.k.id = n := by
        by_cases e2 : a.k.id = n
        · exact e2
        · exfalso
          unfold thereR findR at he
          rw [List.find?_isSome] at he
          obtain ⟨m, hm, hme⟩ := he
          have hme' : m.k.id = n := by simpa using hme
          rcases List.mem_cons.1 hm with rfl | hm
          · exact e2 hme'
          · have := h1 m hm; omega
      refine ⟨by rw [e]; simp, ?_, ?_⟩
      · simp only [e, List.getElem_cons_zero]; exact hz
      · simp only [e, List.getElem_cons_zero]
        simp [findR, hz]
theorem there_not {n : Int} {l : List RM} (he : thereR n l = false) : findR n l = none := by
  unfold thereR at he
  simpa using he
end Go.Proofs.YtnneljcbelgoeaaGreatDoor.wire
/- gossiplaw's take: a packet is on its way no more. -/
namespace Go.Proofs.YtnneljcbelgoeaaGreatDoor.wire
open Go.RowKit Go.Maps
set_option maxRecDepth 100000 in
set_option maxHeartbeats 2000000 in
theorem take_s (wb : Nat) (s : Sg) (w W : World) (h : VS wb s w W) (hps : s.ps.length ≤ 60) (k : Nat) (hk : k < s.ps.length) :
    Calls Tryz.prog 21 #[.pointer (some ⟨wb, 0, none⟩), .int .i64 k] W fun e W' => (∃ v, e = .returned v) ∧ ∃ pv, VS wb { s with pv := pv, ps := s.ps.eraseIdx k } w W' := by
  have hro : W.ownsRow 0 60 2 s.pv s.ps.length (s.ps.flatMap pkC) := Sep.rd h .ow
  obtain ⟨po, pc, hpf, hpn, _⟩ := row_form hro
  obtain ⟨pb, rfl, hpb⟩ := hpn (by omega)
  have c15 : W.cell? ⟨wb, 15, none⟩ = some s.pv := h.cell 15
  have hwl := h.lt
  rw [hpf] at c15 hro
  have p0 : W.cell? ⟨pb, k * 2, none⟩ = _ := row_cell pkC 2 (fun _ => rfl) hro k hk 0 (by omega)
  have p1 : W.cell? ⟨pb, k * 2 + 1, none⟩ = _ := row_cell pkC 2 (fun _ => rfl) hro k hk 1 (by omega)
  simp only [pkC, List.getElem?_cons_zero, List.getElem?_cons_succ] at p0 p1
  generalize s.ps[k].dest = pd at p0
  generalize s.ps[k].bytes = pt at p1
  have hk0 : (k : Int) < (s.ps.length : Int) := by omega
  have hb2 : Below W.heap.size W ((W.alloc (.cells #[.int .i64 0, .string { data := #[] }] 60)).alloc (.cells #[.int .i64 pd, .string (bs pt)] 60)) := ((Below.refl _ _).alloc (Nat.le_refl _) _).alloc (by simp) _
  have HBY := hide (h.beyond (Nat.le_refl W.heap.size))
  have HC := hide (h.mono hb2)
  have HR := hide (own_below hro hb2)
  have hz2 : ((W.alloc (.cells #[.int .i64 0, .string { data := #[] }] 60)).alloc (.cells #[.int .i64 pd, .string (bs pt)] 60)).heap.size = W.heap.size + 2 := by simp
  have HB0 := hide (show ((W.alloc (.cells #[.int .i64 0, .string { data := #[] }] 60)).alloc (.cells #[.int .i64 pd, .string (bs pt)] 60)).heap[W.heap.size]? = some (.cells #[.int .i64 0, .string { data := #[] }] 60 (0, 0)) from (Below.heap_alloc _ _ _ (by simp)).trans (heap_alloc_new W _))
  have HB1 := hide (show ((W.alloc (.cells #[.int .i64 0, .string { data := #[] }] 60)).alloc (.cells #[.int .i64 pd, .string (bs pt)] 60)).heap[W.heap.size + 1]? = some (.cells #[.int .i64 pd, .string (bs pt)] 60 (0, 0)) by
    have hh := heap_alloc_new (W.alloc (.cells #[.int .i64 0, .string { data := #[] }] 60)) (.cells #[.int .i64 pd, .string (bs pt)] 60)
    rw [World.size_alloc] at hh
    exact hh)
  have HPF := hide hpf
  have hlk : (s.ps.take k).length = k := by simp; omega
  have HLK := hide hlk
  clear h hro hpn hpf hb2 hlk
  go_enter Tryz.func21, Tryz.ntmps21
  go_wp2_with (at_builtin; refine wpList_app rfl _ _ rfl etyP (W.heap.size + 2) (n := k) (xs := (s.ps.flatMap pkC).take (k * 2)) (n1 := 0) (xs1 := []) rfl rfl (World.ownsRow_nil _ _ _ _) ?_ (fun u hu => one_of onePk _ u (List.mem_of_mem_take hu)) (by omega) (by simp) ?_)
  · simp [Act.eval]
    exact Src.head (unhide HR) k (Nat.le_of_lt hk)
  generalize (W.alloc (.cells #[.int .i64 0, .string { data := #[] }] 60)).alloc (.cells #[.int .i64 pd, .string (bs pt)] 60) = W2 at HC HR HB0 HB1 hz2 ⊢
  intro v6 w6 ho6 hg6 _
  have hf6 : Fi pkC 60 2 W2 w6 v6 (s.ps.take k) := by
    have := (Fi.nil pkC 60 2 (Below.refl W2.heap.size W2)).push (Below.refl _ _) hg6 (s.ps.take k) (by
      have e := row_take pkC 2 (fun _ => rfl) s.ps k
      rw [e] at ho6
      rw [unhide HLK, hz2]; simpa using ho6)
    simpa using this
  obtain ⟨o6, c6, hv6, _⟩ := row_form hf6.own
  rw [unhide HLK] at hv6
  subst hv6
  have HF6 := hide hf6
  have HL6 := hide (own_below (unhide HR) hf6.below)
  have hz6 := hf6.below.size
  have e15 : w6.cell? ⟨wb, 15, none⟩ = some s.pv := ((unhide HC).mono hf6.below).cell 15
  rw [unhide HPF] at e15
  clear ho6 hg6 hf6 c15 p0 p1
  have hk1 : k + 1 ≤ s.ps.length := hk
  have hz3 : W.heap.size + 1 < W2.heap.size := by omega
  clear hz2
  go_wp2_with (refine wpList_tail rfl _ _ rfl etyP (k + 1) rfl rfl (unhide HL6) hk1 ?_)
  intro vt hvt
  have hvt2 : Src w6 2 vt (s.ps.length - (k + 1)) ((s.ps.drop (k + 1)).flatMap pkC) := by
    have e := row_drop pkC 2 (fun _ => rfl) s.ps (k + 1)
    rw [← e]
    exact hvt
  have HVT := hide hvt2
  clear hvt hvt2
  go_wp2_with (at_builtin; refine wpList_app rfl _ _ rfl etyP W2.heap.size rfl rfl (unhide HF6).own (unhide HVT) (one_of onePk _) (by have := unhide HLK; omega) (by omega) ?_)
  intro v7 w7 ho7 hg7 _
  have hf7 := (unhide HF6).push (Below.refl _ _) hg7 (s.ps.drop (k + 1)) (by first | (rw [List.length_take, List.length_drop]; exact ho7) | (rw [unhide HLK, List.length_drop]; exact ho7) | simpa using ho7)
  rw [← List.eraseIdx_eq_take_drop_succ] at hf7
  obtain ⟨o7, c7, hv7, _⟩ := row_form hf7.own
  subst hv7
  have hP := (unhide HC).grow (s' := { s with pv := .slice o7 (s.ps.eraseIdx k).length c7, ps := s.ps.eraseIdx k }) .ow (by simp) (Below.refl _ _) (Frm.of_below hf7.below (Nat.le_refl _)) (by exact own_mono hf7.own (Nat.zero_le _)) (fun q hq => by
    simp only [Sg.th, rowT, Option.mem_toList] at hq
    exact .inr (own_lt hf7.own hq).1) 15 (.slice o7 (s.ps.eraseIdx k).length c7) rfl (fun q h1 h2 => by cases q <;> first | rfl | exact absurd rfl h1 | exact absurd rfl h2)
  have d15 : w7.cell? ⟨wb, 15, none⟩ = some s.pv := cell_at hP.2 15
  have f15 : w7.frozen? ⟨wb, 15, none⟩ = false := free_at hP.2 15
  have hbb0 := (hf7.below.block W.heap.size (by omega)).trans (unhide HB0)
  have hbb1 := (hf7.below.block (W.heap.size + 1) (by omega)).trans (unhide HB1)
  have q0 := cell_at hbb1 0
  have q1 := cell_at hbb1 1
  have r0 := cell_at hbb0 0
  have r1 := cell_at hbb0 1
  have z0 := free_at hbb0 0
  have z1 := free_at hbb0 1
  simp only [List.getElem?_toArray, List.getElem?_cons_zero, List.getElem?_cons_succ] at q0 q1 r0 r1
  have hx0 : (w7.setCell ⟨wb, 15, none⟩ (.slice o7 (s.ps.eraseIdx k).length c7)).heap[W.heap.size]? = some (.cells #[.int .i64 0, .string { data := #[] }] 60 (0, 0)) := (heap_setCell_other w7 ⟨wb, 15, none⟩ W.heap.size _ (by show W.heap.size ≠ wb; omega)).trans hbb0
  have hx1 := heap_setCell_same _ W.heap.size 0 _ _ (.int .i64 pd) hx0
  have hx2 := heap_setCell_same _ W.heap.size 1 _ _ (.string (bs pt)) hx1
  have g0 := cell_at hx1 0
  have g1 := cell_at hx2 0
  have g2 := cell_at hx2 1
  simp at g0 g1 g2
  have HG0 := hide g0
  have HG1 := hide g1
  have HG2 := hide g2
  clear g0 g1 g2 hx0 hx1 hx2
  have HP := hide hP.1
  have HO7 := hide hf7.own
  have hw7 := hf7.below.size
  have hne : W.heap.size ≠ wb := by omega
  have hne2 : W.heap.size + 1 ≠ wb := by omega
  have hne3 : W.heap.size + 1 ≠ W.heap.size := by omega
  rw [unhide HPF] at d15
  clear hP hf7 ho7 hg7 HF6 HL6 HVT hbb0 hbb1 HB0 HB1 HR
  go_wp2
  refine bodyPost_ret (v := .agg #[.int .i64 pd, .string (bs pt)]) (by simp [results, Tryz.results21, go_sem, unhide HG1, unhide HG2]) rfl ⟨⟨_, rfl⟩, .slice o7 (s.ps.eraseIdx k).length c7, ?_⟩
  have t1 := (frm_cell (w7.setCell ⟨wb, 15, none⟩ (.slice o7 (s.ps.eraseIdx k).length c7)) W.heap.size 0 (.int .i64 pd)).trans (frm_cell _ W.heap.size 1 (.string (bs pt))) (fun j hj => .inl hj)
  refine Sep.aside (unhide HP) t1 (fun q hq => ?_)
  simp at hq
  subst hq
  refine ⟨(unhide HBY).1, fun j hm => ?_⟩
  have hne := (unhide HBY).2 j
  cases j with
  | ow =>
    simp only [Sg.th, rowT, Option.mem_toList] at hm
    have := (own_lt (unhide HO7) hm).1
    omega
  | _ => exact hne hm
end Go.Proofs.YtnneljcbelgoeaaGreatDoor.wire
/- What a tick keeps (P9). No Go here. -/
namespace Go.Proofs.YtnneljcbelgoeaaGreatDoor.wire

theorem swapL_perm (l : List Int) (i j : Nat) (hi : i < l.length) (hj : j < l.length) : (swapL l i j).Perm l := by
  have h := (Array.swap_perm (xs := l.toArray) (i := i) (j := j) (by simpa using hi) (by simpa using hj)).toList
  have e : (l.toArray.swap i j (by simpa using hi) (by simpa using hj)).toList = swapL l i j := by
    simp [Array.swap, swapL, List.getD_eq_getElem?_getD, List.getElem?_eq_getElem hi, List.getElem?_eq_getElem hj]
  rw [e] at h
  simpa using h
theorem swapL_len (l : List Int) (i j : Nat) : (swapL l i j).length = l.length := by simp [swapL]
theorem mixFrom_perm : ∀ (i : Nat) (l : List Int) (x : Nd), i < l.length ∨ i = 0 → (x.mixFrom i l).1.Perm l
  | 0, l, x, _ => List.Perm.refl l
  | i + 1, l, x, h => by
    have hd := drawn_bd x (n := (i : Int) + 2) (by omega)
    have hi : i + 1 < l.length := by omega
    have hj : (x.drawn ((i : Int) + 2)).toNat < l.length := by omega
    exact (mixFrom_perm i _ _ (.inl (by rw [swapL_len]; omega))).trans (swapL_perm l _ _ hi hj)
theorem mixed_perm (x : Nd) (l : List Int) : (x.mixed l).1.Perm l := mixFrom_perm _ _ _ (by omega)
theorem drew_ex (x : Nd) (n : Int) : ∃ m : Nat, x.drew n = { x with dat := m } ∧ x.dat ≤ m ∧ m ≤ x.dat + 1 := by
  unfold Nd.drew; split
  · exact ⟨x.dat, rfl, by omega, by omega⟩
  · exact ⟨x.dat + 1, rfl, by omega, by omega⟩
theorem mixFrom_ex : ∀ (i : Nat) (l : List Int) (x : Nd), ∃ m : Nat, (x.mixFrom i l).2 = { x with dat := m } ∧ x.dat ≤ m ∧ m ≤ x.dat + i
  | 0, l, x => ⟨x.dat, rfl, Nat.le_refl _, Nat.le_refl _⟩
  | i + 1, l, x => by
    obtain ⟨m, e, h1, h2⟩ := drew_ex x ((i : Int) + 2)
    obtain ⟨n, e', h3, h4⟩ := mixFrom_ex i (swapL l (i + 1) (x.drawn ((i : Int) + 2)).toNat) { x with dat := m }
    refine ⟨n, ?_, ?_, ?_⟩
    · show ((x.drew ((i : Int) + 2)).mixFrom i _).2 = _
      rw [e, e']
    · have : m ≤ n := h3
      omega
    · have : n ≤ m + i := h4
      omega
theorem mixed_ex (x : Nd) (l : List Int) : ∃ m : Nat, (x.mixed l).2 = { x with dat := m } ∧ x.dat ≤ m ∧ m ≤ x.dat + l.length := by
  obtain ⟨m, e, h1, h2⟩ := mixFrom_ex (l.length - 1) l x
  exact ⟨m, e, h1, by omega⟩
theorem dat_ok {x : Nd} (h : NdOk x) (n : Nat) : NdOk { x with dat := n } := ⟨h.cfg, h.rise, h.len, h.keys, h.sends, h.self, h.evs, h.rels, h.pass⟩
theorem dat_b {B : Int} {x : Nd} (h : NdB B x) {n : Nat} (hn : (n : Int) ≤ B) : NdB B { x with dat := n } := ⟨h.clock, h.num, h.dropped, h.lost, ⟨h.tk.1, hn⟩⟩
theorem drew_ok {x : Nd} (h : NdOk x) (n : Int) : NdOk (x.drew n) := by obtain ⟨m, e, _⟩ := drew_ex x n; rw [e]; exact dat_ok h _
theorem drew_b {B : Int} {x : Nd} (h : NdB B x) (n : Int) : NdB (B + 1) (x.drew n) := by
  obtain ⟨m, e, _, h2⟩ := drew_ex x n
  rw [e]
  exact dat_b (h.mono (by omega)) (by have := h.tk.2; omega)
theorem later_ok {x : Nd} (h : NdOk x) : NdOk x.later := ⟨h.cfg, h.rise, h.len, h.keys, h.sends, h.self, h.evs, h.rels, h.pass⟩
theorem later_b {B : Int} {x : Nd} (h : NdB B x) : NdB (B + 1) x.later :=
  ⟨⟨by have := h.clock; show 0 ≤ x.clock + 1; omega, by have := h.clock; show x.clock + 1 ≤ B + 1; omega⟩, (h.mono (by omega)).num, (h.mono (by omega)).dropped, (h.mono (by omega)).lost, (h.mono (by omega)).tk⟩
theorem endRelays_ok {x : Nd} (h : NdOk x) : NdOk x.endRelays := ⟨h.cfg, h.rise, h.len, h.keys, h.sends, h.self, h.evs, Nat.le_trans (List.length_filter_le _ _) h.rels, h.pass⟩
theorem endRelays_b {B : Int} {x : Nd} (h : NdB B x) : NdB B x.endRelays := ⟨h.clock, h.num, h.dropped, h.lost, h.tk⟩
theorem dead_key {m : Mem} (h : isKeyB m.k = true) : isKeyB m.dead = true := by
  simp only [isKeyB, Bool.and_eq_true] at *
  exact ⟨h.1, h.2.1, rfl⟩
theorem deads_ok : ∀ (l : List Mem) {x : Nd}, NdOk x → (∀ m ∈ l, isKeyB m.k = true) → NdOk (l.foldl (fun y m => y.hear m.dead) x)
  | [], _, h, _ => h
  | m :: r, _, h, hl => deads_ok r (hear_ok h _ (dead_key (hl m (List.mem_cons_self ..)))) (fun m' hm' => hl m' (List.mem_cons_of_mem _ hm'))
theorem deads_b : ∀ (l : List Mem) {B : Int} {x : Nd}, NdB B x → NdB (B + l.length) (l.foldl (fun y m => y.hear m.dead) x)
  | [], _, _, h => by simpa using h
  | m :: r, B, x, h => by
    have := deads_b r (hear_b h m.dead)
    refine this.mono ?_
    simp; omega
theorem endSuspects_ok {x : Nd} (h : NdOk x) : NdOk x.endSuspects := deads_ok _ h (fun m hm => h.keys m (List.mem_filter.1 hm).1)
theorem endSuspects_b {B : Int} {x : Nd} (h : NdOk x) (hB : NdB B x) : NdB (B + 8) x.endSuspects :=
  (deads_b _ hB).mono (by have := List.length_filter_le (overB x.clock) x.tab; have := h.len; omega)
theorem present_len {x : Nd} (h : NdOk x) : x.present.length ≤ 8 := by
  unfold Nd.present Nd.others
  rw [List.length_map]
  refine Nat.le_trans (List.length_filter_le _ _) ?_
  rw [List.length_map]
  exact Nat.le_trans (List.length_filter_le _ _) h.len
theorem present_ids {x : Nd} (h : NdOk x) : ∀ i ∈ x.present, (1 ≤ i ∧ i ≤ 250) ∧ i ≠ x.c.self := by
  intro i hi
  unfold Nd.present Nd.others at hi
  obtain ⟨k, hk, rfl⟩ := List.mem_map.1 hi
  obtain ⟨m, hm, rfl⟩ := List.mem_map.1 (List.mem_filter.1 hk).1
  obtain ⟨h1, h2⟩ := List.mem_filter.1 hm
  refine ⟨(key_bounds (h.keys m h1)).1, ?_⟩
  simpa using h2
theorem asks_ok : ∀ (n : Nat) (able : List Int) {x : Nd}, NdOk x → NdOk (x.asks n able).2
  | 0, _, _, h => h
  | n + 1, able, _, h => asks_ok n _ (along_ok (drew_ok h able.length))
theorem asks_b : ∀ (n : Nat) (able : List Int) {B : Int} {x : Nd}, NdB B x → NdB (B + n) (x.asks n able).2
  | 0, _, _, _, h => h.mono (by omega)
  | n + 1, able, B, x, h => (asks_b n _ (along_b (drew_b h able.length))).mono (by omega)
theorem askOthers_ok {x : Nd} (h : NdOk x) : NdOk x.askOthers.2 := by
  unfold Nd.askOthers; split
  · exact h
  · exact asks_ok _ _ h
theorem askOthers_b {B : Int} {x : Nd} (h : NdOk x) (hB : NdB B x) : NdB (B + 3) x.askOthers.2 := by
  unfold Nd.askOthers; split
  · exact hB.mono (by omega)
  · refine (asks_b _ _ hB).mono ?_
    have := h.cfg
    simp only [cfgB, Bool.and_eq_true, decide_eq_true_eq] at this
    omega
theorem idle_ok {x : Nd} (h : NdOk x) : NdOk x.idle := ⟨h.cfg, h.rise, h.len, h.keys, h.sends, h.self, h.evs, h.rels, ⟨h.pass.len, h.pass.ids, .inl rfl⟩⟩
theorem idle_b {B : Int} {x : Nd} (h : NdB B x) : NdB B x.idle := ⟨h.clock, h.num, h.dropped, h.lost, ⟨⟨Int.le_refl 0, by have := h.clock; show (0 : Int) ≤ B; omega⟩, h.tk.2⟩⟩
theorem sus_key {x : Nd} (h : NdOk x) {i : Int} (hs : (atM i x.tab).k.st = 1) : isKeyB ⟨(atM i x.tab).k.id, (atM i x.tab).k.inc, 2⟩ = true := by
  unfold atM at *
  rcases hf : findM i x.tab with _ | m
  · rw [hf] at hs; simp [zeroM] at hs
  · have hk := h.keys m (findM_in hf).1
    simp only [isKeyB, Bool.and_eq_true, Option.getD_some] at *
    exact ⟨hk.1, hk.2.1, rfl⟩
theorem endProbe_ok {x : Nd} (h : NdOk x) : NdOk x.endProbe := by
  unfold Nd.endProbe; split
  · exact idle_ok h
  · rename_i hc
    refine hear_ok (idle_ok h) _ (sus_key h ?_)
    simp at hc
    exact hc.2
theorem endProbe_b {B : Int} {x : Nd} (hB : NdB B x) : NdB (B + 1) x.endProbe := by
  unfold Nd.endProbe; split
  · exact (idle_b hB).mono (by omega)
  · exact hear_b (idle_b hB) _
theorem goOn_ok {x : Nd} (h : NdOk x) : NdOk x.goOn.2 := by
  unfold Nd.goOn; split
  · exact h
  · split
    · exact askOthers_ok h
    · split
      · exact endProbe_ok h
      · exact h
theorem goOn_b {B : Int} {x : Nd} (h : NdOk x) (hB : NdB B x) : NdB (B + 3) x.goOn.2 := by
  unfold Nd.goOn; split
  · exact hB.mono (by omega)
  · split
    · exact askOthers_b h hB
    · split
      · exact (endProbe_b hB).mono (by omega)
      · exact hB.mono (by omega)
theorem renew_ok {x : Nd} (h : NdOk x) : NdOk x.renew := by
  unfold Nd.renew; split
  · have hp := mixed_perm x x.present
    obtain ⟨m, e, _⟩ := mixed_ex x x.present
    rw [e]
    refine ⟨h.cfg, h.rise, h.len, h.keys, h.sends, h.self, h.evs, h.rels, ⟨?_, fun i hi => ?_, h.pass.tgt⟩⟩
    · show (x.mixed x.present).1.length ≤ 8
      rw [hp.length_eq]; exact present_len h
    · exact present_ids h i (hp.mem_iff.1 hi)
  · exact h
theorem renew_b {B : Int} {x : Nd} (h : NdOk x) (hB : NdB B x) : NdB (B + 8) x.renew := by
  unfold Nd.renew; split
  · obtain ⟨m, e, _, hd⟩ := mixed_ex x x.present
    rw [e]
    have := present_len h
    have hB' := hB.mono (C := B + 8) (by omega)
    refine ⟨hB'.clock, hB'.num, hB'.dropped, hB'.lost, ⟨hB'.tk.1, ?_⟩⟩
    show (m : Int) ≤ B + 8
    have := hB.tk.2
    omega
  · exact hB.mono (by omega)
theorem begin_ok {x : Nd} (h : NdOk x) {t : Int} {r : List Int} (hp : x.pass = t :: r) : NdOk (x.begin t r) := by
  have h1 := h.pass
  rw [hp] at h1
  exact ⟨h.cfg, h.rise, h.len, h.keys, h.sends, h.self, h.evs, h.rels, ⟨by have := h1.len; simp at this; show r.length ≤ 8; omega, fun i hi => h1.ids i (List.mem_cons_of_mem _ hi), .inr (h1.ids t (List.mem_cons_self ..))⟩⟩
theorem begin_b {B : Int} {x : Nd} (hB : NdB B x) (t : Int) (r : List Int) : NdB (B + 1) (x.begin t r) := by
  have hB' := hB.mono (C := B + 1) (by omega)
  exact ⟨hB'.clock, ⟨by have := hB.num; show 0 ≤ x.num + 1; omega, by have := hB.num; show x.num + 1 ≤ B + 1; omega⟩, hB'.dropped, hB'.lost, ⟨hB'.clock, hB'.tk.2⟩⟩
theorem probeOne_ok {x : Nd} (h : NdOk x) : NdOk x.probeOne.2 := by
  unfold Nd.probeOne; split
  · exact h
  · rename_i t r hp; exact along_ok (begin_ok h hp)
theorem probeOne_b {B : Int} {x : Nd} (hB : NdB B x) : NdB (B + 1) x.probeOne.2 := by
  unfold Nd.probeOne; split
  · exact hB.mono (by omega)
  · exact along_b (begin_b hB _ _)
theorem probeNext_ok {x : Nd} (h : NdOk x) : NdOk x.probeNext.2 := by
  unfold Nd.probeNext; split
  · exact h
  · exact probeOne_ok (renew_ok h)
theorem probeNext_b {B : Int} {x : Nd} (h : NdOk x) (hB : NdB B x) : NdB (B + 9) x.probeNext.2 := by
  unfold Nd.probeNext; split
  · exact hB.mono (by omega)
  · exact (probeOne_b (renew_b h hB)).mono (by omega)
theorem tick_ok {x : Nd} (h : NdOk x) : NdOk x.tick.2 := probeNext_ok (goOn_ok (endSuspects_ok (endRelays_ok (later_ok h))))
theorem tick_b {B : Int} {x : Nd} (h : NdOk x) (hB : NdB B x) : NdB (B + 21) x.tick.2 := by
  have h1 := endRelays_ok (later_ok h)
  have b1 := endSuspects_b h1 (endRelays_b (later_b hB))
  have h2 := endSuspects_ok h1
  exact (probeNext_b (goOn_ok h2) (goOn_b h2 b1)).mono (by omega)
/-- The list of draws is the same, whatever a node does. -/
theorem hear_dl (x : Nd) (k : K3) : (x.hear k).dl = x.dl := by
  unfold Nd.hear Nd.hearSelf Nd.hearOther Nd.heard
  repeat' split
  all_goals rfl
end Go.Proofs.YtnneljcbelgoeaaGreatDoor.wire
