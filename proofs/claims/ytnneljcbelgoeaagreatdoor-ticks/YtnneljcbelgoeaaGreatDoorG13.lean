import Derived.Test.YtnneljcbelgoeaaGreatDoorG12
import Derived.Deep.RegionLaw
import Derived.BigQuiet
import Derived.Deep.QuietTactic
import Derived.Deep.DeepCutAuto
/- The document's node: a change (P6). -/
namespace Go.Proofs.YtnneljcbelgoeaaGreatDoor.wire
open Go.RowKit Go.Maps

theorem ety_of {P : Program} {t e : TypeId} {z : Value} {size bytes : Nat} (hu : P.underlying t = some (.slice e)) (hi : (P.info? e).map (fun i => (i.zero, i.size, i.bytes)) = some (some z, size, bytes)) (hz : z.cells.size = size) (h0 : 0 < size) (hb : bytes ≤ 1000) : Ety P t e size bytes := by
  obtain ⟨ti, h1, h2, h3, h4⟩ := info_parts hi
  exact ⟨⟨ti, z, hu, h1, h2, h3, h4, hz, h0⟩, hb⟩
theorem infoRMember : (Tryz.prog.info? 134).map (fun i => (i.zero, i.size, i.bytes)) = some (some (.agg #[.int .i64 0, .int .i64 0, .int .i64 0, .int .i64 0]), 4, 32) := by kernel_rfl
theorem infoRUpdate : (Tryz.prog.info? 158).map (fun i => (i.zero, i.size, i.bytes)) = some (some (.agg #[.int .i64 0, .int .i64 0, .int .i64 0, .int .i64 0]), 4, 32) := by kernel_rfl
theorem infoRRelay : (Tryz.prog.info? 132).map (fun i => (i.zero, i.size, i.bytes)) = some (some (.agg #[.int .i64 0, .int .i64 0, .int .i64 0, .int .i64 0, .int .i64 0]), 5, 40) := by kernel_rfl
theorem infoRKeyE : (Tryz.prog.info? 58).map (fun i => (i.zero, i.size, i.bytes)) = some (some (.agg #[.int .i64 0, .int .i64 0, .int .i64 0]), 3, 24) := by kernel_rfl
theorem infoRPacket : (Tryz.prog.info? 60).map (fun i => (i.zero, i.size, i.bytes)) = some (some (.agg #[.int .i64 0, .string ⟨#[]⟩]), 2, 24) := by kernel_rfl
theorem infoRInt : (Tryz.prog.info? 3).map (fun i => (i.zero, i.size, i.bytes)) = some (some (.int .i64 0), 1, 8) := by kernel_rfl
theorem etyM : Ety Tryz.prog 89 134 4 32 := ety_of Tryz.underlying89 infoRMember rfl (by omega) (by omega)
theorem etyU : Ety Tryz.prog 90 158 4 32 := ety_of Tryz.underlying90 infoRUpdate rfl (by omega) (by omega)
theorem etyR : Ety Tryz.prog 91 132 5 40 := ety_of Tryz.underlying91 infoRRelay rfl (by omega) (by omega)
theorem etyK : Ety Tryz.prog 31 58 3 24 := ety_of Tryz.underlying31 infoRKeyE rfl (by omega) (by omega)
theorem etyP : Ety Tryz.prog 37 60 2 24 := ety_of Tryz.underlying37 infoRPacket rfl (by omega) (by omega)
theorem etyI : Ety Tryz.prog 24 3 1 8 := ety_of Tryz.underlying24 infoRInt rfl (by omega) (by omega)
theorem one_of {α : Type} {f : α → List Value} (hf : ∀ a, ∀ u ∈ f a, u.oneCell' = true) (l : List α) : ∀ u ∈ l.flatMap f, u.oneCell' = true := fun u hu => by
  obtain ⟨a, _, ha⟩ := List.mem_flatMap.1 hu
  exact hf a u ha
theorem rm_one (m : RM) : ∀ u ∈ rmC m, u.oneCell' = true := by simp [rmC, Value.oneCell']
theorem ru_one (m : RU) : ∀ u ∈ ruC m, u.oneCell' = true := by simp [ruC, Value.oneCell']
theorem rr_one (m : Rel) : ∀ u ∈ rrC m, u.oneCell' = true := by simp [rrC, Value.oneCell']
theorem key_one (m : K3) : ∀ u ∈ keyC m, u.oneCell' = true := by simp [keyC, Value.oneCell']
theorem pk_one (m : Pk) : ∀ u ∈ pkC m, u.oneCell' = true := by simp [pkC, Value.oneCell']
theorem int_one (m : Int) : ∀ u ∈ intC m, u.oneCell' = true := by simp [intC, Value.oneCell']
/-- Where the new row of an append lies. -/
theorem at_grown {w w1 : World} {v v' : Value} (hs : w.heap.size ≤ w1.heap.size) (h : v'.ownBlock = v.ownBlock ∨ v'.ownBlock = some w1.heap.size) : ∀ g, v'.ownBlock = some g → v.ownBlock = some g ∨ w.heap.size ≤ g := fun g hg => by
  rcases h with h | h
  · exact .inl (h ▸ hg)
  · rw [h] at hg; cases hg; exact .inr hs
theorem take_filter {α : Type} (p : α → Bool) (l : List α) (k : Nat) (h : k < l.length) : (l.take (k + 1)).filter p = (l.take k).filter p ++ (if p l[k] then [l[k]] else []) := by
  rw [List.take_succ_eq_append_getElem h, List.filter_append]
  congr 1
  by_cases e : p l[k] <;> simp [e]
theorem own_base0 {W : World} {b : Nat} {e : TypeId} {z : Nat} {v : Value} {n : Nat} {xs : List Value} (h : W.ownsRow b e z v n xs) : W.ownsRow 0 e z v n xs := by
  refine ⟨h.1, ?_⟩
  rcases h.2 with r | ⟨g, c, cur, ev, h1, rest⟩
  · exact .inl r
  · exact .inr ⟨g, c, cur, ev, Nat.zero_le _, rest⟩
theorem RTo.from {W w1 w2 : World} {b : Nat} {v : Rv} {r : Rn} (hb : Below W.heap.size W w1) (h : RTo w1 w2 b v r) : RTo W w2 b v r := .trans rfl (Frm.of_below hb (Nat.le_refl _)) (fun _ hk => .inl hk) h
set_option maxHeartbeats 2000000 in
set_option maxRecDepth 100000 in
theorem rchanged_any {W : World} {b : Nat} {v : Rv} {r : Rn} (h : RAt W b v r) (he : r.evs.length ≤ 8) (hq : r.queue.length ≤ 1000) (hl : 0 ≤ r.lost ∧ r.lost ≤ 1000000000000) (k : K3) :
    Calls Tryz.prog 67 #[.pointer (some ⟨b, 0, none⟩), kval k] W fun e w' => e = .returned (.tuple #[]) ∧ RTo W w' b v (r.changed k) := by
  obtain ⟨ka, kb, kc⟩ := k
  have h0 := h.alloc (.cells #[.int .i64 ka, .int .i64 kb, .int .i64 kc] 58)
  have hb0 := (Below.refl W.heap.size W).alloc (Nat.le_refl _) (.cells #[.int .i64 ka, .int .i64 kb, .int .i64 kc] 58)
  have hx0 : (W.alloc (.cells #[.int .i64 ka, .int .i64 kb, .int .i64 kc] 58)).heap[W.heap.size]? = some (.cells #[.int .i64 ka, .int .i64 kb, .int .i64 kc] 58 (0, 0)) := heap_alloc_new W _
  have hnf : W.heap.size ∉ rfeet b v := fun hm => by have := h.lt hm; omega
  have HNF := hide hnf
  generalize hw1 : W.alloc (.cells #[.int .i64 ka, .int .i64 kb, .int .i64 kc] 58) = w1 at h0 hb0 hx0
  obtain ⟨eo, ec, hev, _⟩ := row_form h0.rows.e
  have c22 := h0.cell 22
  have c23 := h0.cell 23
  have f22 := h0.free 22
  have f23 := h0.free 23
  have hlt := h0.ltb
  have k0 := cell_at hx0 0
  have k1 := cell_at hx0 1
  have k2 := cell_at hx0 2
  have hltk := lt_blk hx0
  simp only [refC, List.getElem?_toArray, List.getElem?_cons_zero, List.getElem?_cons_succ, hev] at c22 c23 k0 k1 k2
  obtain ⟨R1, hR1⟩ : ∃ R1 : Rn, R1 = { r with evs := if r.evs.length = 8 then r.evs else r.evs ++ [⟨ka, kb, kc⟩], lost := if r.evs.length = 8 then r.lost + 1 else r.lost } := ⟨_, rfl⟩
  have hch : r.changed ⟨ka, kb, kc⟩ = { R1 with queue := R1.queue.filter (fun u => !(u.k.id == ka)) ++ [⟨⟨ka, kb, kc⟩, 0⟩] } := by rw [hR1]; rfl
  have hq1 : R1.queue.length ≤ 1000 := by rw [hR1]; exact hq
  rw [hch]
  have H0 := hide h0
  have HB0 := hide hb0
  have HX0 := hide hx0
  clear hch hq h h0 hb0 hx0 hnf
  go_enter Tryz.func67, Tryz.ntmps67
  go_upto_if 12 with fail
  go_cut [] (fun wq => RTo w1 wq b v R1)
  case first =>
   by_cases h8 : r.evs.length = 8
   · have hn8 : ((r.evs.length : Int) == 8) = true := by rw [beq_iff_eq]; omega
     have HS := hide ((unhide H0).set 23 (.int .i64 (r.lost + 1)) (r' := R1) (by rw [hR1]; simp only [if_pos h8]; rfl) (by rw [hR1]) (by rw [hR1]) (by rw [hR1]) (by rw [hR1]) (by rw [hR1]) (by rw [hR1]; simp only [if_pos h8]) (by rw [hR1])).2
     go_wp2
     go_meet
     case rel => exact unhide HS
   · have hn8 : ((r.evs.length : Int) == 8) = false := by rw [beq_eq_false_iff_ne]; omega
     have HOE := hide (hev ▸ (unhide H0).rows.e : w1.ownsRow 0 58 3 (.slice eo r.evs.length ec) r.evs.length (r.evs.flatMap keyC))
     go_wp2_with fail
     clear hw1
     go_region_law
      ((refine step_app (by rfl) _ _ (by rfl) etyK 0 (by rfl) (by rfl) (v1 := .slice eo r.evs.length ec) (n1 := r.evs.length) (xs1 := r.evs.flatMap keyC) (n := 1) (xs := keyC ⟨ka, kb, kc⟩) (((unhide HOE).alloc _).drew) (Src.box 3 1 1 (heap_alloc_new w1 _) (by rfl)) (key_one _) (by omega) (by omega) ?_; intro v' w2 ho2 hg2 hat2))
     all_goals
      have hf2 : Frm v.e.ownBlock.toList w1 w2 := hev ▸ (Frm.of_below (bdrew ((Below.refl _ _).alloc (Nat.le_refl _) _)) (Nat.le_refl _)).trans (frm_grown hg2) (fun j hj => .inl hj)
      have hat3 : ∀ g, v'.ownBlock = some g → v.e.ownBlock = some g ∨ w1.heap.size ≤ g := hev ▸ at_grown (w := w1) (by simp) hat2
      have hs2 := (unhide H0).setE (l := r.evs ++ [⟨ka, kb, kc⟩]) hf2 hat3 (by simpa using ho2)
      have hbb : w2.heap[b]? = some (.cells (refC r v) 93 (0, 0)) := (hf2.block b hlt (fun hm => (unhide H0).rows.not (unhide H0).blk |>.1 (by simp only [Rv.all, List.mem_append]; simp [hm]))).trans (unhide H0).blk
      have d22 := cell_at hbb 22
      have g22 := free_at hbb 22
      obtain ⟨ao', cap', hv'⟩ := own_form ho2
      subst hv'
      simp only [refC, List.getElem?_toArray, List.getElem?_cons_zero, List.getElem?_cons_succ, hev] at d22
      have eR : ({ r with evs := r.evs ++ [⟨ka, kb, kc⟩] } : Rn) = R1 := by rw [hR1]; simp only [if_neg h8]
      rw [eR] at hs2
      have HS := hide hs2
      clear eR hs2 hbb hf2 hat3 ho2 hg2 hat2 c22 c23 f22 f23 hn8 h8 k0 k1 k2 HOE
      go_wp2
      go_meet
      case rel => exact unhide HS
  case rest =>
    obtain ⟨w2, hw2⟩ : ∃ w2, w2 = wc := ⟨_, rfl⟩
    rw [← hw2] at hcut ⊢
    clear hw2
    obtain ⟨v1, hd1, ha1, hf1, hs1⟩ := hcut
    have hx1 : w2.heap[W.heap.size]? = some (.cells #[.int .i64 ka, .int .i64 kb, .int .i64 kc] 58 (0, 0)) := (hf1.block _ hltk (unhide HNF)).trans (unhide HX0)
    obtain ⟨qo, qc, hqv, hqb, hqc, hqm⟩ := row_form ha1.rows.q
    have HOQ := hide (hqv ▸ ha1.rows.q : w2.ownsRow 0 158 4 (.slice qo R1.queue.length qc) R1.queue.length (R1.queue.flatMap ruC))
    have c19 := ha1.cell 19
    have f19 := ha1.free 19
    have k0 := cell_at hx1 0
    have k1 := cell_at hx1 1
    have k2 := cell_at hx1 2
    have hl2 := ha1.ltb
    have hlk2 := lt_blk hx1
    simp only [refC, List.getElem?_toArray, List.getElem?_cons_zero, List.getElem?_cons_succ, hqv] at c19 k0 k1 k2
    have HA1 := hide ha1
    have HF1 := hide hf1
    have HS1 := hide hs1
    have HD1 := hide hd1
    have HQB := hide hqb
    have HR1 := hide hR1
    clear ha1 hf1 hs1 hd1 hx1 hqb hR1 HX0 H0 hqv hev hw1 c22 c23 f22 f23
    obtain ⟨Q, hQ⟩ : ∃ Q, Q = R1.queue := ⟨_, rfl⟩
    rw [← hQ] at hq1 HOQ c19 HQB hqc
    have HQ := hide hQ
    clear hQ
    go_wp2_with fail
    go_loopw [5, 6] (fun q i wr => ∃ k : Nat, i = .int .i64 k ∧ k ≤ Q.length ∧ Fi ruC 158 4 w2 wr q ((Q.take k).filter (fun u => !(u.k.id == ka)))) (fun _ i _ => Q.length - (Go.RowKit.intOf i).toNat)
    case atStart => exact ⟨0, by go_num, by omega, by simpa using Fi.nil _ _ _ (Below.refl _ _)⟩
    case round =>
      obtain ⟨k, rfl, hk, hfi⟩ := hrel
      have hbw := hfi.below
      have e19 := (hbw.cell (p := ⟨b, 19, none⟩) hl2).trans c19
      have e0 := (hbw.cell (p := ⟨W.heap.size, 0, none⟩) hlk2).trans k0
      have e1 := (hbw.cell (p := ⟨W.heap.size, 1, none⟩) hlk2).trans k1
      have e2 := (hbw.cell (p := ⟨W.heap.size, 2, none⟩) hlk2).trans k2
      have hwz := hbw.size
      obtain ⟨ro, rc, hrv, _⟩ := row_form hfi.own
      subst hrv
      have HFI := hide hfi
      have hfl : ((Q.take k).filter (fun u => !(u.k.id == ka))).length ≤ Q.length := Nat.le_trans (List.length_filter_le _ _) (by simp; omega)
      by_cases hlt2 : k < Q.length
      · obtain ⟨g, hg, hgl⟩ := unhide HQB (by omega)
        subst hg
        have hcell : ∀ j, j < 4 → wr.cell? ⟨g, k * 4 + j, none⟩ = (ruC Q[k])[j]? := fun j hj => (hbw.cell (p := ⟨g, k * 4 + j, none⟩) hgl).trans (row_cell ruC 4 (fun _ => rfl) (unhide HOQ) k hlt2 j hj)
        have q0 := hcell 0 (by omega)
        have q1 := hcell 1 (by omega)
        have q2 := hcell 2 (by omega)
        have q3 := hcell 3 (by omega)
        simp only [ruC, List.getElem?_cons_zero, List.getElem?_cons_succ, Nat.add_zero] at q0 q1 q2 q3
        have htf := take_filter (fun u : RU => !(u.k.id == ka)) Q k hlt2
        generalize Q[k] = U at q0 q1 q2 q3 htf
        obtain ⟨⟨ua, ub, uc⟩, us⟩ := U
        have hki : (k : Int) < (Q.length : Int) := by omega
        have HTF := hide htf
        clear hfi hbw hcell htf
        by_cases hid : ua = ka
        · have hne : (ua == ka) = true := by simp [hid]
          go_wp2
          go_quiet (fail)
          go_wp2
          go_roundw
          case rel => exact ⟨k + 1, by go_num, by omega, by rw [unhide HTF]; simpa [hid] using (unhide HFI).mono (bdrewN (Below.refl _ _) _)⟩
          case measure => simp [Go.RowKit.intOf]; omega
        · have hne : (ua == ka) = false := by simp [hid]
          go_wp2
          go_quiet (fail)
          go_wp2_with (at_builtin; refine wpList_app rfl _ _ rfl etyU w2.heap.size rfl rfl (own_below (unhide HFI).own (bdrewN ((Below.refl _ _).alloc (Nat.le_refl _) _) _)) (Src.box (cs := ruC ⟨⟨ua, ub, uc⟩, us⟩) 4 1 1 (heap_alloc_new wr _) (by rfl)) (ru_one _) (by omega) (by simp; omega) ?_)
          intro v' w3 ho3 hg3 _
          have hfi3 := (unhide HFI).push (bdrewN ((Below.refl _ _).alloc (Nat.le_refl _) _) _) hg3 [⟨⟨ua, ub, uc⟩, us⟩] (by simpa using ho3)
          have HFI3 := hide hfi3
          clear ho3 hg3 hfi3
          go_wp2
          go_roundw
          case rel => exact ⟨k + 1, by go_num, by omega, by rw [unhide HTF]; simpa [hid] using unhide HFI3⟩
          case measure => simp [Go.RowKit.intOf]; omega
      · have hke : k = Q.length := by omega
        subst hke
        have f19' := (hbw.frozen (p := ⟨b, 19, none⟩) hl2).trans f19
        clear hfi hbw
        go_wp2_with (at_builtin; refine wpList_app rfl _ _ rfl etyU w2.heap.size rfl rfl (own_below (unhide HFI).own ((Below.refl _ _).alloc (Nat.le_refl _) _)) (Src.box (cs := ruC ⟨⟨ka, kb, kc⟩, 0⟩) 4 1 1 (heap_alloc_new wr _) (by rfl)) (ru_one _) (by omega) (by simp; omega) ?_)
        intro v' w3 ho3 hg3 _
        rw [List.take_length] at HFI
        have hfi3 := (unhide HFI).push ((Below.refl _ _).alloc (Nat.le_refl _) _) hg3 [⟨⟨ka, kb, kc⟩, 0⟩] (by simpa using ho3)
        have e19 := (hfi3.below.cell (p := ⟨b, 19, none⟩) hl2).trans c19
        have g19 := (hfi3.below.frozen (p := ⟨b, 19, none⟩) hl2).trans f19
        obtain ⟨ao', cap', hv'⟩ := own_form ho3
        subst hv'
        have HS3 := hide (RTo.from (unhide HB0) (RTo.trans (unhide HD1) (unhide HF1) (unhide HS1) ((unhide HA1).setQ (l := Q.filter (fun u => !(u.k.id == ka)) ++ [⟨⟨ka, kb, kc⟩, 0⟩]) (Frm.of_below hfi3.below (Nat.le_refl _)) (fun g hg => .inr (own_lt hfi3.own hg).1) (own_base0 hfi3.own))))
        clear ho3 hg3 hfi3
        go_wp2
        go_end0
        rw [← unhide HQ]
        exact ⟨rfl, unhide HS3⟩
end Go.Proofs.YtnneljcbelgoeaaGreatDoor.wire
/- The document's node: greater, next, draw, own, Leave. -/
namespace Go.Proofs.YtnneljcbelgoeaaGreatDoor.wire
open Go.RowKit Go.Maps

set_option maxHeartbeats 1000000 in
theorem rgreater_any (a b : K3) (w : World) : Calls Tryz.prog 105 #[kval a, kval b] w fun e w' => e = .returned (.bool (greaterB a b)) ∧ Below w.heap.size w w' := by
  obtain ⟨a1, a2, a3⟩ := a
  obtain ⟨b1, b2, b3⟩ := b
  have hc : (b2 < a2 ∧ greaterB ⟨a1, a2, a3⟩ ⟨b1, b2, b3⟩ = true) ∨ (¬ b2 < a2 ∧ (a2 == b2) = false ∧ greaterB ⟨a1, a2, a3⟩ ⟨b1, b2, b3⟩ = false) ∨ (a2 = b2 ∧ greaterB ⟨a1, a2, a3⟩ ⟨b1, b2, b3⟩ = decide (b3 < a3)) := by
    by_cases h1 : b2 < a2
    · exact .inl ⟨h1, by simp only [greaterB]; rw [if_neg (by omega)]; simpa using h1⟩
    · by_cases h2 : a2 = b2
      · exact .inr (.inr ⟨h2, by simp only [greaterB]; rw [if_pos h2]⟩)
      · exact .inr (.inl ⟨h1, by simpa using h2, by simp only [greaterB]; rw [if_neg h2]; simpa using h1⟩)
  generalize greaterB ⟨a1, a2, a3⟩ ⟨b1, b2, b3⟩ = G at hc
  have hb : ∀ o1 o2, Below w.heap.size w ((w.alloc o1).alloc o2) := fun o1 o2 => ((Below.refl _ _).alloc (Nat.le_refl _) _).alloc (by simp) _
  simp only [kval]
  rcases hc with ⟨h1, rfl⟩ | ⟨h1, h2, rfl⟩ | ⟨rfl, rfl⟩
  · go_enter Tryz.func105, Tryz.ntmps105
    go_wp2
    go_ret
    exact ⟨rfl, hb _ _⟩
  · go_enter Tryz.func105, Tryz.ntmps105
    go_wp2
    go_ret
    exact ⟨rfl, hb _ _⟩
  · have h1 : ¬ a2 < a2 := by omega
    go_enter Tryz.func105, Tryz.ntmps105
    go_wp2
    go_ret
    exact ⟨rfl, hb _ _⟩
theorem frm_own (W : World) (b : Nat) (v : Rv) {j : Nat} (u : Value) : Frm (rfeet b v) W (W.setCell ⟨b, j, none⟩ u) := (Frm.refl _ W).trans (frm_set W b j u) (by simp [rfeet])
set_option maxHeartbeats 1000000 in
theorem rnext_any {W : World} {b : Nat} {v : Rv} {r : Rn} (h : RAt W b v r) (hs : 0 ≤ r.seq ∧ r.seq ≤ 1000000000000) :
    Calls Tryz.prog 61 #[.pointer (some ⟨b, 0, none⟩)] W fun e w' => e = .returned (.int .i64 (r.seq + 1)) ∧ RTo W w' b v { r with seq := r.seq + 1 } := by
  have c9 := h.cell 9
  have f9 := h.free 9
  have hlt := h.ltb
  simp only [refC, List.getElem?_toArray, List.getElem?_cons_zero, List.getElem?_cons_succ] at c9
  have HS := hide (h.set 9 (.int .i64 (r.seq + 1)) (r' := { r with seq := r.seq + 1 }) rfl).2
  clear h
  go_enter Tryz.func61, Tryz.ntmps61
  go_wp2
  go_ret
  exact ⟨rfl, unhide HS⟩
set_option maxHeartbeats 1000000 in
set_option maxRecDepth 100000 in
theorem rdraw_any {W : World} {b : Nat} {v : Rv} {r : Rn} (h : RAt W b v r) (hdl : DlOk r.draws) (hd : r.drawn ≤ 1000000000000) (n : Int) (hn0 : 1 ≤ n) (hn1 : n ≤ 1000000) :
    Calls Tryz.prog 107 #[.pointer (some ⟨b, 0, none⟩), .int .i64 n] W fun e w' => e = .returned (.int .i64 (r.draw n).1) ∧ RTo W w' b v (r.draw n).2 := by
  have c6 := h.cell 6
  have c7 := h.cell 7
  have f7 := h.free 7
  have hlt := h.ltb
  simp only [refC, List.getElem?_toArray, List.getElem?_cons_zero, List.getElem?_cons_succ] at c6 c7
  have hl := hdl.len
  rcases h.rows.d with ⟨hv, hl0⟩ | ⟨g, off, cap, cs, hv, hg, hcap, hcm, hcs⟩
  · rw [hv] at c6
    have e1 : r.draw n = (0, r) := by simp [Rn.draw, hl0]
    rw [e1]
    have HS := hide (RTo.same h (Below.refl _ _))
    clear h hdl
    go_enter Tryz.func107, Tryz.ntmps107
    go_wp2
    go_ret
    exact ⟨rfl, unhide HS⟩
  · rw [hv] at c6
    by_cases h0 : r.draws.length = 0
    · rw [h0] at c6
      have e1 : r.draw n = (0, r) := by simp [Rn.draw, h0]
      rw [e1]
      have HS := hide (RTo.same h (Below.refl _ _))
      clear h hdl
      go_enter Tryz.func107, Tryz.ntmps107
      go_wp2
      go_ret
      exact ⟨rfl, unhide HS⟩
    · have e1 : r.draw n = (drawZ r.draws r.drawn n, { r with drawn := r.drawn + 1 }) := by simp [Rn.draw, h0]
      rw [e1]
      have hmod : r.drawn % r.draws.length < r.draws.length := Nat.mod_lt _ (by omega)
      have hcell : W.cell? ⟨g, off + r.drawn % r.draws.length, none⟩ = some (.int .i64 (r.draws.getD (r.drawn % r.draws.length) 0)) := by
        rw [cell_at hg, hcs _ hmod, List.getD_eq_getElem?_getD, List.getElem?_eq_getElem hmod, Option.getD_some]
      have hr := hdl.rng _ (List.getElem_mem hmod)
      have hgd : r.draws.getD (r.drawn % r.draws.length) 0 = r.draws[r.drawn % r.draws.length] := by rw [List.getD_eq_getElem?_getD, List.getElem?_eq_getElem hmod, Option.getD_some]
      have hs : ∀ q, RTo W ((W.drewN q).setCell ⟨b, 7, none⟩ (.int .i64 ((r.drawn : Int) + 1))) b v { r with drawn := r.drawn + 1 } := fun q => RTo.from (bdrewN (Below.refl _ _) q) ((h.drewN q).set 7 (.int .i64 ((r.drawn : Int) + 1)) (r' := { r with drawn := r.drawn + 1 }) (by simp [refC])).2
      have HS := hide hs
      clear hs
      have hdz : drawZ r.draws r.drawn n = (if r.draws.getD (r.drawn % r.draws.length) 0 < 0 then -(r.draws.getD (r.drawn % r.draws.length) 0 + 1) else r.draws.getD (r.drawn % r.draws.length) 0).tmod n := rfl
      rw [hdz]
      rw [← hgd] at hr
      generalize r.draws.getD (r.drawn % r.draws.length) 0 = z at hcell hr ⊢
      have htm : ((r.drawn : Int).tmod (r.draws.length : Int)) = ((r.drawn % r.draws.length : Nat) : Int) := by
        rw [Int.tmod_eq_emod_of_nonneg (by omega)]; simp
      have hlen0 : ((r.draws.length : Int) == 0) = false := by rw [beq_eq_false_iff_ne]; omega
      have hnz : (n == 0) = false := by simp; omega
      have hmi : ((r.drawn % r.draws.length : Nat) : Int) < (r.draws.length : Int) := Int.ofNat_lt.2 hmod
      have hgl := lt_blk hg
      generalize r.drawn % r.draws.length = M at hcell htm hmi hmod
      clear h hdl hg hdz hgd hcs hv
      by_cases hz : z < 0
      all_goals
        go_enter Tryz.func107, Tryz.ntmps107
        go_wp2
        go_quiet (fail)
        go_wp2
        go_ret
      · exact ⟨rfl, (unhide HS) _⟩
      · exact ⟨by rw [Int.tmod_eq_emod_of_nonneg (by omega)]; rfl, (unhide HS) _⟩
set_option maxHeartbeats 1000000 in
set_option maxRecDepth 100000 in
theorem rown_any {W : World} {b : Nat} {v : Rv} {r : Rn} (h : RAt W b v r) (he : r.evs.length ≤ 8) (hq : r.queue.length ≤ 1000) (hl : 0 ≤ r.lost ∧ r.lost ≤ 1000000000000) (k : K3) (hk : 1 ≤ k.inc ∧ k.inc ≤ 1073741824) :
    Calls Tryz.prog 103 #[.pointer (some ⟨b, 0, none⟩), kval k] W fun e w' => e = .returned (.tuple #[]) ∧ RTo W w' b v (r.own k) := by
  obtain ⟨ka, kb, kc⟩ := k
  simp only at hk
  have h0 := h.alloc (.cells #[.int .i64 ka, .int .i64 kb, .int .i64 kc] 58)
  have hb0 := (Below.refl W.heap.size W).alloc (Nat.le_refl _) (.cells #[.int .i64 ka, .int .i64 kb, .int .i64 kc] 58)
  have hx0 : (W.alloc (.cells #[.int .i64 ka, .int .i64 kb, .int .i64 kc] 58)).heap[W.heap.size]? = some (.cells #[.int .i64 ka, .int .i64 kb, .int .i64 kc] 58 (0, 0)) := heap_alloc_new W _
  generalize hw1 : W.alloc (.cells #[.int .i64 ka, .int .i64 kb, .int .i64 kc] 58) = w1 at h0 hb0 hx0
  have c10 := h0.cell 10
  have c11 := h0.cell 11
  have c12 := h0.cell 12
  have f11 := h0.free 11
  have hlt := h0.ltb
  have k0 := cell_at hx0 0
  have k1 := cell_at hx0 1
  have k2 := cell_at hx0 2
  have hltk := lt_blk hx0
  have hne : W.heap.size ≠ b := by have := h.ltb; omega
  simp only [refC, List.getElem?_toArray, List.getElem?_cons_zero, List.getElem?_cons_succ] at c10 c11 c12 k0 k1 k2
  have H0 := hide h0
  have HB0 := hide hb0
  have hco : r.own ⟨ka, kb, kc⟩ = if decide (r.self.st = 4) || (decide (kc = 1) || (decide (kb < r.self.inc) || decide (kb = 1073741824))) then r else ({ r with self := ⟨r.self.id, kb + 1, r.self.st⟩ } : Rn).changed ⟨r.self.id, kb + 1, r.self.st⟩ := rfl
  rw [hco]
  clear hco h h0 hb0 hx0
  by_cases a1 : r.self.st = 4
  · rw [if_pos (by simp [a1])]
    have b1 : (r.self.st == 4) = true := by simp [a1]
    go_enter Tryz.func103, Tryz.ntmps103
    go_wp2
    go_quiet (fail)
    go_wp2
    refine bodyPost_ret (results_none rfl _ _ _) rfl ?_
    exact ⟨rfl, RTo.from (unhide HB0) (RTo.same (unhide H0) (bdrewN (Below.refl _ _) _))⟩
  have b1 : (r.self.st == 4) = false := by simp [a1]
  by_cases a2 : kc = 1
  · rw [if_pos (by simp [a2])]
    subst a2
    have b2 : ((1 : Int) == 1) = true := rfl
    go_enter Tryz.func103, Tryz.ntmps103
    go_wp2
    go_quiet (fail)
    go_wp2
    refine bodyPost_ret (results_none rfl _ _ _) rfl ?_
    exact ⟨rfl, RTo.from (unhide HB0) (RTo.same (unhide H0) (bdrewN (Below.refl _ _) _))⟩
  have b2 : (kc == 1) = false := by simp [a2]
  by_cases a3 : kb < r.self.inc
  · rw [if_pos (by simp [a3])]
    have b3 : decide (kb < r.self.inc) = true := by simp [a3]
    go_enter Tryz.func103, Tryz.ntmps103
    go_wp2
    go_quiet (fail)
    go_wp2
    refine bodyPost_ret (results_none rfl _ _ _) rfl ?_
    exact ⟨rfl, RTo.from (unhide HB0) (RTo.same (unhide H0) (bdrewN (Below.refl _ _) _))⟩
  have b3 : decide (kb < r.self.inc) = false := by simpa using a3
  by_cases a4 : kb = 1073741824
  · rw [if_pos (by simp [a4])]
    subst a4
    go_enter Tryz.func103, Tryz.ntmps103
    go_wp2
    go_quiet (fail)
    go_wp2
    refine bodyPost_ret (results_none rfl _ _ _) rfl ?_
    exact ⟨rfl, RTo.from (unhide HB0) (RTo.same (unhide H0) (bdrewN (Below.refl _ _) _))⟩
  have b4 : (kb == 1073741824) = false := by simp [a4]
  rw [if_neg (by simp [a1, a2, a4]; omega)]
  have HS := hide (fun q => ((unhide H0).drewN q).set 11 (.int .i64 (kb + 1)) (r' := { r with self := ⟨r.self.id, kb + 1, r.self.st⟩ }) rfl)
  clear H0
  go_enter Tryz.func103, Tryz.ntmps103
  go_wp2
  go_quiet (fail)
  go_wp2_with fail
  refine (rchanged_any (unhide HS _).1 he hq hl ⟨r.self.id, kb + 1, r.self.st⟩).mono ?_
  rintro e w2 ⟨rfl, h2⟩
  have HT := hide (RTo.from (unhide HB0) (RTo.from (bdrewN (Below.refl _ _) _) (RTo.trans rfl (frm_own _ _ _ _) (fun _ hk => .inl hk) h2)))
  clear h2 HS
  go_wp2
  go_end0
  exact ⟨rfl, unhide HT⟩
theorem rleave_any {W : World} {b : Nat} {v : Rv} {r : Rn} (h : RAt W b v r) (he : r.evs.length ≤ 8) (hq : r.queue.length ≤ 1000) (hl : 0 ≤ r.lost ∧ r.lost ≤ 1000000000000) :
    Calls Tryz.prog 40 #[.pointer (some ⟨b, 0, none⟩)] W fun e w' => e = .returned (.int .i64 (if r.self.st = 4 then 4 else 0)) ∧ RTo W w' b v (if r.self.st = 4 then r else r.leave) := by
  have c10 := h.cell 10
  have c11 := h.cell 11
  have c12 := h.cell 12
  have f12 := h.free 12
  have hlt := h.ltb
  simp only [refC, List.getElem?_toArray, List.getElem?_cons_zero, List.getElem?_cons_succ] at c10 c11 c12
  have H0 := hide h
  clear h
  by_cases a1 : r.self.st = 4
  · rw [if_pos a1, if_pos a1]
    have b1 : (r.self.st == 4) = true := by simp [a1]
    go_enter Tryz.func40, Tryz.ntmps40
    go_wp2
    go_ret
    exact ⟨rfl, RTo.same (unhide H0) (Below.refl _ _)⟩
  · rw [if_neg a1, if_neg a1]
    have b1 : (r.self.st == 4) = false := by simp [a1]
    have HS := hide ((unhide H0).set 12 (.int .i64 4) (r' := { r with self := ⟨r.self.id, r.self.inc, 4⟩ }) rfl)
    clear H0
    go_enter Tryz.func40, Tryz.ntmps40
    go_wp2_with fail
    refine (rchanged_any (unhide HS).1 he hq hl ⟨r.self.id, r.self.inc, 4⟩).mono ?_
    rintro e w2 ⟨rfl, h2⟩
    have HT := hide (RTo.trans rfl (frm_own W b v _) (fun _ hk => .inl hk) h2)
    clear h2 HS
    go_wp2
    go_ret
    exact ⟨rfl, unhide HT⟩
end Go.Proofs.YtnneljcbelgoeaaGreatDoor.wire
/- The document's node: find. -/
namespace Go.Proofs.YtnneljcbelgoeaaGreatDoor.wire
open Go.RowKit Go.Maps

/-- Where one stands among the others, or would. -/
def posR (n : Int) (l : List RM) : Nat := (l.takeWhile (fun m => decide (m.k.id < n))).length
def thereR (n : Int) (l : List RM) : Bool := (findR n l).isSome
theorem posR_at (n : Int) : ∀ (l : List RM) (k : Nat) (h : k < l.length), (∀ j (hj : j < k), (l[j]'(by omega)).k.id < n) → ¬ l[k].k.id < n → posR n l = k
  | a :: r, 0, _, _, h2 => by
    have : ¬ a.k.id < n := h2
    simp [posR, this]
  | a :: r, k + 1, h, h1, h2 => by
    have ha : a.k.id < n := h1 0 (by omega)
    have ih := posR_at n r k (by simpa using h) (fun j hj => h1 (j + 1) (by omega)) h2
    unfold posR at ih ⊢
    rw [List.takeWhile_cons, if_pos (by simpa using ha), List.length_cons, ih]
theorem posR_end (n : Int) : ∀ (l : List RM), (∀ j (hj : j < l.length), l[j].k.id < n) → posR n l = l.length
  | [], _ => rfl
  | a :: r, h => by
    have ha : a.k.id < n := h 0 (by simp)
    have ih := posR_end n r (fun j hj => h (j + 1) (by simpa using hj))
    unfold posR at ih ⊢
    rw [List.takeWhile_cons, if_pos (by simpa using ha), List.length_cons, List.length_cons, ih]
/-- The others rise. -/
abbrev RiseR (l : List RM) : Prop := l.Pairwise (fun a b => a.k.id < b.k.id)
theorem there_at {n : Int} {l : List RM} (hr : RiseR l) (k : Nat) (h : k < l.length) (h1 : ∀ j (hj : j < k), (l[j]'(by omega)).k.id < n) (h2 : ¬ l[k].k.id < n) : thereR n l = decide (l[k].k.id = n) := by
  by_cases e : l[k].k.id = n
  · rw [decide_eq_true e]
    unfold thereR findR
    rw [List.find?_isSome]
    exact ⟨l[k], List.getElem_mem h, by simpa using e⟩
  · rw [decide_eq_false e]
    unfold thereR findR
    rw [Bool.eq_false_iff]
    intro hs
    rw [List.find?_isSome] at hs
    obtain ⟨m, hm, he⟩ := hs
    obtain ⟨j, hj, rfl⟩ := List.getElem_of_mem hm
    have he' : l[j].k.id = n := by simpa using he
    rcases Nat.lt_trichotomy j k with hjk | hjk | hjk
    · have := h1 j hjk; omega
    · subst hjk; exact e he'
    · have := List.pairwise_iff_getElem.1 hr k j h hj hjk; omega
theorem there_end {n : Int} {l : List RM} (h1 : ∀ j (hj : j < l.length), l[j].k.id < n) : thereR n l = false := by
  unfold thereR findR
  rw [Bool.eq_false_iff]
  intro hs
  rw [List.find?_isSome] at hs
  obtain ⟨m, hm, he⟩ := hs
  obtain ⟨j, hj, rfl⟩ := List.getElem_of_mem hm
  have he' : l[j].k.id = n := by simpa using he
  have := h1 j hj
  omega
set_option maxHeartbeats 2000000 in
set_option maxRecDepth 100000 in
theorem rfind_any {W : World} {b : Nat} {v : Rv} {r : Rn} (h : RAt W b v r) (hr : RiseR r.others) (hl : r.others.length ≤ 1000) (n : Int) :
    Calls Tryz.prog 104 #[.pointer (some ⟨b, 0, none⟩), .int .i64 n] W fun e w' => e = .returned (.tuple #[.int .i64 (posR n r.others), .bool (thereR n r.others)]) ∧ Below W.heap.size W w' := by
  obtain ⟨ao, cap, ev, hao, hc1, hc2⟩ := row_form h.rows.o
  have hrow := h.rows.o
  rw [ev] at hrow
  have c13 := h.cell 13
  simp only [refC, List.getElem?_toArray, List.getElem?_cons_zero, List.getElem?_cons_succ, ev] at c13
  have hblt := h.ltb
  have HROW := hide hrow
  have HAO := hide hao
  have HRR := hide hr
  generalize r.others = L at c13 HROW HAO HRR hl hc1
  clear h hrow hao hr ev
  go_enter Tryz.func104, Tryz.ntmps104
  go_wp2
  go_loopw [6] (fun i wr => ∃ k : Nat, i = .int .i64 k ∧ k ≤ L.length ∧ wr = W ∧ Hid (∀ j (hj : j < L.length), j < k → L[j].k.id < n)) (fun i _ => L.length - (Go.RowKit.intOf i).toNat)
  case atStart => exact ⟨0, by go_num, by omega, rfl, fun j _ hj => absurd hj (by omega)⟩
  case round =>
    obtain ⟨k, rfl, hk, hww, HLE⟩ := hrel
    subst hww
    by_cases hlt : k < L.length
    · have hlt' : (k : Int) < (L.length : Int) := by omega
      obtain ⟨g, hao, hg⟩ := unhide HAO (by omega)
      subst hao
      have d0 := row_cell rmC 4 (fun _ => rfl) (unhide HROW) k hlt 0 (by omega)
      simp only [rmC, List.getElem?_cons_zero, Nat.add_zero] at d0
      by_cases hge : L[k].k.id < n
      · have hge' : ¬ n ≤ L[k].k.id := by omega
        have HLE2 : Hid (∀ j (hj : j < L.length), j < k + 1 → L[j].k.id < n) := hide (fun j hj hj2 => by
          by_cases e : j = k
          · subst e; exact hge
          · exact unhide HLE j hj (by omega))
        go_wp2
        go_roundw
        case rel => exact ⟨k + 1, by go_num, by omega, trivial, HLE2⟩
        case measure => simp [Go.RowKit.intOf]; omega
      · have hge' : n ≤ L[k].k.id := by omega
        have hp := posR_at n L k hlt (fun j hj => unhide HLE j (by omega) hj) hge
        have ht := there_at (unhide HRR) k hlt (fun j hj => unhide HLE j (by omega) hj) hge
        have HP := hide hp
        have HT := hide ht
        clear hp ht
        go_wp2
        go_quiet (fail)
        go_wp2
        go_ret2
        rw [unhide HP, unhide HT]
        exact ⟨rfl, bdrewN (Below.refl _ _) _⟩
    · have hke : k = L.length := by omega
      have hp := posR_end n L (fun j hj => unhide HLE j hj (by omega))
      have ht := there_end (n := n) (l := L) (fun j hj => unhide HLE j hj (by omega))
      have HP := hide hp
      have HT := hide ht
      clear hp ht
      go_wp2
      go_ret2
      rw [unhide HP, unhide HT]
      exact ⟨rfl, Below.refl _ _⟩
end Go.Proofs.YtnneljcbelgoeaaGreatDoor.wire
/- The document's node: its table is written. -/
namespace Go.Proofs.YtnneljcbelgoeaaGreatDoor.wire
open Go.RowKit Go.Maps

/-- A cut from the k-th on, at a plain region's list. -/
theorem wpList_tail {P : Program} {w : World} {ops : Array Oper} {rest : List Oper} {o : Oper} {a : Act} {Q : Exit → Act → World → Prop} (hgd : o.guard = none) (x lo : Operand) {t : TypeId} (ho : o.op = .slice t x (some lo) none none)
    {e : TypeId} {size bytes : Nat} (he : Ety P t e size bytes) {base : Nat} {ao : Option Addr} {n cap : Nat} {xs : List Value} (k : Nat) (hx : a.eval x = .slice ao n cap) (hlo : a.eval lo = .int .i64 k) (hown : w.ownsRow base e size (.slice ao n cap) n xs) (hk : k ≤ n)
    (h : ∀ v', Src w size v' (n - k) (xs.drop (k * size)) → wpList P ops Q rest (a.put o.dst v') w) : wpList P ops Q (o :: rest) a w := by
  refine wpList_plain hgd fun K hK => ?_
  obtain ⟨i, z, ht, hi, hz, hsize, hby, hzs, hsz⟩ := he.ex
  have hel : P.elem t = e := by simp [Program.elem, ht]
  have ht' : P.underlying t = some (.slice (P.elem t)) := by rw [hel]; exact ht
  have hrun : (Instr.sliceAt t (.slice ao n cap) (some (.int .i64 k)) none none).run P w = .ok (sliced ao k n cap size) w := by
    rw [run_sliceAt_slice w t _ _ _ _ ht', run_slice_l w t ao n cap ht' .i64 k (by omega) (by omega)]
    simp [hel, sizeOf, typeInfo, hi, hsize, Result.andThen]
  unfold Oper.wp
  simp [execOp, ho, hx, hlo, hrun, Result.andThen]
  exact hK _ _ (h _ (Src.drop hown k hk))
theorem row_set {α : Type} (f : α → List Value) (s : Nat) (hf : ∀ a, (f a).length = s) : ∀ (l : List α) (i : Nat) (h : i < l.length) (j : Nat) (_ : j < s) (u : Value) (m : α) (_ : f m = (f l[i]).set j u), (l.flatMap f).set (i * s + j) u = (l.set i m).flatMap f
  | a :: r, 0, _, j, hj, u, m, hm => by
    rw [List.flatMap_cons, Nat.zero_mul, Nat.zero_add, List.set_append_left _ _ (by rw [hf]; exact hj), List.set_cons_zero, List.flatMap_cons, hm]; rfl
  | a :: r, i + 1, h, j, hj, u, m, hm => by
    have ih := row_set f s hf r i (by simpa using h) j hj u m hm
    rw [List.flatMap_cons, List.set_append_right _ _ (by rw [hf, Nat.add_mul]; omega), List.set_cons_succ, List.flatMap_cons, ← ih, hf]
    congr 2
    rw [Nat.add_mul]; omega
/-- A cell of the table is written. -/
theorem RAt.putO {W : World} {b : Nat} {v : Rv} {r : Rn} (h : RAt W b v r) {g n cap : Nat} (hv : v.o = .slice (some ⟨g, 0, none⟩) n cap) (i j : Nat) (hi : i < r.others.length) (hj : j < 4) (u : Value) (m : RM) (hm : rmC m = (rmC r.others[i]).set j u) :
    RAt (W.setCell ⟨g, i * 4 + j, none⟩ u) b v { r with others := r.others.set i m } := by
  have hn : n = r.others.length := by
    obtain ⟨ao, cap', e, _⟩ := row_form h.rows.o
    rw [hv] at e
    cases e; rfl
  subst hn
  have ho := h.rows.o
  rw [hv] at ho
  obtain ⟨h1, h2⟩ := ho.stored (i * 4 + j) u
  rw [row_set rmC 4 (fun _ => rfl) r.others i hi j hj u m hm] at h1
  have hf : Frm v.o.ownBlock.toList W (W.setCell ⟨g, i * 4 + j, none⟩ u) := Frm.of_grown h2 (fun k hk => .inl (by rw [hv]; simpa [Value.ownBlock] using hk.symm))
  have hr := h.rows.setO (u := v.o) hf (l := r.others.set i m) (by rw [List.length_set, hv]; exact h1)
  refine ⟨(hf.block b h.ltb (fun hm => (h.rows.not h.blk).1 (by simp only [Rv.all, List.mem_append]; simp [hm]))).trans h.blk, hr⟩
theorem RAt.putM {W : World} {b : Nat} {v : Rv} {r : Rn} (h : RAt W b v r) {g n cap : Nat} (hv : v.o = .slice (some ⟨g, 0, none⟩) n cap) (i : Nat) (hi : i < r.others.length) (m : RM) :
    RAt ((((W.setCell ⟨g, i * 4, none⟩ (.int .i64 m.k.id)).setCell ⟨g, i * 4 + 1, none⟩ (.int .i64 m.k.inc)).setCell ⟨g, i * 4 + 2, none⟩ (.int .i64 m.k.st)).setCell ⟨g, i * 4 + 3, none⟩ (.int .i64 m.due)) b v { r with others := r.others.set i m } := by
  obtain ⟨⟨ma, mb, mc⟩, md⟩ := m
  have h0 := h.putO hv i 0 hi (by omega) (.int .i64 ma) ⟨⟨ma, r.others[i].k.inc, r.others[i].k.st⟩, r.others[i].due⟩ rfl
  have h1 := h0.putO hv i 1 (by simpa using hi) (by omega) (.int .i64 mb) ⟨⟨ma, mb, r.others[i].k.st⟩, r.others[i].due⟩ (by simp [rmC])
  have h2 := h1.putO hv i 2 (by simpa using hi) (by omega) (.int .i64 mc) ⟨⟨ma, mb, mc⟩, r.others[i].due⟩ (by simp [rmC])
  have h3 := h2.putO hv i 3 (by simpa using hi) (by omega) (.int .i64 md) ⟨⟨ma, mb, mc⟩, md⟩ (by simp [rmC])
  simpa using h3
theorem frm_setO' (W : World) (b : Nat) {v : Rv} {g n cap : Nat} (hv : v.o = .slice (some ⟨g, 0, none⟩) n cap) (j : Nat) (u : Value) : Frm (rfeet b v) W (W.setCell ⟨g, j, none⟩ u) :=
  (Frm.refl _ W).trans (frm_set W g j u) (by simp [rfeet, Rv.all, hv, Value.ownBlock])
theorem RAt.putM_to {W : World} {b : Nat} {v : Rv} {r : Rn} (h : RAt W b v r) {g n cap : Nat} (hv : v.o = .slice (some ⟨g, 0, none⟩) n cap) (i : Nat) (hi : i < r.others.length) (m : RM) :
    RTo W ((((W.setCell ⟨g, i * 4, none⟩ (.int .i64 m.k.id)).setCell ⟨g, i * 4 + 1, none⟩ (.int .i64 m.k.inc)).setCell ⟨g, i * 4 + 2, none⟩ (.int .i64 m.k.st)).setCell ⟨g, i * 4 + 3, none⟩ (.int .i64 m.due)) b v { r with others := r.others.set i m } :=
  ⟨v, rfl, h.putM hv i hi m, (((frm_setO' W b hv _ _).trans (frm_setO' _ b hv _ _) (fun _ hk => .inl hk)).trans (frm_setO' _ b hv _ _) (fun _ hk => .inl hk)).trans (frm_setO' _ b hv _ _) (fun _ hk => .inl hk), fun _ hk => .inl hk⟩
theorem RAt.putD_to {W : World} {b : Nat} {v : Rv} {r : Rn} (h : RAt W b v r) {g n cap : Nat} (hv : v.o = .slice (some ⟨g, 0, none⟩) n cap) (i : Nat) (hi : i < r.others.length) (d : Int) :
    RTo W (W.setCell ⟨g, i * 4 + 3, none⟩ (.int .i64 d)) b v { r with others := r.others.set i ⟨r.others[i].k, d⟩ } :=
  ⟨v, rfl, h.putO hv i 3 hi (by omega) (.int .i64 d) ⟨r.others[i].k, d⟩ (by simp [rmC]), frm_setO' W b hv _ _, fun _ hk => .inl hk⟩
theorem frm_setO {W : World} {b : Nat} {v : Rv} {_r : Rn} {g n cap j : Nat} (hv : v.o = .slice (some ⟨g, 0, none⟩) n cap) (u : Value) : Frm (rfeet b v) W (W.setCell ⟨g, j, none⟩ u) :=
  (Frm.refl _ W).trans (frm_set W g j u) (by simp [rfeet, Rv.all, hv, Value.ownBlock])
/-- What a node of the document keeps to: its numbers are small. -/
structure RBd (r : Rn) : Prop where
  evs : r.evs.length ≤ 8
  queue : r.queue.length ≤ 1000
  lost : 0 ≤ r.lost ∧ r.lost ≤ 1000000000000
  clock : 0 ≤ r.clock ∧ r.clock ≤ 1000000000000
  susp : 0 ≤ r.c.suspect ∧ r.c.suspect ≤ 500
  len : r.others.length ≤ 7
  rise : RiseR r.others
  pass : r.pass.length ≤ 1000
theorem putR_at (m : RM) : ∀ (l : List RM), RiseR l → (hi : posR m.k.id l < l.length) → (l[posR m.k.id l]).k.id = m.k.id → l.set (posR m.k.id l) m = putR m l
  | a :: r, hr, hi, he => by
    obtain ⟨h1, h2⟩ := List.pairwise_cons.1 hr
    by_cases c : a.k.id < m.k.id
    · have e : posR m.k.id (a :: r) = posR m.k.id r + 1 := by simp [posR, c]
      simp only [e] at hi he ⊢
      rw [List.set_cons_succ]
      unfold putR
      rw [if_neg (by omega), if_neg (by omega), putR_at m r h2 (by simpa using hi) (by simpa using he)]
    · have e : posR m.k.id (a :: r) = 0 := by simp [posR, c]
      simp only [e] at hi he ⊢
      simp only [List.getElem_cons_zero] at he
      unfold putR
      rw [List.set_cons_zero, if_neg (by omega), if_pos he.symm]
theorem putR_new (m : RM) : ∀ (l : List RM), RiseR l → thereR m.k.id l = false → l.take (posR m.k.id l) ++ m :: l.drop (posR m.k.id l) = putR m l
  | [], _, _ => by simp [posR, putR]
  | a :: r, hr, he => by
    obtain ⟨h1, h2⟩ := List.pairwise_cons.1 hr
    have hne : a.k.id ≠ m.k.id := fun e => by simp [thereR, findR, e] at he
    by_cases c : a.k.id < m.k.id
    · have e : posR m.k.id (a :: r) = posR m.k.id r + 1 := by simp [posR, c]
      have hr' : thereR m.k.id r = false := by
        have : (a.k.id == m.k.id) = false := by simpa using hne
        simpa [thereR, findR, List.find?_cons, this] using he
      rw [e, List.take_succ_cons, List.drop_succ_cons]
      unfold putR
      rw [if_neg (by omega), if_neg (by omega), ← putR_new m r h2 hr']
      rfl
    · have e : posR m.k.id (a :: r) = 0 := by simp [posR, c]
      rw [e]
      unfold putR
      rw [if_pos (by omega)]
      rfl
theorem posR_le (n : Int) (l : List RM) : posR n l ≤ l.length := by
  unfold posR
  exact (List.takeWhile_sublist _).length_le
/-- Who is there stands at its place. -/
theorem there_pos {n : Int} : ∀ {l : List RM}, RiseR l → thereR n l = true → ∃ h : posR n l < l.length, (l[posR n l]).k.id = n ∧ findR n l = some l[posR n l]
  | [], _, he => by simp [thereR, findR] at he
  | a :: r, hr, he => by
    obtain ⟨h1, h2⟩ := List.pairwise_cons.1 hr
    by_cases c : a.k.id < n
    · have e : posR n (a :: r) = posR n r + 1 := by simp [posR, c]
      have hn : (a.k.id == n) = false := by simp; omega
      have hr' : thereR n r = true := by simpa [thereR, findR, List.find?_cons, hn] using he
      obtain ⟨p, q, s⟩ := there_pos h2 hr'
      refine ⟨by rw [e]; simpa using p, ?_, ?_⟩
      · simp only [e, List.getElem_cons_succ]; exact q
      · simp only [e, List.getElem_cons_succ]
        rw [← s]
        simp [findR, hn]
    · have e : posR n (a :: r) = 0 := by simp [posR, c]
      have hz : a.k.id = n := by
        by_cases e2 : a.k.id = n
        · exact e2
        · exfalso
          unfold thereR findR at he
          rw [List.find?_isSome] at he
          obtain ⟨m, hm, hme⟩ := he
          have hme' : m.k.id = n := by simpa using hme
          rcases List.mem_cons.1 hm with rfl | hm
          · exact e2 hme'
          · have := h1 m hm; omega
      refine ⟨by rw [e]; simp, ?_, ?_⟩
      · simp only [e, List.getElem_cons_zero]; exact hz
      · simp only [e, List.getElem_cons_zero]
        simp [findR, hz]
theorem there_not {n : Int} {l : List RM} (he : thereR n l = false) : findR n l = none := by
  unfold thereR at he
  simpa using he
end Go.Proofs.YtnneljcbelgoeaaGreatDoor.wire
/- The document's node: what rides along: three lists that are being made. -/
namespace Go.Proofs.YtnneljcbelgoeaaGreatDoor.wire
open Go.RowKit Go.Maps

/-- What rides along, who is left, who is to be sent again. -/
structure U3 (W wr : World) (vo vl vs : Value) (O : List K3) (L S : List RU) : Prop where
  o : wr.ownsRow W.heap.size 58 3 vo O.length (O.flatMap keyC)
  l : wr.ownsRow W.heap.size 158 4 vl L.length (L.flatMap ruC)
  s : wr.ownsRow W.heap.size 158 4 vs S.length (S.flatMap ruC)
  sep : ∀ g, vl.ownBlock = some g → vs.ownBlock ≠ some g
  below : Below W.heap.size W wr
theorem U3.mono {W wr w' : World} {vo vl vs : Value} {O : List K3} {L S : List RU} (h : U3 W wr vo vl vs O L S) (hb : Below wr.heap.size wr w') : U3 W w' vo vl vs O L S :=
  ⟨own_below h.o hb, own_below h.l hb, own_below h.s hb, h.sep, h.below.trans (hb.mono h.below.size)⟩
theorem own_grown' {W W' : World} {base : Nat} {e : TypeId} {size : Nat} {v : Value} {n : Nat} {xs : List Value} {row : Option Nat} (h : W.ownsRow base e size v n xs) (hg : W.grownBy W' row) (hne : ∀ g, row = some g → v.ownBlock ≠ some g) : W'.ownsRow base e size v n xs :=
  own_frm h (S := row.toList) (Frm.of_grown hg (fun k hk => .inl (by simp [hk]))) (fun k hk hm => hne k (by simpa using hm) hk)
theorem U3.pushO {W wr w1 w2 : World} {vo vl vs v' : Value} {O : List K3} {L S : List RU} (h : U3 W wr vo vl vs O L S) (hb : Below wr.heap.size wr w1) (hg : w1.grownBy w2 vo.ownBlock) (k : K3) (ho : w2.ownsRow W.heap.size 58 3 v' (O.length + 1) (O.flatMap keyC ++ keyC k)) : U3 W w2 v' vl vs (O ++ [k]) L S := by
  have h1 := h.mono hb
  refine ⟨by simpa using ho, own_grown' h1.l hg (row_apart h1.o h1.l (by decide)), own_grown' h1.s hg (row_apart h1.o h1.s (by decide)), h.sep, h1.below.grown hg h1.below.size (fun k e => (own_lt h1.o e).1)⟩
theorem U3.pushS {W wr w1 w2 : World} {vo vl vs v' : Value} {O : List K3} {L S : List RU} (h : U3 W wr vo vl vs O L S) (hb : Below wr.heap.size wr w1) (hg : w1.grownBy w2 vs.ownBlock) (hat : v'.ownBlock = vs.ownBlock ∨ v'.ownBlock = some w1.heap.size) (u : RU) (ho : w2.ownsRow W.heap.size 158 4 v' (S.length + 1) (S.flatMap ruC ++ ruC u)) : U3 W w2 vo vl v' O L (S ++ [u]) := by
  have h1 := h.mono hb
  refine ⟨own_grown' h1.o hg (row_apart h1.s h1.o (by decide)), own_grown' h1.l hg (fun g e e' => h.sep g e' e), by simpa using ho, fun g e e' => ?_, h1.below.grown hg h1.below.size (fun k e => (own_lt h1.s e).1)⟩
  rcases hat with a | a
  · exact h.sep g e (a ▸ e')
  · rw [a] at e'
    cases e'
    have := (own_lt h1.l e).2
    omega
/-- The list of who is left is made anew, in memory of its own. -/
theorem U3.newL {W wr w2 : World} {vo vl vs v' : Value} {O : List K3} {L S L' : List RU} (h : U3 W wr vo vl vs O L S) (hf : Fi ruC 158 4 wr w2 v' L') : U3 W w2 vo v' vs O L' S := by
  have h1 := h.mono hf.below
  refine ⟨h1.o, own_mono hf.own h.below.size, h1.s, fun g e e' => ?_, h1.below⟩
  have a := (own_lt hf.own e).1
  have b := (own_lt h.s e').2
  omega
/-- A block of none of the three is written. -/
theorem U3.set {W w : World} {vo vl vs : Value} {O : List K3} {L S : List RU} (h : U3 W w vo vl vs O L S) (g j : Nat) (u : Value) (hg : W.heap.size ≤ g) (h1 : vo.ownBlock ≠ some g) (h2 : vl.ownBlock ≠ some g) (h3 : vs.ownBlock ≠ some g) : U3 W (w.setCell ⟨g, j, none⟩ u) vo vl vs O L S := by
  have hf := frm_set w g j u
  refine ⟨own_frm h.o hf (fun k hk e => ?_), own_frm h.l hf (fun k hk e => ?_), own_frm h.s hf (fun k hk e => ?_), h.sep, h.below.setCell hg u⟩
  all_goals
    simp only [List.mem_singleton] at e
    subst e
    contradiction
theorem heap_new2 (w : World) (o1 o2 : Obj) : ((w.alloc o1).alloc o2).heap[w.heap.size + 1]? = some o2 := by
  have := heap_alloc_new (w.alloc o1) o2
  simpa using this
theorem bestN_lt' (l : List RU) (n : Nat) (hn : 0 < n) (hl : n ≤ l.length) : bestN l n < l.length := by
  have := bestN_lt l n
  omega
theorem bestN_one (l : List RU) : bestN l 1 = 0 := by
  unfold bestN
  split <;> rfl
theorem getBang {α : Type} [Inhabited α] (l : List α) (i : Nat) (h : i < l.length) : l[i]! = l[i] := by simp [h]
theorem updGo_none (s : Int) (m : Nat) (L : List RU) (h : m = 0 ∨ L.length = 0) : updGo s m L = ([], L, []) := by
  cases m with
  | zero => rfl
  | succ m =>
    have hl : L.length = 0 := h.resolve_left (by omega)
    unfold updGo
    rw [if_pos hl]
theorem updGo_some (s : Int) (m : Nat) (L : List RU) (hb : bestI L < L.length) : updGo s (m + 1) L = (L[bestI L].k :: (updGo s m (L.eraseIdx (bestI L))).1, (updGo s m (L.eraseIdx (bestI L))).2.1, (if L[bestI L].sent + 1 < s then [⟨L[bestI L].k, L[bestI L].sent + 1⟩] else []) ++ (updGo s m (L.eraseIdx (bestI L))).2.2) := by
  conv => lhs; unfold updGo
  rw [if_neg (by omega), getBang L _ hb]
/-- What has been done, and what is to be done. -/
structure UpTo (s : Int) (Q : List RU) (O : List K3) (L S : List RU) (m : Nat) : Prop where
  len : O.length + m = 4
  lL : L.length ≤ Q.length
  lS : S.length ≤ 4
  one : (updGo s 4 Q).1 = O ++ (updGo s m L).1
  two : (updGo s 4 Q).2.1 = (updGo s m L).2.1
  three : (updGo s 4 Q).2.2 = S ++ (updGo s m L).2.2
  smL : ∀ u ∈ L, -1000000 ≤ u.sent ∧ u.sent ≤ 1000000
  lS' : S.length ≤ O.length
theorem UpTo.step {s : Int} {Q : List RU} {O : List K3} {L S : List RU} {m : Nat} (h : UpTo s Q O L S (m + 1)) (hb : bestI L < L.length) : UpTo s Q (O ++ [L[bestI L].k]) (L.eraseIdx (bestI L)) (S ++ if L[bestI L].sent + 1 < s then [⟨L[bestI L].k, L[bestI L].sent + 1⟩] else []) m := by
  have e := updGo_some s m L hb
  have hl := h.len
  have hs : (S ++ if L[bestI L].sent + 1 < s then [(⟨L[bestI L].k, L[bestI L].sent + 1⟩ : RU)] else []).length ≤ (O ++ [L[bestI L].k]).length := by
    have := h.lS'
    split <;> simp <;> omega
  refine ⟨by simp; omega, ?_, ?_, ?_, ?_, ?_, fun u hu => h.smL u (List.mem_of_mem_eraseIdx hu), hs⟩
  · rw [List.length_eraseIdx]; have := h.lL; split <;> omega
  · have : (O ++ [L[bestI L].k]).length ≤ 4 := by simp; omega
    omega
  · rw [h.one, e]; simp
  · rw [h.two, e]
  · rw [h.three, e]; simp
end Go.Proofs.YtnneljcbelgoeaaGreatDoor.wire
