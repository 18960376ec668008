import Derived.Test.YtnneljcbelgoeaaGreatNEnds
import Derived.Test.YtnneljcbelgoeaaGreatNDraw
import Derived.BigRegion
/- A tick: the order of a pass (P9). -/
namespace Go.Proofs.YtnneljcbelgoeaaGreat.wire
open Go.RowKit Go.Maps

/-- Numbers at the head of a block. -/
structure IntsAt (w : World) (g : Nat) (n : Nat) (l : List Int) : Prop where
  ex : ∃ cur, w.heap[g]? = some (.cells cur 3 (0, 0)) ∧ cur.size = n ∧ ∀ (i : Nat) (h : i < l.length), cur[i]? = some (.int .i64 l[i])
theorem IntsAt.cell {w : World} {g n : Nat} {l : List Int} (h : IntsAt w g n l) (i : Nat) (hi : i < l.length) : w.cell? ⟨g, i, none⟩ = some (.int .i64 (l.getD i 0)) := by
  obtain ⟨cur, hg, _, hc⟩ := h.ex
  rw [cell_at hg, hc i hi, List.getD_eq_getElem?_getD, List.getElem?_eq_getElem hi, Option.getD_some]
theorem IntsAt.frm {S : List Nat} {w w' : World} {g n : Nat} {l : List Int} (h : IntsAt w g n l) (hf : Frm S w w') (hg : g ∉ S) : IntsAt w' g n l := by
  obtain ⟨cur, hb, hs, hc⟩ := h.ex
  exact ⟨cur, (hf.block g (lt_blk hb) hg).trans hb, hs, hc⟩
theorem IntsAt.set {w : World} {g n : Nat} {l : List Int} (h : IntsAt w g n l) (i : Nat) (hi : i < l.length) (z : Int) : IntsAt (w.setCell ⟨g, i, none⟩ (.int .i64 z)) g n (l.set i z) := by
  obtain ⟨cur, hb, hs, hc⟩ := h.ex
  refine ⟨cur.setIfInBounds i (.int .i64 z), heap_setCell_same w g i _ _ _ hb, by simp [hs], fun j hj => ?_⟩
  have hj' : j < l.length := by simpa using hj
  have hlt : i < cur.size := by
    have := hc i hi
    exact (Array.getElem?_eq_some_iff.1 this).1
  rw [Array.getElem?_setIfInBounds]
  by_cases e : i = j
  · subst e; simp [hlt]
  · rw [if_neg e, List.getElem_set_ne e]; exact hc j hj'
theorem IntsAt.lt {w : World} {g n : Nat} {l : List Int} (h : IntsAt w g n l) : g < w.heap.size := by obtain ⟨cur, hb, _⟩ := h.ex; exact lt_blk hb
theorem IntsAt.free {w : World} {g n : Nat} {l : List Int} (h : IntsAt w g n l) (i : Nat) : w.frozen? ⟨g, i, none⟩ = false := by obtain ⟨cur, hb, _⟩ := h.ex; exact free_at hb i
theorem set_frm (w : World) (g i : Nat) (v : Value) : Frm [g] w (w.setCell ⟨g, i, none⟩ v) := by
  have hb := (Below.refl 0 w).setCell (p := ⟨g, i, none⟩) (Nat.zero_le _) v
  exact ⟨hb.os, hb.tape, hb.output, hb.size, fun k _ hk => heap_setCell_other w ⟨g, i, none⟩ k v (by simpa using hk)⟩
theorem swap_at {S : List Nat} {W w1 : World} {nb mb : Nat} {cb : Dk} {pv rv : Value} {y : Nd} {g n : Nat} {L : List Int} (hn : NAt w1 nb mb cb pv rv y) (hg : IntsAt w1 g n L) (hf : Frm S W w1) (hS : g ∈ S) (hgf : g ∉ feet nb mb cb pv rv) (a b : Nat) (ha : a < L.length) (hb : b < L.length) {A1 A2 : Int} (h1 : L.getD a 0 = A1) (h2 : L.getD b 0 = A2) :
    NAt ((w1.setCell ⟨g, a, none⟩ (.int .i64 A2)).setCell ⟨g, b, none⟩ (.int .i64 A1)).drew nb mb cb pv rv y ∧ IntsAt ((w1.setCell ⟨g, a, none⟩ (.int .i64 A2)).setCell ⟨g, b, none⟩ (.int .i64 A1)).drew g n (swapL L a b) ∧ Frm S W ((w1.setCell ⟨g, a, none⟩ (.int .i64 A2)).setCell ⟨g, b, none⟩ (.int .i64 A1)).drew := by
  have hff : Frm [g] w1 ((w1.setCell ⟨g, a, none⟩ (.int .i64 A2)).setCell ⟨g, b, none⟩ (.int .i64 A1)).drew := by
    have := (set_frm w1 g a (.int .i64 A2)).trans (set_frm _ g b (.int .i64 A1)) (fun j hj => .inl hj)
    exact ⟨this.os, this.tape, this.output, this.size, this.block⟩
  refine ⟨hn.frm hff (fun k hk e => hgf (by simp at e; rw [← e]; exact hk)), ?_, hf.trans hff (by simp [hS])⟩
  have h3 := (hg.set a ha A2).set b (by simpa using hb) A1
  have e : swapL L a b = (L.set a A2).set b A1 := by unfold swapL; rw [h1, h2]
  rw [e]
  exact ⟨h3.ex⟩
set_option maxHeartbeats 2000000 in
set_option maxRecDepth 100000 in
theorem mixed_any {x : Nd} (hdl : DlOk x.dl) (hB : NdB Bg x) {nb mb : Nat} {cb : Dk} {pv rv : Value} {W : World} (hn : NAt W nb mb cb pv rv x) (l : List Int) (hl : l.length ≤ 500) (hl0 : 1 ≤ l.length) {g n cap : Nat} (hg : IntsAt W g n l) (hgf : g ∉ feet nb mb cb pv rv) (_hcap : l.length ≤ cap) :
    Calls Tryz.prog 65 #[.pointer (some ⟨nb, 0, none⟩), .slice (some ⟨g, 0, none⟩) l.length cap] W fun e w' => e = .returned (.slice (some ⟨g, 0, none⟩) l.length cap) ∧ NAt w' nb mb cb pv rv (x.mixed l).2 ∧ IntsAt w' g n (x.mixed l).1 ∧ Frm [cb.ab, g] W w' := by
  have HN := hide hn
  have HG := hide hg
  have HB := hide hB
  have HDL := hide hdl
  have hgl := hg.lt
  have hnl := hn.lt
  have hab : g ≠ cb.ab := fun e => hgf (by simp [feet, Dk.all, e])
  have hgn : g ≠ nb := fun e => hgf (by simp [feet, e])
  clear hn hg hB hdl
  obtain ⟨K0, hK0⟩ : ∃ K0 : Nat, l.length = K0 + 1 := ⟨l.length - 1, by omega⟩
  have hmx : x.mixed l = x.mixFrom K0 l := by unfold Nd.mixed; rw [hK0]; rfl
  rw [hmx]
  have e1 : ((l.length : Int) - 1) = (K0 : Int) := by omega
  have HK0 := hide hK0
  clear hmx hK0
  go_enter Tryz.func65, Tryz.ntmps65
  go_wp2
  go_loopw [5] (fun i wr => ∃ (k : Nat) (L : List Int) (y : Nd), i = .int .i64 k ∧ k ≤ K0 ∧ L.length = l.length ∧ Hid (y.mixFrom k L = x.mixFrom K0 l) ∧ Hid (NAt wr nb mb cb pv rv y) ∧ Hid (IntsAt wr g n L) ∧ Hid (Frm [cb.ab, g] W wr) ∧ Hid (y.dl = x.dl ∧ NdB (Bg + (K0 - k)) y)) (fun i _ => (Go.RowKit.intOf i).toNat)
  case atStart => exact ⟨K0, l, x, by go_num, Nat.le_refl _, rfl, rfl, HN, HG, Frm.refl _ _, rfl, (unhide HB).mono (by omega)⟩
  case round =>
    obtain ⟨k, L, y, rfl, hk, hL, HE, HN1, HG1, HF1, HD1⟩ := hrel
    have hkl : k < l.length := by have := unhide HK0; omega
    have HLL := hide hL
    by_cases h1 : 1 ≤ k
    · obtain ⟨k', rfl⟩ : ∃ k', k = k' + 1 := ⟨k - 1, by omega⟩
      have c6 := (unhide HN1).c_draw
      simp only [Dk.fn] at c6
      have l6 := (unhide HN1).lt
      obtain ⟨hyd, hyb⟩ := unhide HD1
      have HC := hide (draw_any (by rw [hyd]; exact unhide HDL) (hyb.mono (by unfold Bg Big; omega)) (unhide HN1) ((k' : Int) + 2) (by omega) (by omega))
      have hbd := drawn_bd y (n := (k' : Int) + 2) (by omega)
      obtain ⟨J, hJ⟩ : ∃ J : Nat, y.drawn ((k' : Int) + 2) = (J : Int) := ⟨(y.drawn ((k' : Int) + 2)).toNat, by omega⟩
      have hJl : J < L.length := by omega
      have hEq : y.mixFrom (k' + 1) L = (y.drew ((k' : Int) + 2)).mixFrom k' (swapL L (k' + 1) J) := by
        show (y.drew ((k' : Int) + 2)).mixFrom k' (swapL L (k' + 1) (y.drawn ((k' : Int) + 2)).toNat) = _
        rw [hJ]; rfl
      have HE2 := hide (hEq.symm.trans (unhide HE))
      rw [hJ] at HC
      have hk2 : ((k' + 1 : Nat) : Int) + 1 = (k' : Int) + 2 := by omega
      have h1' : (1 : Int) ≤ ((k' + 1 : Nat) : Int) := by omega
      have hDB := drew_b hyb ((k' : Int) + 2)
      have hDD : (y.drew ((k' : Int) + 2)).dl = x.dl := by
        obtain ⟨m, e, _⟩ := drew_ex y ((k' : Int) + 2)
        rw [e]; exact hyd
      have HDB := hide hDB
      have HDD := hide hDD
      clear hEq hbd hyd hyb hDB hDD HE HD1
      go_wp2_with fail
      refine (unhide HC).mono ?_
      rintro e w1 ⟨rfl, hn1, hf1⟩
      have hg1 := (unhide HG1).frm hf1 (by simpa using hab)
      have HF2 := hide ((unhide HF1).trans hf1 (by simp))
      have HN2 := hide hn1
      have HG2 := hide hg1
      have a1 := hg1.cell (k' + 1) (by omega)
      have a2 := hg1.cell J hJl
      have b1 := hg1.free (k' + 1)
      have b2 := hg1.free J
      have lg := hg1.lt
      obtain ⟨A1, hA1⟩ : ∃ A1, L.getD (k' + 1) 0 = A1 := ⟨_, rfl⟩
      obtain ⟨A2, hA2⟩ : ∃ A2, L.getD J 0 = A2 := ⟨_, rfl⟩
      rw [hA1] at a1
      rw [hA2] at a2
      have hA := hide (And.intro hA1 hA2)
      have i1 : (k' : Int) + 1 < (l.length : Int) := by omega
      have i2 : (J : Int) < (l.length : Int) := by omega
      have i3 : ((k' : Int) + 1).toNat = k' + 1 := by omega
      clear hn1 hf1 hg1 HC c6 HN1 HG1 HF1 hA1 hA2
      by_cases hkj : k' + 1 = J
      · subst hkj
        go_wp2
        go_region
        have hsw := swap_at (unhide HN2) (unhide HG2) (unhide HF2) (by simp) hgf (k' + 1) (k' + 1) (by omega) (by omega) (unhide hA).1 (unhide hA).1
        have HSW := hide hsw
        clear hsw HN2 HG2 HF2 a1 a2 b1 b2
        generalize ((w1.setCell ⟨g, k' + 1, none⟩ (.int .i64 A1)).setCell ⟨g, k' + 1, none⟩ (.int .i64 A1)).drew = w3 at HSW ⊢
        go_wp2
        go_roundw
        case rel => exact ⟨k', _, _, by go_num, by omega, by rw [swapL_len, hL], HE2, hide (unhide HSW).1, hide (unhide HSW).2.1, hide (unhide HSW).2.2, hide ⟨unhide HDD, (unhide HDB).mono (by omega)⟩⟩
        case measure => simp [Go.RowKit.intOf]
      · have hkj2 : ¬ J = k' + 1 := fun h => hkj h.symm
        go_wp2
        go_region
        have hsw := swap_at (unhide HN2) (unhide HG2) (unhide HF2) (by simp) hgf (k' + 1) J (by omega) (by omega) (unhide hA).1 (unhide hA).2
        have HSW := hide hsw
        clear hsw HN2 HG2 HF2 a1 a2 b1 b2
        generalize ((w1.setCell ⟨g, k' + 1, none⟩ (.int .i64 A2)).setCell ⟨g, J, none⟩ (.int .i64 A1)).drew = w3 at HSW ⊢
        go_wp2
        go_roundw
        case rel => exact ⟨k', _, _, by go_num, by omega, by rw [swapL_len, hL], HE2, hide (unhide HSW).1, hide (unhide HSW).2.1, hide (unhide HSW).2.2, hide ⟨unhide HDD, (unhide HDB).mono (by omega)⟩⟩
        case measure => simp [Go.RowKit.intOf]
    · obtain rfl : k = 0 := by omega
      go_wp2
      go_ret
      rw [← unhide HE]
      exact ⟨rfl, unhide HN1, unhide HG1, unhide HF1⟩
end Go.Proofs.YtnneljcbelgoeaaGreat.wire
