import Derived.Test.YtnneljcbelgoeaaGreatNTickPlain
import Derived.Test.YtnneljcbelgoeaaGreatNHears
/- A draw (P9): the function that a node keeps. -/
namespace Go.Proofs.YtnneljcbelgoeaaGreat.wire
open Go.RowKit Go.Maps

/-- The count of draws is written. -/
theorem NAt.setDat {W : World} {nb mb : Nat} {cb : Dk} {pv rv : Value} {x : Nd} (h : NAt W nb mb cb pv rv x) (n : Nat) :
    NAt (W.setCell ⟨cb.ab, 0, none⟩ (.int .i64 n)) nb mb cb pv rv { x with dat := n } ∧ Frm [cb.ab] W (W.setCell ⟨cb.ab, 0, none⟩ (.int .i64 n)) := by
  have hf : Frm [cb.ab] W (W.setCell ⟨cb.ab, 0, none⟩ (.int .i64 n)) := by
    have hb := (Below.refl 0 W).setCell (p := ⟨cb.ab, 0, none⟩) (Nat.zero_le _) (.int .i64 n)
    exact ⟨hb.os, hb.tape, hb.output, hb.size, fun k _ hk => heap_setCell_other W ⟨cb.ab, 0, none⟩ k _ (by simpa using hk)⟩
  obtain ⟨n1, n2, n3⟩ := h.not_draw
  simp only [Dk.all, List.mem_cons, not_or] at n1 n2 n3
  obtain ⟨s, r, hc⟩ := h.chan
  refine ⟨⟨(hf.block nb h.lt (by simpa using n1.2.1)).trans h.blk, map_frm h.map hf (by simpa using n2.2.1), ⟨s, r, (hf.block cb.c h.lt_cb (by simpa using n3.2.1)).trans hc⟩, h.pass.frm hf (fun k hk e => h.draw.sepp (by simp at e; rw [← e]; exact hk)), own_frm h.rel hf (fun k hk e => h.rel_draw hk (by simp at e; simp [Dk.all, e])), ⟨?_, ?_, own_frm h.draw.row hf (fun k hk e => h.draw.sep (by simp at e; rw [← e]; exact hk)), h.draw.sep, h.draw.sepp⟩⟩, hf⟩
  · refine (hf.block cb.ob (heap_lt h.draw.ob) ?_).trans h.draw.ob
    simp only [List.mem_singleton]
    intro e
    have h1 := h.draw.ob
    rw [e, h.draw.ab] at h1
    injection h1 with h1
    injection h1 with _ h2
    exact absurd h2 (by decide)
  · rw [heap_setCell_same W cb.ab 0 _ _ _ h.draw.ab]; rfl
set_option maxHeartbeats 1000000 in
set_option maxRecDepth 100000 in
theorem draw_any {x : Nd} (hdl : DlOk x.dl) (hB : NdB Big x) {nb mb : Nat} {cb : Dk} {pv rv : Value} {W : World} (hn : NAt W nb mb cb pv rv x) (n : Int) (hn0 : 1 ≤ n) (hn1 : n ≤ 1000000) :
    Calls Tryz.prog 69 #[.int .i64 n, .pointer (some ⟨cb.ob, 0, none⟩), .pointer (some ⟨cb.ab, 0, none⟩)] W fun e w' => e = .returned (.int .i64 (x.drawn n)) ∧ NAt w' nb mb cb pv rv (x.drew n) ∧ Frm [cb.ab] W w' := by
  have ho := cell_at hn.draw.ob 0
  have ha := cell_at hn.draw.ab 0
  have fa := free_at hn.draw.ab 0
  simp only [List.getElem?_toArray, List.getElem?_cons_zero] at ho ha
  obtain ⟨ao, cap, hov⟩ := own_form hn.draw.row
  rw [hov] at ho
  have hb1 := hB.tk.2
  unfold Big at hb1
  have hl := hdl.len
  have HN := hide hn
  by_cases h0 : x.dl.length = 0
  · have e1 : x.drawn n = 0 := by simp [Nd.drawn, Nd.mute, h0]
    have e2 : x.drew n = x := by simp [Nd.drew, Nd.mute, h0]
    rw [e1, e2]
    rw [h0] at ho
    clear hn hB hdl
    go_enter Tryz.func69, Tryz.ntmps69
    go_wp2
    go_ret
    exact ⟨rfl, unhide HN, Frm.refl _ _⟩
  · have hm : x.mute n = false := by simp [Nd.mute, h0]; omega
    have e1 : x.drawn n = drawZ x.dl x.dat n := by simp [Nd.drawn, hm]
    have e2 : x.drew n = { x with dat := x.dat + 1 } := by simp [Nd.drew, hm]
    rw [e1, e2]
    have hmod : x.dat % x.dl.length < x.dl.length := Nat.mod_lt _ (by omega)
    have hrow := hn.draw.row
    rcases hrow.2 with ⟨e3, e4⟩ | ⟨g, cap', cur, e3, _, hg, _, _, _, h4⟩
    · exact absurd e4 h0
    · rw [hov] at e3
      cases e3
      have hcell : W.cell? ⟨g, x.dat % x.dl.length, none⟩ = some (.int .i64 (x.dl.getD (x.dat % x.dl.length) 0)) := by
        have := congrArg (fun q => q[x.dat % x.dl.length]?) h4
        simp only [flat_int, List.getElem?_eq_getElem hmod, Option.map_some, List.getElem?_take, Nat.mul_one, if_pos hmod] at this
        rw [cell_at hg, List.getD_eq_getElem?_getD, List.getElem?_eq_getElem hmod, Option.getD_some]
        simpa using this
      have hr := hdl.rng _ (List.getElem_mem hmod)
      have hgd : x.dl.getD (x.dat % x.dl.length) 0 = x.dl[x.dat % x.dl.length] := by rw [List.getD_eq_getElem?_getD, List.getElem?_eq_getElem hmod, Option.getD_some]
      have hs := fun q => (hn.drewN q).setDat (x.dat + 1)
      rw [show ((x.dat + 1 : Nat) : Int) = (x.dat : Int) + 1 by simp] at hs
      have HS := hide hs
      clear hs
      have hdz : drawZ x.dl x.dat n = (if x.dl.getD (x.dat % x.dl.length) 0 < 0 then -(x.dl.getD (x.dat % x.dl.length) 0 + 1) else x.dl.getD (x.dat % x.dl.length) 0).tmod n := rfl
      rw [hdz]
      rw [← hgd] at hr
      generalize x.dl.getD (x.dat % x.dl.length) 0 = z at hcell hr ⊢
      have htm : ((x.dat : Int).tmod (x.dl.length : Int)) = ((x.dat % x.dl.length : Nat) : Int) := by
        rw [Int.tmod_eq_emod_of_nonneg (by omega)]; simp
      have hlen0 : ((x.dl.length : Int) == 0) = false := by rw [beq_eq_false_iff_ne]; omega
      have hnl : ¬ n < 1 := by omega
      have hnz : (n == 0) = false := by simp; omega
      have hmi : ((x.dat % x.dl.length : Nat) : Int) < (x.dl.length : Int) := Int.ofNat_lt.2 hmod
      generalize x.dat % x.dl.length = M at hcell htm hmi hmod
      clear hn hB hdl hrow h4 hg e1 e2 hm hdz hgd
      by_cases hz : z < 0
      all_goals
        go_enter Tryz.func69, Tryz.ntmps69
        go_wp2
        go_quiet (fail)
        go_wp2
        go_ret
      · exact ⟨rfl, ((unhide HS) _).1, (Frm.of_below (S := [cb.ab]) (bdrewN (Below.refl _ _) _) (Nat.le_refl _)).trans ((unhide HS) _).2 (fun j hj => .inl hj)⟩
      · exact ⟨by rw [Int.tmod_eq_emod_of_nonneg (by omega)]; rfl, ((unhide HS) _).1, (Frm.of_below (S := [cb.ab]) (bdrewN (Below.refl _ _) _) (Nat.le_refl _)).trans ((unhide HS) _).2 (fun j hj => .inl hj)⟩
end Go.Proofs.YtnneljcbelgoeaaGreat.wire
