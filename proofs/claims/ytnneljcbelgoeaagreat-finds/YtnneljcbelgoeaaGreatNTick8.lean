import Derived.Test.YtnneljcbelgoeaaGreatNTick7
import Derived.Test.YtnneljcbelgoeaaGreatNTools
/- A tick: others are asked (P9). -/
namespace Go.Proofs.YtnneljcbelgoeaaGreat.wire
open Go.RowKit Go.Maps

/-- The numbers that can be asked still. -/
structure AbleAt (B : Nat) (S : List Nat) (w : World) (v : Value) (l : List Int) : Prop where
  ex : ∃ g n cap, v = .slice (some ⟨g, 0, none⟩) l.length cap ∧ IntsAt w g n l ∧ l.length ≤ cap ∧ cap ≤ maxLen ∧ B ≤ g ∧ g ∉ S
theorem Tryz.infoPkL : (Tryz.prog.info? 39).map (fun i => (i.zero, i.size, i.bytes)) = some (some (.agg #[.int .i64 0, .string ⟨#[]⟩]), 2, 24) := by kernel_rfl
/-- What stands while others are asked. -/
structure AskI (W wr : World) (nb mb : Nat) (cb : Dk) (pv rv : Value) (x : Nd) (o a : Value) (M k : Nat) (A L : List Int) (y : Nd) (outs : List Pk) : Prop where
  e1 : outs ++ (y.asks (M - k) L).1 = (x.asks M A).1
  e2 : (y.asks (M - k) L).2 = (x.asks M A).2
  nat : NAt wr nb mb cb pv rv y
  frm : Frm (feet nb mb cb pv rv) W wr
  out : Outs W wr o outs
  able : 0 < M → AbleAt W.heap.size (feet nb mb cb pv rv) wr a L
  ok : NdOk y
  dl : y.dl = x.dl
  b : NdB (Bg + k) y
/-- What stands between the two steps of asking one. -/
structure AskStep (W w : World) (nb mb : Nat) (cb : Dk) (pv rv : Value) (o : Value) (g n : Nat) (L : List Int) (z : Nd) (outs : List Pk) : Prop where
  nat : NAt w nb mb cb pv rv z
  frm : Frm (feet nb mb cb pv rv) W w
  out : w.ownsRow W.heap.size 39 2 o outs.length (outs.flatMap pkC)
  ints : IntsAt w g n L
  apart : ∀ j, o.ownBlock = some j → j ≠ g
theorem row_ints {w : World} {base m : Nat} {v : Value} {xs : List Value} {g n : Nat} {L : List Int} (h : w.ownsRow base 39 2 v m xs) (hg : IntsAt w g n L) : ∀ j, v.ownBlock = some j → j ≠ g := fun j hj e => by
  subst e
  obtain ⟨cs, hcs⟩ := own_blk h hj
  obtain ⟨cur, hcu, _⟩ := hg.ex
  rw [hcu] at hcs
  cases hcs
theorem AskStep.mk1 {W wr w1 w3 : World} {nb mb : Nat} {cb : Dk} {pv rv : Value} {x y z : Nd} {o a : Value} {M k g n : Nat} {A L : List Int} {outs : List Pk} (hI : AskI W wr nb mb cb pv rv x o a M k A L y outs) (hf1 : Frm [cb.ab] wr w1) (hg1 : IntsAt w1 g n L) (ho1 : w1.ownsRow W.heap.size 39 2 o outs.length (outs.flatMap pkC)) {y1 : Nd} (hn1 : NAt w1 nb mb cb pv rv y1) (hn3 : NAt w3 nb mb cb pv rv z) (hf3 : Frm [mb] w1.drew w3) (hmg : g ≠ mb) : AskStep W w3 nb mb cb pv rv o g n L z outs := by
  have hf13 : Frm [mb] w1 w3 := ⟨hf3.os, hf3.tape, hf3.output, hf3.size, hf3.block⟩
  have hg3 := hg1.frm hf13 (by simpa using hmg)
  have ho3 := own_frm ho1 hf13 (fun j hj e => by
    simp only [List.mem_singleton] at e
    subst e
    obtain ⟨cs, hcs⟩ := own_blk ho1 hj
    obtain ⟨es, c, hm⟩ := map_blk hn1.map
    rw [hm] at hcs
    cases hcs)
  exact ⟨hn3, (hI.frm.trans hf1 (by simp [feet, Dk.all])).trans hf13 (by simp [feet]), ho3, hg3, row_ints ho3 hg3⟩
theorem AskStep.mk2 {W w3 w4 : World} {nb mb : Nat} {cb : Dk} {pv rv : Value} {z : Nd} {o o' : Value} {g n : Nat} {L : List Int} {outs : List Pk} (h : AskStep W w3 nb mb cb pv rv o g n L z outs) (hfl : ∀ k ∈ feet nb mb cb pv rv, k < W.heap.size) {ob : Obj} (hgrow : (w3.alloc ob).grownBy w4 o.ownBlock) {PK : Pk} {m : Nat} (hown : w4.ownsRow W.heap.size 39 2 o' m (outs.flatMap pkC ++ [.int .i64 PK.dest, .string (bs PK.bytes)])) (hm : m = outs.length + 1) : AskStep W w4 nb mb cb pv rv o' g n L z (outs ++ [PK]) := by
  have hf4 : Frm o.ownBlock.toList w3 w4 := (Frm.of_below (S := o.ownBlock.toList) ((Below.refl _ w3).alloc (Nat.le_refl _) _) (Nat.le_refl _)).trans (Frm.of_grown (S := o.ownBlock.toList) hgrow (fun j hj => .inl (by simp [hj]))) (fun j hj => .inl hj)
  have hg4 := h.ints.frm hf4 (fun e => h.apart g (Option.mem_toList.1 e) rfl)
  have hown' : w4.ownsRow W.heap.size 39 2 o' (outs ++ [PK]).length ((outs ++ [PK]).flatMap pkC) := by
    have e1 : (outs ++ [PK]).flatMap pkC = outs.flatMap pkC ++ [.int .i64 PK.dest, .string (bs PK.bytes)] := by simp [pkC]
    have e2 : (outs ++ [PK]).length = outs.length + 1 := by simp
    rw [e1, e2, ← hm]
    exact hown
  refine ⟨h.nat.frm hf4 (fun j hj e => ?_), h.frm.trans hf4 (fun j hj => .inr ((own_lt h.out (Option.mem_toList.1 hj)).1)), hown', hg4, row_ints hown' hg4⟩
  have h1 := (own_lt h.out (Option.mem_toList.1 e)).1
  have h2 := hfl j hj
  omega
theorem asks_succ (y : Nd) (n : Nat) (L : List Int) : y.asks (n + 1) L = ((y.drew L.length).direct 3 (L.getD (y.drawn L.length).toNat 0) (y.drew L.length).pnum (y.drew L.length).ptgt :: ((y.drew L.length).along.asks n (L.eraseIdx (y.drawn L.length).toNat)).1, ((y.drew L.length).along.asks n (L.eraseIdx (y.drawn L.length).toNat)).2) := rfl
set_option maxHeartbeats 2000000 in
set_option maxRecDepth 100000 in
theorem askOthers_any {x : Nd} (hx : NdOk x) (hdl : DlOk x.dl) (hB : NdB Bg x) {nb mb : Nat} {cb : Dk} {pv rv : Value} {W : World} (hn : NAt W nb mb cb pv rv x) :
    Calls Tryz.prog 63 #[.pointer (some ⟨nb, 0, none⟩)] W fun e w' => ∃ o, e = .returned o ∧ Outs W w' o x.askOthers.1 ∧ NTo W w' nb mb cb pv rv x.askOthers.2 := by
  have c13 := hn.c_pack
  have hlt := hn.lt
  have HX := hide hx
  have HN := hide hn
  have HB := hide hB
  have HDL := hide hdl
  rcases hp : x.pack with _ | _
  · rw [hp] at c13
    have he : x.askOthers = x.asks (min x.c.proxies.toNat x.able.length) x.able := by simp [Nd.askOthers, hp]
    rw [he]
    have hpl := present_len hx
    have hal : x.able.length ≤ 8 := Nat.le_trans (List.length_filter_le _ _) hpl
    have hcf := hx.cfg
    simp only [cfgB, Bool.and_eq_true, decide_eq_true_eq] at hcf
    have hpx : 0 ≤ x.c.proxies ∧ x.c.proxies ≤ 3 := hcf.2.2.2.2.1
    have c4 := hn.c_proxies
    have c10 := hn.c_ptgt
    have HPR := hide (present_any hx hn.drew)
    clear he hp hcf hn hx hB hdl
    go_enter Tryz.func63, Tryz.ntmps63
    go_wp2_with fail
    go_region_held3 (fun w' => w'.cell? ⟨nb, 10, none⟩ = some (.int .i64 x.ptgt)) (go_keep)
      (first
        | (go_at_call 66; refine (unhide HPR).mono ?_; rintro e w1 ⟨v1, rfl, ho1, hb10⟩; have hb1 : Below W.heap.size W w1 := ⟨hb10.os, hb10.tape, hb10.output, hb10.size, hb10.block⟩; have q10 : w1.cell? ⟨nb, 10, none⟩ = some (.int .i64 x.ptgt) := ((unhide HN).below hb1).c_ptgt; have HO1 := hide ho1; have HB1 := hide hb1; clear ho1 hb1 hb10)
        | (go_at_call 79; refine (without_any (l := x.present) (by omega) x.ptgt (PassAt.of_own (unhide HO1))).mono ?_; rintro e w2 ⟨v2, rfl, ho2, hb2⟩; have hb22 : Below W.heap.size W w2 := (unhide HB1).trans (hb2.mono (unhide HB1).size); have r10 : w2.cell? ⟨nb, 10, none⟩ = some (.int .i64 x.ptgt) := ((unhide HN).below hb22).c_ptgt; have HO2 := hide (own_mono ho2 (unhide HB1).size); have HB2 := hide hb22; clear ho2 hb2 hb22))
    have ho2 : w2.ownsRow W.heap.size 3 1 v2 x.able.length (x.able.flatMap intC) := unhide HO2
    have hn2 := (unhide HN).below (unhide HB2)
    have e4 := hn2.c_proxies
    have HN2 := hide hn2
    obtain ⟨ao2, cap2, rfl⟩ := own_form ho2
    have HO3 := hide ho2
    clear ho2 hn2 HO2 HO1 HB1 HPR c4 c10 q10 c13
    obtain ⟨M, hM⟩ : ∃ M : Nat, M = min x.c.proxies.toNat x.able.length := ⟨_, rfl⟩
    have hMi : min x.c.proxies (x.able.length : Int) = (M : Int) := by rw [hM]; omega
    have hMl : M ≤ x.able.length := by rw [hM]; omega
    have hM3 : M ≤ 3 := by rw [hM]; omega
    have hi0 : AskI W w2 nb mb cb pv rv x (.slice none 0 0) (.slice ao2 x.able.length cap2) M 0 x.able x.able x [] := by
      refine ⟨rfl, rfl, unhide HN2, Frm.of_below (unhide HB2) (Nat.le_refl _), outs_nil _ _, fun h => ?_, unhide HX, rfl, (unhide HB).mono (by omega)⟩
      rcases (unhide HO3).2 with ⟨_, h0⟩ | ⟨g, cap, cur, e0, _⟩
      · omega
      · simp only [Value.slice.injEq] at e0
        obtain ⟨rfl, _, rfl⟩ := e0
        obtain ⟨k1, k2, k3, k4⟩ := IntsAt.of_own (unhide HO3)
        exact ⟨g, cap2, cap2, rfl, k1, k3, k4, k2, fun hk => by have := (unhide HN).feet_lt g hk; omega⟩
    have hres : x.asks (min x.c.proxies.toNat x.able.length) x.able = x.asks M x.able := by rw [← hM]
    have HRES := hide hres
    have HI0 := hide hi0
    have HFL := hide ((unhide HN).feet_lt)
    obtain ⟨ti, hti, hz0, hz1, hz2⟩ := info_parts Tryz.infoPkL
    clear hi0 HN2 HO3 hM hres HN HX HB
    go_wp2
    go_loopw [3, 4, 27] (fun o a i wr => ∃ (k : Nat) (L : List Int) (y : Nd) (outs : List Pk), i = .int .i64 k ∧ k ≤ M ∧ L.length + k = x.able.length ∧ outs.length = k ∧ Hid (AskI W wr nb mb cb pv rv x o a M k x.able L y outs)) (fun _ _ i _ => M - (Go.RowKit.intOf i).toNat)
    case atStart => exact ⟨0, x.able, x, [], by go_num, Nat.zero_le _, rfl, rfl, HI0⟩
    case round =>
      obtain ⟨k, L, y, outs, rfl, hk, hL, hol, HI⟩ := hrel
      by_cases hlt : k < M
      · obtain ⟨g, n, acap, rfl, hga, hc1, hc2, hg0, hgf⟩ := ((unhide HI).able (by omega)).ex
        have hLp : 1 ≤ L.length := by omega
        have c6 := (unhide HI).nat.c_draw
        simp only [Dk.fn] at c6
        have l6 := (unhide HI).nat.lt
        have HC := hide (draw_any (by rw [(unhide HI).dl]; exact unhide HDL) ((unhide HI).b.mono (by unfold Bg Big; omega)) (unhide HI).nat (L.length : Int) (by omega) (by omega))
        have hbd := drawn_bd y (n := (L.length : Int)) (by omega)
        obtain ⟨J, hJ⟩ : ∃ J : Nat, y.drawn (L.length : Int) = (J : Int) := ⟨(y.drawn (L.length : Int)).toNat, by omega⟩
        have hJl : J < L.length := by omega
        have hJi : (J : Int) < (L.length : Int) := by omega
        have hJ8 : (J : Int) ≤ 8 := by omega
        have hJ0 : (0 : Int) ≤ (J : Int) := by omega
        have hsucc := asks_succ y (M - (k + 1)) L
        rw [show M - (k + 1) + 1 = M - k by omega, hJ, Int.toNat_natCast] at hsucc
        have HSU := hide hsucc
        rw [hJ] at HC
        have hlt' : (k : Int) < (M : Int) := by omega
        have HGA := hide hga
        have HLL := hide hL
        have hab : g ≠ cb.ab := fun e => hgf (by simp [feet, Dk.all, e])
        have hmbg : g ≠ mb := fun e => hgf (by simp [feet, e])
        clear hsucc hbd hJ hga hL
        go_wp2_with fail
        refine (unhide HC).mono ?_
        rintro e w1 ⟨rfl, hn1, hf1⟩
        have hg1 := (unhide HGA).frm hf1 (by simpa using hab)
        have a1 := hg1.cell J hJl
        have c10 := hn1.c_ptgt
        have c11 := hn1.c_pnum
        have l1 := hn1.lt
        have lg := hg1.lt
        have hd1 := drew_ok (unhide HI).ok (L.length : Int)
        obtain ⟨y1, hy1⟩ : ∃ y1, y1 = y.drew (L.length : Int) := ⟨_, rfl⟩
        rw [← hy1] at hn1 c10 c11 hd1
        obtain ⟨D, hD⟩ : ∃ D, D = L.getD J 0 := ⟨_, rfl⟩
        rw [← hD] at a1
        have HDI := hide (direct_any hd1 hn1.drew 3 D y1.pnum y1.ptgt)
        generalize hPK : y1.direct 3 D y1.pnum y1.ptgt = PK at HDI
        have HPK := hide hPK
        have HY1 := hide hy1
        have HDD := hide hD
        have HN1 := hide hn1
        have HG1 := hide hg1
        have HF1 := hide hf1
        have HO1 : Hid (w1.ownsRow W.heap.size 39 2 u3 outs.length (outs.flatMap pkC)) := hide (own_frm (unhide HI).out hf1 (fun j hj e => by
          simp only [List.mem_singleton] at e
          subst e
          obtain ⟨cs, hcs⟩ := own_blk (unhide HI).out hj
          rw [(unhide HI).nat.draw.ab] at hcs
          cases hcs))
        clear hn1 hg1 hf1 hy1 hD hd1 hPK HC c6 HGA
        go_wp2_with fail
        go_region_held3 (fun w' => w'.cell? ⟨nb, 10, none⟩ = some (.int .i64 y1.ptgt) ∧ w'.cell? ⟨nb, 11, none⟩ = some (.int .i64 y1.pnum) ∧ w'.cell? ⟨g, J, none⟩ = some (.int .i64 D)) (go_keep)
          (first
            | (go_at_call 67; refine (unhide HDI).mono ?_; rintro e w3 ⟨rfl, hn3, hf3⟩; have hz3 := hf3.size; have HT3 := hide (AskStep.mk1 (unhide HI) (unhide HF1) (unhide HG1) (unhide HO1) (unhide HN1) hn3 hf3 hmbg); have q10 : w3.cell? ⟨nb, 10, none⟩ = some (.int .i64 y1.ptgt) := hn3.c_ptgt; have q11 : w3.cell? ⟨nb, 11, none⟩ = some (.int .i64 y1.pnum) := hn3.c_pnum; have qg : w3.cell? ⟨g, J, none⟩ = some (.int .i64 D) := by { rw [unhide HDD]; exact (unhide HT3).ints.cell J hJl }; have hsz3 := (unhide HT3).frm.size; clear hn3 hf3)
            | (refine step_append_lies _ (by rfl) _ _ _ (by rfl) W.heap.size 39 ti (.agg #[.int .i64 0, .string ⟨#[]⟩]) 2 24 Tryz.underlying36 hti hz0 hz1 hz2 rfl (by omega) _ _ _ (by rfl) ((unhide HT3).out.alloc _) ⟨w3.heap.size, 0, none⟩ 1 1 [.int .i64 PK.dest, .string (bs PK.bytes)] (by rfl) (by rfl) (World.news_of_block (heap_alloc_new w3 _)) (by simp [Value.oneCell']) (by omega) (by unfold maxLen; omega) (by omega) (by simp; omega) (w3.heap.size + 1) (by simp) ?_; intro gg cap4 w4 hown4 hgrow hat hlt4; have HT4 := hide ((unhide HT3).mk2 (unhide HFL) hgrow hown4 (by rfl)); have r10 : w4.cell? ⟨nb, 10, none⟩ = some (.int .i64 y1.ptgt) := (unhide HT4).nat.c_ptgt; have r11 : w4.cell? ⟨nb, 11, none⟩ = some (.int .i64 y1.pnum) := (unhide HT4).nat.c_pnum; have rg : w4.cell? ⟨g, J, none⟩ = some (.int .i64 D) := by { rw [unhide HDD]; exact (unhide HT4).ints.cell J hJl }; clear hown4 hgrow hat))
        have HO4 := hide (unhide HT4).out
        have HN4 := hide (unhide HT4).nat
        have HF4 := hide (unhide HT4).frm
        have hg4 := (unhide HT4).ints
        have HGO := hide (unhide HT4).apart
        have HDE := hide (delete_any hg4 hc1 hc2 J hJl)
        clear hg4 HT3 HT4 r10 r11 rg q10 q11 qg
        go_wp2_with fail
        refine (unhide HDE).mono ?_
        rintro e w5 ⟨rfl, hg5, hf5⟩
        have hn5 := (unhide HN4).frm hf5 (fun j hj e => hgf (by simp only [List.mem_singleton] at e; rw [← e]; exact hj))
        have ho5 := own_frm (unhide HO4) hf5 (fun j hj e => (unhide HGO) j hj (by simpa using e))
        have hfW5 : Frm (feet nb mb cb pv rv) W w5 := (unhide HF4).trans hf5 (fun j hj => .inr (by simp only [List.mem_singleton] at hj; omega))
        have hel : (L.eraseIdx J).length = L.length - 1 := List.length_eraseIdx_of_lt hJl
        have hLL := unhide HLL
        have hai : AskI W w5 nb mb cb pv rv x (.slice (some ⟨gg, 0, none⟩) (outs.length + 1) cap4) (.slice (some ⟨g, 0, none⟩) (L.length - 1) acap) M (k + 1) x.able (L.eraseIdx J) y1.along (outs ++ [PK]) := by
          have h0 := unhide HI
          have hsu := unhide HSU
          rw [← unhide HY1, ← unhide HDD, unhide HPK] at hsu
          refine ⟨?_, ?_, hn5, hfW5, ?_, fun _ => ⟨g, n, acap, by rw [hel], hg5, by omega, hc2, hg0, hgf⟩, ?_, ?_, ?_⟩
          · have := h0.e1
            rw [hsu] at this
            rw [← this]
            simp
          · have := h0.e2
            rw [hsu] at this
            exact this
          · exact ho5
          · rw [unhide HY1]; exact along_ok (drew_ok h0.ok _)
          · show y1.dl = x.dl
            rw [unhide HY1]
            obtain ⟨m, e, _⟩ := drew_ex y (L.length : Int)
            rw [e]; exact h0.dl
          · rw [unhide HY1]; exact (along_b (drew_b h0.b _)).mono (by omega)
        have HAI := hide hai
        clear hai hn5 ho5 hfW5 hg5 hf5 HDE HN4 HF4 HO4 HGO HI HSU HPK HY1 HDD
        go_wp2
        go_roundw
        case rel => exact ⟨k + 1, L.eraseIdx J, y1.along, outs ++ [PK], by go_num, by omega, by rw [hel]; omega, by simp [hol], by have h := HAI; rw [hol] at h; exact h⟩
        case measure => simp [Go.RowKit.intOf]; omega
      · have e : k = M := by omega
        subst e
        have hlt' : ¬ (k : Int) < (k : Int) := by omega
        go_wp2
        go_ret
        obtain ⟨q1, q2, q3, q4, q5, _⟩ := unhide HI
        rw [Nat.sub_self] at q1 q2
        rw [unhide HRES, ← q1, ← q2]
        have q6 : outs ++ (y.asks 0 L).1 = outs := List.append_nil _
        rw [q6]
        exact ⟨_, rfl, q5, pv, rv, q3, q4, fun j hj => .inl hj⟩
  · rw [hp] at c13
    clear hn hx hB hdl
    have he : x.askOthers = ([], x) := by simp [Nd.askOthers, hp]
    rw [he]
    go_enter Tryz.func63, Tryz.ntmps63
    go_wp2
    go_ret
    exact ⟨_, rfl, outs_nil _ _, NTo.here (unhide HN) (Below.refl _ _)⟩
end Go.Proofs.YtnneljcbelgoeaaGreat.wire
