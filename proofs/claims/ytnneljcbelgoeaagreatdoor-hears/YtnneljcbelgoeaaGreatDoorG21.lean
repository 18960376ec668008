import Derived.Test.YtnneljcbelgoeaaGreatDoorG20
import Derived.Test.YtnneljcbelgoeaaGreatDoorG11
import Derived.Test.YtnneljcbelgoeaaGreatDoorG16
import Derived.Test.YtnneljcbelgoeaaGreatDoorG17
import Derived.Test.YtnneljcbelgoeaaGreatDoorG10
/- A tick: others are asked (P9). -/
namespace Go.Proofs.YtnneljcbelgoeaaGreatDoor.wire
open Go.RowKit Go.Maps

/-- The numbers that can be asked still. -/
structure AbleAt (B : Nat) (S : List Nat) (w : World) (v : Value) (l : List Int) : Prop where
  ex : ∃ g n cap, v = .slice (some ⟨g, 0, none⟩) l.length cap ∧ IntsAt w g n l ∧ l.length ≤ cap ∧ cap ≤ maxLen ∧ B ≤ g ∧ g ∉ S
theorem Tryz.infoPkL : (Tryz.prog.info? 78).map (fun i => (i.zero, i.size, i.bytes)) = some (some (.agg #[.int .i64 0, .string ⟨#[]⟩]), 2, 24) := by kernel_rfl
/-- What stands while others are asked. -/
structure AskI (W wr : World) (nb mb : Nat) (cb : Dk) (pv rv : Value) (x : Nd) (o a : Value) (M k : Nat) (A L : List Int) (y : Nd) (outs : List Pk) : Prop where
  e1 : outs ++ (y.asks (M - k) L).1 = (x.asks M A).1
  e2 : (y.asks (M - k) L).2 = (x.asks M A).2
  nat : NAt wr nb mb cb pv rv y
  frm : Frm (feet nb mb cb pv rv) W wr
  out : Outs W wr o outs
  able : 0 < M → AbleAt W.heap.size (feet nb mb cb pv rv) wr a L
  ok : NdOk y
  dl : y.dl = x.dl
  b : NdB (Bg + k) y
/-- What stands between the two steps of asking one. -/
structure AskStep (W w : World) (nb mb : Nat) (cb : Dk) (pv rv : Value) (o : Value) (g n : Nat) (L : List Int) (z : Nd) (outs : List Pk) : Prop where
  nat : NAt w nb mb cb pv rv z
  frm : Frm (feet nb mb cb pv rv) W w
  out : w.ownsRow W.heap.size 78 2 o outs.length (outs.flatMap pkC)
  ints : IntsAt w g n L
  apart : ∀ j, o.ownBlock = some j → j ≠ g
theorem row_ints {w : World} {base m : Nat} {v : Value} {xs : List Value} {g n : Nat} {L : List Int} (h : w.ownsRow base 78 2 v m xs) (hg : IntsAt w g n L) : ∀ j, v.ownBlock = some j → j ≠ g := fun j hj e => by
  subst e
  obtain ⟨cs, hcs⟩ := own_blk h hj
  obtain ⟨cur, hcu, _⟩ := hg.ex
  rw [hcu] at hcs
  cases hcs
theorem AskStep.mk1 {W wr w1 w3 : World} {nb mb : Nat} {cb : Dk} {pv rv : Value} {x y z : Nd} {o a : Value} {M k g n : Nat} {A L : List Int} {outs : List Pk} (hI : AskI W wr nb mb cb pv rv x o a M k A L y outs) (hf1 : Frm [cb.ab] wr w1) (hg1 : IntsAt w1 g n L) (ho1 : w1.ownsRow W.heap.size 78 2 o outs.length (outs.flatMap pkC)) {y1 : Nd} (hn1 : NAt w1 nb mb cb pv rv y1) (hn3 : NAt w3 nb mb cb pv rv z) (hf3 : Frm [mb] w1.drew w3) (hmg : g ≠ mb) : AskStep W w3 nb mb cb pv rv o g n L z outs := by
  have hf13 : Frm [mb] w1 w3 := ⟨hf3.os, hf3.tape, hf3.output, hf3.size, hf3.block⟩
  have hg3 := hg1.frm hf13 (by simpa using hmg)
  have ho3 := own_frm ho1 hf13 (fun j hj e => by
    simp only [List.mem_singleton] at e
    subst e
    obtain ⟨cs, hcs⟩ := own_blk ho1 hj
    obtain ⟨es, c, hm⟩ := map_blk hn1.map
    rw [hm] at hcs
    cases hcs)
  exact ⟨hn3, (hI.frm.trans hf1 (by simp [feet, Dk.all])).trans hf13 (by simp [feet]), ho3, hg3, row_ints ho3 hg3⟩
theorem AskStep.mk2 {W w3 w4 : World} {nb mb : Nat} {cb : Dk} {pv rv : Value} {z : Nd} {o o' : Value} {g n : Nat} {L : List Int} {outs : List Pk} (h : AskStep W w3 nb mb cb pv rv o g n L z outs) (hfl : ∀ k ∈ feet nb mb cb pv rv, k < W.heap.size) {ob : Obj} (hgrow : (w3.alloc ob).grownBy w4 o.ownBlock) {PK : Pk} {m : Nat} (hown : w4.ownsRow W.heap.size 78 2 o' m (outs.flatMap pkC ++ [.int .i64 PK.dest, .string (bs PK.bytes)])) (hm : m = outs.length + 1) : AskStep W w4 nb mb cb pv rv o' g n L z (outs ++ [PK]) := by
  have hf4 : Frm o.ownBlock.toList w3 w4 := (Frm.of_below (S := o.ownBlock.toList) ((Below.refl _ w3).alloc (Nat.le_refl _) _) (Nat.le_refl _)).trans (Frm.of_grown (S := o.ownBlock.toList) hgrow (fun j hj => .inl (by simp [hj]))) (fun j hj => .inl hj)
  have hg4 := h.ints.frm hf4 (fun e => h.apart g (Option.mem_toList.1 e) rfl)
  have hown' : w4.ownsRow W.heap.size 78 2 o' (outs ++ [PK]).length ((outs ++ [PK]).flatMap pkC) := by
    have e1 : (outs ++ [PK]).flatMap pkC = outs.flatMap pkC ++ [.int .i64 PK.dest, .string (bs PK.bytes)] := by simp [pkC]
    have e2 : (outs ++ [PK]).length = outs.length + 1 := by simp
    rw [e1, e2, ← hm]
    exact hown
  refine ⟨h.nat.frm hf4 (fun j hj e => ?_), h.frm.trans hf4 (fun j hj => .inr ((own_lt h.out (Option.mem_toList.1 hj)).1)), hown', hg4, row_ints hown' hg4⟩
  have h1 := (own_lt h.out (Option.mem_toList.1 e)).1
  have h2 := hfl j hj
  omega
theorem asks_succ (y : Nd) (n : Nat) (L : List Int) : y.asks (n + 1) L = ((y.drew L.length).direct 3 (L.getD (y.drawn L.length).toNat 0) (y.drew L.length).pnum (y.drew L.length).ptgt :: ((y.drew L.length).along.asks n (L.eraseIdx (y.drawn L.length).toNat)).1, ((y.drew L.length).along.asks n (L.eraseIdx (y.drawn L.length).toNat)).2) := rfl
set_option maxHeartbeats 2000000 in
set_option maxRecDepth 100000 in
theorem askOthers_any {x : Nd} (hx : NdOk x) (hdl : DlOk x.dl) (hB : NdB Bg x) {nb mb : Nat} {cb : Dk} {pv rv : Value} {W : World} (hn : NAt W nb mb cb pv rv x) :
    Calls Tryz.prog 98 #[.pointer (some ⟨nb, 0, none⟩)] W fun e w' => ∃ o, e = .returned o ∧ Outs W w' o x.askOthers.1 ∧ NTo W w' nb mb cb pv rv x.askOthers.2 := by
  have c13 := hn.c_pack
  have hlt := hn.lt
  have HX := hide hx
  have HN := hide hn
  have HB := hide hB
  have HDL := hide hdl
  rcases hp : x.pack with _ | _
  · rw [hp] at c13
    have he : x.askOthers = x.asks (min x.c.proxies.toNat x.able.length) x.able := by simp [Nd.askOthers, hp]
    rw [he]
    have hpl := present_len hx
    have hal : x.able.length ≤ 8 := Nat.le_trans (List.length_filter_le _ _) hpl
    have hcf := hx.cfg
    simp only [cfgB, Bool.and_eq_true, decide_eq_true_eq] at hcf
    have hpx : 0 ≤ x.c.proxies ∧ x.c.proxies ≤ 3 := hcf.2.2.2.2.1
    have c4 := hn.c_proxies
    have c10 := hn.c_ptgt
    have HPR := hide (present_any hx hn.drew)
    clear he hp hcf hn hx hB hdl
    go_enter Tryz.func98, Tryz.ntmps98
    go_wp2_with fail
    go_region_held3 (fun w' => w'.cell? ⟨nb, 10, none⟩ = some (.int .i64 x.ptgt)) (go_keep)
      (first
        | (go_at_call 101; refine (unhide HPR).mono ?_; rintro e w1 ⟨v1, rfl, ho1, hb10⟩; have hb1 : Below W.heap.size W w1 := ⟨hb10.os, hb10.tape, hb10.output, hb10.size, hb10.block⟩; have q10 : w1.cell? ⟨nb, 10, none⟩ = some (.int .i64 x.ptgt) := ((unhide HN).below hb1).c_ptgt; have HO1 := hide ho1; have HB1 := hide hb1; clear ho1 hb1 hb10)
        | (go_at_call 133; refine (without_any (l := x.present) (by omega) x.ptgt (PassAt.of_own (unhide HO1))).mono ?_; rintro e w2 ⟨v2, rfl, ho2, hb2⟩; have hb22 : Below W.heap.size W w2 := (unhide HB1).trans (hb2.mono (unhide HB1).size); have r10 : w2.cell? ⟨nb, 10, none⟩ = some (.int .i64 x.ptgt) := ((unhide HN).below hb22).c_ptgt; have HO2 := hide (own_mono ho2 (unhide HB1).size); have HB2 := hide hb22; clear ho2 hb2 hb22))
    have ho2 : w2.ownsRow W.heap.size 3 1 v2 x.able.length (x.able.flatMap intC) := unhide HO2
    have hn2 := (unhide HN).below (unhide HB2)
    have e4 := hn2.c_proxies
    have HN2 := hide hn2
    obtain ⟨ao2, cap2, rfl⟩ := own_form ho2
    have HO3 := hide ho2
    clear ho2 hn2 HO2 HO1 HB1 HPR c4 c10 q10 c13
    obtain ⟨M, hM⟩ : ∃ M : Nat, M = min x.c.proxies.toNat x.able.length := ⟨_, rfl⟩
    have hMi : min x.c.proxies (x.able.length : Int) = (M : Int) := by rw [hM]; omega
    have hMl : M ≤ x.able.length := by rw [hM]; omega
    have hM3 : M ≤ 3 := by rw [hM]; omega
    have hi0 : AskI W w2 nb mb cb pv rv x (.slice none 0 0) (.slice ao2 x.able.length cap2) M 0 x.able x.able x [] := by
      refine ⟨rfl, rfl, unhide HN2, Frm.of_below (unhide HB2) (Nat.le_refl _), outs_nil _ _, fun h => ?_, unhide HX, rfl, (unhide HB).mono (by omega)⟩
      rcases (unhide HO3).2 with ⟨_, h0⟩ | ⟨g, cap, cur, e0, _⟩
      · omega
      · simp only [Value.slice.injEq] at e0
        obtain ⟨rfl, _, rfl⟩ := e0
        obtain ⟨k1, k2, k3, k4⟩ := IntsAt.of_own (unhide HO3)
        exact ⟨g, cap2, cap2, rfl, k1, k3, k4, k2, fun hk => by have := (unhide HN).feet_lt g hk; omega⟩
    have hres : x.asks (min x.c.proxies.toNat x.able.length) x.able = x.asks M x.able := by rw [← hM]
    have HRES := hide hres
    have HI0 := hide hi0
    have HFL := hide ((unhide HN).feet_lt)
    obtain ⟨ti, hti, hz0, hz1, hz2⟩ := info_parts Tryz.infoPkL
    clear hi0 HN2 HO3 hM hres HN HX HB
    go_wp2
    go_loopw [3, 4, 27] (fun o a i wr => ∃ (k : Nat) (L : List Int) (y : Nd) (outs : List Pk), i = .int .i64 k ∧ k ≤ M ∧ L.length + k = x.able.length ∧ outs.length = k ∧ Hid (AskI W wr nb mb cb pv rv x o a M k x.able L y outs)) (fun _ _ i _ => M - (Go.RowKit.intOf i).toNat)
    case atStart => exact ⟨0, x.able, x, [], by go_num, Nat.zero_le _, rfl, rfl, HI0⟩
    case round =>
      obtain ⟨k, L, y, outs, rfl, hk, hL, hol, HI⟩ := hrel
      by_cases hlt : k < M
      · obtain ⟨g, n, acap, rfl, hga, hc1, hc2, hg0, hgf⟩ := ((unhide HI).able (by omega)).ex
        have hLp : 1 ≤ L.length := by omega
        have c6 := (unhide HI).nat.c_draw
        simp only [Dk.fn] at c6
        have l6 := (unhide HI).nat.lt
        have HC := hide (draw_any (by rw [(unhide HI).dl]; exact unhide HDL) ((unhide HI).b.mono (by unfold Bg Big; omega)) (unhide HI).nat (L.length : Int) (by omega) (by omega))
        have hbd := drawn_bd y (n := (L.length : Int)) (by omega)
        obtain ⟨J, hJ⟩ : ∃ J : Nat, y.drawn (L.length : Int) = (J : Int) := ⟨(y.drawn (L.length : Int)).toNat, by omega⟩
        have hJl : J < L.length := by omega
        have hJi : (J : Int) < (L.length : Int) := by omega
        have hJ8 : (J : Int) ≤ 8 := by omega
        have hJ0 : (0 : Int) ≤ (J : Int) := by omega
        have hsucc := asks_succ y (M - (k + 1)) L
        rw [show M - (k + 1) + 1 = M - k by omega, hJ, Int.toNat_natCast] at hsucc
        have HSU := hide hsucc
        rw [hJ] at HC
        have hlt' : (k : Int) < (M : Int) := by omega
        have HGA := hide hga
        have HLL := hide hL
        have hab : g ≠ cb.ab := fun e => hgf (by simp [feet, Dk.all, e])
        have hmbg : g ≠ mb := fun e => hgf (by simp [feet, e])
        clear hsucc hbd hJ hga hL
        go_wp2_with fail
        refine (unhide HC).mono ?_
        rintro e w1 ⟨rfl, hn1, hf1⟩
        have hg1 := (unhide HGA).frm hf1 (by simpa using hab)
        have a1 := hg1.cell J hJl
        have c10 := hn1.c_ptgt
        have c11 := hn1.c_pnum
        have l1 := hn1.lt
        have lg := hg1.lt
        have hd1 := drew_ok (unhide HI).ok (L.length : Int)
        obtain ⟨y1, hy1⟩ : ∃ y1, y1 = y.drew (L.length : Int) := ⟨_, rfl⟩
        rw [← hy1] at hn1 c10 c11 hd1
        obtain ⟨D, hD⟩ : ∃ D, D = L.getD J 0 := ⟨_, rfl⟩
        rw [← hD] at a1
        have HDI := hide (direct_any hd1 hn1.drew 3 D y1.pnum y1.ptgt)
        generalize hPK : y1.direct 3 D y1.pnum y1.ptgt = PK at HDI
        have HPK := hide hPK
        have HY1 := hide hy1
        have HDD := hide hD
        have HN1 := hide hn1
        have HG1 := hide hg1
        have HF1 := hide hf1
        have HO1 : Hid (w1.ownsRow W.heap.size 78 2 u3 outs.length (outs.flatMap pkC)) := hide (own_frm (unhide HI).out hf1 (fun j hj e => by
          simp only [List.mem_singleton] at e
          subst e
          obtain ⟨cs, hcs⟩ := own_blk (unhide HI).out hj
          rw [(unhide HI).nat.draw.ab] at hcs
          cases hcs))
        clear hn1 hg1 hf1 hy1 hD hd1 hPK HC c6 HGA
        go_wp2_with fail
        go_region_held3 (fun w' => w'.cell? ⟨nb, 10, none⟩ = some (.int .i64 y1.ptgt) ∧ w'.cell? ⟨nb, 11, none⟩ = some (.int .i64 y1.pnum) ∧ w'.cell? ⟨g, J, none⟩ = some (.int .i64 D)) (go_keep)
          (first
            | (go_at_call 102; refine (unhide HDI).mono ?_; rintro e w3 ⟨rfl, hn3, hf3⟩; have hz3 := hf3.size; have HT3 := hide (AskStep.mk1 (unhide HI) (unhide HF1) (unhide HG1) (unhide HO1) (unhide HN1) hn3 hf3 hmbg); have q10 : w3.cell? ⟨nb, 10, none⟩ = some (.int .i64 y1.ptgt) := hn3.c_ptgt; have q11 : w3.cell? ⟨nb, 11, none⟩ = some (.int .i64 y1.pnum) := hn3.c_pnum; have qg : w3.cell? ⟨g, J, none⟩ = some (.int .i64 D) := by { rw [unhide HDD]; exact (unhide HT3).ints.cell J hJl }; have hsz3 := (unhide HT3).frm.size; clear hn3 hf3)
            | (refine step_append_lies _ (by rfl) _ _ _ (by rfl) W.heap.size 78 ti (.agg #[.int .i64 0, .string ⟨#[]⟩]) 2 24 Tryz.underlying77 hti hz0 hz1 hz2 rfl (by omega) _ _ _ (by rfl) ((unhide HT3).out.alloc _) ⟨w3.heap.size, 0, none⟩ 1 1 [.int .i64 PK.dest, .string (bs PK.bytes)] (by rfl) (by rfl) (World.news_of_block (heap_alloc_new w3 _)) (by simp [Value.oneCell']) (by omega) (by unfold maxLen; omega) (by omega) (by simp; omega) (w3.heap.size + 1) (by simp) ?_; intro gg cap4 w4 hown4 hgrow hat hlt4; have HT4 := hide ((unhide HT3).mk2 (unhide HFL) hgrow hown4 (by rfl)); have r10 : w4.cell? ⟨nb, 10, none⟩ = some (.int .i64 y1.ptgt) := (unhide HT4).nat.c_ptgt; have r11 : w4.cell? ⟨nb, 11, none⟩ = some (.int .i64 y1.pnum) := (unhide HT4).nat.c_pnum; have rg : w4.cell? ⟨g, J, none⟩ = some (.int .i64 D) := by { rw [unhide HDD]; exact (unhide HT4).ints.cell J hJl }; clear hown4 hgrow hat))
        have HO4 := hide (unhide HT4).out
        have HN4 := hide (unhide HT4).nat
        have HF4 := hide (unhide HT4).frm
        have hg4 := (unhide HT4).ints
        have HGO := hide (unhide HT4).apart
        have HDE := hide (delete_any hg4 hc1 hc2 J hJl)
        clear hg4 HT3 HT4 r10 r11 rg q10 q11 qg
        go_wp2_with fail
        refine (unhide HDE).mono ?_
        rintro e w5 ⟨rfl, hg5, hf5⟩
        have hn5 := (unhide HN4).frm hf5 (fun j hj e => hgf (by simp only [List.mem_singleton] at e; rw [← e]; exact hj))
        have ho5 := own_frm (unhide HO4) hf5 (fun j hj e => (unhide HGO) j hj (by simpa using e))
        have hfW5 : Frm (feet nb mb cb pv rv) W w5 := (unhide HF4).trans hf5 (fun j hj => .inr (by simp only [List.mem_singleton] at hj; omega))
        have hel : (L.eraseIdx J).length = L.length - 1 := List.length_eraseIdx_of_lt hJl
        have hLL := unhide HLL
        have hai : AskI W w5 nb mb cb pv rv x (.slice (some ⟨gg, 0, none⟩) (outs.length + 1) cap4) (.slice (some ⟨g, 0, none⟩) (L.length - 1) acap) M (k + 1) x.able (L.eraseIdx J) y1.along (outs ++ [PK]) := by
          have h0 := unhide HI
          have hsu := unhide HSU
          rw [← unhide HY1, ← unhide HDD, unhide HPK] at hsu
          refine ⟨?_, ?_, hn5, hfW5, ?_, fun _ => ⟨g, n, acap, by rw [hel], hg5, by omega, hc2, hg0, hgf⟩, ?_, ?_, ?_⟩
          · have := h0.e1
            rw [hsu] at this
            rw [← this]
            simp
          · have := h0.e2
            rw [hsu] at this
            exact this
          · exact ho5
          · rw [unhide HY1]; exact along_ok (drew_ok h0.ok _)
          · show y1.dl = x.dl
            rw [unhide HY1]
            obtain ⟨m, e, _⟩ := drew_ex y (L.length : Int)
            rw [e]; exact h0.dl
          · rw [unhide HY1]; exact (along_b (drew_b h0.b _)).mono (by omega)
        have HAI := hide hai
        clear hai hn5 ho5 hfW5 hg5 hf5 HDE HN4 HF4 HO4 HGO HI HSU HPK HY1 HDD
        go_wp2
        go_roundw
        case rel => exact ⟨k + 1, L.eraseIdx J, y1.along, outs ++ [PK], by go_num, by omega, by rw [hel]; omega, by simp [hol], by have h := HAI; rw [hol] at h; exact h⟩
        case measure => simp [Go.RowKit.intOf]; omega
      · have e : k = M := by omega
        subst e
        have hlt' : ¬ (k : Int) < (k : Int) := by omega
        go_wp2
        go_ret
        obtain ⟨q1, q2, q3, q4, q5, _⟩ := unhide HI
        rw [Nat.sub_self] at q1 q2
        rw [unhide HRES, ← q1, ← q2]
        have q6 : outs ++ (y.asks 0 L).1 = outs := List.append_nil _
        rw [q6]
        exact ⟨_, rfl, q5, pv, rv, q3, q4, fun j hj => .inl hj⟩
  · rw [hp] at c13
    clear hn hx hB hdl
    have he : x.askOthers = ([], x) := by simp [Nd.askOthers, hp]
    rw [he]
    go_enter Tryz.func98, Tryz.ntmps98
    go_wp2
    go_ret
    exact ⟨_, rfl, outs_nil _ _, NTo.here (unhide HN) (Below.refl _ _)⟩
end Go.Proofs.YtnneljcbelgoeaaGreatDoor.wire
/- Tick (P9). -/
namespace Go.Proofs.YtnneljcbelgoeaaGreatDoor.wire
open Go.RowKit Go.Maps

set_option maxHeartbeats 2000000 in
set_option maxRecDepth 100000 in
theorem goOn_any {x : Nd} (hx : NdOk x) (hdl : DlOk x.dl) (hB : NdB Bg x) {nb mb : Nat} {cb : Dk} {pv rv : Value} {W : World} (hn : NAt W nb mb cb pv rv x) :
    Calls Tryz.prog 70 #[.pointer (some ⟨nb, 0, none⟩)] W fun e w' => ∃ o, e = .returned o ∧ Outs W w' o x.goOn.1 ∧ NTo W w' nb mb cb pv rv x.goOn.2 := by
  have HP := hide (probing_any hn)
  have HX := hide hx
  have HN := hide hn
  have HB := hide hB
  have HDL := hide hdl
  have hlt := hn.lt
  have hcf := hx.cfg
  simp only [cfgB, Bool.and_eq_true, decide_eq_true_eq] at hcf
  obtain ⟨_, ⟨p1, p2⟩, ⟨v1, v2⟩, _⟩ := hcf
  obtain ⟨k1, k2⟩ := hB.clock
  obtain ⟨⟨k3, k4⟩, _⟩ := hB.tk
  unfold Bg at k2 k4
  clear hn hx hB hdl
  by_cases hp : x.ptgt = 0
  · have hp' : (x.ptgt == 0) = true := by simp [hp]
    rw [hp'] at HP
    have he : x.goOn = ([], x) := by simp [Nd.goOn, hp]
    rw [he]
    go_enter Tryz.func70, Tryz.ntmps70
    go_wp2_with fail
    refine (unhide HP).mono ?_
    rintro e w1 ⟨rfl, hb1⟩
    have HB1 := hide hb1
    clear hb1 HP
    go_wp2
    go_ret
    exact ⟨_, rfl, outs_nil _ _, NTo.here (unhide HN) (unhide HB1)⟩
  · have hp' : (x.ptgt == 0) = false := by simp [hp]
    rw [hp'] at HP
    go_enter Tryz.func70, Tryz.ntmps70
    go_wp2_with fail
    refine (unhide HP).mono ?_
    rintro e w1 ⟨rfl, hb1⟩
    have hn1 := (unhide HN).below hb1
    have c7 := hn1.c_clock
    have c12 := hn1.c_pst
    have c1 := hn1.c_period
    have c2 := hn1.c_wait
    have l1 := hn1.lt
    have HB1 := hide hb1
    have HN1 := hide hn1
    clear hb1 hn1 HP
    by_cases h1 : x.clock - x.pst = x.c.wait
    · have h1' : (x.clock - x.pst == x.c.wait) = true := by simp [h1]
      have he : x.goOn = x.askOthers := by simp [Nd.goOn, hp, h1]
      have HE := hide he
      have HA := fun n => hide (askOthers_any (unhide HX) (unhide HDL) (unhide HB) ((unhide HN1).drewN n))
      clear he h1
      go_wp2_with fail
      go_quiet (fail)
      go_wp2_with fail
      refine (unhide (HA _)).mono ?_
      rintro e w2 ⟨o, rfl, ho, hto⟩
      obtain ⟨oa, oc, rfl⟩ := own_form ho
      have HO := hide ho
      have HTO := hide hto
      clear ho hto HA
      go_wp2
      go_ret
      rw [unhide HE]
      exact ⟨_, rfl, own_mono (unhide HO) (unhide HB1).size, NTo.trans (Frm.of_below (bdrewN (unhide HB1) _) (Nat.le_refl _)) (fun k hk => .inl hk) (unhide HTO)⟩
    · have h1' : (x.clock - x.pst == x.c.wait) = false := by simp [h1]
      by_cases h2 : x.clock - x.pst = x.c.period
      · have h2' : (x.clock - x.pst == x.c.period) = true := by simp [h2]
        have he : x.goOn = ([], x.endProbe) := by
          unfold Nd.goOn
          rw [if_neg hp, if_neg h1, if_pos h2]
        have HE := hide he
        have HA := fun n => hide (endProbe_any (unhide HX) ((unhide HB).mono (by unfold Bg Big; omega)) ((unhide HN1).drewN n))
        clear he h1 h2
        go_wp2_with fail
        go_quiet (fail)
        go_wp2_with fail
        refine (unhide (HA _)).mono ?_
        rintro e w2 ⟨rfl, hto⟩
        have HTO := hide hto
        clear hto HA
        go_wp2
        go_ret
        rw [unhide HE]
        exact ⟨_, rfl, outs_nil _ _, NTo.trans (Frm.of_below (bdrewN (unhide HB1) _) (Nat.le_refl _)) (fun k hk => .inl hk) (unhide HTO)⟩
      · have h2' : (x.clock - x.pst == x.c.period) = false := by simp [h2]
        have he : x.goOn = ([], x) := by
          unfold Nd.goOn
          rw [if_neg hp, if_neg h1, if_neg h2]
        have HE := hide he
        clear he h1 h2
        go_wp2_with fail
        go_quiet (fail)
        go_wp2
        go_ret
        rw [unhide HE]
        exact ⟨_, rfl, outs_nil _ _, NTo.here (unhide HN) (bdrewN (unhide HB1) _)⟩
end Go.Proofs.YtnneljcbelgoeaaGreatDoor.wire
/- Tick (P9). -/
namespace Go.Proofs.YtnneljcbelgoeaaGreatDoor.wire
open Go.RowKit Go.Maps

theorem deads_dl : ∀ (l : List Mem) (x : Nd), (l.foldl (fun y m => y.hear m.dead) x).dl = x.dl
  | [], _ => rfl
  | m :: r, x => (deads_dl r (x.hear m.dead)).trans (hear_dl x m.dead)
theorem endSuspects_dl (x : Nd) : x.endSuspects.dl = x.dl := deads_dl _ _
theorem asks_dl : ∀ (n : Nat) (l : List Int) (x : Nd), (x.asks n l).2.dl = x.dl
  | 0, _, _ => rfl
  | n + 1, l, x => (asks_dl n (l.eraseIdx (x.drawn l.length).toNat) (x.drew l.length).along).trans (by
      show (x.drew l.length).dl = x.dl
      obtain ⟨m, e, _⟩ := drew_ex x (l.length : Int)
      rw [e])
theorem goOn_dl (x : Nd) : x.goOn.2.dl = x.dl := by
  unfold Nd.goOn
  split
  · rfl
  · split
    · unfold Nd.askOthers
      split
      · rfl
      · exact asks_dl _ _ _
    · split
      · show x.endProbe.dl = x.dl
        unfold Nd.endProbe
        split
        · rfl
        · exact hear_dl _ _
      · rfl
theorem probeNext_dl (x : Nd) : x.probeNext.2.dl = x.dl := by
  unfold Nd.probeNext
  split
  · rfl
  · have h : x.renew.probeOne.2.dl = x.renew.dl := by unfold Nd.probeOne; split <;> rfl
    exact h.trans (renew_dl x)
theorem tick_dl (x : Nd) : x.tick.2.dl = x.dl := (probeNext_dl _).trans ((goOn_dl _).trans (endSuspects_dl _))
theorem asks_len : ∀ (n : Nat) (l : List Int) (x : Nd), (x.asks n l).1.length = n
  | 0, _, _ => rfl
  | n + 1, l, x => by
    rw [asks_succ, List.length_cons, asks_len n]
theorem goOn_len {x : Nd} (h : NdOk x) : x.goOn.1.length ≤ 3 := by
  have hc := h.cfg
  simp only [cfgB, Bool.and_eq_true, decide_eq_true_eq] at hc
  unfold Nd.goOn
  split
  · simp
  · split
    · unfold Nd.askOthers
      split
      · simp
      · rw [asks_len]; omega
    · split <;> simp
theorem probeNext_len (x : Nd) : x.probeNext.1.length ≤ 1 := by
  unfold Nd.probeNext
  split
  · simp
  · unfold Nd.probeOne; split <;> simp
def Bt : Int := 999999998000
theorem outs_frm {S : List Nat} {W w1 w2 : World} {nb mb : Nat} {cb : Dk} {pv rv : Value} {o : Value} {l : List Pk} {y : Nd} (hn : NAt w1 nb mb cb pv rv y) (ho : Outs W w1 o l) (hf : Frm S w1 w2) (hs : S = feet nb mb cb pv rv) : Outs W w2 o l :=
  own_frm ho hf (fun k hk => by
    obtain ⟨cs, hcs⟩ := own_blk ho hk
    rw [hs]
    exact hn.not_feet hcs (by decide) (by decide) (by decide) (by decide))
theorem own_form' {w : World} {base : Nat} {e : TypeId} {size : Nat} {v : Value} {n : Nat} {xs : List Value} (h : w.ownsRow base e size v n xs) : ∃ ao cap, v = .slice ao n cap := by
  rcases h.2 with ⟨rfl, rfl⟩ | ⟨g, cap, cur, rfl, _⟩
  · exact ⟨none, 0, rfl⟩
  · exact ⟨_, _, rfl⟩
set_option maxHeartbeats 2000000 in
set_option maxRecDepth 100000 in
theorem tick_any {x : Nd} (hx : NdOk x) (hdl : DlOk x.dl) (hB : NdB Bt x) {nb mb : Nat} {cb : Dk} {pv rv : Value} {W : World} (hn : NAt W nb mb cb pv rv x) :
    Calls Tryz.prog 41 #[.pointer (some ⟨nb, 0, none⟩)] W fun e w' => ∃ o, e = .returned o ∧ Outs W w' o x.tick.1 ∧ NTo W w' nb mb cb pv rv x.tick.2 := by
  obtain ⟨k1, k2⟩ := hB.clock
  unfold Bt at k2
  have c7 := hn.c_clock
  have f7 := free_at hn.blk 7
  have hlt := hn.lt
  have hs := hn.set 7 (.int .i64 (x.clock + 1)) (x' := x.later) rfl rfl rfl rfl rfl
  have x1 := later_ok hx
  have b1 := later_b hB
  have x2 := endRelays_ok x1
  have b2 := endRelays_b b1
  have x3 := endSuspects_ok x2
  have b3 := endSuspects_b x2 b2
  have x4 := goOn_ok x3
  have b4 := goOn_b x3 b3
  have d3 : DlOk x.later.endRelays.endSuspects.dl := by rw [endSuspects_dl]; exact hdl
  have d4 : DlOk x.later.endRelays.endSuspects.goOn.2.dl := by rw [goOn_dl]; exact d3
  have hO1 := goOn_len x3
  have hO2 := probeNext_len x.later.endRelays.endSuspects.goOn.2
  have HR := hide (endRelays_any x1 hs.1)
  have HF0 := hide ((Frm.refl (feet nb mb cb pv rv) W).trans hs.2 (by simp [feet]))
  have HES := fun {nb mb cb pv rv W} h => hide (endSuspects_any x2 (b2.mono (by unfold Bt Bg; omega)) (nb := nb) (mb := mb) (cb := cb) (pv := pv) (rv := rv) (W := W) h)
  have HGO := fun {nb mb cb pv rv W} h => hide (goOn_any x3 d3 (b3.mono (by unfold Bt Bg; omega)) (nb := nb) (mb := mb) (cb := cb) (pv := pv) (rv := rv) (W := W) h)
  have HPN := fun {nb mb cb pv rv W} h => hide (probeNext_any x4 d4 (b4.mono (by unfold Bt Bg; omega)) (nb := nb) (mb := mb) (cb := cb) (pv := pv) (rv := rv) (W := W) h)
  have ht1 : x.tick.1 = x.later.endRelays.endSuspects.goOn.1 ++ x.later.endRelays.endSuspects.goOn.2.probeNext.1 := rfl
  have ht2 : x.tick.2 = x.later.endRelays.endSuspects.goOn.2.probeNext.2 := rfl
  rw [ht1, ht2]
  clear x1 x2 x3 x4 b1 b2 b3 b4 d3 d4 ht1 ht2 hx hdl hB hn hs
  generalize x.later.endRelays = X1 at HR HES HGO HPN hO1 hO2 ⊢
  generalize X1.endSuspects = X2 at HES HGO HPN hO1 hO2 ⊢
  generalize X2.goOn = G at HGO HPN hO1 hO2 ⊢
  obtain ⟨O1, X3⟩ := G
  dsimp only at HGO HPN hO1 hO2 ⊢
  generalize X3.probeNext = G2 at HPN hO2 ⊢
  obtain ⟨O2, X4⟩ := G2
  dsimp only at HPN hO2 ⊢
  obtain ⟨ti, hti, hz0, hz1, hz2⟩ := info_parts Tryz.infoPkL
  have hone : ∀ u ∈ O2.flatMap pkC, u.oneCell' = true := by
    intro u hu
    obtain ⟨a, _, h2⟩ := List.mem_flatMap.1 hu
    simp [pkC] at h2
    rcases h2 with rfl | rfl <;> rfl
  go_enter Tryz.func41, Tryz.ntmps41
  go_wp2_with fail
  refine (unhide HR).mono ?_
  rintro e w1 ⟨rfl, hto1⟩
  have HT1 := hide (NTo.trans (unhide HF0) (fun k hk => .inl hk) hto1)
  clear hto1 HR HF0 c7 f7
  obtain ⟨pv1, rv1, hn1, hf1, hs1⟩ := unhide HT1
  have HN1 := hide hn1
  have HF1 := hide hf1
  have HS1 := hide hs1
  clear hn1 hf1 hs1 HT1
  go_wp2_with fail
  refine (unhide (HES (unhide HN1))).mono ?_
  rintro e w2 ⟨rfl, hto2⟩
  have HT2 := hide (NTo.trans (unhide HF1) (unhide HS1) hto2)
  clear hto2 HN1 HF1 HS1 HES
  obtain ⟨pv2, rv2, hn2, hf2, hs2⟩ := unhide HT2
  have HN2 := hide hn2
  have HF2 := hide hf2
  have HS2 := hide hs2
  clear hn2 hf2 hs2 HT2
  go_wp2_with fail
  refine (unhide (HGO (unhide HN2))).mono ?_
  rintro e w3 ⟨o3, rfl, ho3, hto3⟩
  have HO3 := hide (own_mono ho3 (unhide HF2).size)
  have HT3 := hide (NTo.trans (unhide HF2) (unhide HS2) hto3)
  clear hto3 ho3 HN2 HF2 HS2 HGO
  obtain ⟨oa3, oc3, rfl⟩ := own_form (unhide HO3)
  obtain ⟨pv3, rv3, hn3, hf3, hs3⟩ := unhide HT3
  have HN3 := hide hn3
  have HF3 := hide hf3
  have HS3 := hide hs3
  clear hn3 hf3 hs3 HT3
  go_wp2_with fail
  refine (unhide (HPN (unhide HN3))).mono ?_
  rintro e w4 ⟨o4, rfl, ho4, hto4⟩
  have hto4' := hto4
  obtain ⟨pv4, rv4, hn4, hf4, hs4⟩ := hto4'
  have HO3b : Hid (w4.ownsRow W.heap.size 78 2 (.slice oa3 O1.length oc3) O1.length (O1.flatMap pkC)) := hide (outs_frm (W := W) (unhide HN3) (unhide HO3) hf4 rfl)
  have HO4 : Hid (w4.ownsRow W.heap.size 78 2 o4 O2.length (O2.flatMap pkC)) := hide (own_mono ho4 (unhide HF3).size)
  have HT4 := hide (NTo.trans (unhide HF3) (unhide HS3) hto4)
  have hz4 := Nat.le_trans (unhide HF3).size hf4.size
  obtain ⟨oa4, oc4, rfl⟩ := own_form ho4
  clear hto4 ho4 hn4 hf4 hs4 HN3 HF3 HS3 HPN HO3
  go_wp2_with (at_builtin; refine wpList_append_rows rfl _ _ 77 rfl W.heap.size W.heap.size 78 ti (.agg #[.int .i64 0, .string ⟨#[]⟩]) 2 24 Tryz.underlying77 hti hz0 hz1 hz2 rfl (by decide) _ O1.length (O1.flatMap pkC) _ O2.length (O2.flatMap pkC) rfl rfl (unhide HO3b) (unhide HO4) hone (by unfold maxLen; omega) (by omega) hz4 ?_)
  intro o5 w5 ho5 hgrow
  have hf5 : Frm (Value.slice oa3 O1.length oc3).ownBlock.toList w4 w5 := Frm.of_grown hgrow (fun j hj => .inl (by simp [hj]))
  have HO5 := hide ho5
  obtain ⟨oa5, oc5, rfl⟩ := own_form' ho5
  obtain ⟨pv4, rv4, hn4, hfw4, hs4⟩ := unhide HT4
  have hn5 := hn4.frm hf5 (fun j hj e => by
    obtain ⟨cs, hcs⟩ := own_blk (unhide HO3b) (Option.mem_toList.1 e)
    exact hn4.not_feet hcs (by decide) (by decide) (by decide) (by decide) hj)
  have HT5 := hide (⟨pv4, rv4, hn5, hfw4.trans hf5 (fun j hj => .inr (own_lt (unhide HO3b) (Option.mem_toList.1 hj)).1), hs4⟩ : NTo W w5 nb mb cb pv rv X4)
  clear ho5 hgrow hf5 hn4 hfw4 hs4 hn5 HT4 HO3b HO4
  go_wp2
  go_ret
  refine ⟨_, rfl, ?_, unhide HT5⟩
  show w5.ownsRow W.heap.size 78 2 _ (O1 ++ O2).length ((O1 ++ O2).flatMap pkC)
  rw [List.length_append, List.flatMap_append]
  exact unhide HO5
end Go.Proofs.YtnneljcbelgoeaaGreatDoor.wire
/- What a node knows never falls; what it keeps through whatever comes. No Go here. -/
namespace Go.Proofs.YtnneljcbelgoeaaGreatDoor.wire

/-- b is not smaller than a. -/
def leK (a b : K3) : Prop := a.inc < b.inc ∨ (a.inc = b.inc ∧ a.st ≤ b.st)
theorem leK.refl (a : K3) : leK a a := .inr ⟨rfl, Int.le_refl _⟩
theorem leK.trans {a b c : K3} (h : leK a b) (k : leK b c) : leK a c := by
  unfold leK at *
  omega
theorem leK_of_not {a b : K3} (h : greaterB a b = false) : leK a b := by
  unfold greaterB at h
  unfold leK
  split at h
  · rename_i e
    have : ¬ b.st < a.st := by simpa using h
    right; exact ⟨e, by omega⟩
  · rename_i e
    have : ¬ b.inc < a.inc := by simpa using h
    left; omega
theorem not_of_leK {a b : K3} (h : leK a b) : greaterB a b = false := by
  unfold greaterB
  unfold leK at h
  split
  · simp; omega
  · simp; omega
theorem leK_of_greater {a b : K3} (h : greaterB a b = true) : leK b a := by
  unfold greaterB at h
  unfold leK
  split at h
  · rename_i e
    have : b.st < a.st := by simpa using h
    right; omega
  · have : b.inc < a.inc := by simpa using h
    left; omega
/-- x' knows all that x knows, or more. -/
structure Up (x x' : Nd) : Prop where
  c : x'.c = x.c
  dl : x'.dl = x.dl
  up : ∀ i o, findM i x.tab = some o → ∃ o', findM i x'.tab = some o' ∧ leK o.k o'.k
theorem Up.refl (x : Nd) : Up x x := ⟨rfl, rfl, fun _ o h => ⟨o, h, leK.refl _⟩⟩
theorem Up.trans {x y z : Nd} (h : Up x y) (k : Up y z) : Up x z :=
  ⟨k.c.trans h.c, k.dl.trans h.dl, fun i o ho => by
    obtain ⟨o', h1, h2⟩ := h.up i o ho
    obtain ⟨o'', h3, h4⟩ := k.up i o' h1
    exact ⟨o'', h3, h2.trans h4⟩⟩
theorem Up.same {x y : Nd} (hc : y.c = x.c) (hd : y.dl = x.dl) (ht : y.tab = x.tab) : Up x y := ⟨hc, hd, fun i o ho => ⟨o, by rw [ht]; exact ho, leK.refl _⟩⟩
theorem Up.of_same {x y z : Nd} (h : Up y z) (hc : y.c = x.c) (hd : y.dl = x.dl) (ht : y.tab = x.tab) : Up x z := (Up.same hc hd ht).trans h
theorem Up.change {x : Nd} (hx : NdOk x) (k : K3) (hk : ∀ o, findM k.id x.tab = some o → leK o.k k) : Up x (x.change k) := by
  refine ⟨rfl, rfl, fun i o ho => ?_⟩
  have e : findM i (x.change k).tab = if k.id = i then some ⟨k, x.clock + x.c.suspect, x.c.sends⟩ else findM i x.tab := findM_putM ⟨k, x.clock + x.c.suspect, x.c.sends⟩ i x.tab hx.rise
  rw [e]
  split
  · rename_i e2
    exact ⟨_, rfl, hk o (by rw [e2]; exact ho)⟩
  · exact ⟨o, ho, leK.refl _⟩
theorem Up.hear {x : Nd} (hx : NdOk x) (k : K3) : Up x (x.hear k) := by
  unfold Nd.hear
  split
  · unfold Nd.hearSelf
    split
    · exact Up.refl x
    · rename_i h
      simp only [Bool.or_eq_true, decide_eq_true_eq, not_or] at h
      obtain ⟨m, hm⟩ := hx.self
      have hown : x.own = m.k := by simp [Nd.own, atM, hm]
      have hid := (hx.own_key).2
      refine Up.change hx _ (fun o ho => ?_)
      have e : o = m := by
        have h1 : findM x.own.id x.tab = some o := ho
        rw [hid, hm] at h1
        exact (Option.some.inj h1).symm
      subst e
      have h2 : ¬ k.inc < o.k.inc := by rw [← hown]; exact h.2.2.1
      left
      show o.k.inc < k.inc + 1
      omega
  · unfold Nd.hearOther
    have heard : (∀ o, findM k.id x.tab = some o → leK o.k k) → Up x (x.heard k) := fun h => by
      unfold Nd.heard
      split
      · exact Up.change hx k h
      · exact (Up.change hx k h).trans (Up.same rfl rfl rfl)
    split
    · rename_i o ho
      split
      · rename_i hg
        exact heard (fun o' ho' => by rw [ho] at ho'; cases ho'; exact leK_of_greater hg)
      · exact Up.refl x
    · rename_i ho
      split
      · exact Up.refl x
      · exact heard (fun o' ho' => by rw [ho] at ho'; cases ho')
theorem Up.along {x : Nd} (hx : NdOk x) : Up x x.along := by
  refine ⟨rfl, rfl, fun i o ho => ?_⟩
  have h := along_keys hx i
  rw [ho] at h
  rcases hf : findM i x.along.tab with _ | o'
  · rw [hf] at h; cases h
  · rw [hf] at h
    have : o'.k = o.k := by simpa using h
    exact ⟨o', rfl, by rw [this]; exact leK.refl _⟩
theorem Up.hears : ∀ (l : List K3) {x : Nd}, NdOk x → allB l = true → Up x (x.hears l)
  | [], x, _, _ => Up.refl x
  | k :: r, x, hx, hl => by
    have h1 : isKeyB k = true ∧ allB r = true := by simpa [allB] using hl
    exact (Up.hear hx k).trans (Up.hears r (hear_ok hx k h1.1) h1.2)
theorem hears_ok' : ∀ (l : List K3) {x : Nd}, NdOk x → allB l = true → NdOk (x.hears l)
  | [], _, hx, _ => hx
  | k :: r, x, hx, hl => by
    have h1 : isKeyB k = true ∧ allB r = true := by simpa [allB] using hl
    exact hears_ok' r (hear_ok hx k h1.1) h1.2
theorem hears_b' : ∀ (l : List K3) {B : Int} {x : Nd}, NdB B x → NdB (B + l.length) (x.hears l)
  | [], _, _, h => h.mono (by simp)
  | k :: r, B, x, h => (hears_b' r (hear_b h k)).mono (by simp; omega)
/-- Relays: each has a number of its own. -/
structure RelOk (x : Nd) : Prop where
  rise : x.rels.Pairwise (fun a b => a.num < b.num)
  top : ∀ r ∈ x.rels, r.num ≤ x.num
theorem RelOk.same {x y : Nd} (h : RelOk x) (hr : y.rels = x.rels) (hn : x.num ≤ y.num) : RelOk y :=
  ⟨by rw [hr]; exact h.rise, fun r hm => by rw [hr] at hm; exact Int.le_trans (h.top r hm) hn⟩
theorem RelOk.filter {x y : Nd} (h : RelOk x) (p : Rel → Bool) (hr : y.rels = x.rels.filter p) (hn : x.num ≤ y.num) : RelOk y :=
  ⟨by rw [hr]; exact h.rise.filter _, fun r hm => by rw [hr] at hm; exact Int.le_trans (h.top r (List.mem_filter.1 hm).1) hn⟩
theorem hear_rels (x : Nd) (k : K3) : (x.hear k).rels = x.rels ∧ (x.hear k).num = x.num := by
  unfold Nd.hear Nd.hearSelf Nd.hearOther Nd.heard
  repeat' split
  all_goals exact ⟨rfl, rfl⟩
theorem hears_rels : ∀ (l : List K3) (x : Nd), (x.hears l).rels = x.rels ∧ (x.hears l).num = x.num
  | [], _ => ⟨rfl, rfl⟩
  | k :: r, x => ⟨(hears_rels r (x.hear k)).1.trans (hear_rels x k).1, (hears_rels r (x.hear k)).2.trans (hear_rels x k).2⟩
/-- Behind the pings that were relayed. -/
theorem relayed_keeps : ∀ (l : List Rel) {x : Nd}, NdOk x → NdOk (x.relayed l).2 ∧ Up x (x.relayed l).2 ∧ (x.relayed l).2.rels = x.rels ∧ (x.relayed l).2.num = x.num ∧ (∀ B, NdB B x → NdB B (x.relayed l).2) ∧ (x.relayed l).1.length = l.length ∧ (x.relayed l).2.dropped = x.dropped
  | [], x, hx => ⟨hx, Up.refl x, rfl, rfl, fun _ h => h, rfl, rfl⟩
  | r :: l, x, hx => by
    obtain ⟨a, b, c, d, e, f, g⟩ := relayed_keeps l (along_ok hx)
    exact ⟨a, (Up.along hx).trans b, c, d, fun B h => e B (along_b h), by show (x.along.relayed l).1.length + 1 = _; rw [f]; rfl, g⟩
/-- What a message does beside its keys. -/
structure Kept1 (x y : Nd) : Prop where
  ok : NdOk y
  up : Up x y
  rel : RelOk x → RelOk y
  b : ∀ B, NdB B x → NdB (B + 1) y
  dropped : y.dropped = x.dropped
theorem Kept1.along {x : Nd} (hx : NdOk x) : Kept1 x x.along := ⟨along_ok hx, Up.along hx, fun h => h.same rfl (Int.le_refl _), fun _ h => (along_b h).mono (by omega), rfl⟩
theorem Kept1.refl {x : Nd} (hx : NdOk x) : Kept1 x x := ⟨hx, Up.refl x, id, fun _ h => h.mono (by omega), rfl⟩
theorem takePing_keeps {x : Nd} (hx : NdOk x) (m : M6) : Kept1 x (x.takePing m).2 := by
  unfold Nd.takePing; split
  · exact Kept1.along hx
  · exact Kept1.refl hx
theorem takeAck_keeps {x : Nd} (hx : NdOk x) (m : M6) : Kept1 x (x.takeAck m).2 := by
  unfold Nd.takeAck
  have hok := relay_ok hx (if x.ptgt = m.tgt ∧ x.pnum = m.seq then true else x.pack) (l := x.rels.filter (fun r => !(itsB m r))) (Nat.le_trans (List.length_filter_le _ _) hx.rels)
  obtain ⟨a, b, c, d, e, _, g⟩ := relayed_keeps (x.rels.filter (itsB m)) hok
  refine ⟨a, b.of_same rfl rfl rfl, fun h => h.filter _ c (Int.le_of_eq d.symm), fun B h => (e B ⟨h.clock, h.num, h.dropped, h.lost, h.tk⟩).mono (by omega), g⟩
theorem takeAsk_keeps {x : Nd} (hx : NdOk x) (m : M6) : Kept1 x (x.takeAsk m).2 := by
  unfold Nd.takeAsk
  split
  · exact takePing_keeps hx m
  · split
    · exact Kept1.refl hx
    · rename_i h4
      have hok := ask_ok hx (by omega) m
      refine ⟨along_ok hok, (Up.along hok).of_same rfl rfl rfl, fun h => ?_, fun B h => ?_, rfl⟩
      · refine ⟨?_, fun r hr => ?_⟩
        · show (x.rels ++ [_]).Pairwise _
          rw [List.pairwise_append]
          refine ⟨h.rise, by simp, fun a ha b hb => ?_⟩
          simp at hb
          subst hb
          have := h.top a ha
          show a.num < x.num + 1
          omega
        · have hr' : r ∈ x.rels ++ [⟨m.tgt, x.num + 1, m.frm, m.seq, x.clock + x.c.period⟩] := hr
          rcases List.mem_append.1 hr' with h1 | h1
          · have := h.top r h1
            show r.num ≤ x.num + 1
            omega
          · simp at h1; subst h1; exact Int.le_refl _
      · have hB := h.mono (C := B + 1) (by omega)
        exact ⟨hB.clock, ⟨by have := h.num; show 0 ≤ x.num + 1; omega, by have := h.num; show x.num + 1 ≤ B + 1; omega⟩, hB.dropped, hB.lost, hB.tk⟩
theorem deed_keeps {x : Nd} (hx : NdOk x) (m : M6) : Kept1 x (x.deed m).2 := by
  unfold Nd.deed
  repeat' split
  · exact takePing_keeps hx m
  · exact takeAck_keeps hx m
  · exact takeAsk_keeps hx m
  · exact Kept1.refl hx
  · exact Kept1.refl hx
theorem takes_parts {s : Int} {b : List UInt8} (h : takesB s b = true) : wholeB (readM b) = true ∧ (readM b).frm ≠ s := by
  simp only [takesB, Bool.and_eq_true, Bool.not_eq_true', decide_eq_false_iff_not] at h
  refine ⟨?_, h.2⟩
  have := h.1
  simp only [decB, Bool.and_eq_true] at this
  exact this.2
/-- Whatever bytes come. -/
structure Got (x y : Nd) : Prop where
  ok : NdOk y
  up : Up x y
  rel : RelOk x → RelOk y
  b : ∀ B, NdB B x → NdB (B + 10) y
theorem receive_keeps {x : Nd} (hx : NdOk x) (b : List UInt8) : Got x (x.receive b).2 ∧ (takesB x.c.self b = true → (x.receive b).2.dropped = x.dropped) := by
  unfold Nd.receive
  split
  · rename_i ht
    obtain ⟨hw, _⟩ := takes_parts ht
    obtain ⟨hk, hl8, ha⟩ := whole_parts hw
    have h1 := hear_ok hx ⟨(readM b).frm, (readM b).inc, 1⟩ hk
    have h2 := hears_ok' (readM b).ups h1 ha
    have k := deed_keeps h2 (readM b)
    refine ⟨⟨k.ok, ((Up.hear hx _).trans (Up.hears _ h1 ha)).trans k.up, fun h => k.rel (h.same (((hears_rels _ _).1).trans (hear_rels _ _).1) (Int.le_of_eq (((hears_rels _ _).2).trans (hear_rels _ _).2).symm)), fun B h => (k.b _ (hears_b' _ (hear_b h _))).mono (by omega)⟩, fun _ => ?_⟩
    rw [k.dropped]
    have hd : ∀ (x : Nd) (k : K3), (x.hear k).dropped = x.dropped := fun x k => by
      unfold Nd.hear Nd.hearSelf Nd.hearOther Nd.heard
      repeat' split
      all_goals rfl
    have hds : ∀ (l : List K3) (x : Nd), (x.hears l).dropped = x.dropped := fun l => by
      induction l with
      | nil => intro x; rfl
      | cons k r ih => intro x; exact (ih (x.hear k)).trans (hd x k)
    rw [hds, hd]
  · rename_i ht
    refine ⟨⟨⟨hx.cfg, hx.rise, hx.len, hx.keys, hx.sends, hx.self, hx.evs, hx.rels, hx.pass⟩, Up.same rfl rfl rfl, fun h => h.same rfl (Int.le_refl _), fun B h => ?_⟩, fun h => absurd h ht⟩
    have hB := h.mono (C := B + 10) (by omega)
    exact ⟨hB.clock, hB.num, ⟨by have := h.dropped; show 0 ≤ x.dropped + 1; omega, by have := h.dropped; show x.dropped + 1 ≤ B + 10; omega⟩, hB.lost, hB.tk⟩
end Go.Proofs.YtnneljcbelgoeaaGreatDoor.wire
/- THE DOCUMENT'S NODE as plain data; what a node hears turns both alike. No Go here. -/
namespace Go.Proofs.YtnneljcbelgoeaaGreatDoor.wire

def toR (m : Mem) : RM := ⟨m.k, if m.k.st = 2 then m.due else 0⟩
def toU (c : Cfg) (m : Mem) : RU := ⟨m.k, c.sends - m.sends⟩
def Nd.rest (x : Nd) : List Mem := x.tab.filter (fun m => !(m.k.id == x.c.self))
/-- The document's node and the program's are one. -/
structure Rf (x : Nd) (r : Rn) : Prop where
  c : r.c = x.c
  draws : r.draws = x.dl
  drawn : r.drawn = x.dat
  clock : r.clock = x.clock
  seq : r.seq = x.num
  self : r.self = x.own
  others : r.others = x.rest.map toR
  pass : r.pass = x.pass
  probe : r.probe = x.ptgt
  prb : x.ptgt ≠ 0 → r.start = x.pst ∧ r.no = x.pnum ∧ r.acked = x.pack
  queue : r.queue.Perm ((x.tab.filter pendB).map (toU x.c))
  rels : r.rels = x.rels
  dropped : r.dropped = x.dropped
  evs : r.evs = x.evs
  lost : r.lost = x.lost

theorem putM_lt {m : Mem} {t : List Mem} (h : ∀ y ∈ t, m.k.id < y.k.id) : putM m t = m :: t := by
  cases t with
  | nil => rfl
  | cons y r => unfold putM; rw [if_pos (h y (List.mem_cons_self ..))]
theorem putM_cons (m y : Mem) (r : List Mem) : putM m (y :: r) = if m.k.id < y.k.id then m :: y :: r else if m.k.id = y.k.id then m :: r else y :: putM m r := rfl
theorem putM_filter (m : Mem) (s : Int) (hne : m.k.id ≠ s) : ∀ (t : List Mem), Rise t → (putM m t).filter (fun y => !(y.k.id == s)) = putM m (t.filter (fun y => !(y.k.id == s)))
  | [], _ => by simp [putM, hne]
  | y :: r, h => by
    obtain ⟨h1, h2⟩ := List.pairwise_cons.1 h
    have ih := putM_filter m s hne r h2
    rw [putM_cons]
    by_cases e1 : m.k.id < y.k.id
    · have : ∀ z ∈ (y :: r).filter (fun y => !(y.k.id == s)), m.k.id < z.k.id := fun z hz => by
        rcases List.mem_cons.1 (List.mem_filter.1 hz).1 with rfl | hz
        · exact e1
        · exact Int.lt_trans e1 (h1 z hz)
      rw [if_pos e1, putM_lt this, List.filter_cons, if_pos (by simp [hne])]
    · rw [if_neg e1]
      by_cases e2 : m.k.id = y.k.id
      · have hy : y.k.id ≠ s := by rw [← e2]; exact hne
        rw [if_pos e2, List.filter_cons, if_pos (by simp [hne]), List.filter_cons, if_pos (by simp [hy]), putM_cons, if_neg e1, if_pos e2]
      · rw [if_neg e2]
        by_cases hy : y.k.id = s
        · rw [List.filter_cons, if_neg (by simp [hy]), List.filter_cons, if_neg (by simp [hy]), ih]
        · rw [List.filter_cons, if_pos (by simp [hy]), List.filter_cons, if_pos (by simp [hy]), ih, putM_cons, if_neg e1, if_neg e2]
theorem putM_filter_self (m : Mem) : ∀ (t : List Mem), Rise t → (putM m t).filter (fun y => !(y.k.id == m.k.id)) = t.filter (fun y => !(y.k.id == m.k.id))
  | [], _ => by simp [putM]
  | y :: r, h => by
    obtain ⟨h1, h2⟩ := List.pairwise_cons.1 h
    unfold putM
    by_cases e1 : m.k.id < y.k.id
    · rw [if_pos e1, List.filter_cons]; simp
    · rw [if_neg e1]
      by_cases e2 : m.k.id = y.k.id
      · rw [if_pos e2, List.filter_cons, List.filter_cons]; simp [e2]
      · rw [if_neg e2, List.filter_cons, List.filter_cons, putM_filter_self m r h2]
theorem putM_toR (m : Mem) : ∀ (t : List Mem), (putM m t).map toR = putR (toR m) (t.map toR)
  | [] => rfl
  | y :: r => by
    have ih := putM_toR m r
    rw [List.map_cons]
    unfold putM putR
    show List.map toR (if m.k.id < y.k.id then m :: y :: r else if m.k.id = y.k.id then m :: r else y :: putM m r) = if m.k.id < y.k.id then toR m :: toR y :: r.map toR else if m.k.id = y.k.id then toR m :: r.map toR else toR y :: putR (toR m) (r.map toR)
    split
    · rfl
    · split
      · rfl
      · rw [List.map_cons, ih]
theorem putM_perm (m : Mem) : ∀ (t : List Mem), Rise t → (putM m t).Perm (m :: t.filter (fun y => !(y.k.id == m.k.id)))
  | [], _ => by simp [putM]
  | y :: r, h => by
    obtain ⟨h1, h2⟩ := List.pairwise_cons.1 h
    have ih := putM_perm m r h2
    unfold putM
    by_cases e1 : m.k.id < y.k.id
    · rw [if_pos e1]
      have : (y :: r).filter (fun z => !(z.k.id == m.k.id)) = y :: r := by
        rw [List.filter_eq_self]
        intro z hz
        have : m.k.id < z.k.id := by
          rcases List.mem_cons.1 hz with rfl | hz
          · exact e1
          · exact Int.lt_trans e1 (h1 z hz)
        simp; omega
      rw [this]
    · rw [if_neg e1]
      by_cases e2 : m.k.id = y.k.id
      · rw [if_pos e2]
        have : (y :: r).filter (fun z => !(z.k.id == m.k.id)) = r := by
          rw [List.filter_cons, if_neg (by simp [e2]), List.filter_eq_self]
          intro z hz
          have := h1 z hz
          simp; omega
        rw [this]
      · rw [if_neg e2, List.filter_cons, if_pos (by simp; omega)]
        exact (ih.cons y).trans (List.Perm.swap _ _ _)
theorem find_rest (s i : Int) (hne : i ≠ s) : ∀ t : List Mem, findR i ((t.filter (fun m => !(m.k.id == s))).map toR) = (findM i t).map toR
  | [] => rfl
  | y :: r => by
    have ih := find_rest s i hne r
    unfold findR findM at ih ⊢
    rw [List.filter_cons, List.find?_cons]
    by_cases hs : y.k.id = s
    · have hi : (y.k.id == i) = false := by rw [hs]; simpa using Ne.symm hne
      rw [if_neg (by simp [hs]), ih, hi]
    · rw [if_pos (by simp [hs]), List.map_cons, List.find?_cons]
      show (match (y.k.id == i) with | true => some (toR y) | false => _) = _
      cases y.k.id == i with
      | true => rfl
      | false => exact ih
theorem rest_find {x : Nd} {i : Int} (hne : i ≠ x.c.self) : findR i (x.rest.map toR) = (findM i x.tab).map toR := find_rest _ _ hne _
theorem rest_len {x : Nd} (hx : NdOk x) : x.rest.length + 1 = x.tab.length := by
  obtain ⟨m, hm⟩ := hx.self
  obtain ⟨h1, h2⟩ := findM_in hm
  have hp := putM_perm m x.tab hx.rise
  have hl := putM_len m x.tab hx.rise
  rw [h2, hm] at hl
  have := hp.length_eq
  rw [List.length_cons, h2] at this
  simp only [Option.isSome_some, if_true] at hl
  show (x.tab.filter (fun m => !(m.k.id == x.c.self))).length + 1 = x.tab.length
  omega
theorem change_own {x : Nd} (hx : NdOk x) (k : K3) : (x.change k).own = if k.id = x.c.self then k else x.own := by
  unfold Nd.own atM
  show ((findM x.c.self (putM ⟨k, x.clock + x.c.suspect, x.c.sends⟩ x.tab)).getD zeroM).k = _
  rw [findM_putM _ _ _ hx.rise]
  by_cases e : k.id = x.c.self
  · rw [if_pos e, if_pos (show (⟨k, x.clock + x.c.suspect, x.c.sends⟩ : Mem).k.id = x.c.self from e)]; rfl
  · rw [if_neg e, if_neg (show ¬ (⟨k, x.clock + x.c.suspect, x.c.sends⟩ : Mem).k.id = x.c.self from e)]
theorem change_queue {x : Nd} {r : Rn} (hx : NdOk x) (h : Rf x r) (k : K3) : (r.queue.filter (fun u : RU => !(u.k.id == k.id)) ++ [(⟨k, 0⟩ : RU)]).Perm (((x.change k).tab.filter pendB).map (toU x.c)) := by
  have hcf := hx.cfg
  simp only [cfgB, Bool.and_eq_true, decide_eq_true_eq] at hcf
  obtain ⟨_, _, _, _, _, s1, _⟩ := hcf
  have hp := ((putM_perm ⟨k, x.clock + x.c.suspect, x.c.sends⟩ x.tab hx.rise).filter pendB).map (toU x.c)
  refine List.Perm.trans ?_ hp.symm
  rw [List.filter_cons, if_pos (show pendB ⟨k, x.clock + x.c.suspect, x.c.sends⟩ = true by simp [pendB]; omega), List.map_cons]
  have e0 : toU x.c ⟨k, x.clock + x.c.suspect, x.c.sends⟩ = ⟨k, 0⟩ := by simp [toU]
  rw [e0]
  refine (List.perm_append_comm).trans (List.Perm.cons _ ?_)
  refine (h.queue.filter _).trans ?_
  rw [List.filter_map, List.filter_filter, List.filter_filter]
  refine List.Perm.of_eq ?_
  congr 1
  refine List.filter_congr (fun m _ => ?_)
  simp [toU, Bool.and_comm]
/-- A change of the node itself. -/
theorem Rf.change_self {x : Nd} {r : Rn} (h : Rf x r) (hx : NdOk x) (k : K3) (hk : k.id = x.c.self) : Rf (x.change k) (({ r with self := k } : Rn).changed k) := by
  refine ⟨h.c, h.draws, h.drawn, h.clock, h.seq, ?_, ?_, h.pass, h.probe, h.prb, change_queue hx h k, h.rels, h.dropped, ?_, ?_⟩
  · rw [change_own hx, if_pos hk]; rfl
  · show r.others = ((putM ⟨k, x.clock + x.c.suspect, x.c.sends⟩ x.tab).filter (fun m => !(m.k.id == x.c.self))).map toR
    have := putM_filter_self ⟨k, x.clock + x.c.suspect, x.c.sends⟩ x.tab hx.rise
    rw [show (⟨k, x.clock + x.c.suspect, x.c.sends⟩ : Mem).k.id = x.c.self from hk] at this
    rw [this]
    exact h.others
  · show (if r.evs.length = 8 then r.evs else r.evs ++ [k]) = if x.evs.length < 8 then x.evs ++ [k] else x.evs
    rw [h.evs]
    have := hx.evs
    by_cases e : x.evs.length = 8
    · rw [if_pos e, if_neg (by omega)]
    · rw [if_neg e, if_pos (by omega)]
  · show (if r.evs.length = 8 then r.lost + 1 else r.lost) = if x.evs.length < 8 then x.lost else x.lost + 1
    rw [h.evs, h.lost]
    have := hx.evs
    by_cases e : x.evs.length = 8
    · rw [if_pos e, if_neg (by omega)]
    · rw [if_neg e, if_pos (by omega)]
/-- A change of another one. -/
theorem Rf.heard_other {x : Nd} {r : Rn} (h : Rf x r) (hx : NdOk x) (k : K3) (hk : k.id ≠ x.c.self) (hst : 1 ≤ k.st ∧ k.st ≤ 4) : Rf (x.heard k) (r.put k) := by
  have hb : thereB k = true ↔ ¬ 2 < k.st := by
    simp only [thereB, Bool.or_eq_true, decide_eq_true_eq]
    omega
  have hq : (r.put k).queue.Perm (((x.heard k).tab.filter pendB).map (toU x.c)) := by
    have e : (x.heard k).tab = (x.change k).tab := by unfold Nd.heard; split <;> rfl
    rw [e]
    exact change_queue hx h k
  have ho : (r.put k).others = (x.heard k).rest.map toR := by
    have e : (x.heard k).rest = (putM ⟨k, x.clock + x.c.suspect, x.c.sends⟩ x.tab).filter (fun m => !(m.k.id == x.c.self)) := by unfold Nd.heard Nd.rest; split <;> rfl
    rw [e, putM_filter _ _ hk _ hx.rise, putM_toR]
    show putR ⟨k, if k.st = 2 then r.clock + r.c.suspect else 0⟩ r.others = _
    rw [h.others, h.clock, h.c]
    rfl
  have hp : (r.put k).pass = (x.heard k).pass := by
    show (if 2 < k.st then r.pass.filter (fun i => !(i == k.id)) else r.pass) = _
    unfold Nd.heard
    rw [h.pass]
    by_cases e : 2 < k.st
    · rw [if_pos e, if_neg (by rw [hb]; simpa using e)]
    · rw [if_neg e, if_pos (hb.2 e)]; rfl
  have hev : (r.put k).evs = (x.heard k).evs ∧ (r.put k).lost = (x.heard k).lost := by
    have e1 : (x.heard k).evs = if x.evs.length < 8 then x.evs ++ [k] else x.evs := by unfold Nd.heard; split <;> rfl
    have e2 : (x.heard k).lost = if x.evs.length < 8 then x.lost else x.lost + 1 := by unfold Nd.heard; split <;> rfl
    rw [e1, e2]
    show (if r.evs.length = 8 then r.evs else r.evs ++ [k]) = _ ∧ (if r.evs.length = 8 then r.lost + 1 else r.lost) = _
    rw [h.evs, h.lost]
    have := hx.evs
    by_cases e : x.evs.length = 8
    · rw [if_pos e, if_pos e, if_neg (by omega), if_neg (by omega)]; exact ⟨rfl, rfl⟩
    · rw [if_neg e, if_neg e, if_pos (by omega), if_pos (by omega)]; exact ⟨rfl, rfl⟩
  have hown : (x.heard k).own = x.own := by
    have e : (x.heard k).own = (x.change k).own := by unfold Nd.heard; split <;> rfl
    rw [e, change_own hx, if_neg hk]
  have hf : (x.heard k).c = x.c ∧ (x.heard k).dl = x.dl ∧ (x.heard k).dat = x.dat ∧ (x.heard k).clock = x.clock ∧ (x.heard k).num = x.num ∧ (x.heard k).ptgt = x.ptgt ∧ (x.heard k).pst = x.pst ∧ (x.heard k).pnum = x.pnum ∧ (x.heard k).pack = x.pack ∧ (x.heard k).rels = x.rels ∧ (x.heard k).dropped = x.dropped := by
    unfold Nd.heard
    split <;> exact ⟨rfl, rfl, rfl, rfl, rfl, rfl, rfl, rfl, rfl, rfl, rfl⟩
  obtain ⟨f1, f2, f3, f4, f5, f6, f7, f8, f9, f10, f11⟩ := hf
  refine ⟨?_, ?_, ?_, ?_, ?_, ?_, ho, hp, ?_, fun hh => ?_, by rw [f1]; exact hq, ?_, ?_, hev.1, hev.2⟩
  · rw [f1]; exact h.c
  · rw [f2]; exact h.draws
  · rw [f3]; exact h.drawn
  · rw [f4]; exact h.clock
  · rw [f5]; exact h.seq
  · rw [hown]; exact h.self
  · rw [f6]; exact h.probe
  · rw [f6] at hh
    rw [f7, f8, f9]
    exact h.prb hh
  · rw [f10]; exact h.rels
  · rw [f11]; exact h.dropped
/-- What is heard turns both alike. -/
theorem Rf.hear {x : Nd} {r : Rn} (h : Rf x r) (hx : NdOk x) (k : K3) (hk : isKeyB k = true) : Rf (x.hear k) (r.heard k) := by
  have hid : r.self.id = x.c.self := by rw [h.self]; exact hx.own_key.2
  have hst := (key_bounds hk).2.2
  unfold Nd.hear Rn.heard
  rw [hid]
  by_cases e : k.id = x.c.self
  · rw [if_pos e, if_pos e]
    unfold Nd.hearSelf Rn.own Nd.left
    rw [h.self]
    have e4 : (x.own.st == 4) = decide (x.own.st = 4) := by
      by_cases e : x.own.st = 4 <;> simp [e]
    rw [e4]
    split
    · exact h
    · exact h.change_self hx _ hx.own_key.2
  · rw [if_neg e, if_neg e]
    unfold Nd.hearOther
    rw [h.others, rest_find e]
    cases hf : findM k.id x.tab with
    | some o =>
      simp only [Option.map_some]
      show Rf (if greaterB k o.k then x.heard k else x) (if greaterB k o.k then r.put k else r)
      split
      · exact h.heard_other hx k e hst
      · exact h
    | none =>
      simp only [Option.map_none, List.length_map]
      have hl := rest_len hx
      have hl8 := hx.len
      by_cases e8 : 8 ≤ x.tab.length
      · rw [if_pos e8, if_pos (by omega)]; exact h
      · rw [if_neg e8, if_neg (by omega)]; exact h.heard_other hx k e hst
theorem Rf.hears : ∀ (l : List K3) {x : Nd} {r : Rn}, Rf x r → NdOk x → allB l = true → Rf (x.hears l) (r.hears l)
  | [], _, _, h, _, _ => h
  | k :: l, x, r, h, hx, hl => by
    have h1 : isKeyB k = true ∧ allB l = true := by simpa [allB] using hl
    exact Rf.hears l (h.hear hx k h1.1) (hear_ok hx k h1.1) h1.2
end Go.Proofs.YtnneljcbelgoeaaGreatDoor.wire
/- The document's node: what rides along, what is sent. No Go here. -/
namespace Go.Proofs.YtnneljcbelgoeaaGreatDoor.wire

theorem lessAll_cons (m : Mem) (r t : List Mem) : lessAll (m :: r) t = lessAll r (putM m.less t) := rfl
/-- A table keeps its keys, and when each is due. -/
theorem put_same {β : Type} (f : Mem → β) (m : Mem) : ∀ (t : List Mem), Rise t → ∀ m0, findM m.k.id t = some m0 → f m = f m0 → (putM m t).map f = t.map f
  | [], _, m0, h, _ => by simp [findM] at h
  | y :: r, h, m0, hf, e => by
    obtain ⟨h1, h2⟩ := List.pairwise_cons.1 h
    rw [putM_cons]
    unfold findM at hf
    rw [List.find?_cons] at hf
    by_cases ey : y.k.id = m.k.id
    · have e0 : (y.k.id == m.k.id) = true := by simp [ey]
      rw [e0] at hf
      have e1 : y = m0 := Option.some.inj hf
      rw [if_neg (by omega), if_pos ey.symm, List.map_cons, List.map_cons, e, e1]
    · have e0 : (y.k.id == m.k.id) = false := by simp [ey]
      rw [e0] at hf
      have hin := findM_in (i := m.k.id) (t := r) hf
      have := h1 m0 hin.1
      rw [if_neg (by omega), if_neg (by omega), List.map_cons, List.map_cons, put_same f m r h2 m0 hf e]
theorem lessAll_map {β : Type} (f : Mem → β) (hf : ∀ m : Mem, f m.less = f m) : ∀ (l : List Mem) {t : List Mem}, Rise t → l.Pairwise (fun a b => a.k.id ≠ b.k.id) → (∀ m ∈ l, findM m.k.id t = some m) → (lessAll l t).map f = t.map f
  | [], _, _, _, _ => rfl
  | m :: r, t, h, hl, hm => by
    obtain ⟨l1, l2⟩ := List.pairwise_cons.1 hl
    rw [lessAll_cons, lessAll_map f hf r (putM_rise _ _ h) l2 (fun m' hm' => ?_)]
    · exact put_same f m.less t h m (hm m (List.mem_cons_self ..)) (hf m)
    · rw [findM_putM _ _ _ h, if_neg (show ¬ m.less.k.id = m'.k.id from l1 m' hm')]
      exact hm m' (List.mem_cons_of_mem _ hm')
theorem lessAll_perm : ∀ (l : List Mem) {t : List Mem}, Rise t → l.Pairwise (fun a b => a.k.id ≠ b.k.id) → (lessAll l t).Perm (l.map Mem.less ++ t.filter (fun y => !(l.any (fun m => m.k.id == y.k.id))))
  | [], t, _, _ => by
    have : t.filter (fun y => !(([] : List Mem).any (fun m => m.k.id == y.k.id))) = t := by rw [List.filter_eq_self]; intro a _; rfl
    rw [this]; exact List.Perm.refl _
  | m :: r, t, h, hl => by
    obtain ⟨l1, l2⟩ := List.pairwise_cons.1 hl
    rw [lessAll_cons]
    refine (lessAll_perm r (putM_rise _ _ h) l2).trans ?_
    have hp := (putM_perm m.less t h).filter (fun y => !(r.any (fun m => m.k.id == y.k.id)))
    have hm : (r.any (fun a => a.k.id == m.less.k.id)) = false := by
      rw [List.any_eq_false]
      intro a ha
      have := l1 a ha
      have e : m.less.k.id = m.k.id := rfl
      rw [e]
      simpa using Ne.symm this
    rw [List.filter_cons, if_pos (by rw [hm]; rfl), List.filter_filter] at hp
    refine (hp.append_left _).trans ?_
    have e : t.filter (fun a => (!(r.any (fun m => m.k.id == a.k.id))) && !(a.k.id == m.less.k.id)) = t.filter (fun y => !((m :: r).any (fun m => m.k.id == y.k.id))) := by
      refine List.filter_congr (fun a _ => ?_)
      have e2 : (a.k.id == m.less.k.id) = (m.k.id == a.k.id) := by
        have e3 : m.less.k.id = m.k.id := rfl
        rw [e3, Bool.eq_iff_iff]
        simp only [beq_iff_eq]
        exact eq_comm
      rw [e2, List.any_cons, Bool.not_or, Bool.and_comm]
    rw [e, List.map_cons, List.cons_append]
    exact List.perm_middle
theorem picks_sorted {x : Nd} (hx : NdOk x) : (sortM (x.tab.filter pendB)).Pairwise befM := sortM_sorted _ (hx.rise.filter _)
theorem sort_ids {x : Nd} (hx : NdOk x) : (sortM (x.tab.filter pendB)).Pairwise (fun a b => a.k.id ≠ b.k.id) := by
  have h0 : (x.tab.filter pendB).Pairwise (fun a b => a.k.id ≠ b.k.id) := (hx.rise.filter _).imp (fun {a b} hab => by omega)
  exact (sortM_perm _).symm.pairwise h0 (fun {a b} hab => Ne.symm hab)
theorem picks_ids {x : Nd} (hx : NdOk x) : x.picks.Pairwise (fun a b => a.k.id ≠ b.k.id) := (sort_ids hx).sublist (List.take_sublist _ _)
theorem along_map {β : Type} {x : Nd} (hx : NdOk x) (f : Mem → β) (hf : ∀ m : Mem, f m.less = f m) : x.along.tab.map f = x.tab.map f :=
  lessAll_map f hf x.picks hx.rise (picks_ids hx) (fun _ hm => findM_mem hx.rise (picks_mem hm).1)
theorem along_rest {x : Nd} (hx : NdOk x) : x.along.rest.map toR = x.rest.map toR := by
  have h := along_map hx toR (fun _ => rfl)
  have e : ∀ t : List Mem, (t.filter (fun m => !(m.k.id == x.c.self))).map toR = (t.map toR).filter (fun m => !(m.k.id == x.c.self)) := fun t => by
    rw [List.filter_map]; rfl
  show (x.along.tab.filter (fun m => !(m.k.id == x.c.self))).map toR = (x.tab.filter (fun m => !(m.k.id == x.c.self))).map toR
  rw [e, e, h]
theorem along_queue {x : Nd} (hx : NdOk x) : ((x.along.tab.filter pendB).map (toU x.c)).Perm
    (((sortM (x.tab.filter pendB)).drop 4).map (toU x.c) ++ ((x.picks.map (toU x.c)).map RU.more).filter (fun u => decide (u.sent < x.c.sends))) := by
  have h1 := ((lessAll_perm x.picks hx.rise (picks_ids hx)).filter pendB).map (toU x.c)
  rw [← along_tab] at h1
  refine h1.trans ?_
  rw [List.filter_append, List.map_append]
  refine List.perm_append_comm.trans (List.Perm.append ?_ (List.Perm.of_eq ?_))
  · refine List.Perm.map _ ?_
    rw [List.filter_filter]
    have e1 : x.tab.filter (fun a => pendB a && !(x.picks.any (fun m => m.k.id == a.k.id))) = (x.tab.filter pendB).filter (fun a => !(x.picks.any (fun m => m.k.id == a.k.id))) := by
      rw [List.filter_filter]
      exact List.filter_congr (fun a _ => Bool.and_comm _ _)
    rw [e1]
    refine ((sortM_perm (x.tab.filter pendB)).symm.filter _).trans (List.Perm.of_eq ?_)
    have hq := sort_ids hx
    have e2 : sortM (x.tab.filter pendB) = x.picks ++ (sortM (x.tab.filter pendB)).drop 4 := (List.take_append_drop 4 _).symm
    rw [e2] at hq
    obtain ⟨_, _, hq3⟩ := List.pairwise_append.1 hq
    have e3 : x.picks.filter (fun a => !(x.picks.any (fun m => m.k.id == a.k.id))) = [] := by
      rw [List.filter_eq_nil_iff]
      intro a ha
      have : (x.picks.any (fun m => m.k.id == a.k.id)) = true := List.any_eq_true.2 ⟨a, ha, by simp⟩
      simp [this]
    have e4 : ((sortM (x.tab.filter pendB)).drop 4).filter (fun a => !(x.picks.any (fun m => m.k.id == a.k.id))) = (sortM (x.tab.filter pendB)).drop 4 := by
      rw [List.filter_eq_self]
      intro a ha
      have : (x.picks.any (fun m => m.k.id == a.k.id)) = false := by
        rw [List.any_eq_false]
        intro m hm
        simpa using hq3 m hm a ha
      simp [this]
    conv => lhs; rw [e2]
    rw [List.filter_append, e3, e4, List.nil_append]
  · rw [List.filter_map, List.map_map, List.map_map, List.filter_map]
    have e5 : (toU x.c ∘ Mem.less) = (RU.more ∘ toU x.c) := by
      funext m
      simp only [Function.comp, toU, RU.more, Mem.less, RU.mk.injEq, true_and]
      omega
    rw [e5]
    congr 1
    refine List.filter_congr (fun m _ => ?_)
    show decide (0 < m.less.sends) = decide (x.c.sends - m.sends + 1 < x.c.sends)
    have e6 : m.less.sends = m.sends - 1 := rfl
    rw [e6]
    exact decide_eq_decide.2 (by omega)
/-- What rides along is the same. -/
theorem Rf.updates {x : Nd} {r : Rn} (h : Rf x r) (hx : NdOk x) : r.updates.1 = x.picks.map Mem.k ∧ Rf x.along r.updates.2 := by
  have hp : r.queue.Perm ((sortM (x.tab.filter pendB)).map (toU x.c)) := h.queue.trans ((sortM_perm _).symm.map _)
  have hs : ((sortM (x.tab.filter pendB)).map (toU x.c)).Pairwise befU := by
    rw [List.pairwise_map]
    refine (picks_sorted hx).imp (fun {a b} hab => ?_)
    unfold befM at hab
    unfold befU toU
    show x.c.sends - a.sends < x.c.sends - b.sends ∨ (x.c.sends - a.sends = x.c.sends - b.sends ∧ a.k.id < b.k.id)
    omega
  obtain ⟨u1, u2, u3⟩ := upd_is x.c.sends 4 hp hs
  have hpk : ((sortM (x.tab.filter pendB)).map (toU x.c)).take 4 = x.picks.map (toU x.c) := by rw [← List.map_take]; rfl
  rw [hpk] at u1 u3
  refine ⟨?_, h.c, h.draws, h.drawn, h.clock, h.seq, ?_, ?_, h.pass, h.probe, h.prb, ?_, h.rels, h.dropped, h.evs, h.lost⟩
  · show (updGo r.c.sends 4 r.queue).1 = _
    rw [h.c, u1, List.map_map]
    rfl
  · show r.self = x.along.own
    rw [along_own hx]; exact h.self
  · show r.others = x.along.rest.map toR
    rw [along_rest hx]; exact h.others
  · show ((updGo r.c.sends 4 r.queue).2.1 ++ (updGo r.c.sends 4 r.queue).2.2).Perm ((x.along.tab.filter pendB).map (toU x.c))
    rw [h.c]
    refine List.Perm.trans ?_ (along_queue hx).symm
    rw [u3]
    refine List.Perm.append_right _ ?_
    rw [List.map_drop]
    exact u2
theorem Rf.sent {x : Nd} {r : Rn} (h : Rf x r) (o : List Pk) : Rf x { r with out := o } := ⟨h.c, h.draws, h.drawn, h.clock, h.seq, h.self, h.others, h.pass, h.probe, h.prb, h.queue, h.rels, h.dropped, h.evs, h.lost⟩
theorem own_bounds {x : Nd} (hx : NdOk x) : (1 ≤ x.own.id ∧ x.own.id ≤ 250) ∧ (1 ≤ x.own.inc ∧ x.own.inc ≤ 1073741824) := ⟨(key_bounds hx.own_key.1).1, (key_bounds hx.own_key.1).2.1⟩
theorem direct_whole {x : Nd} (hx : NdOk x) {kind seq tgt : Int} (hk : 1 ≤ kind ∧ kind ≤ 3) (ht : 1 ≤ tgt ∧ tgt ≤ 250) (hq : 0 ≤ seq ∧ seq ≤ 4294967295) : wholeB ⟨kind, x.own.id, x.own.inc, seq, tgt, x.picks.map Mem.k⟩ = true := by
  obtain ⟨o1, o2⟩ := own_bounds hx
  simp only [wholeB, Bool.and_eq_true]
  refine ⟨isId_mk o1.1 o1.2, isInc_mk o2.1 o2.2, isSeq_mk hq.1 hq.2, ?_, ?_⟩
  · have hp := picks_len x
    rw [suits_low (by simp [lowB]; omega), isId_mk ht.1 ht.2]
    simp only [List.length_map, Bool.true_and, decide_eq_true_eq]
    omega
  · unfold allB
    rw [List.all_eq_true]
    intro k hk
    obtain ⟨m, hm, rfl⟩ := List.mem_map.1 hk
    exact hx.keys m (picks_mem hm).1
/-- What is sent is the same. -/
theorem Rf.direct {x : Nd} {r : Rn} (h : Rf x r) (hx : NdOk x) {kind seq tgt : Int} (dest : Int) (hk : 1 ≤ kind ∧ kind ≤ 3) (ht : 1 ≤ tgt ∧ tgt ≤ 250) (hq : 0 ≤ seq ∧ seq ≤ 4294967295) :
    (r.direct dest kind seq tgt).out = r.out ++ [x.direct kind dest seq tgt] ∧ Rf x.along (r.direct dest kind seq tgt) := by
  obtain ⟨u1, u2⟩ := h.updates hx
  have hw := direct_whole hx hk ht hq
  have ed : x.direct kind dest seq tgt = ⟨dest, bytesM ⟨kind, x.own.id, x.own.inc, seq, tgt, x.picks.map Mem.k⟩⟩ := by
    show (⟨dest, bytesS ⟨kind, x.along.own.id, x.along.own.inc, seq, tgt, x.picks.map Mem.k⟩⟩ : Pk) = _
    rw [along_own hx]
    simp [bytesS, hw]
  refine ⟨?_, u2.sent _⟩
  show r.out ++ [⟨dest, bytesM ⟨kind, r.self.id, r.self.inc, seq, tgt, r.updates.1⟩⟩] = _
  rw [ed, u1, h.self]
end Go.Proofs.YtnneljcbelgoeaaGreatDoor.wire
/- The document's node: what it receives, joins, leaves. No Go here. -/
namespace Go.Proofs.YtnneljcbelgoeaaGreatDoor.wire

/-- What a node keeps of its relays, and of whom it probes. -/
structure RlE (e : Int) (x : Nd) : Prop where
  rel : RelOk x
  rng : ∀ q ∈ x.rels, (1 ≤ q.tgt ∧ q.tgt ≤ 250) ∧ (0 ≤ q.under ∧ q.under ≤ 4294967295) ∧ 0 < q.num
  prb : x.ptgt ≠ 0 → (0 ≤ x.pnum ∧ x.pnum ≤ 4294967295) ∧ x.pst ≤ x.clock ∧ x.clock < x.pst + x.c.period + e
  own : x.own.st = 1 ∨ x.own.st = 4
abbrev RlB (x : Nd) : Prop := RlE 0 x
theorem RlE.same {e : Int} {x y : Nd} (h : RlE e x) (hr : y.rels = x.rels) (hn : x.num ≤ y.num) (ht : y.ptgt = x.ptgt) (hp : y.pnum = x.pnum) (hs : y.pst = x.pst) (hc : y.clock = x.clock) (hf : y.c = x.c) (ho : y.own.st = x.own.st ∨ y.own.st = 4) : RlE e y :=
  ⟨h.rel.same hr hn, by rw [hr]; exact h.rng, by rw [ht, hp, hs, hc, hf]; exact h.prb, ho.elim (fun ho => by rw [ho]; exact h.own) .inr⟩
theorem hear_prb (x : Nd) (k : K3) : (x.hear k).ptgt = x.ptgt ∧ (x.hear k).pnum = x.pnum ∧ (x.hear k).pst = x.pst ∧ (x.hear k).pack = x.pack ∧ (x.hear k).clock = x.clock ∧ (x.hear k).c = x.c ∧ (x.hear k).dat = x.dat := by
  unfold Nd.hear Nd.hearSelf Nd.hearOther Nd.heard
  repeat' split
  all_goals exact ⟨rfl, rfl, rfl, rfl, rfl, rfl, rfl⟩
theorem heard_own {x : Nd} (hx : NdOk x) (k : K3) (hk : k.id ≠ x.c.self) : (x.heard k).own = x.own := by
  have e : (x.heard k).own = (x.change k).own := by unfold Nd.heard; split <;> rfl
  rw [e, change_own hx, if_neg hk]
theorem hear_own {x : Nd} (hx : NdOk x) (k : K3) : (x.hear k).own.st = x.own.st := by
  unfold Nd.hear
  split
  · unfold Nd.hearSelf
    split
    · rfl
    · rw [change_own hx, if_pos hx.own_key.2]
  · rename_i e
    unfold Nd.hearOther
    split
    · split
      · rw [heard_own hx k e]
      · rfl
    · split
      · rfl
      · rw [heard_own hx k e]
theorem RlE.hear {e : Int} {x : Nd} (h : RlE e x) (hx : NdOk x) (k : K3) : RlE e (x.hear k) := by
  obtain ⟨a, b, c, _, d, f, _⟩ := hear_prb x k
  exact h.same (hear_rels x k).1 (by rw [(hear_rels x k).2]; exact Int.le_refl _) a b c d f (.inl (hear_own hx k))
theorem RlE.hears {e : Int} : ∀ (l : List K3) {x : Nd}, RlE e x → NdOk x → allB l = true → RlE e (x.hears l)
  | [], _, h, _, _ => h
  | k :: l, _, h, hx, hl => by
    have h1 : isKeyB k = true ∧ allB l = true := by simpa [allB] using hl
    exact RlE.hears l (h.hear hx k) (hear_ok hx k h1.1) h1.2
theorem RlE.along {e : Int} {x : Nd} (h : RlE e x) (hx : NdOk x) : RlE e x.along := h.same rfl (Int.le_refl _) rfl rfl rfl rfl rfl (.inl (by rw [along_own hx]))
theorem changed_out (r : Rn) (k : K3) : (r.changed k).out = r.out := rfl
theorem heard_out (r : Rn) (k : K3) : (r.heard k).out = r.out := by
  unfold Rn.heard Rn.own Rn.put
  repeat' split
  all_goals first | rfl | (rw [changed_out])
theorem hears_out : ∀ (l : List K3) (r : Rn), (r.hears l).out = r.out
  | [], _ => rfl
  | k :: l, r => (hears_out l (r.heard k)).trans (heard_out r k)

theorem its_le {x : Nd} (h : RelOk x) (m : M6) : x.rels.filter (itsB m) = [] ∨ ∃ d ∈ x.rels, x.rels.filter (itsB m) = [d] := by
  have hp := h.rise.filter (itsB m)
  rcases hl : x.rels.filter (itsB m) with _ | ⟨a, _ | ⟨b, r⟩⟩
  · exact .inl rfl
  · exact .inr ⟨a, (List.mem_filter.1 (by rw [hl]; simp : a ∈ x.rels.filter (itsB m))).1, rfl⟩
  · rw [hl] at hp
    have h1 : a.num < b.num := (List.pairwise_cons.1 hp).1 b (by simp)
    have ha : itsB m a = true := (List.mem_filter.1 (by rw [hl]; simp : a ∈ x.rels.filter (itsB m))).2
    have hb : itsB m b = true := (List.mem_filter.1 (by rw [hl]; simp : b ∈ x.rels.filter (itsB m))).2
    simp only [itsB, Bool.and_eq_true, decide_eq_true_eq] at ha hb
    omega
/-- What a call gives, and what is then. -/
structure Same1 (o : List Pk) (y : Nd) (r : Rn) : Prop where
  out : r.out = o
  rf : Rf y r
  rl : RlB y
theorem Rf.ping {x : Nd} {r : Rn} (h : Rf x r) (hx : NdOk x) (hl : RlB x) (h0 : r.out = []) (m : M6) (hq : 0 ≤ m.seq ∧ m.seq ≤ 4294967295) : Same1 (x.takePing m).1 (x.takePing m).2 (if m.tgt = r.self.id then r.direct m.frm 2 m.seq r.self.id else r) := by
  have hid : r.self.id = x.c.self := by rw [h.self]; exact hx.own_key.2
  unfold Nd.takePing
  rw [hid]
  split
  · rename_i e
    obtain ⟨d1, d2⟩ := h.direct hx (kind := 2) (seq := m.seq) (tgt := x.c.self) m.frm (by omega) hx.id hq
    exact ⟨by rw [d1, h0, e]; rfl, d2, hl.along hx⟩
  · exact ⟨h0, h, hl⟩
theorem Rf.ackd {x : Nd} {r : Rn} (h : Rf x r) (hx : NdOk x) (hl : RlB x) (h0 : r.out = []) (m : M6) (ht : 1 ≤ m.tgt) : Same1 (x.takeAck m).1 (x.takeAck m).2 (r.ackd m) := by
  have hpb := hx.pass.tgt
  obtain ⟨x1, hx1⟩ : ∃ x1 : Nd, x1 = { x with pack := if x.ptgt = m.tgt ∧ x.pnum = m.seq then true else x.pack, rels := x.rels.filter (fun r => !(itsB m r)) } := ⟨_, rfl⟩
  obtain ⟨r1, hr1⟩ : ∃ r1 : Rn, r1 = { r with acked := if 0 < r.probe ∧ m.seq = r.no ∧ m.tgt = r.probe then true else r.acked, rels := r.rels.filter (fun q => !(itsB m q)) } := ⟨_, rfl⟩
  have hok1 : NdOk x1 := by rw [hx1]; exact ⟨hx.cfg, hx.rise, hx.len, hx.keys, hx.sends, hx.self, hx.evs, Nat.le_trans (List.length_filter_le _ _) hx.rels, hx.pass⟩
  have hl1 : RlB x1 := by
    rw [hx1]
    exact ⟨hl.rel.filter _ rfl (Int.le_refl _), fun q hq => hl.rng q (List.mem_filter.1 hq).1, hl.prb, hl.own⟩
  have h1 : Rf x1 r1 := by
    rw [hx1, hr1]
    refine ⟨h.c, h.draws, h.drawn, h.clock, h.seq, h.self, h.others, h.pass, h.probe, fun hh => ?_, h.queue, by show r.rels.filter _ = x.rels.filter _; rw [h.rels], h.dropped, h.evs, h.lost⟩
    obtain ⟨p1, p2, p3⟩ := h.prb hh
    refine ⟨p1, p2, ?_⟩
    show (if 0 < r.probe ∧ m.seq = r.no ∧ m.tgt = r.probe then true else r.acked) = if x.ptgt = m.tgt ∧ x.pnum = m.seq then true else x.pack
    have hh' : x.ptgt ≠ 0 := hh
    rw [h.probe, p2, p3]
    by_cases e : x.ptgt = m.tgt ∧ x.pnum = m.seq
    · rw [if_pos e, if_pos ⟨by omega, e.2.symm, e.1.symm⟩]
    · rw [if_neg e, if_neg (fun hh => e ⟨hh.2.2.symm, hh.2.1.symm⟩)]
  have h01 : r1.out = [] := by rw [hr1]; exact h0
  have e1 : x.takeAck m = x1.relayed (x.rels.filter (itsB m)) := by rw [hx1]; rfl
  have e2 : r.ackd m = match (r.rels.filter (itsB m)).getLast? with | some d => if 0 < d.num then r1.direct d.asker 2 d.under d.tgt else r1 | none => r1 := by rw [hr1]; rfl
  rw [e1, e2, h.rels]
  rcases its_le hl.rel m with e | ⟨d, hd, e⟩
  · rw [e]
    exact ⟨h01, h1, hl1⟩
  · rw [e]
    obtain ⟨a, b, c⟩ := hl.rng d hd
    obtain ⟨d1, d2⟩ := h1.direct hok1 (kind := 2) (seq := d.under) (tgt := d.tgt) d.asker (by omega) a b
    show Same1 [x1.direct 2 d.asker d.under d.tgt] x1.along (if 0 < d.num then r1.direct d.asker 2 d.under d.tgt else r1)
    rw [if_pos c]
    exact ⟨by rw [d1, h01]; rfl, d2, hl1.along hok1⟩
theorem Rf.askd {x : Nd} {r : Rn} (h : Rf x r) (hx : NdOk x) (hl : RlB x) (h0 : r.out = []) (m : M6) (hm : 1 ≤ m.tgt ∧ m.tgt ≤ 250) (hq : 0 ≤ m.seq ∧ m.seq ≤ 4294967295) (hn : 0 ≤ x.num ∧ x.num ≤ 4000000000) : Same1 (x.takeAsk m).1 (x.takeAsk m).2 (r.askd m) := by
  have hid : r.self.id = x.c.self := by rw [h.self]; exact hx.own_key.2
  have hp := h.ping hx hl h0 m hq
  unfold Nd.takeAsk Rn.askd
  rw [hid] at hp ⊢
  by_cases e : m.tgt = x.c.self
  · rw [if_pos e] at hp
    rw [if_pos e, if_pos e]
    exact hp
  · have hr4 := hx.rels
    rw [if_neg e, if_neg e, h.rels]
    by_cases e4 : 4 ≤ x.rels.length
    · rw [if_pos e4, if_pos (by omega)]
      exact ⟨h0, h, hl⟩
    · rw [if_neg e4, if_neg (by omega)]
      obtain ⟨y, hy⟩ : ∃ y : Nd, y = { x with num := x.num + 1, rels := x.rels ++ [⟨m.tgt, x.num + 1, m.frm, m.seq, x.clock + x.c.period⟩] } := ⟨_, rfl⟩
      obtain ⟨r1, hr1⟩ : ∃ r1 : Rn, r1 = { r with seq := r.seq + 1, rels := x.rels ++ [⟨m.tgt, r.seq + 1, m.frm, m.seq, r.clock + r.c.period⟩] } := ⟨_, rfl⟩
      have hok1 : NdOk y := by rw [hy]; exact ⟨hx.cfg, hx.rise, hx.len, hx.keys, hx.sends, hx.self, hx.evs, by show (x.rels ++ [_]).length ≤ 4; simp; omega, hx.pass⟩
      have hl1 : RlB y := by
        rw [hy]
        refine ⟨⟨?_, fun q hq => ?_⟩, fun q hq => ?_, hl.prb, hl.own⟩
        · show (x.rels ++ [_]).Pairwise _
          rw [List.pairwise_append]
          refine ⟨hl.rel.rise, by simp, fun a ha b hb => ?_⟩
          simp only [List.mem_singleton] at hb
          rw [hb]
          have := hl.rel.top a ha
          show a.num < x.num + 1
          omega
        · show q.num ≤ x.num + 1
          rcases List.mem_append.1 hq with hq | hq
          · have := hl.rel.top q hq; omega
          · simp only [List.mem_singleton] at hq; rw [hq]; exact Int.le_refl _
        · rcases List.mem_append.1 hq with hq | hq
          · exact hl.rng q hq
          · simp only [List.mem_singleton] at hq
            rw [hq]
            exact ⟨hm, by assumption, by show 0 < x.num + 1; omega⟩
      have h1 : Rf y r1 := by
        rw [hy, hr1]
        refine ⟨h.c, h.draws, h.drawn, h.clock, by show r.seq + 1 = x.num + 1; rw [h.seq], h.self, h.others, h.pass, h.probe, h.prb, h.queue, ?_, h.dropped, h.evs, h.lost⟩
        show x.rels ++ [_] = x.rels ++ [_]
        rw [h.seq, h.clock, h.c]
      obtain ⟨d1, d2⟩ := h1.direct hok1 (kind := 1) (seq := x.num + 1) (tgt := m.tgt) m.tgt (by omega) hm (by omega)
      have h01 : r1.out = [] := by rw [hr1]; exact h0
      have e3 : (⟨[y.direct 1 m.tgt (x.num + 1) m.tgt], y.along⟩ : List Pk × Nd) = ([({ x with num := x.num + 1, rels := x.rels ++ [⟨m.tgt, x.num + 1, m.frm, m.seq, x.clock + x.c.period⟩] } : Nd).direct 1 m.tgt (x.num + 1) m.tgt], ({ x with num := x.num + 1, rels := x.rels ++ [⟨m.tgt, x.num + 1, m.frm, m.seq, x.clock + x.c.period⟩] } : Nd).along) := by rw [hy]
      rw [h.seq] at hr1
      rw [h.seq, ← hr1]
      show Same1 ([({ x with num := x.num + 1, rels := x.rels ++ [⟨m.tgt, x.num + 1, m.frm, m.seq, x.clock + x.c.period⟩] } : Nd).direct 1 m.tgt (x.num + 1) m.tgt], ({ x with num := x.num + 1, rels := x.rels ++ [⟨m.tgt, x.num + 1, m.frm, m.seq, x.clock + x.c.period⟩] } : Nd).along).1 _ _
      rw [← e3]
      exact ⟨by rw [d1, h01]; rfl, d2, hl1.along hok1⟩
theorem putSelf_lt {s : K3} {l : List K3} (h : ∀ a ∈ l, s.id < a.id) : putSelf s l = s :: l := by
  cases l with
  | nil => rfl
  | cons a r => unfold putSelf; rw [if_pos (h a (List.mem_cons_self ..))]
theorem putSelf_is (s : Int) (m0 : Mem) (hs : m0.k.id = s) : ∀ (t : List Mem), Rise t → m0 ∈ t → putSelf m0.k ((t.filter (fun m => !(m.k.id == s))).map Mem.k) = t.map Mem.k
  | [], _, h => by cases h
  | y :: r, h, hm => by
    obtain ⟨h1, h2⟩ := List.pairwise_cons.1 h
    by_cases e : y.k.id = s
    · have hy : m0 = y := by
        rcases List.mem_cons.1 hm with hm | hm
        · exact hm
        · have := h1 m0 hm; omega
      have hr : r.filter (fun m => !(m.k.id == s)) = r := by
        rw [List.filter_eq_self]
        intro a ha
        have := h1 a ha
        simp; omega
      rw [List.filter_cons, if_neg (by simp [e]), hr, List.map_cons, ← hy]
      refine putSelf_lt (fun a ha => ?_)
      obtain ⟨b, hb, rfl⟩ := List.mem_map.1 ha
      rw [hy]
      exact h1 b hb
    · have hr : m0 ∈ r := by
        rcases List.mem_cons.1 hm with hm | hm
        · rw [hm] at hs; exact absurd hs e
        · exact hm
      have hlt := h1 m0 hr
      rw [List.filter_cons, if_pos (by simp [e]), List.map_cons, List.map_cons]
      unfold putSelf
      rw [if_neg (by omega), putSelf_is s m0 hs r h2 hr]
theorem Rf.tabled {x : Nd} {r : Rn} (h : Rf x r) (hx : NdOk x) (hl : RlB x) (h0 : r.out = []) (m : M6) (hq : 0 ≤ m.seq ∧ m.seq ≤ 4294967295) : Same1 (x.takeJoin m).1 (x.takeJoin m).2 (r.tabled m) := by
  obtain ⟨m0, hm0⟩ := hx.self
  obtain ⟨f1, f2⟩ := findM_in hm0
  have eo : x.own = m0.k := by simp [Nd.own, atM, hm0]
  have ek : putSelf r.self (r.others.map RM.k) = x.tab.map Mem.k := by
    rw [h.self, h.others, List.map_map, eo]
    exact putSelf_is x.c.self m0 f2 x.tab hx.rise f1
  obtain ⟨o1, o2⟩ := own_bounds hx
  have hw : wholeB ⟨5, x.own.id, x.own.inc, m.seq, 0, x.tab.map Mem.k⟩ = true := by
    simp only [wholeB, Bool.and_eq_true]
    refine ⟨isId_mk o1.1 o1.2, isInc_mk o2.1 o2.2, isSeq_mk hq.1 hq.2, ?_, ?_⟩
    · have := hx.len
      have e : (x.tab.map Mem.k).length = x.tab.length := by simp
      rw [e]
      simp [suitsB, lowB, highB, this]
    · unfold allB
      rw [List.all_eq_true]
      intro k hk
      obtain ⟨m, hm, rfl⟩ := List.mem_map.1 hk
      exact hx.keys m hm
  refine ⟨?_, h.sent _, hl⟩
  show r.out ++ [⟨m.frm, bytesM ⟨5, r.self.id, r.self.inc, m.seq, 0, putSelf r.self (r.others.map RM.k)⟩⟩] = [⟨m.frm, bytesS ⟨5, x.own.id, x.own.inc, m.seq, 0, x.tab.map Mem.k⟩⟩]
  rw [h0, ek, h.self]
  simp [bytesS, hw]
theorem whole_seq3 {m : M6} (h : wholeB m = true) : (0 ≤ m.seq ∧ m.seq ≤ 4294967295) ∧ (1 ≤ m.kind ∧ m.kind ≤ 3 → 1 ≤ m.tgt ∧ m.tgt ≤ 250) := by
  simp only [wholeB, Bool.and_eq_true] at h
  obtain ⟨_, _, h3, h4, _⟩ := h
  refine ⟨by simpa [isSeqB] using h3, fun hk => ?_⟩
  rw [suits_low (by simp [lowB]; omega)] at h4
  simp only [Bool.and_eq_true] at h4
  simpa [isIdB] using h4.1
theorem Rf.deed {x : Nd} {r : Rn} (h : Rf x r) (hx : NdOk x) (hl : RlB x) (h0 : r.out = []) (m : M6) (hw : wholeB m = true) (hn : 0 ≤ x.num ∧ x.num ≤ 4000000000) : Same1 (x.deed m).1 (x.deed m).2 (r.deed m) := by
  obtain ⟨hq, ht⟩ := whole_seq3 hw
  unfold Nd.deed Rn.deed
  by_cases e1 : m.kind = 1
  · rw [if_pos e1, if_pos e1]; exact h.ping hx hl h0 m hq
  · rw [if_neg e1, if_neg e1]
    by_cases e2 : m.kind = 2
    · rw [if_pos e2, if_pos e2]; exact h.ackd hx hl h0 m (ht (by omega)).1
    · rw [if_neg e2, if_neg e2]
      by_cases e3 : m.kind = 3
      · rw [if_pos e3, if_pos e3]; exact h.askd hx hl h0 m (ht (by omega)) hq hn
      · rw [if_neg e3, if_neg e3]
        by_cases e4 : m.kind = 4
        · rw [if_pos e4, if_pos e4]; exact h.tabled hx hl h0 m hq
        · rw [if_neg e4, if_neg e4]; exact ⟨h0, h, hl⟩
/-- Receive (P5, P7). -/
theorem Rf.receive {x : Nd} {r : Rn} (h : Rf x r) (hx : NdOk x) (hl : RlB x) (hn : 0 ≤ x.num ∧ x.num ≤ 4000000000) (b : List UInt8) : Same1 (x.receive b).1 (x.receive b).2 (r.receive b) := by
  have hid : r.self.id = x.c.self := by rw [h.self]; exact hx.own_key.2
  unfold Nd.receive Rn.receive
  rw [hid]
  by_cases e : takesB x.c.self b = true
  · obtain ⟨hw, _⟩ := takes_parts e
    obtain ⟨hk, _, ha⟩ := whole_parts hw
    rw [if_pos e, if_pos (show (decB b && !decide ((readM b).frm = x.c.self)) = true from e)]
    have h1 := (h.sent []).hear hx ⟨(readM b).frm, (readM b).inc, 1⟩ hk
    have h2 := h1.hears (readM b).ups (hear_ok hx _ hk) ha
    refine h2.deed (hears_ok' _ (hear_ok hx _ hk) ha) ((hl.hear hx _).hears _ (hear_ok hx _ hk) ha) ?_ _ hw ?_
    · rw [hears_out, heard_out]
    · rw [(hears_rels _ _).2, (hear_rels _ _).2]; exact hn
  · rw [if_neg e, if_neg (show ¬ (decB b && !decide ((readM b).frm = x.c.self)) = true from e)]
    exact ⟨rfl, ⟨h.c, h.draws, h.drawn, h.clock, h.seq, h.self, h.others, h.pass, h.probe, h.prb, h.queue, h.rels, by show r.dropped + 1 = x.dropped + 1; rw [h.dropped], h.evs, h.lost⟩, hl.same rfl (Int.le_refl _) rfl rfl rfl rfl rfl (.inl rfl)⟩
/-- Join (P8). -/
theorem Rf.join {x : Nd} {r : Rn} (h : Rf x r) (hx : NdOk x) (hl : RlB x) (hn : 0 ≤ x.num ∧ x.num ≤ 4000000000) (i : Int) : Same1 (x.join i).1 (x.join i).2 (r.join i) ∧ r.joinErr i = x.joinErr i := by
  obtain ⟨o1, o2⟩ := own_bounds hx
  have hid : r.self.id = x.c.self := by rw [h.self]; exact hx.own_key.2
  have hw : wholeB ⟨4, x.own.id, x.own.inc, x.num + 1, 0, []⟩ = true := by
    simp only [wholeB, Bool.and_eq_true]
    exact ⟨isId_mk o1.1 o1.2, isInc_mk o2.1 o2.2, isSeq_mk (by omega) (by omega), rfl, rfl⟩
  refine ⟨⟨?_, ?_, hl.same rfl (by show x.num ≤ x.num + 1; omega) rfl rfl rfl rfl rfl (.inl rfl)⟩, ?_⟩
  · show ([] : List Pk) ++ [(⟨i, bytesM ⟨4, r.self.id, r.self.inc, r.seq + 1, 0, []⟩⟩ : Pk)] = [(⟨i, bytesS ⟨4, x.own.id, x.own.inc, x.num + 1, 0, []⟩⟩ : Pk)]
    rw [h.self, h.seq]
    simp [bytesS, hw]
  · exact ⟨h.c, h.draws, h.drawn, h.clock, by show r.seq + 1 = x.num + 1; rw [h.seq], h.self, h.others, h.pass, h.probe, h.prb, h.queue, h.rels, h.dropped, h.evs, h.lost⟩
  · unfold Rn.joinErr Nd.joinErr Nd.left
    rw [h.self, hx.own_key.2]
    by_cases e : x.own.st = 4 <;> simp [e]
/-- Leave (P8). -/
theorem Rf.leave {x : Nd} {r : Rn} (h : Rf x r) (hx : NdOk x) (hl : RlB x) : Rf x.leave r.leave ∧ RlB x.leave ∧ r.leave.out = r.out := by
  refine ⟨?_, hl.same rfl (Int.le_refl _) rfl rfl rfl rfl rfl (.inr (by unfold Nd.leave; rw [change_own hx, if_pos hx.own_key.2])), rfl⟩
  unfold Nd.leave Rn.leave
  rw [h.self]
  exact h.change_self hx _ hx.own_key.2
end Go.Proofs.YtnneljcbelgoeaaGreatDoor.wire
/- The document's node: a tick (P9). No Go here. -/
namespace Go.Proofs.YtnneljcbelgoeaaGreatDoor.wire

theorem putM_at (m : Mem) : ∀ (t : List Mem), Rise t → (findM m.k.id t).isSome = true → putM m t = t.map (fun y => if y.k.id = m.k.id then m else y)
  | [], _, h => by simp [findM] at h
  | y :: r, h, hf => by
    obtain ⟨h1, h2⟩ := List.pairwise_cons.1 h
    rw [putM_cons, List.map_cons]
    unfold findM at hf
    rw [List.find?_cons] at hf
    by_cases ey : y.k.id = m.k.id
    · have hr : r.map (fun y => if y.k.id = m.k.id then m else y) = r := by
        have : r.map (fun y => if y.k.id = m.k.id then m else y) = r.map id := List.map_congr_left (fun a ha => by have := h1 a ha; rw [if_neg (by omega)]; rfl)
        rw [this, List.map_id]
      rw [if_neg (by omega), if_pos ey.symm, if_pos ey, hr]
    · have e0 : (y.k.id == m.k.id) = false := by simp [ey]
      rw [e0] at hf
      obtain ⟨m0, hm0⟩ := Option.isSome_iff_exists.1 hf
      have hin := findM_in (i := m.k.id) (t := r) hm0
      have := h1 m0 hin.1
      rw [if_neg (by omega), if_neg (by omega), if_neg ey, putM_at m r h2 hf]
/-- Who is dead is so at his place. -/
theorem dead_rest {x : Nd} (hx : NdOk x) {m : Mem} (hm : m ∈ x.rest) (hs : m.k.st = 2) : (x.hear m.dead).rest = x.rest.map (fun y => if y.k.id = m.k.id then ⟨m.dead, x.clock + x.c.suspect, x.c.sends⟩ else y) := by
  obtain ⟨h1, h2⟩ := List.mem_filter.1 hm
  have hne : m.k.id ≠ x.c.self := by simpa using h2
  have hf := findM_mem hx.rise h1
  have hgr : greaterB m.dead m.k = true := by simp [greaterB, Mem.dead, hs]
  have e : x.hear m.dead = x.heard m.dead := by
    unfold Nd.hear
    rw [if_neg (show ¬ m.dead.id = x.c.self from hne)]
    unfold Nd.hearOther
    rw [show findM m.dead.id x.tab = some m from hf]
    simp only [hgr, if_true]
  have er : (x.heard m.dead).rest = (putM ⟨m.dead, x.clock + x.c.suspect, x.c.sends⟩ x.tab).filter (fun m => !(m.k.id == x.c.self)) := by unfold Nd.heard Nd.rest; split <;> rfl
  rw [e, er, putM_filter ⟨m.dead, x.clock + x.c.suspect, x.c.sends⟩ x.c.self (show m.dead.id ≠ x.c.self from hne) x.tab hx.rise]
  refine putM_at _ _ (hx.rise.filter _) ?_
  have : findM m.k.id x.rest = some m := findM_mem (hx.rise.filter _) hm
  show (findM m.k.id x.rest).isSome = true
  rw [this]; rfl
theorem rest_in {x : Nd} {m : Mem} (h : m ∈ x.rest) : m ∈ x.tab := (List.mem_filter.1 h).1
/-- The suspects whose time is up. -/
theorem Rf.sus {e : Int} {x : Nd} {r : Rn} (h : Rf x r) (hx : NdOk x) (hl : RlE e x) : ∀ i, i ≤ x.rest.length →
    ∃ y, y = ((x.rest.take i).filter (overB x.clock)).foldl (fun y m => y.hear m.dead) x ∧ Rf y (r.sus i) ∧ NdOk y ∧ RlE e y ∧ (r.sus i).out = r.out ∧ y.rest.length = x.rest.length ∧ (∀ j, i ≤ j → y.rest[j]? = x.rest[j]?) ∧ y.clock = x.clock
  | 0, _ => ⟨x, by simp, h, hx, hl, rfl, rfl, fun _ _ => rfl, rfl⟩
  | i + 1, hi => by
    obtain ⟨y, hy, hf, hok, hrl, hout, hlen, hat, hck⟩ := h.sus hx hl i (by omega)
    have hil : i < x.rest.length := by omega
    have hget : x.rest[i]? = some x.rest[i] := List.getElem?_eq_getElem hil
    have hyi : y.rest[i]? = some x.rest[i] := (hat i (Nat.le_refl _)).trans hget
    have ho : (r.sus i).others[i]! = toR x.rest[i] := by
      rw [hf.others]
      have : (y.rest.map toR)[i]? = some (toR x.rest[i]) := by rw [List.getElem?_map, hyi]; rfl
      rw [getElem!_def, this]
    have hmem : x.rest[i] ∈ y.rest := List.mem_of_getElem? hyi
    obtain ⟨m, hm⟩ : ∃ m, m = x.rest[i] := ⟨_, rfl⟩
    rw [← hm] at ho hget hyi hmem
    have ecase : (decide ((r.sus i).others[i]!.k.st = 2) && decide ((r.sus i).others[i]!.due ≤ (r.sus i).clock)) = overB x.clock m := by
      rw [ho, hf.clock, hck]
      show (decide (m.k.st = 2) && decide ((if m.k.st = 2 then m.due else 0) ≤ x.clock)) = (decide (m.k.st = 2) && decide (m.due ≤ x.clock))
      by_cases e2 : m.k.st = 2
      · simp [e2]
      · simp [e2]
    have etake : (x.rest.take (i + 1)).filter (overB x.clock) = (x.rest.take i).filter (overB x.clock) ++ (if overB x.clock m then [m] else []) := by
      rw [List.take_succ_eq_append_getElem hil, List.filter_append, ← hm]
      congr 1
      rw [List.filter_cons]
      split <;> simp
    unfold Rn.sus
    rw [ecase, etake, List.foldl_append, ← hy]
    by_cases eo : overB x.clock m = true
    · have hst : m.k.st = 2 := by
        simp only [overB, Bool.and_eq_true, decide_eq_true_eq] at eo
        exact eo.1
      have hkey : isKeyB m.dead = true := dead_key (hok.keys m (rest_in hmem))
      have ek : (⟨(r.sus i).others[i]!.k.id, (r.sus i).others[i]!.k.inc, 3⟩ : K3) = m.dead := by rw [ho]; rfl
      rw [if_pos eo, if_pos eo, ek]
      have hrest := dead_rest hok hmem hst
      refine ⟨y.hear m.dead, rfl, hf.hear hok _ hkey, hear_ok hok _ hkey, hrl.hear hok _, by rw [heard_out]; exact hout, by rw [hrest, List.length_map]; exact hlen, fun j hj => ?_, by rw [(hear_prb y m.dead).2.2.2.2.1]; exact hck⟩
      rw [hrest, List.getElem?_map, hat j (by omega)]
      cases hj2 : x.rest[j]? with
      | none => rfl
      | some z =>
        have hlt : m.k.id < z.k.id := by
          have hrise : x.rest.Pairwise (fun a b => a.k.id < b.k.id) := hx.rise.filter _
          obtain ⟨hjl, hz⟩ := List.getElem?_eq_some_iff.1 hj2
          have := List.pairwise_iff_getElem.1 hrise i j hil hjl (by omega)
          rw [← hm, hz] at this
          exact this
        simp only [Option.map_some]
        rw [if_neg (by omega)]
    · rw [if_neg eo, if_neg eo]
      exact ⟨y, rfl, hf, hok, hrl, hout, hlen, fun j hj => hat j (by omega), hck⟩
theorem over_rest {e : Int} {x : Nd} (hx : NdOk x) (hl : RlE e x) : x.tab.filter (overB x.clock) = x.rest.filter (overB x.clock) := by
  unfold Nd.rest
  rw [List.filter_filter]
  refine List.filter_congr (fun m hm => ?_)
  by_cases e2 : m.k.id = x.c.self
  · have hf := findM_mem hx.rise hm
    rw [e2] at hf
    have eo : x.own = m.k := by simp [Nd.own, atM, hf]
    have hst := hl.own
    rw [eo] at hst
    have : overB x.clock m = false := by
      simp only [overB, Bool.and_eq_false_iff, decide_eq_false_iff_not]
      left; omega
    simp [this]
  · simp [e2]
theorem Rf.later {x : Nd} {r : Rn} (h : Rf x r) (_hx : NdOk x) : Rf x.later.endRelays r.later := by
  refine ⟨h.c, h.draws, h.drawn, by show r.clock + 1 = x.clock + 1; rw [h.clock], h.seq, h.self, h.others, h.pass, h.probe, h.prb, h.queue, ?_, h.dropped, h.evs, h.lost⟩
  show r.rels.filter (fun q => decide (r.clock + 1 < q.till)) = x.rels.filter (fun q => !decide (q.till ≤ x.clock + 1))
  rw [h.rels, h.clock]
  refine List.filter_congr (fun q _ => ?_)
  rw [Bool.eq_iff_iff]
  simp
theorem Rf.draw {x : Nd} {r : Rn} (h : Rf x r) {n : Int} (hn : 1 ≤ n) : (r.draw n).1 = x.drawn n ∧ Rf (x.drew n) (r.draw n).2 ∧ (r.draw n).2.out = r.out := by
  unfold Rn.draw Nd.drawn Nd.drew Nd.mute
  rw [h.draws, h.drawn]
  have e : decide (n < 1) = false := by simp; omega
  rw [e]
  by_cases e0 : x.dl.length = 0
  · simp only [e0, decide_true, Bool.or_false, if_true]
    exact ⟨trivial, h, trivial⟩
  · simp only [e0, decide_false, Bool.or_false, if_false, Bool.false_eq_true]
    exact ⟨trivial, ⟨h.c, rfl, by show x.dat + 1 = x.dat + 1; rfl, h.clock, h.seq, h.self, h.others, h.pass, h.probe, h.prb, h.queue, h.rels, h.dropped, h.evs, h.lost⟩, trivial⟩
theorem Rf.present {x : Nd} {r : Rn} (h : Rf x r) (hx : NdOk x) : r.present = x.present := by
  unfold Rn.present Nd.present Nd.others
  rw [h.others]
  show ((x.rest.map toR).filter (fun m => decide (m.k.st ≤ 2))).map (fun m => m.k.id) = ((x.rest.map Mem.k).filter thereB).map K3.id
  rw [List.filter_map, List.filter_map, List.map_map, List.map_map]
  congr 1
  refine List.filter_congr (fun m hm => ?_)
  have := (key_bounds (hx.keys m (rest_in hm))).2.2
  show decide (m.k.st ≤ 2) = (decide (m.k.st = 1) || decide (m.k.st = 2))
  rw [Bool.eq_iff_iff]
  simp only [decide_eq_true_eq, Bool.or_eq_true]
  omega
theorem RlE.drew {e : Int} {x : Nd} (h : RlE e x) (n : Int) : RlE e (x.drew n) := by
  obtain ⟨m, em, _⟩ := drew_ex x n
  rw [em]
  exact h.same rfl (Int.le_refl _) rfl rfl rfl rfl rfl (.inl rfl)
/-- The asks. -/
theorem Rf.asks {e : Int} : ∀ (n : Nat) (l : List Int) {x : Nd} {r : Rn}, Rf x r → NdOk x → RlE e x → x.ptgt ≠ 0 →
    (r.asks n l).out = r.out ++ (x.asks (min n l.length) l).1 ∧ Rf (x.asks (min n l.length) l).2 (r.asks n l) ∧ RlE e (x.asks (min n l.length) l).2 ∧ (x.asks (min n l.length) l).2.ptgt = x.ptgt ∧ (x.asks (min n l.length) l).2.pst = x.pst ∧ (x.asks (min n l.length) l).2.clock = x.clock ∧ (x.asks (min n l.length) l).2.c = x.c
  | 0, l, x, r, h, _, hl, _ => by
    rw [Nat.zero_min]
    exact ⟨(List.append_nil _).symm, h, hl, rfl, rfl, rfl, rfl⟩
  | n + 1, l, x, r, h, hx, hl, hp => by
    by_cases e0 : l.length = 0
    · have : min (n + 1) l.length = 0 := by omega
      rw [this]
      unfold Rn.asks
      rw [if_pos e0]
      exact ⟨(List.append_nil _).symm, h, hl, rfl, rfl, rfl, rfl⟩
    · obtain ⟨d1, d2, d3⟩ := h.draw (n := (l.length : Int)) (by omega)
      obtain ⟨m, em, _⟩ := drew_ex x l.length
      have hbd := drawn_bd x (n := (l.length : Int)) (by omega)
      obtain ⟨y, hy⟩ : ∃ y, y = x.drew l.length := ⟨_, rfl⟩
      obtain ⟨i, hi⟩ : ∃ i, i = (x.drawn l.length).toNat := ⟨_, rfl⟩
      obtain ⟨q, hq⟩ : ∃ q, q = (r.draw l.length).2 := ⟨_, rfl⟩
      have hyok : NdOk y := by rw [hy]; exact drew_ok hx _
      have hyl : RlE e y := by rw [hy]; exact hl.drew _
      have hyf : y.ptgt = x.ptgt ∧ y.pnum = x.pnum ∧ y.pst = x.pst ∧ y.clock = x.clock ∧ y.c = x.c := by rw [hy, em]; exact ⟨rfl, rfl, rfl, rfl, rfl⟩
      obtain ⟨f1, f2, f3, f4, f5⟩ := hyf
      have hRy : Rf y q := by rw [hy, hq]; exact d2
      have hyp : y.ptgt ≠ 0 := by rw [f1]; exact hp
      obtain ⟨p1, p2, p3⟩ := hRy.prb hyp
      have htgt : 1 ≤ y.ptgt ∧ y.ptgt ≤ 250 := by
        rcases hyok.pass.tgt with hh | hh
        · exact absurd hh hyp
        · exact hh.1
      have hil : i < l.length := by omega
      have hlen : (l.eraseIdx i).length = l.length - 1 := by rw [List.length_eraseIdx_of_lt hil]
      obtain ⟨g1, g2⟩ := hRy.direct hyok (kind := 3) (seq := y.pnum) (tgt := y.ptgt) (l.getD i 0) (by omega) htgt (hyl.prb hyp).1
      have ih := Rf.asks n (l.eraseIdx i) g2 (along_ok hyok) (hyl.along hyok) hyp
      rw [hlen] at ih
      have emin : min (n + 1) l.length = min n (l.length - 1) + 1 := by omega
      have e1 : x.asks (min (n + 1) l.length) l = (y.direct 3 (l.getD i 0) y.pnum y.ptgt :: (y.along.asks (min n (l.length - 1)) (l.eraseIdx i)).1, (y.along.asks (min n (l.length - 1)) (l.eraseIdx i)).2) := by
        rw [emin, hy, hi]
        rfl
      have e2 : r.asks (n + 1) l = (q.direct (l.getD i 0) 3 y.pnum y.ptgt).asks n (l.eraseIdx i) := by
        rw [← p2, ← hRy.probe, hi, ← d1, hq]
        show (if l.length = 0 then r else _) = _
        rw [if_neg e0]
      rw [e1, e2]
      obtain ⟨i1, i2, i3, i4, i5, i6, i7⟩ := ih
      refine ⟨?_, i2, i3, i4.trans f1, i5.trans f3, i6.trans f4, i7.trans f5⟩
      rw [i1, g1, hq, d3, List.append_assoc]
      rfl
theorem Rf.idle {x : Nd} {r : Rn} (h : Rf x r) : Rf x.idle { r with probe := 0 } :=
  ⟨h.c, h.draws, h.drawn, h.clock, h.seq, h.self, h.others, h.pass, rfl, fun hh => absurd rfl hh, h.queue, h.rels, h.dropped, h.evs, h.lost⟩
theorem RlE.idle {e : Int} {x : Nd} (h : RlE e x) : RlB x.idle := ⟨⟨h.rel.rise, h.rel.top⟩, h.rng, fun hh => absurd rfl hh, h.own⟩
theorem Rf.endProbe {e : Int} {x : Nd} {r : Rn} (h : Rf x r) (hx : NdOk x) (hl : RlE e x) (hp : x.ptgt ≠ 0) : Rf x.endProbe r.endProbe ∧ RlB x.endProbe ∧ r.endProbe.out = r.out := by
  obtain ⟨p1, p2, p3⟩ := h.prb hp
  have hne : x.ptgt ≠ x.c.self := by
    rcases hx.pass.tgt with hh | hh
    · exact absurd hh hp
    · exact hh.2
  have ef : findR r.probe r.others = (findM x.ptgt x.tab).map toR := by rw [h.probe, h.others, rest_find hne]
  cases hf : findM x.ptgt x.tab with
  | none =>
    rw [hf] at ef
    have er : r.endProbe = { r with probe := 0 } := by unfold Rn.endProbe; rw [ef]; rfl
    have ex : x.endProbe = x.idle := by
      unfold Nd.endProbe
      rw [if_pos (by simp [atM, hf, zeroM])]
    rw [er, ex]
    exact ⟨h.idle, hl.idle, rfl⟩
  | some o =>
    rw [hf] at ef
    obtain ⟨o1, o2⟩ := findM_in hf
    have ea : (atM x.ptgt x.tab).k = o.k := by simp [atM, hf]
    by_cases ec : (!x.pack && decide (o.k.st = 1)) = true
    · have ec2 : ¬ (x.pack || !decide (o.k.st = 1)) = true := by
        revert ec
        cases x.pack <;> cases decide (o.k.st = 1) <;> simp
      have er : r.endProbe = ({ r with probe := 0 } : Rn).heard ⟨o.k.id, o.k.inc, 2⟩ := by
        unfold Rn.endProbe
        rw [ef]
        show (if (!r.acked && decide (o.k.st = 1)) = true then ({ r with probe := 0 } : Rn).heard ⟨r.probe, o.k.inc, 2⟩ else _) = _
        rw [if_pos (by rw [p3]; exact ec), h.probe, o2]
      have ex : x.endProbe = x.idle.hear ⟨o.k.id, o.k.inc, 2⟩ := by
        unfold Nd.endProbe
        rw [if_neg (by rw [ea]; exact ec2), ea]
      have hkey : isKeyB ⟨o.k.id, o.k.inc, 2⟩ = true := by
        have := hx.keys o o1
        simp only [isKeyB, Bool.and_eq_true] at this ⊢
        exact ⟨this.1, this.2.1, by simp [isStB]⟩
      rw [er, ex]
      exact ⟨h.idle.hear (idle_ok hx) _ hkey, hl.idle.hear (idle_ok hx) _, heard_out _ _⟩
    · have ec2 : (x.pack || !decide (o.k.st = 1)) = true := by
        revert ec
        cases x.pack <;> cases decide (o.k.st = 1) <;> simp
      have er : r.endProbe = { r with probe := 0 } := by
        unfold Rn.endProbe
        rw [ef]
        show (if (!r.acked && decide (o.k.st = 1)) = true then _ else ({ r with probe := 0 } : Rn)) = _
        rw [if_neg (by rw [p3]; exact ec)]
      have ex : x.endProbe = x.idle := by
        unfold Nd.endProbe
        rw [if_pos (by rw [ea]; exact ec2)]
      rw [er, ex]
      exact ⟨h.idle, hl.idle, rfl⟩
theorem RlE.tight {e : Int} {x : Nd} (h : RlE e x) (ht : x.ptgt ≠ 0 → x.clock < x.pst + x.c.period) : RlB x := ⟨h.rel, h.rng, fun hh => ⟨(h.prb hh).1, (h.prb hh).2.1, by have := ht hh; omega⟩, h.own⟩
/-- A probe goes on. -/
theorem Rf.goOn {x : Nd} {r : Rn} (h : Rf x r) (hx : NdOk x) (hl : RlE 1 x) (h0 : r.out = []) : Same1 x.goOn.1 x.goOn.2 (if 0 < r.probe then r.probing else r) := by
  have hcf := hx.cfg
  simp only [cfgB, Bool.and_eq_true, decide_eq_true_eq] at hcf
  obtain ⟨_, ⟨c1, c2⟩, ⟨v1, v2⟩, _⟩ := hcf
  unfold Nd.goOn
  rw [h.probe]
  by_cases hp : x.ptgt = 0
  · rw [if_pos hp, if_neg (by omega)]
    exact ⟨h0, h, hl.tight (fun hh => absurd hp hh)⟩
  · have hp1 : 0 < x.ptgt := by
      rcases hx.pass.tgt with hh | hh
      · exact absurd hh hp
      · omega
    rw [if_neg hp, if_pos hp1]
    obtain ⟨p1, p2, p3⟩ := h.prb hp
    obtain ⟨q1, q2, q3⟩ := hl.prb hp
    have eage : r.clock - r.start = x.clock - x.pst := by rw [h.clock, p1]
    by_cases hw : x.clock - x.pst = x.c.wait
    · rw [if_pos hw]
      cases hpk : x.pack with
      | true =>
        have ep : r.probing = r := by
          unfold Rn.probing
          rw [if_neg (by rw [p3, hpk]; simp), if_pos (by rw [eage, h.c]; omega)]
        have ea : x.askOthers = ([], x) := by unfold Nd.askOthers; rw [if_pos hpk]
        rw [ep, ea]
        exact ⟨h0, h, hl.tight (fun _ => by omega)⟩
      | false =>
        have ep : r.probing = r.ask := by
          unfold Rn.probing
          rw [if_pos ⟨by rw [eage, h.c]; exact hw, by rw [p3]; exact hpk⟩, if_pos (by rw [eage, h.c]; omega)]
        have ea : x.askOthers = x.asks (min x.c.proxies.toNat x.able.length) x.able := by unfold Nd.askOthers; rw [if_neg (by rw [hpk]; decide)]
        have el : (r.others.filter (fun m => decide (m.k.st ≤ 2) && !(m.k.id == r.probe))).map (fun m => m.k.id) = x.able := by
          have hpr := h.present hx
          unfold Rn.present at hpr
          unfold Nd.able
          rw [← hpr, List.filter_map, List.filter_filter, h.probe]
          congr 1
          exact List.filter_congr (fun m _ => Bool.and_comm _ _)
        have er : r.ask = r.asks x.c.proxies.toNat x.able := by
          unfold Rn.ask
          rw [el, h.c]
        rw [ep, ea, er]
        obtain ⟨a1, a2, a3, a4, a5, a6, a7⟩ := h.asks x.c.proxies.toNat x.able hx hl hp
        exact ⟨by rw [a1, h0]; rfl, a2, a3.tight (fun _ => by rw [a5, a6, a7]; omega)⟩
    · rw [if_neg hw]
      by_cases hd : x.clock - x.pst = x.c.period
      · have ep : r.probing = r.endProbe := by
          unfold Rn.probing
          rw [if_neg (fun hh => hw (by rw [← eage, ← h.c]; exact hh.1)), if_neg (by rw [eage, h.c]; omega)]
        rw [if_pos hd, ep]
        obtain ⟨e1, e2, e3⟩ := h.endProbe hx hl hp
        exact ⟨e3.trans h0, e1, e2⟩
      · have ep : r.probing = r := by
          unfold Rn.probing
          rw [if_neg (fun hh => hw (by rw [← eage, ← h.c]; exact hh.1)), if_pos (by rw [eage, h.c]; omega)]
        rw [if_neg hd, ep]
        exact ⟨h0, h, hl.tight (fun _ => by omega)⟩
theorem Rf.mixFrom : ∀ (i : Nat) (l : List Int) {x : Nd} {r : Rn}, Rf x r → (r.mixFrom i l).1 = (x.mixFrom i l).1 ∧ Rf (x.mixFrom i l).2 (r.mixFrom i l).2 ∧ (r.mixFrom i l).2.out = r.out
  | 0, _, _, _, h => ⟨rfl, h, rfl⟩
  | i + 1, l, x, r, h => by
    obtain ⟨d1, d2, d3⟩ := h.draw (n := (i : Int) + 2) (by omega)
    obtain ⟨a, b, c⟩ := Rf.mixFrom i (swapL l (i + 1) (x.drawn ((i : Int) + 2)).toNat) d2
    unfold Rn.mixFrom Nd.mixFrom
    rw [d1]
    exact ⟨a, b, c.trans d3⟩
theorem Rf.renew {x : Nd} {r : Rn} (h : Rf x r) (hx : NdOk x) (hl : RlB x) : Rf x.renew r.renew ∧ RlB x.renew ∧ r.renew.out = r.out ∧ x.renew.num = x.num ∧ x.renew.ptgt = x.ptgt := by
  unfold Rn.renew Nd.renew
  rw [h.pass, h.present hx]
  by_cases e : x.pass.length = 0
  · rw [if_pos e, if_pos e]
    obtain ⟨a, b, c⟩ := h.mixFrom (x.present.length - 1) x.present
    obtain ⟨m, em, _⟩ := mixed_ex x x.present
    have ex : (x.mixFrom (x.present.length - 1) x.present).2 = { x with dat := m } := em
    refine ⟨?_, ?_, c, ?_, ?_⟩
    · unfold Nd.mixed
      rw [a]
      exact ⟨b.c, b.draws, b.drawn, b.clock, b.seq, b.self, b.others, rfl, b.probe, b.prb, b.queue, b.rels, b.dropped, b.evs, b.lost⟩
    · rw [em]
      exact hl.same rfl (Int.le_refl _) rfl rfl rfl rfl rfl (.inl rfl)
    · rw [em]
    · rw [em]
  · rw [if_neg e, if_neg e]
    exact ⟨h, hl, rfl, rfl, rfl⟩
theorem Rf.probeOne {x : Nd} {r : Rn} (h : Rf x r) (hx : NdOk x) (hl : RlB x) (hn : 0 ≤ x.num ∧ x.num ≤ 4000000000) : r.probeOne.out = r.out ++ x.probeOne.1 ∧ Rf x.probeOne.2 r.probeOne ∧ RlB x.probeOne.2 := by
  have hcf := hx.cfg
  simp only [cfgB, Bool.and_eq_true, decide_eq_true_eq] at hcf
  obtain ⟨_, ⟨c1, c2⟩, _⟩ := hcf
  unfold Rn.probeOne Nd.probeOne
  rw [h.pass]
  cases hp : x.pass with
  | nil => exact ⟨(List.append_nil _).symm, h, hl⟩
  | cons t l =>
    have hid := hx.pass.ids t (by rw [hp]; simp)
    obtain ⟨q, hq⟩ : ∃ q : Rn, q = { r with probe := t, pass := l, start := r.clock, acked := false, seq := r.seq + 1, no := r.seq + 1 } := ⟨_, rfl⟩
    have hRq : Rf (x.begin t l) q := by
      rw [hq]
      exact ⟨h.c, h.draws, h.drawn, h.clock, by show r.seq + 1 = x.num + 1; rw [h.seq], h.self, h.others, rfl, rfl, fun _ => ⟨h.clock, by show r.seq + 1 = x.num + 1; rw [h.seq], rfl⟩, h.queue, h.rels, h.dropped, h.evs, h.lost⟩
    have hb := begin_ok hx hp
    have hlb : RlB (x.begin t l) := ⟨⟨hl.rel.rise, fun q hq => by have := hl.rel.top q hq; show q.num ≤ x.num + 1; omega⟩, hl.rng, fun _ => ⟨by show 0 ≤ x.num + 1 ∧ x.num + 1 ≤ 4294967295; omega, Int.le_refl _, by show x.clock < x.clock + x.c.period + 0; omega⟩, hl.own⟩
    obtain ⟨d1, d2⟩ := hRq.direct hb (kind := 1) (seq := x.num + 1) (tgt := t) t (by omega) hid.1 (by omega)
    have er : ({ r with probe := t, pass := l, start := r.clock, acked := false, seq := r.seq + 1, no := r.seq + 1 } : Rn).direct t 1 (r.seq + 1) t = q.direct t 1 (x.num + 1) t := by
      rw [hq, ← h.seq]
    show (({ r with probe := t, pass := l, start := r.clock, acked := false, seq := r.seq + 1, no := r.seq + 1 } : Rn).direct t 1 (r.seq + 1) t).out = r.out ++ [(x.begin t l).direct 1 t (x.num + 1) t] ∧ Rf (x.begin t l).along (({ r with probe := t, pass := l, start := r.clock, acked := false, seq := r.seq + 1, no := r.seq + 1 } : Rn).direct t 1 (r.seq + 1) t) ∧ RlB (x.begin t l).along
    rw [er]
    refine ⟨?_, d2, hlb.along hb⟩
    rw [d1, hq]
theorem deads_num : ∀ (l : List Mem) (x : Nd), (l.foldl (fun y m => y.hear m.dead) x).num = x.num
  | [], _ => rfl
  | m :: l, x => (deads_num l (x.hear m.dead)).trans (hear_rels x m.dead).2
theorem asks_num : ∀ (n : Nat) (l : List Int) (x : Nd), (x.asks n l).2.num = x.num
  | 0, _, _ => rfl
  | n + 1, l, x => by
    obtain ⟨m, e, _⟩ := drew_ex x l.length
    have := asks_num n (l.eraseIdx (x.drawn l.length).toNat) (x.drew l.length).along
    show ((x.drew l.length).along.asks n (l.eraseIdx (x.drawn l.length).toNat)).2.num = x.num
    rw [this]
    show (x.drew l.length).num = x.num
    rw [e]
theorem goOn_num (x : Nd) : x.goOn.2.num = x.num := by
  unfold Nd.goOn Nd.askOthers Nd.endProbe
  repeat' split
  all_goals first | rfl | exact asks_num _ _ _ | exact (hear_rels _ _).2
theorem tick_num (x : Nd) : x.later.endRelays.endSuspects.goOn.2.num = x.num := by
  rw [goOn_num]
  exact deads_num _ _
/-- Tick (P9). -/
theorem Rf.tick {x : Nd} {r : Rn} (h : Rf x r) (hx : NdOk x) (hl : RlB x) (hn : 0 ≤ x.num ∧ x.num ≤ 4000000000) : Same1 x.tick.1 x.tick.2 r.tick := by
  have h1 := h.later hx
  have hx1 := endRelays_ok (later_ok hx)
  have hl1 : RlE 1 x.later.endRelays := ⟨hl.rel.filter (fun r => !decide (r.till ≤ x.clock + 1)) rfl (Int.le_refl _), fun q hq => hl.rng q (List.mem_filter.1 hq).1, fun hh => by
    obtain ⟨a, b, c⟩ := hl.prb hh
    exact ⟨a, by show x.pst ≤ x.clock + 1; omega, by show x.clock + 1 < x.pst + x.c.period + 1; omega⟩, hl.own⟩
  have elen : r.others.length = x.later.endRelays.rest.length := by rw [h.others, List.length_map]; rfl
  obtain ⟨y, hy, hf, hok, hrl, hout, _⟩ := h1.sus hx1 hl1 r.others.length (by omega)
  have ey : y = x.later.endRelays.endSuspects := by
    rw [hy, elen, List.take_length]
    unfold Nd.endSuspects
    rw [over_rest hx1 hl1]
  obtain ⟨g1, g2, g3⟩ := hf.goOn hok hrl (by rw [hout]; rfl)
  have hgo := goOn_ok hok
  have hnum : y.goOn.2.num = x.num := by
    rw [ey]
    exact tick_num x
  obtain ⟨r2, hr2⟩ : ∃ r2, r2 = if 0 < (r.later.sus r.others.length).probe then (r.later.sus r.others.length).probing else r.later.sus r.others.length := ⟨_, rfl⟩
  rw [← hr2] at g1 g2
  have et : r.tick = if r2.probe = 0 ∧ r2.self.st ≠ 4 then r2.begin else r2 := by rw [hr2]; rfl
  have ex : x.tick = (y.goOn.1 ++ y.goOn.2.probeNext.1, y.goOn.2.probeNext.2) := by rw [ey]; rfl
  rw [et, ex, g2.probe, g2.self]
  unfold Nd.probeNext Nd.left
  generalize y.goOn = G at *
  by_cases e : G.2.ptgt = 0 ∧ G.2.own.st ≠ 4
  · rw [if_pos e, if_neg (by simp [e.1, e.2])]
    obtain ⟨b1, b2, b3, b4, b5⟩ := g2.renew hgo g3
    obtain ⟨c1, c2, c3⟩ := b1.probeOne (renew_ok hgo) b2 (by rw [b4, hnum]; exact hn)
    exact ⟨by show r2.renew.probeOne.out = G.1 ++ G.2.renew.probeOne.1; rw [c1, b3, g1], c2, c3⟩
  · rw [if_neg e, if_pos (by
      by_cases e1 : G.2.ptgt = 0
      · have : G.2.own.st = 4 := by
          by_cases e2 : G.2.own.st = 4
          · exact e2
          · exact absurd ⟨e1, e2⟩ e
        simp [this]
      · simp [e1])]
    exact ⟨by show r2.out = G.1 ++ []; rw [List.append_nil]; exact g1, g2, g3⟩
end Go.Proofs.YtnneljcbelgoeaaGreatDoor.wire
/- A tick keeps it too; what comes out is small. No Go here. -/
namespace Go.Proofs.YtnneljcbelgoeaaGreatDoor.wire

theorem Up.deads : ∀ (l : List Mem) {x : Nd}, NdOk x → (∀ m ∈ l, isKeyB m.k = true) → Up x (l.foldl (fun y m => y.hear m.dead) x)
  | [], x, _, _ => Up.refl x
  | m :: r, _, hx, hl => (Up.hear hx m.dead).trans (Up.deads r (hear_ok hx _ (dead_key (hl m (List.mem_cons_self ..)))) (fun m' hm' => hl m' (List.mem_cons_of_mem _ hm')))
theorem Up.drew (x : Nd) (n : Int) : Up x (x.drew n) := by
  obtain ⟨m, e, _⟩ := drew_ex x n
  rw [e]
  exact Up.same rfl rfl rfl
theorem Up.asks : ∀ (n : Nat) (l : List Int) {x : Nd}, NdOk x → Up x (x.asks n l).2
  | 0, _, x, _ => Up.refl x
  | n + 1, _, x, hx => ((Up.drew x _).trans (Up.along (drew_ok hx _))).trans (Up.asks n _ (along_ok (drew_ok hx _)))
theorem Up.endProbe {x : Nd} (hx : NdOk x) : Up x x.endProbe := by
  unfold Nd.endProbe
  split
  · exact Up.same rfl rfl rfl
  · exact (Up.hear (idle_ok hx) _).of_same rfl rfl rfl
theorem Up.goOn {x : Nd} (hx : NdOk x) : Up x x.goOn.2 := by
  unfold Nd.goOn
  split
  · exact Up.refl x
  · split
    · unfold Nd.askOthers
      split
      · exact Up.refl x
      · exact Up.asks _ _ hx
    · split
      · exact Up.endProbe hx
      · exact Up.refl x
theorem Up.renew (x : Nd) : Up x x.renew := by
  unfold Nd.renew
  split
  · obtain ⟨m, e, _⟩ := mixed_ex x x.present
    rw [e]
    exact Up.same rfl rfl rfl
  · exact Up.refl x
theorem Up.probeOne {x : Nd} (hx : NdOk x) : Up x x.probeOne.2 := by
  unfold Nd.probeOne
  split
  · exact Up.refl x
  · rename_i t r hp
    exact (Up.along (begin_ok hx hp)).of_same rfl rfl rfl
theorem Up.probeNext {x : Nd} (hx : NdOk x) : Up x x.probeNext.2 := by
  unfold Nd.probeNext
  split
  · exact Up.refl x
  · exact (Up.renew x).trans (Up.probeOne (renew_ok hx))
theorem Up.tick {x : Nd} (hx : NdOk x) : Up x x.tick.2 := by
  have h1 : Up x x.later.endRelays := Up.same rfl rfl rfl
  have x2 := endRelays_ok (later_ok hx)
  have h2 : Up x.later.endRelays x.later.endRelays.endSuspects := Up.deads _ x2 (fun m hm => x2.keys m (List.mem_filter.1 hm).1)
  have x3 := endSuspects_ok x2
  exact ((h1.trans h2).trans (Up.goOn x3)).trans (Up.probeNext (goOn_ok x3))
theorem deads_rels : ∀ (l : List Mem) (x : Nd), (l.foldl (fun y m => y.hear m.dead) x).rels = x.rels ∧ (l.foldl (fun y m => y.hear m.dead) x).num = x.num
  | [], _ => ⟨rfl, rfl⟩
  | m :: r, x => ⟨(deads_rels r (x.hear m.dead)).1.trans (hear_rels x m.dead).1, (deads_rels r (x.hear m.dead)).2.trans (hear_rels x m.dead).2⟩
theorem asks_rels : ∀ (n : Nat) (l : List Int) (x : Nd), (x.asks n l).2.rels = x.rels ∧ (x.asks n l).2.num = x.num
  | 0, _, _ => ⟨rfl, rfl⟩
  | n + 1, l, x => by
    obtain ⟨m, e, _⟩ := drew_ex x (l.length : Int)
    obtain ⟨a, b⟩ := asks_rels n (l.eraseIdx (x.drawn l.length).toNat) (x.drew l.length).along
    refine ⟨a.trans ?_, b.trans ?_⟩
    · show (x.drew l.length).rels = x.rels
      rw [e]
    · show (x.drew l.length).num = x.num
      rw [e]
theorem goOn_rels (x : Nd) : x.goOn.2.rels = x.rels ∧ x.goOn.2.num = x.num := by
  unfold Nd.goOn
  split
  · exact ⟨rfl, rfl⟩
  · split
    · unfold Nd.askOthers
      split
      · exact ⟨rfl, rfl⟩
      · exact asks_rels _ _ _
    · split
      · show x.endProbe.rels = x.rels ∧ x.endProbe.num = x.num
        unfold Nd.endProbe
        split
        · exact ⟨rfl, rfl⟩
        · exact hear_rels _ _
      · exact ⟨rfl, rfl⟩
theorem renew_rels (x : Nd) : x.renew.rels = x.rels ∧ x.renew.num = x.num := by
  unfold Nd.renew
  split
  · obtain ⟨m, e, _⟩ := mixed_ex x x.present
    rw [e]
    exact ⟨rfl, rfl⟩
  · exact ⟨rfl, rfl⟩
theorem probeNext_rels (x : Nd) : x.probeNext.2.rels = x.rels ∧ x.num ≤ x.probeNext.2.num := by
  unfold Nd.probeNext
  split
  · exact ⟨rfl, Int.le_refl _⟩
  · have h : x.renew.probeOne.2.rels = x.renew.rels ∧ x.renew.num ≤ x.renew.probeOne.2.num := by
      unfold Nd.probeOne
      split
      · exact ⟨rfl, Int.le_refl _⟩
      · exact ⟨rfl, by show x.renew.num ≤ x.renew.num + 1; omega⟩
    rw [(renew_rels x).1, (renew_rels x).2] at h
    exact h
theorem RelOk.tick {x : Nd} (h : RelOk x) : RelOk x.tick.2 := by
  have h1 : RelOk x.later.endRelays := h.filter (fun r => !decide (r.till ≤ x.later.clock)) rfl (Int.le_refl _)
  have h2 : RelOk x.later.endRelays.endSuspects := h1.same (deads_rels _ _).1 (Int.le_of_eq (deads_rels _ _).2.symm)
  have h3 : RelOk x.later.endRelays.endSuspects.goOn.2 := h2.same (goOn_rels _).1 (Int.le_of_eq (goOn_rels _).2.symm)
  exact h3.same (probeNext_rels _).1 (probeNext_rels _).2
/-- How many packets come out of whatever came in. -/
theorem its_one {x : Nd} (h : RelOk x) (m : M6) : (x.rels.filter (itsB m)).length ≤ 1 := by
  have hp := h.rise.filter (itsB m)
  rcases hl : x.rels.filter (itsB m) with _ | ⟨a, _ | ⟨b, r⟩⟩
  · simp
  · simp
  · rw [hl] at hp
    have h1 : a.num < b.num := (List.pairwise_cons.1 hp).1 b (by simp)
    have ha : itsB m a = true := (List.mem_filter.1 (by rw [hl]; simp : a ∈ x.rels.filter (itsB m))).2
    have hb : itsB m b = true := (List.mem_filter.1 (by rw [hl]; simp : b ∈ x.rels.filter (itsB m))).2
    simp only [itsB, Bool.and_eq_true, decide_eq_true_eq] at ha hb
    omega
theorem deed_one {x : Nd} (h : RelOk x) (hx : NdOk x) (m : M6) : (x.deed m).1.length ≤ 1 := by
  unfold Nd.deed
  repeat' split
  · unfold Nd.takePing; split <;> simp
  · unfold Nd.takeAck
    have hok := relay_ok hx (if x.ptgt = m.tgt ∧ x.pnum = m.seq then true else x.pack) (l := x.rels.filter (fun r => !(itsB m r))) (Nat.le_trans (List.length_filter_le _ _) hx.rels)
    rw [(relayed_keeps (x.rels.filter (itsB m)) hok).2.2.2.2.2.1]
    exact its_one h m
  · unfold Nd.takeAsk
    split
    · unfold Nd.takePing; split <;> simp
    · split <;> simp
  · simp [Nd.takeJoin]
  · simp
theorem bytesS_len (m : M6) (h : m.ups.length ≤ 8) : (bytesS m).length ≤ 60 := by
  unfold bytesS
  split
  · rw [bytesM_len]; omega
  · simp
theorem direct_small (x : Nd) (kind dest seq tgt : Int) : (x.direct kind dest seq tgt).bytes.length ≤ 60 := by
  have := picks_len x
  refine bytesS_len _ ?_
  show (x.picks.map Mem.k).length ≤ 8
  rw [List.length_map]; omega
theorem relayed_small : ∀ (l : List Rel) (x : Nd), ∀ p ∈ (x.relayed l).1, p.bytes.length ≤ 60
  | [], _, p, hp => by cases hp
  | r :: l, x, p, hp => by
    have hp' : p ∈ x.direct 2 r.asker r.under r.tgt :: (x.along.relayed l).1 := hp
    rcases List.mem_cons.1 hp' with rfl | h
    · exact direct_small _ _ _ _ _
    · exact relayed_small l x.along p h
theorem takePing_small (x : Nd) (m : M6) : ∀ p ∈ (x.takePing m).1, p.bytes.length ≤ 60 := by
  intro p hp
  unfold Nd.takePing at hp
  by_cases h : m.tgt = x.c.self
  · rw [if_pos h] at hp; simp at hp; subst hp; exact direct_small _ _ _ _ _
  · rw [if_neg h] at hp; cases hp
theorem deed_small {x : Nd} (hx : NdOk x) (m : M6) : ∀ p ∈ (x.deed m).1, p.bytes.length ≤ 60 := by
  intro p hp
  unfold Nd.deed at hp
  repeat' split at hp
  · exact takePing_small x m p hp
  · unfold Nd.takeAck at hp
    exact relayed_small _ _ p hp
  · unfold Nd.takeAsk at hp
    by_cases h1 : m.tgt = x.c.self
    · rw [if_pos h1] at hp; exact takePing_small x m p hp
    · rw [if_neg h1] at hp
      by_cases h2 : 4 ≤ x.rels.length
      · rw [if_pos h2] at hp; cases hp
      · rw [if_neg h2] at hp; simp at hp; subst hp; exact direct_small _ _ _ _ _
  · simp [Nd.takeJoin] at hp
    subst hp
    refine bytesS_len _ ?_
    show (x.tab.map Mem.k).length ≤ 8
    rw [List.length_map]; exact hx.len
  · cases hp
theorem receive_out {x : Nd} (hx : NdOk x) (hr : RelOk x) (b : List UInt8) : (x.receive b).1.length ≤ 1 ∧ ∀ p ∈ (x.receive b).1, p.bytes.length ≤ 60 := by
  unfold Nd.receive
  split
  · rename_i ht
    obtain ⟨hw, _⟩ := takes_parts ht
    obtain ⟨hk, hl8, ha⟩ := whole_parts hw
    have h1 := hear_ok hx ⟨(readM b).frm, (readM b).inc, 1⟩ hk
    have h2 := hears_ok' (readM b).ups h1 ha
    exact ⟨deed_one (hr.same (((hears_rels _ _).1).trans (hear_rels _ _).1) (Int.le_of_eq (((hears_rels _ _).2).trans (hear_rels _ _).2).symm)) h2 _, deed_small h2 _⟩
  · simp
theorem others_le {x : Nd} (hx : NdOk x) : x.others.length ≤ 7 := by
  obtain ⟨m, hm⟩ := hx.self
  obtain ⟨h1, h2⟩ := findM_in hm
  have hl := hx.len
  unfold Nd.others
  rw [List.length_map]
  have : (x.tab.filter (fun m => !(m.k.id == x.c.self))).length < x.tab.length := by
    rw [List.length_filter_lt_length_iff_exists]
    exact ⟨m, h1, by simp [h2]⟩
  omega
theorem pending_le {x : Nd} (hx : NdOk x) : x.pending ≤ 8 := Nat.le_trans (List.length_filter_le _ _) hx.len
theorem knows_up {x y : Nd} (h : Up x y) {j : Int} (hj : Knows j x) : Knows j y := by
  unfold Knows at *
  obtain ⟨o, ho⟩ := Option.isSome_iff_exists.1 hj
  obtain ⟨o', h1, _⟩ := h.up j o ho
  rw [h1]; rfl
/-- Whom it knows. -/
theorem others_ge {x : Nd} (l : List Int) (hl : l.Nodup) (hk : ∀ i ∈ l, i ≠ x.c.self ∧ Knows i x) : l.length ≤ x.others.length := by
  have := len_sub l (x.others.map K3.id) hl (fun a ha => by
    obtain ⟨h1, h2⟩ := hk a ha
    obtain ⟨m, hm⟩ := Option.isSome_iff_exists.1 h2
    obtain ⟨m1, m2⟩ := findM_in hm
    refine List.mem_map.2 ⟨m.k, List.mem_map.2 ⟨m, List.mem_filter.2 ⟨m1, ?_⟩, rfl⟩, m2⟩
    simp [m2, h1])
  simpa using this
end Go.Proofs.YtnneljcbelgoeaaGreatDoor.wire
