import Derived.Test.YtnneljcbelgoeaaGreatDoorG09
import Derived.Deep.RegionLawGrows
import Derived.Deep.DeepAppendRoom
import Derived.BigRegion
/- gossiplaw's hold: a list is kept, and a copy of it (written by gen/mkvhold.py). -/
namespace Go.Proofs.YtnneljcbelgoeaaGreatDoor.wire
open Go.RowKit Go.Maps
theorem infoLK : (Tryz.prog.info? 46).map (fun i => (i.zero, i.size, i.bytes)) = some (some (.slice none 0 0), 1, 24) := by kernel_rfl
theorem etyLKv : Ety Tryz.prog 38 46 1 24 := ety_of Tryz.underlying38 infoLK rfl (by omega) (by omega)
theorem infoEK : (Tryz.prog.info? 76).map (fun i => (i.zero, i.size, i.bytes)) = some (some (.agg #[.int .i64 0, .int .i64 0, .int .i64 0]), 3, 24) := by kernel_rfl
theorem etyEKv : Ety Tryz.prog 46 76 3 24 := ety_of Tryz.underlying46 infoEK rfl (by omega) (by omega)
theorem oneKv (a : K3) : ∀ u ∈ keyC a, u.oneCell' = true := by intro u hu; simp [keyC] at hu; rcases hu with rfl | rfl | rfl <;> rfl
theorem lenKv (a : K3) : (keyC a).length = 3 := rfl
set_option maxRecDepth 100000 in
set_option maxHeartbeats 2000000 in
theorem hold_s (wb : Nat) (s : Sg) (w W : World) (h : VS wb s w W) (hb1 : s.ls.length ≤ 90000) (hb2 : s.ws.length ≤ 90000) (v : Value) (ks : List K3) (hk : ks.length ≤ 2000) (hv : keysT v ks ∈ s.fz) :
    Calls Tryz.prog 31 #[.pointer (some ⟨wb, 0, none⟩), v] W fun e W' => e = .returned (.tuple #[]) ∧ ∃ (lv wv y : Value), VS wb { s with lv := lv, wv := wv, ls := s.ls ++ [v], ws := s.ws ++ [y], fz := keysT y ks :: s.fz } w W' := by
  have hvr : W.ownsRow 0 76 3 v ks.length (ks.flatMap keyC) := h.has hv
  obtain ⟨ao, cap, hvf, _⟩ := row_form hvr
  subst hvf
  obtain ⟨ti, hti, hz0, hz1, hz2⟩ := info_parts infoEK
  have HC := hide h
  have HV := hide hvr
  have hwl := h.lt
  clear h hvr hv
  go_enter Tryz.func31, Tryz.ntmps31
  go_wp2_with (at_make; refine wpList_make_full _ rfl _ _ 46 rfl 0 76 ti (.agg #[.int .i64 0, .int .i64 0, .int .i64 0]) 3 Tryz.underlying46 hti hz0 hz1 .i64 .i64 _ _ ks.length rfl rfl rfl rfl (by rw [hz2]; omega) (by unfold maxLen; omega) (by omega) ?_)
  intro w1 hown hgrow
  obtain ⟨c0, hblk, hc0⟩ := made_row hown
  have hB1 : Below W.heap.size W w1 := (Below.refl _ _).grown hgrow (Nat.le_refl _) (fun k e => by cases e)
  have HK := hide hblk
  have HB := hide hB1
  have HV1 := hide (own_below (unhide HV) hB1)
  clear hown hgrow hblk hB1
  go_wp2_with (refine wpList_copy_row etyEKv rfl (.tmp 10) (.tmp 11) rfl W.heap.size ks.length (.slice ao ks.length cap) rfl rfl c0 (ks.flatMap keyC) (unhide HK) hc0 (one_of oneKv ks) (unhide HV1) ?_)
  intro w2 hk2 hb2
  have hB2 := (unhide HB).trans hb2
  have hcv : w2.ownsRow 0 76 3 (.slice (some ⟨W.heap.size, 0, none⟩) ks.length ks.length) ks.length (ks.flatMap keyC) :=
    ⟨row_len keyC 3 lenKv ks, .inr ⟨W.heap.size, ks.length, _, rfl, by omega, hk2, Nat.le_refl _, by unfold maxLen; omega, by simp [row_len keyC 3 lenKv ks], by rw [List.take_of_length_le (by simp [row_len keyC 3 lenKv ks])]⟩⟩
  have HC2 := hide (((unhide HC).mono hB2).freeze (s' := { s with fz := keysT (.slice (some ⟨W.heap.size, 0, none⟩) ks.length ks.length) ks :: s.fz }) [keysT (.slice (some ⟨W.heap.size, 0, none⟩) ks.length ks.length) ks] (by intro t ht; simp at ht; subst ht; exact hcv) (by
    intro t ht k hk
    simp at ht; subst ht
    simp [rowT, Value.ownBlock] at hk; subst hk
    obtain ⟨a1, a2⟩ := (unhide HC).beyond (Nat.le_refl W.heap.size)
    exact ⟨a1, fun j _ => a2 j⟩) rfl (fun q hq => by cases q <;> first | rfl | exact absurd rfl hq))
  clear hk2 hb2 hB2 HK HB HV1 hcv HC HV
  have cA : w2.cell? ⟨wb, 16, none⟩ = some s.lv := (unhide HC2).cell 16
  have hs2 := (unhide HC2).lt
  go_wp2_with (at_builtin; refine wpList_app rfl _ _ rfl etyLKv 0 rfl rfl ((show w2.ownsRow 0 46 1 s.lv s.ls.length s.ls from Sep.rd (unhide HC2) .ls).alloc _) (Src.box (cs := [.slice ao ks.length cap]) 1 1 1 (heap_alloc_new w2 _) rfl) (by simp [Value.oneCell']) (by omega) (by omega) ?_)
  intro v3 w3 hown3 hgrow3 hat3
  have hP := (unhide HC2).grow (s' := { s with lv := v3, ls := s.ls ++ [.slice ao ks.length cap], fz := keysT (.slice (some ⟨W.heap.size, 0, none⟩) ks.length ks.length) ks :: s.fz }) .ls (by simp) ((Below.refl _ _).alloc (Nat.le_refl _) _) (Frm.of_grown hgrow3 (fun k e => .inl (by simp [Sg.th, rowT, e]))) (by simpa [Sg.th, rowT] using hown3) (fun k hk => by
    simp only [Sg.th, rowT, Option.mem_toList] at hk ⊢
    rcases hat3 with e | e
    · exact .inl (e ▸ hk)
    · rw [e] at hk; cases hk; exact .inr (by simp)) 16 v3 rfl (fun q h1 h2 => by cases q <;> first | rfl | exact absurd rfl h1 | exact absurd rfl h2)
  obtain ⟨ao3, cp3, hv3, _⟩ := row_form hown3
  subst hv3
  have dA : w3.cell? ⟨wb, 16, none⟩ = some s.lv := cell_at hP.2 16
  have eA : w3.frozen? ⟨wb, 16, none⟩ = false := free_at hP.2 16
  have HP1 := hide hP.1
  clear hP hown3 hgrow3 hat3 cA HC2
  have cB : (w3.setCell ⟨wb, 16, none⟩ (.slice ao3 (s.ls.length + 1) cp3)).cell? ⟨wb, 17, none⟩ = some s.wv := (unhide HP1).cell 17
  have hs4 := (unhide HP1).lt
  rw [World.size_setCell] at hs4
  go_wp2_with (at_builtin; refine wpList_app rfl _ _ rfl etyLKv 0 rfl rfl ((show (w3.setCell ⟨wb, 16, none⟩ (.slice ao3 (s.ls.length + 1) cp3)).ownsRow 0 46 1 s.wv s.ws.length s.ws from Sep.rd (unhide HP1) .ws).alloc _) (Src.box (cs := [.slice (some ⟨W.heap.size, 0, none⟩) ks.length ks.length]) 1 1 1 (by have hh := heap_alloc_new (w3.setCell ⟨wb, 16, none⟩ (.slice ao3 (s.ls.length + 1) cp3)) (.cells #[.slice (some ⟨W.heap.size, 0, none⟩) ks.length ks.length] 46); rw [World.size_setCell] at hh; exact hh) rfl) (by simp [Value.oneCell']) (by omega) (by simp) ?_)
  intro v5 w5 hown5 hgrow5 hat5
  have hP := (unhide HP1).grow (s' := { s with lv := .slice ao3 (s.ls.length + 1) cp3, wv := v5, ls := s.ls ++ [.slice ao ks.length cap], ws := s.ws ++ [.slice (some ⟨W.heap.size, 0, none⟩) ks.length ks.length], fz := keysT (.slice (some ⟨W.heap.size, 0, none⟩) ks.length ks.length) ks :: s.fz }) .ws (by simp) ((Below.refl _ _).alloc (Nat.le_refl _) _) (Frm.of_grown hgrow5 (fun k e => .inl (by simp [Sg.th, rowT, e]))) (by simpa [Sg.th, rowT] using hown5) (fun k hk => by
    simp only [Sg.th, rowT, Option.mem_toList] at hk ⊢
    rcases hat5 with e | e
    · exact .inl (e ▸ hk)
    · rw [e] at hk; cases hk; exact .inr (by simp)) 17 v5 rfl (fun q h1 h2 => by cases q <;> first | rfl | exact absurd rfl h1 | exact absurd rfl h2)
  obtain ⟨ao5, cp5, hv5, _⟩ := row_form hown5
  subst hv5
  have dB : w5.cell? ⟨wb, 17, none⟩ = some s.wv := cell_at hP.2 17
  have eB : w5.frozen? ⟨wb, 17, none⟩ = false := free_at hP.2 17
  have HQ1 := hide hP.1
  clear hP hown5 hgrow5 hat5 cB dA eA HP1
  go_wp2
  go_end0
  exact ⟨rfl, _, _, _, unhide HQ1⟩
end Go.Proofs.YtnneljcbelgoeaaGreatDoor.wire
/- gossiplaw's keep: the caller marks a list that came out, appends to it, and holds both (written by gen/mkvhold.py). -/
namespace Go.Proofs.YtnneljcbelgoeaaGreatDoor.wire
open Go.RowKit Go.Maps
set_option maxRecDepth 100000 in
set_option maxHeartbeats 2000000 in
theorem keep_s (wb : Nat) (s : Sg) (w W : World) (h : VS wb s w W) (hb1 : s.ls.length ≤ 89000) (hb2 : s.ws.length ≤ 89000) (hm0 : 0 ≤ s.mark) (hm1 : s.mark ≤ 100000000) (v : Value) (ks : List K3) (hk : ks.length ≤ 1000) (ha : s.a = [keysT v ks]) :
    Calls Tryz.prog 15 #[.pointer (some ⟨wb, 0, none⟩), v] W fun e W' => e = .returned (.tuple #[]) ∧ ∃ (lv wv x y z : Value) (L LL : List K3), L.length = ks.length ∧ LL.length = ks.length + 2 ∧ VS wb { s with a := [], mark := s.mark + ks.length + 2, lv := lv, wv := wv, ls := s.ls ++ [v] ++ [x], ws := s.ws ++ [y] ++ [z], fz := keysT z LL :: keysT y L :: keysT v L :: keysT x LL :: s.fz } w W' := by
  have hv : W.ownsRow 0 76 3 v ks.length (ks.flatMap keyC) := Sep.rd h .ta _ (by rw [ha]; exact List.mem_singleton.2 rfl)
  obtain ⟨ao, cap, hvf, _⟩ := row_form hv
  subst hvf
  have h0 : VS wb { s with mark := s.mark + ((0 : Nat) : Int), a := [rowT 76 3 (.slice ao ks.length cap) ks.length (ks.flatMap keyC)] } w W := by
    have e : ({ s with mark := s.mark + ((0 : Nat) : Int), a := [rowT 76 3 (.slice ao ks.length cap) ks.length (ks.flatMap keyC)] } : Sg) = s := by rw [show s.mark + ((0 : Nat) : Int) = s.mark by omega, ← ha]
    rw [e]; exact h
  have HC := hide h0
  clear h h0 hv ha
  go_enter Tryz.func15, Tryz.ntmps15
  go_wp2
  go_loopw [4] (fun i wr => ∃ (j : Nat) (L : List K3), j ≤ ks.length ∧ i = .int .i64 j ∧ L.length = ks.length ∧ VS wb { s with mark := s.mark + (j : Int), a := [rowT 76 3 (.slice ao ks.length cap) ks.length (L.flatMap keyC)] } w wr) (fun i _ => ks.length - (intOf i).toNat)
  case atStart => exact ⟨0, ks, Nat.zero_le _, rfl, rfl, unhide HC⟩
  case round =>
    obtain ⟨j, L, hj, rfl, hL, hC⟩ := hrel
    have hV : wr.ownsRow 0 76 3 (.slice ao ks.length cap) ks.length (L.flatMap keyC) := Sep.rd hC .ta _ (List.mem_singleton.2 rfl)
    have hwl := hC.lt
    by_cases hlt : j < ks.length
    · have hjl : (j : Int) < (ks.length : Int) := by omega
      obtain ⟨g, cap', e1, hg1, hg2⟩ := hV.form (by omega)
      simp only [Value.slice.injEq] at e1
      obtain ⟨rfl, _, rfl⟩ := e1
      have c20 : wr.cell? ⟨wb, 20, none⟩ = some (.int .i64 (s.mark + j)) := hC.cell 20
      have f20 : wr.frozen? ⟨wb, 20, none⟩ = false := hC.free 20
      have hne : g ≠ wb := fun e => Sep.apart hC .ta .wb (by simp) g (by simp [Sg.th, Th.all, rowT, Value.ownBlock]) (by simp [Sg.th, cellsT, e])
      have hne2 : wb ≠ g := fun e => hne e.symm
      have hLj : j < L.length := by omega
      have hrow := fun q hq => row_cell keyC 3 lenKv (show wr.ownsRow 0 76 3 (.slice (some ⟨g, 0, none⟩) ks.length cap) L.length (L.flatMap keyC) by rw [hL]; exact hV) j hLj q hq
      have q0 : wr.cell? ⟨g, j * 3, none⟩ = some (.int .i64 L[j].id) := hrow 0 (by omega)
      have q1 : wr.cell? ⟨g, j * 3 + 1, none⟩ = some (.int .i64 L[j].inc) := hrow 1 (by omega)
      have q2 : wr.cell? ⟨g, j * 3 + 2, none⟩ = some (.int .i64 L[j].st) := hrow 2 (by omega)
      have r0 := hV.frozenAt (j * 3)
      have r1 := hV.frozenAt (j * 3 + 1)
      have r2 := hV.frozenAt (j * 3 + 2)
      have h1 := hC.setMark (s.mark + j + 1)
      have h2 := h1.putA (by exact rfl) (j * 3) (.int .i64 (-(s.mark + j + 1)))
      have h3 := h2.putA (by exact rfl) (j * 3 + 1) (.int .i64 0)
      have hP := h3.putA (by exact rfl) (j * 3 + 2) (.int .i64 0)
      rw [show (((L.flatMap keyC).set (j * 3) (.int .i64 (-(s.mark + j + 1)))).set (j * 3 + 1) (.int .i64 0)).set (j * 3 + 2) (.int .i64 0) = (L.set j ⟨-(s.mark + j + 1), 0, 0⟩).flatMap keyC from keys_set L j ⟨-(s.mark + j + 1), 0, 0⟩ hLj] at hP
      have H2 := hide hP
      clear h1 hC hV hP hrow h2 h3
      go_wp2
      go_roundw
      case rel => exact ⟨j + 1, L.set j ⟨-(s.mark + j + 1), 0, 0⟩, by omega, by go_num, (by rw [List.length_set]; exact hL), (by have := unhide H2; rw [show s.mark + ((j + 1 : Nat) : Int) = s.mark + j + 1 by omega]; exact this)⟩
      case measure => simp [intOf]; omega
    · have hje : j = ks.length := by omega
      subst hje
      have c20 : wr.cell? ⟨wb, 20, none⟩ = some (.int .i64 (s.mark + ks.length)) := hC.cell 20
      have f20 : wr.frozen? ⟨wb, 20, none⟩ = false := hC.free 20
      have HC1 := hide (hC.setMark (s.mark + ks.length + 2))
      clear hC hV
      go_wp2_with fail
      generalize wr.setCell ⟨wb, 20, none⟩ (.int .i64 (s.mark + ks.length + 2)) = W1 at HC1 ⊢
      clear c20 f20 hwl
      have d20 : W1.cell? ⟨wb, 20, none⟩ = some (.int .i64 (s.mark + ks.length + 2)) := (unhide HC1).cell 20
      have hs1 := (unhide HC1).lt
      have HV1 : Hid (W1.ownsRow 0 76 3 (.slice ao ks.length cap) ks.length (L.flatMap keyC)) := hide (Sep.rd (unhide HC1) .ta _ (List.mem_singleton.2 rfl))
      go_region_law
        ((refine step_keeps (by rfl) _ _ (by rfl) etyEKv (.slice ao ks.length cap) ks.length (L.flatMap keyC) (by rfl) (((unhide HV1).alloc _).drew) W1.heap.size 2 2 (([⟨IntKind.i64.wrap (1 - (s.mark + ks.length + 2)), 0, 0⟩, ⟨IntKind.i64.wrap (-(s.mark + ks.length + 2)), 0, 0⟩] : List K3).flatMap keyC) (by rfl) (by rfl) (by exact heap_alloc_new W1 _) (one_of oneKv _) (by omega) ?_; intro v' w' ho1 ho2 hgr hat))
      all_goals
        have hsn : L.flatMap keyC ++ ([⟨IntKind.i64.wrap (1 - (s.mark + ks.length + 2)), 0, 0⟩, ⟨IntKind.i64.wrap (-(s.mark + ks.length + 2)), 0, 0⟩] : List K3).flatMap keyC = (L ++ ([⟨IntKind.i64.wrap (1 - (s.mark + ks.length + 2)), 0, 0⟩, ⟨IntKind.i64.wrap (-(s.mark + ks.length + 2)), 0, 0⟩] : List K3)).flatMap keyC := (List.flatMap_append ..).symm
        rw [hsn] at ho1
        have hN : (L ++ ([⟨IntKind.i64.wrap (1 - (s.mark + ks.length + 2)), 0, 0⟩, ⟨IntKind.i64.wrap (-(s.mark + ks.length + 2)), 0, 0⟩] : List K3)).length = ks.length + 2 := by simp [hL]
        generalize (L ++ ([⟨IntKind.i64.wrap (1 - (s.mark + ks.length + 2)), 0, 0⟩, ⟨IntKind.i64.wrap (-(s.mark + ks.length + 2)), 0, 0⟩] : List K3)) = LL at ho1 hN
        clear hsn
        obtain ⟨bo, bc, hvf, _⟩ := row_form ho1
        subst hvf
        have hC2 := ((unhide HC1).mono (below_draws ((Below.refl _ _).alloc (Nat.le_refl _) _) 1)).updA [keysT (.slice ao ks.length cap) L, keysT (.slice bo (ks.length + 2) bc) LL] (Frm.of_grown hgr (fun k e => .inl (by simp only [Th.all, List.flatMap_cons, List.flatMap_nil, List.append_nil, rowT, Option.mem_toList]; exact e))) (by
          intro t ht
          simp only [List.mem_cons, List.not_mem_nil, or_false] at ht
          rcases ht with rfl | rfl
          · show w'.ownsRow 0 _ 3 _ L.length _; rw [hL]; exact ho2
          · show w'.ownsRow 0 _ 3 _ LL.length _; rw [hN]; exact ho1) (by
          intro t ht k hk
          simp only [Th.all, List.flatMap_cons, List.flatMap_nil, List.append_nil, rowT, Option.mem_toList]
          simp only [List.mem_cons, List.not_mem_nil, or_false] at ht
          rcases ht with rfl | rfl
          · exact .inl (by simpa only [rowT, Option.mem_toList] using hk)
          · exact (hat k (by simpa only [rowT, Option.mem_toList] using hk)).imp id id)
        have H2 := hide hC2.freezeA
        clear ho1 ho2 hgr hC2 HC1 HV1 hat
        go_wp2_with fail
        have hh := hold_s wb _ w w' (unhide H2) (by simp only; omega) (by simp only; omega) (.slice ao ks.length cap) L (by omega) (by simp)
        refine hh.mono ?_
        clear hh
        rintro e w2 ⟨rfl, lv1, wv1, y1, hC3⟩
        have H3 := hide hC3
        clear hC3 H2
        go_wp2_with fail
        have hh := hold_s wb _ w w2 (unhide H3) (by simp; omega) (by simp; omega) (.slice bo (ks.length + 2) bc) LL (by omega) (by simp)
        refine hh.mono ?_
        clear hh
        rintro e w3 ⟨rfl, lv2, wv2, y2, hC4⟩
        have H4 := hide hC4
        clear hC4 H3
        go_wp2
        go_end0
        exact ⟨rfl, _, _, _, _, _, L, LL, hL, hN, unhide H4⟩
end Go.Proofs.YtnneljcbelgoeaaGreatDoor.wire
/- gossiplaw's holdOut: a list is kept, and a copy of it (written by gen/mkvhold.py). -/
namespace Go.Proofs.YtnneljcbelgoeaaGreatDoor.wire
open Go.RowKit Go.Maps
theorem infoLO : (Tryz.prog.info? 77).map (fun i => (i.zero, i.size, i.bytes)) = some (some (.slice none 0 0), 1, 24) := by kernel_rfl
theorem etyLOv : Ety Tryz.prog 39 77 1 24 := ety_of Tryz.underlying39 infoLO rfl (by omega) (by omega)
theorem infoEO : (Tryz.prog.info? 78).map (fun i => (i.zero, i.size, i.bytes)) = some (some (.agg #[.int .i64 0, .string (bs [])]), 2, 24) := by kernel_rfl
theorem etyEOv : Ety Tryz.prog 77 78 2 24 := ety_of Tryz.underlying77 infoEO rfl (by omega) (by omega)
theorem oneOv (a : Pk) : ∀ u ∈ pkC a, u.oneCell' = true := by intro u hu; simp [pkC] at hu; rcases hu with rfl | rfl <;> rfl
theorem lenOv (a : Pk) : (pkC a).length = 2 := rfl
set_option maxRecDepth 100000 in
set_option maxHeartbeats 2000000 in
theorem holdOut_s (wb : Nat) (s : Sg) (w W : World) (h : VS wb s w W) (hb1 : s.os.length ≤ 90000) (hb2 : s.ks.length ≤ 90000) (v : Value) (ks : List Pk) (hk : ks.length ≤ 2000) (hv : pksT v ks ∈ s.fz) :
    Calls Tryz.prog 91 #[.pointer (some ⟨wb, 0, none⟩), v] W fun e W' => e = .returned (.tuple #[]) ∧ ∃ (lv wv y : Value), VS wb { s with ov := lv, kv := wv, os := s.os ++ [v], ks := s.ks ++ [y], fz := pksT y ks :: s.fz } w W' := by
  have hvr : W.ownsRow 0 78 2 v ks.length (ks.flatMap pkC) := h.has hv
  obtain ⟨ao, cap, hvf, _⟩ := row_form hvr
  subst hvf
  obtain ⟨ti, hti, hz0, hz1, hz2⟩ := info_parts infoEO
  have HC := hide h
  have HV := hide hvr
  have hwl := h.lt
  clear h hvr hv
  go_enter Tryz.func91, Tryz.ntmps91
  go_wp2_with (at_make; refine wpList_make_full _ rfl _ _ 77 rfl 0 78 ti (.agg #[.int .i64 0, .string (bs [])]) 2 Tryz.underlying77 hti hz0 hz1 .i64 .i64 _ _ ks.length rfl rfl rfl rfl (by rw [hz2]; omega) (by unfold maxLen; omega) (by omega) ?_)
  intro w1 hown hgrow
  obtain ⟨c0, hblk, hc0⟩ := made_row hown
  have hB1 : Below W.heap.size W w1 := (Below.refl _ _).grown hgrow (Nat.le_refl _) (fun k e => by cases e)
  have HK := hide hblk
  have HB := hide hB1
  have HV1 := hide (own_below (unhide HV) hB1)
  clear hown hgrow hblk hB1
  go_wp2_with (refine wpList_copy_row etyEOv rfl (.tmp 10) (.tmp 11) rfl W.heap.size ks.length (.slice ao ks.length cap) rfl rfl c0 (ks.flatMap pkC) (unhide HK) hc0 (one_of oneOv ks) (unhide HV1) ?_)
  intro w2 hk2 hb2
  have hB2 := (unhide HB).trans hb2
  have hcv : w2.ownsRow 0 78 2 (.slice (some ⟨W.heap.size, 0, none⟩) ks.length ks.length) ks.length (ks.flatMap pkC) :=
    ⟨row_len pkC 2 lenOv ks, .inr ⟨W.heap.size, ks.length, _, rfl, by omega, hk2, Nat.le_refl _, by unfold maxLen; omega, by simp [row_len pkC 2 lenOv ks], by rw [List.take_of_length_le (by simp [row_len pkC 2 lenOv ks])]⟩⟩
  have HC2 := hide (((unhide HC).mono hB2).freeze (s' := { s with fz := pksT (.slice (some ⟨W.heap.size, 0, none⟩) ks.length ks.length) ks :: s.fz }) [pksT (.slice (some ⟨W.heap.size, 0, none⟩) ks.length ks.length) ks] (by intro t ht; simp at ht; subst ht; exact hcv) (by
    intro t ht k hk
    simp at ht; subst ht
    simp [rowT, Value.ownBlock] at hk; subst hk
    obtain ⟨a1, a2⟩ := (unhide HC).beyond (Nat.le_refl W.heap.size)
    exact ⟨a1, fun j _ => a2 j⟩) rfl (fun q hq => by cases q <;> first | rfl | exact absurd rfl hq))
  clear hk2 hb2 hB2 HK HB HV1 hcv HC HV
  have cA : w2.cell? ⟨wb, 18, none⟩ = some s.ov := (unhide HC2).cell 18
  have hs2 := (unhide HC2).lt
  go_wp2_with (at_builtin; refine wpList_app rfl _ _ rfl etyLOv 0 rfl rfl ((show w2.ownsRow 0 77 1 s.ov s.os.length s.os from Sep.rd (unhide HC2) .os).alloc _) (Src.box (cs := [.slice ao ks.length cap]) 1 1 1 (heap_alloc_new w2 _) rfl) (by simp [Value.oneCell']) (by omega) (by omega) ?_)
  intro v3 w3 hown3 hgrow3 hat3
  have hP := (unhide HC2).grow (s' := { s with ov := v3, os := s.os ++ [.slice ao ks.length cap], fz := pksT (.slice (some ⟨W.heap.size, 0, none⟩) ks.length ks.length) ks :: s.fz }) .os (by simp) ((Below.refl _ _).alloc (Nat.le_refl _) _) (Frm.of_grown hgrow3 (fun k e => .inl (by simp [Sg.th, rowT, e]))) (by simpa [Sg.th, rowT] using hown3) (fun k hk => by
    simp only [Sg.th, rowT, Option.mem_toList] at hk ⊢
    rcases hat3 with e | e
    · exact .inl (e ▸ hk)
    · rw [e] at hk; cases hk; exact .inr (by simp)) 18 v3 rfl (fun q h1 h2 => by cases q <;> first | rfl | exact absurd rfl h1 | exact absurd rfl h2)
  obtain ⟨ao3, cp3, hv3, _⟩ := row_form hown3
  subst hv3
  have dA : w3.cell? ⟨wb, 18, none⟩ = some s.ov := cell_at hP.2 18
  have eA : w3.frozen? ⟨wb, 18, none⟩ = false := free_at hP.2 18
  have HP1 := hide hP.1
  clear hP hown3 hgrow3 hat3 cA HC2
  have cB : (w3.setCell ⟨wb, 18, none⟩ (.slice ao3 (s.os.length + 1) cp3)).cell? ⟨wb, 19, none⟩ = some s.kv := (unhide HP1).cell 19
  have hs4 := (unhide HP1).lt
  rw [World.size_setCell] at hs4
  go_wp2_with (at_builtin; refine wpList_app rfl _ _ rfl etyLOv 0 rfl rfl ((show (w3.setCell ⟨wb, 18, none⟩ (.slice ao3 (s.os.length + 1) cp3)).ownsRow 0 77 1 s.kv s.ks.length s.ks from Sep.rd (unhide HP1) .ks).alloc _) (Src.box (cs := [.slice (some ⟨W.heap.size, 0, none⟩) ks.length ks.length]) 1 1 1 (by have hh := heap_alloc_new (w3.setCell ⟨wb, 18, none⟩ (.slice ao3 (s.os.length + 1) cp3)) (.cells #[.slice (some ⟨W.heap.size, 0, none⟩) ks.length ks.length] 77); rw [World.size_setCell] at hh; exact hh) rfl) (by simp [Value.oneCell']) (by omega) (by simp) ?_)
  intro v5 w5 hown5 hgrow5 hat5
  have hP := (unhide HP1).grow (s' := { s with ov := .slice ao3 (s.os.length + 1) cp3, kv := v5, os := s.os ++ [.slice ao ks.length cap], ks := s.ks ++ [.slice (some ⟨W.heap.size, 0, none⟩) ks.length ks.length], fz := pksT (.slice (some ⟨W.heap.size, 0, none⟩) ks.length ks.length) ks :: s.fz }) .ks (by simp) ((Below.refl _ _).alloc (Nat.le_refl _) _) (Frm.of_grown hgrow5 (fun k e => .inl (by simp [Sg.th, rowT, e]))) (by simpa [Sg.th, rowT] using hown5) (fun k hk => by
    simp only [Sg.th, rowT, Option.mem_toList] at hk ⊢
    rcases hat5 with e | e
    · exact .inl (e ▸ hk)
    · rw [e] at hk; cases hk; exact .inr (by simp)) 19 v5 rfl (fun q h1 h2 => by cases q <;> first | rfl | exact absurd rfl h1 | exact absurd rfl h2)
  obtain ⟨ao5, cp5, hv5, _⟩ := row_form hown5
  subst hv5
  have dB : w5.cell? ⟨wb, 19, none⟩ = some s.kv := cell_at hP.2 19
  have eB : w5.frozen? ⟨wb, 19, none⟩ = false := free_at hP.2 19
  have HQ1 := hide hP.1
  clear hP hown5 hgrow5 hat5 cB dA eA HP1
  go_wp2
  go_end0
  exact ⟨rfl, _, _, _, unhide HQ1⟩
end Go.Proofs.YtnneljcbelgoeaaGreatDoor.wire
