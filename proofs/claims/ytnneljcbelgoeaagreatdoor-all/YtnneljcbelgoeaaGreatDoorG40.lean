import Derived.Test.YtnneljcbelgoeaaGreatDoorG39
import Derived.Test.YtnneljcbelgoeaaGreatDoorG35
import Derived.Deep.RegionWith
import Derived.Test.YtnneljcbelgoeaaGreatDoorG06
import Derived.Test.YtnneljcbelgoeaaGreatDoorG09
import Derived.Test.YtnneljcbelgoeaaGreatDoorG07
import Derived.Test.YtnneljcbelgoeaaGreatDoorG01
import Derived.Test.YtnneljcbelgoeaaGreatDoorG05
/- gossiplaw's onNode over nodes: Join. -/
namespace Go.Proofs.YtnneljcbelgoeaaGreatDoor.wire
open Go.RowKit Go.Maps
/-- Join in a world that is a little later. -/
theorem joins_from {x : Nd} (hx : NdOk x) (hB : NdB Big x) {nb mb : Nat} {cb : Dk} {pv rv : Value} {W Y : World} (hn : NAt W nb mb cb pv rv x) (i : Int) (hY : Below W.heap.size W Y) :
    Calls Tryz.prog 36 #[.pointer (some ⟨nb, 0, none⟩), .int .i64 i] Y fun e w' => ∃ o, e = .returned (.tuple #[o, errV (x.joinErr i)]) ∧ Outs W w' o (x.joinX i).1 ∧ NTo W w' nb mb cb pv rv (x.joinX i).2 := by
  refine (joins_any hx hB (hn.below hY) i).mono ?_
  rintro e w' ⟨o, rfl, ho, ht⟩
  exact ⟨o, rfl, own_mono ho hY.size, NTo.trans (Frm.of_below hY (Nat.le_refl _)) (fun _ hk => .inl hk) ht⟩
theorem rjoin_from {B : Int} {x : Nd} {r : Rn} (hg : Gh B x r) (hB : B ≤ 999999999000) {W Y : World} {b : Nat} {v : Rv} (h : RAt W b v r) (i : Int) (hY : Below W.heap.size W Y) :
    Calls Tryz.prog 37 #[.pointer (some ⟨b, 0, none⟩), .int .i64 i] Y fun e w' => ∃ o, e = .returned (.tuple #[o, .int .i64 (r.joinErr i)]) ∧ ∃ v', v'.d = v.d ∧ RAt w' b v' (r.joinX i) ∧ Frm (rfeet b v) W w' ∧ (∀ k ∈ rfeet b v', k ∈ rfeet b v ∨ W.heap.size ≤ k) ∧ (o = v'.x ∨ (o = .slice none 0 0 ∧ (r.joinX i).out = [])) := by
  refine (rjoin_any hg hB ⟨(hY.block b h.ltb).trans h.blk, h.rows.below hY⟩ i).mono ?_
  rintro e w' ⟨o, rfl, _, v', h1, h2, h3, h4, h5⟩
  exact ⟨o, rfl, v', h1, h2, (Frm.of_below (S := rfeet b v) hY (Nat.le_refl _)).trans h3 (fun j hj => .inl hj), fun k hk => (h4 k hk).imp id (fun q => Nat.le_trans hY.size q), h5⟩
set_option maxRecDepth 100000 in
set_option maxHeartbeats 4000000 in
theorem on_join (n wb : Nat) (s : Sg) (w W : World) (h : VV n wb s w W) (hn : n ≤ 18000) (o : Op8) (hkd : o.kind = 13) (i : Nat) (t : Nt) (hi : s.ns[i]? = some t) (hg : w.cell? ⟨0, 0, none⟩ = some (.iface 207 (.agg #[.pointer (some ⟨1, 64, none⟩)]))) (hlt : 0 < w.heap.size) :
    Calls Tryz.prog 20 #[.pointer (some ⟨wb, 0, none⟩), .pointer (some ⟨t.b, 0, none⟩), opv o] W fun e W' => e = .returned (.bool true) ∧ ∃ s', VV (n + 1) wb s' w W' := by
  obtain ⟨kind, a, b, c, d, e, x, S⟩ := o
  simp only at hkd
  subst hkd
  have hbox := heap_alloc_new W (.cells #[.int .i64 13, .int .i64 x, .int .i64 a, .int .i64 b, .int .i64 c, .int .i64 d, .int .i64 e, .string (bs S)] 28)
  have h0 := h.vs.block #[.int .i64 13, .int .i64 x, .int .i64 a, .int .i64 b, .int .i64 c, .int .i64 d, .int .i64 e, .string (bs S)] 28
  have hvi0 := h.vi.fzx (cellsT W.heap.size #[.int .i64 13, .int .i64 x, .int .i64 a, .int .i64 b, .int .i64 c, .int .i64 d, .int .i64 e, .string (bs S)] 28)
  obtain ⟨s1, hs1, hfb, he1⟩ : ∃ s1, VV n wb s1 w (W.alloc (.cells #[.int .i64 13, .int .i64 x, .int .i64 a, .int .i64 b, .int .i64 c, .int .i64 d, .int .i64 e, .string (bs S)] 28)) ∧ cellsT W.heap.size #[.int .i64 13, .int .i64 x, .int .i64 a, .int .i64 b, .int .i64 c, .int .i64 d, .int .i64 e, .string (bs S)] 28 ∈ s1.fz ∧ s1.ns = s.ns := ⟨_, ⟨h0, hvi0⟩, List.mem_cons_self .., rfl⟩
  rw [← he1] at hi
  clear h h0 hvi0 he1
  have h := hs1
  clear hs1
  have p2 := cell_at hbox 2
  simp only [List.getElem?_toArray, List.getElem?_cons_zero, List.getElem?_cons_succ] at p2
  have hbl := lt_blk hbox
  have hk := h.vi.nk t (List.mem_of_getElem? hi)
  have hrec : (W.alloc (.cells #[.int .i64 13, .int .i64 x, .int .i64 a, .int .i64 b, .int .i64 c, .int .i64 d, .int .i64 e, .string (bs S)] 28)).heap[t.b]? = some (.cells #[.pointer (some ⟨t.x.nb, 0, none⟩), .pointer (some ⟨t.y.nb, 0, none⟩), .pointer (some ⟨t.rb, 0, none⟩)] 88 (0, 0)) := h.vs.has hk.rc
  have k0 := cell_at hrec 0
  simp only [List.getElem?_toArray, List.getElem?_cons_zero] at k0
  have hltb := lt_blk hrec
  have hBg : NdB Big t.x.x := hk.gh.b.mono (by unfold Big; omega)
  have hG := hk.gh.joinedX (by omega) a
  have HX := hide (fun (Y : World) (hY : Below (W.alloc (.cells #[.int .i64 13, .int .i64 x, .int .i64 a, .int .i64 b, .int .i64 c, .int .i64 d, .int .i64 e, .string (bs S)] 28)).heap.size (W.alloc (.cells #[.int .i64 13, .int .i64 x, .int .i64 a, .int .i64 b, .int .i64 c, .int .i64 d, .int .i64 e, .string (bs S)] 28)) Y) => joins_from hk.gh.ok hBg (h.vs.atX hi) a hY)
  have HK := hide hk
  have HC := hide h
  have HI := hide hi
  have HG := hide hG
  have HGT := hide hg
  have HFB := hide hfb
  clear h hk hi hrec hG hBg hg hbox hfb
  go_enter Tryz.func20, Tryz.ntmps20
  go_wp2_with fail
  generalize W.alloc (.cells #[.int .i64 13, .int .i64 x, .int .i64 a, .int .i64 b, .int .i64 c, .int .i64 d, .int .i64 e, .string (bs S)] 28) = W0 at HC HX k0 hltb hbl p2 ⊢
  go_region_with (go_at_call 36; refine (unhide HX _ (below_draws (Below.refl _ _) _)).mono ?_; rintro e' w1 ⟨o1, rfl, ho1, ht1⟩)
  all_goals
    obtain ⟨p, q, h1⟩ := (unhide HC).vs.gotX (unhide HI) ht1 ho1 (by decide) (by decide) (by decide) (by decide)
    have hi1 : (s1.ns.set i (t.setX p q (t.x.x.joinX a).2))[i]? = some (t.setX p q (t.x.x.joinX a).2) := List.getElem?_set_self (List.getElem?_eq_some_iff.1 (unhide HI)).1
    have hrec1 : w1.heap[t.b]? = some (.cells #[.pointer (some ⟨t.x.nb, 0, none⟩), .pointer (some ⟨t.y.nb, 0, none⟩), .pointer (some ⟨t.rb, 0, none⟩)] 88 (0, 0)) := h1.has (unhide HK).rc
    have hbx1 : w1.heap[W.heap.size]? = some (.cells #[.int .i64 13, .int .i64 x, .int .i64 a, .int .i64 b, .int .i64 c, .int .i64 d, .int .i64 e, .string (bs S)] 28 (0, 0)) := h1.has (unhide HFB)
    have k1 := cell_at hrec1 1
    have p21 := cell_at hbx1 2
    simp only [List.getElem?_toArray, List.getElem?_cons_zero, List.getElem?_cons_succ] at k1 p21
    have hltb1 := lt_blk hrec1
    have hbl1 := lt_blk hbx1
    have hBg1 : NdB Big t.y.x := by rw [(unhide HK).tw]; exact (unhide HK).gh.b.mono (by unfold Big; omega)
    have hok1 : NdOk t.y.x := by rw [(unhide HK).tw]; exact (unhide HK).gh.ok
    have HY := hide (fun (Y : World) (hY : Below w1.heap.size w1 Y) => joins_from hok1 hBg1 (h1.atY (n := t.setX p q (t.x.x.joinX a).2) hi1) a hY)
    rw [(unhide HK).tw] at HY
    have H1 := hide h1
    have HI1 := hide hi1
    clear h1 hi1 hrec1 ho1 ht1 HX k0 hBg1 hok1 hbx1 p2 hbl hltb
    rw [(unhide HG).2.symm] at HY ⊢
    generalize her : t.r.joinErr a = er at HY ⊢
    have HER := hide her
    clear her
    generalize hev : errV er = ev at HY ⊢
    have HEV := hide hev
    clear hev
    go_wp2_with fail
    go_region_with (go_at_call 36; refine (unhide HY _ (below_draws (Below.refl _ _) _)).mono ?_; rintro e' w2 ⟨o2, rfl, ho2, ht2⟩)
    all_goals
      obtain ⟨p', q', h2⟩ := (unhide H1).gotY (t := t.setX p q (t.x.x.joinX a).2) (unhide HI1) ht2 ho2 (by decide) (by decide) (by decide) (by decide)
      simp only [List.set_set] at h2
      have hi2 : (s1.ns.set i ((t.setX p q (t.x.x.joinX a).2).setY p' q' (t.x.x.joinX a).2))[i]? = some ((t.setX p q (t.x.x.joinX a).2).setY p' q' (t.x.x.joinX a).2) := List.getElem?_set_self (List.getElem?_eq_some_iff.1 (unhide HI)).1
      have hrec2 : w2.heap[t.b]? = some (.cells #[.pointer (some ⟨t.x.nb, 0, none⟩), .pointer (some ⟨t.y.nb, 0, none⟩), .pointer (some ⟨t.rb, 0, none⟩)] 88 (0, 0)) := h2.has (unhide HK).rc
      have hbx2 : w2.heap[W.heap.size]? = some (.cells #[.int .i64 13, .int .i64 x, .int .i64 a, .int .i64 b, .int .i64 c, .int .i64 d, .int .i64 e, .string (bs S)] 28 (0, 0)) := h2.has (unhide HFB)
      have k2 := cell_at hrec2 2
      have p22 := cell_at hbx2 2
      simp only [List.getElem?_toArray, List.getElem?_cons_zero, List.getElem?_cons_succ] at k2 p22
      have hltb2 := lt_blk hrec2
      have hbl2 := lt_blk hbx2
      have HR := hide (fun (Y : World) (hY : Below w2.heap.size w2 Y) => rjoin_from (unhide HK).gh (by omega) (h2.atR (n := (t.setX p q (t.x.x.joinX a).2).setY p' q' (t.x.x.joinX a).2) hi2 (unhide HK).dr) a hY)
      have H2 := hide h2
      have HI2 := hide hi2
      clear h2 hi2 hrec2 ho2 ht2 HY k1 H1 HI1 hbx2 p21 hbl1 hltb1
      rw [unhide HER] at HR
      go_wp2_with fail
      go_region_with (go_at_call 37; refine (unhide HR _ (below_draws (Below.refl _ _) _)).mono ?_; rintro e' w3 ⟨o3, rfl, v', hvd, hra, hfr, hft, hox⟩)
      all_goals
        have h3 := (unhide H2).callR (unhide HI2) hra hfr hft
        simp only [List.set_set] at h3
        have hV : VI (n + 1) { s1 with ns := s1.ns.set i (t.set3 (t.x.x.joinX a).2 p q p' q' v' (t.r.joinX a)) } := (unhide HC).vi.node (unhide HI) p q p' q' ((unhide HG).1.gh.mono (by omega)) (unhide HG).1.dl hvd
        have H3 := hide h3
        have HV := hide hV
        have HOX := hide hox
        clear h3 hra hfr hft hV HR H2 HI2 k2 p22 hox
        rw [← unhide HEV]
        go_wp2_with fail
        refine (ltold_any er w3 ((unhide H3).gate hlt (unhide HGT))).mono ?_
        rintro e' w4 ⟨rfl, hb4⟩
        have H4 := hide ((unhide H3).mono hb4)
        clear hb4 H3
        go_wp2_with fail
        refine (ltold_any er w4 ((unhide H4).gate hlt (unhide HGT))).mono ?_
        rintro e' w5 ⟨rfl, hb5⟩
        have H5 := hide ((unhide H4).mono hb5)
        clear hb5 H4
        have hi3 : (s1.ns.set i (t.set3 (t.x.x.joinX a).2 p q p' q' v' (t.r.joinX a)))[i]? = some (t.set3 (t.x.x.joinX a).2 p q p' q' v' (t.r.joinX a)) := List.getElem?_set_self (List.getElem?_eq_some_iff.1 (unhide HI)).1
        have hvi := (unhide HC).vi
        have hGo := (unhide HG).1
        have HS := hide (sends_g wb { s1 with ns := s1.ns.set i (t.set3 (t.x.x.joinX a).2 p q p' q' v' (t.r.joinX a)), a := [pksT o1 (t.x.x.joinX a).1], b := [pksT o2 (t.x.x.joinX a).1] } w w5 (unhide H5) ((unhide HV).hd.of rfl rfl rfl rfl (fun _ q => q)) (by have := hvi.ol; simp only; omega) hvi.m0 (by have := hvi.m1; simp only; omega) hvi.pn o1 o2 o3 (t.x.x.joinX a).1 (by have := hGo.len; omega) rfl rfl (fun s' W' h' e => by
          rcases unhide HOX with hx | ⟨hx, hx0⟩
          · have := Sep.rd h' (.r i)
            rw [show s'.th wb (.r i) = refT t.rb v' (t.r.joinX a) from onN_at (n := t.set3 (t.x.x.joinX a).2 p q p' q' v' (t.r.joinX a)) (by rw [e]; exact hi3) _] at this
            rw [hx, ← hGo.out]
            exact this.2.x
          · rw [hx, ← hGo.out, hx0]
            exact World.ownsRow_nil _ _ _ _))
        have HO := hide hvi.ol
        have HM := hide hvi.m1
        have HGo := hide hGo
        clear hi3 hvi hGo HOX H5
        go_wp2_with fail
        refine (unhide HS).mono ?_
        rintro e' w6 ⟨rfl, pv, ov, kv, ps, os, ks, mark, fz, h6, hw, hh, hos, hmk, hf⟩
        have HF : Hid (VV (n + 1) wb { s1 with ns := s1.ns.set i (t.set3 (t.x.x.joinX a).2 p q p' q' v' (t.r.joinX a)), a := [], b := [], pv := pv, ps := ps, ov := ov, kv := kv, os := os, ks := ks, mark := mark, fz := fz } w w6) := hide ⟨h6, VI.sent (s := { s1 with ns := s1.ns.set i (t.set3 (t.x.x.joinX a).2 p q p' q' v' (t.r.joinX a)) }) (l := (t.x.x.joinX a).1) (unhide HV) (unhide HGo).len (unhide HGo).small (unhide HO) (unhide HM) ⟨hw.len, hw.of⟩ hh hos hmk hf⟩
        clear h6 hw hh hos hmk hf HS
        go_wp2
        go_ret
        exact ⟨rfl, _, unhide HF⟩
end Go.Proofs.YtnneljcbelgoeaaGreatDoor.wire
/- gossiplaw's seen over nodes: what is seen of a node is the document's (P4). -/
namespace Go.Proofs.YtnneljcbelgoeaaGreatDoor.wire
open Go.RowKit Go.Maps
theorem keysAt_row {W : World} {base : Nat} {v : Value} {l : List K3} (h : W.ownsRow base 76 3 v l.length (l.flatMap keyC)) : KeysAt W v l := by
  rw [← kcells_flat] at h
  exact keysAt_of_own h
theorem rkeysAt_row {W : World} {base : Nat} {v : Value} {l : List K3} (h : W.ownsRow base 58 3 v l.length (l.flatMap keyC)) : KeysAt W v l := by
  rw [← kcells_flat] at h
  exact rkeysAt_of_own h
/-- What is seen, and what the document has: the same. -/
structure Sees (x : Nd) (r : Rn) : Prop where
  clock : r.clock = x.clock
  id : r.self.id = x.own.id
  inc : r.self.inc = x.own.inc
  st : r.self.st = x.own.st
  others : r.others.map RM.k = x.others
  probe : r.probe = x.ptgt
  queue : r.queue.length = x.pending
  rels : r.rels.length = x.rels.length
  dropped : r.dropped = x.dropped
  lost : r.lost = x.lost
theorem Rf.sees {x : Nd} {r : Rn} (h : Rf x r) : Sees x r := by
  refine ⟨h.clock, by rw [h.self], by rw [h.self], by rw [h.self], ?_, h.probe, ?_, by rw [h.rels], h.dropped, h.lost⟩
  · rw [h.others, List.map_map]; rfl
  · rw [h.queue.length_eq, List.length_map]; rfl
set_option maxRecDepth 100000 in
set_option maxHeartbeats 800000 in
theorem seen_s (wb : Nat) (s : Sg) (w W : World) (h : VS wb s w W) (n : Nat) (hi0 : VI n s) (_hn : n ≤ 18000) (i : Nat) (t : Nt) (hi : s.ns[i]? = some t) (z : Nn) (hz : NAt W z.nb z.mb z.cb z.pv z.rv t.x.x) :
    Calls Tryz.prog 44 #[.pointer (some ⟨t.b, 0, none⟩), .pointer (some ⟨z.nb, 0, none⟩)] W fun e W' => ∃ o, e = .returned (.tuple #[o, .bool true]) ∧ VS wb { s with a := [keysT o t.x.x.others] } w W' := by
  have hk := hi0.nk t (List.mem_of_getElem? hi)
  have hrec : W.heap[t.b]? = some (.cells #[.pointer (some ⟨t.x.nb, 0, none⟩), .pointer (some ⟨t.y.nb, 0, none⟩), .pointer (some ⟨t.rb, 0, none⟩)] 88 (0, 0)) := h.has hk.rc
  have hra := h.atR hi hk.dr
  have hse := hk.gh.rf.sees
  have hox : t.x.x.others.length ≤ 1000 := by unfold Nd.others; rw [List.length_map]; have := List.length_filter_le (fun m => !(m.k.id == t.x.x.c.self)) t.x.x.tab; have := hk.gh.ok.len; omega
  have HX := hide (see_any hk.gh.ok hz)
  have HREC := hide hrec
  have HRA := hide hra
  have HC := hide h
  have HSE := hide hse
  clear h hk hi hrec hra hz hse hi0
  go_enter Tryz.func44, Tryz.ntmps44
  go_wp2_with fail
  refine (unhide HX).mono ?_
  rintro e w1 ⟨o, rfl, ho, hb1⟩
  obtain ⟨oo, oc, hof, _⟩ := row_form ho
  subst hof
  generalize hX : t.x.x = X at *
  have hb2 := hb1.alloc hb1.size (.cells #[.int .i64 X.clock, .int .i64 X.own.id, .int .i64 X.own.inc, .int .i64 X.own.st, .slice oo X.others.length oc, .int .i64 X.ptgt, .int .i64 X.pending, .int .i64 X.rels.length, .int .i64 X.dropped, .int .i64 X.lost] 137)
  have hbx := heap_alloc_new w1 (.cells #[.int .i64 X.clock, .int .i64 X.own.id, .int .i64 X.own.inc, .int .i64 X.own.st, .slice oo X.others.length oc, .int .i64 X.ptgt, .int .i64 X.pending, .int .i64 X.rels.length, .int .i64 X.dropped, .int .i64 X.lost] 137)
  have ho2 := ho.alloc (.cells #[.int .i64 X.clock, .int .i64 X.own.id, .int .i64 X.own.inc, .int .i64 X.own.st, .slice oo X.others.length oc, .int .i64 X.ptgt, .int .i64 X.pending, .int .i64 X.rels.length, .int .i64 X.dropped, .int .i64 X.lost] 137)
  have hw1 := hb1.size
  have hltr := lt_blk (unhide HREC)
  have k2 := cell_at ((hb1.block t.b hltr).trans (unhide HREC)) 2
  simp only [List.getElem?_toArray, List.getElem?_cons_zero, List.getElem?_cons_succ] at k2
  have HB2 := hide hb2
  have HBX := hide hbx
  have HO2 := hide ho2
  clear hb1 hb2 hbx ho ho2 HX
  have hlt1 : t.b < w1.heap.size := by omega
  go_wp2_with fail
  generalize w1.alloc (.cells #[.int .i64 X.clock, .int .i64 X.own.id, .int .i64 X.own.inc, .int .i64 X.own.st, .slice oo X.others.length oc, .int .i64 X.ptgt, .int .i64 X.pending, .int .i64 X.rels.length, .int .i64 X.dropped, .int .i64 X.lost] 137) = W2 at HB2 HBX HO2 ⊢
  have HRB : Hid (∀ wr, Below W.heap.size W wr → RAt wr t.rb t.rv t.r) := hide (fun wr hb => ⟨(hb.block t.rb (unhide HRA).ltb).trans (unhide HRA).blk, (unhide HRA).rows.below hb⟩)
  obtain ⟨so, sc, hsf, hsn, _⟩ := row_form (unhide HRA).rows.o
  have HSF := hide hsf
  have HSN := hide hsn
  have hlr : t.r.others.length = X.others.length := by rw [← (unhide HSE).others, List.length_map]
  have hr1000 : t.r.others.length ≤ 1000 := by omega
  clear hsf hsn hlr k2 hw1 HRA
  go_loopw [8, 9] (fun lv iv wr => ∃ j : Nat, j ≤ t.r.others.length ∧ iv = .int .i64 j ∧ Fi keyC 58 3 W2 wr lv ((t.r.others.map RM.k).take j)) (fun _ iv _ => t.r.others.length - (intOf iv).toNat)
  case atStart => exact ⟨0, Nat.zero_le _, rfl, by simpa using Fi.nil keyC 58 3 (Below.refl W2.heap.size W2)⟩
  case round =>
    obtain ⟨j, hj, rfl, hF⟩ := hrel
    obtain ⟨lo, lc, hlf, _⟩ := row_form hF.own
    have hlj : ((t.r.others.map RM.k).take j).length = j := by simp; omega
    rw [hlj] at hlf
    subst hlf
    have hBW : Below W.heap.size W wr := (unhide HB2).trans (hF.below.mono (unhide HB2).size)
    have hra := unhide HRB wr hBW
    have hltb := hra.ltb
    have c13 := hra.cell 13
    simp only [refC, List.getElem?_toArray, List.getElem?_cons_zero, List.getElem?_cons_succ] at c13
    rw [unhide HSF] at c13
    have hW2 := (unhide HB2).size
    have hz := hF.below.size
    by_cases hlt : j < t.r.others.length
    · have hji : (j : Int) < (t.r.others.length : Int) := by omega
      obtain ⟨sb, rfl, hsb⟩ := unhide HSN (by omega)
      have hrow := hra.rows.o
      rw [unhide HSF] at hrow
      have q0 : wr.cell? ⟨sb, j * 4, none⟩ = _ := row_cell rmC 4 (fun _ => rfl) hrow j hlt 0 (by omega)
      have q1 : wr.cell? ⟨sb, j * 4 + 1, none⟩ = _ := row_cell rmC 4 (fun _ => rfl) hrow j hlt 1 (by omega)
      have q2 : wr.cell? ⟨sb, j * 4 + 2, none⟩ = _ := row_cell rmC 4 (fun _ => rfl) hrow j hlt 2 (by omega)
      simp only [rmC, List.getElem?_cons_zero, List.getElem?_cons_succ] at q0 q1 q2
      have hsucc : (t.r.others.map RM.k).take (j + 1) = (t.r.others.map RM.k).take j ++ [t.r.others[j].k] := by
        rw [List.take_succ_eq_append_getElem (by simpa using hlt)]; simp
      have HSU := hide hsucc
      generalize t.r.others[j].k = K at q0 q1 q2 HSU
      have HF := hide hF
      clear hF hra hrow hsucc hBW
      have HLJ := hide hlj
      clear hlj
      go_wp2_with (at_builtin; refine wpList_app rfl _ _ rfl etyK W2.heap.size rfl rfl (by have := (unhide HF).own; rw [unhide HLJ] at this; exact this.alloc _) (Src.box (cs := keyC K) 3 1 1 (by exact heap_alloc_new wr _) (by rfl)) (oneKv K) (by omega) (by simp; omega) ?_)
      intro v3 w3 hown3 hgr3 _
      have hF3 := (unhide HF).push ((Below.refl _ _).alloc (Nat.le_refl _) _) hgr3 [K] (by rw [unhide HLJ]; simpa using hown3)
      rw [← unhide HSU] at hF3
      have HF3 := hide hF3
      clear hown3 hgr3 hF3 HF
      go_wp2
      go_roundw
      case rel => exact ⟨j + 1, by omega, by go_num, unhide HF3⟩
      case measure => simp [intOf]; omega
    · have hje : j = t.r.others.length := by omega
      subst hje
      have hT : (t.r.others.map RM.k).take t.r.others.length = X.others := by rw [← (unhide HSE).others]; exact List.take_of_length_le (by simp)
      rw [hT] at hF
      have hbx2 := (hF.below.block w1.heap.size (lt_blk (unhide HBX))).trans (unhide HBX)
      have ho3 := own_below (unhide HO2) hF.below
      have d0 := cell_at hbx2 0
      have d1 := cell_at hbx2 1
      have d2 := cell_at hbx2 2
      have d3 := cell_at hbx2 3
      have d4 := cell_at hbx2 4
      have d5 := cell_at hbx2 5
      have d6 := cell_at hbx2 6
      have d7 := cell_at hbx2 7
      have d8 := cell_at hbx2 8
      have d9 := cell_at hbx2 9
      simp only [List.getElem?_toArray, List.getElem?_cons_zero, List.getElem?_cons_succ] at d0 d1 d2 d3 d4 d5 d6 d7 d8 d9
      have hltx := lt_blk hbx2
      have r8 := hra.cell 8
      have r10 := hra.cell 10
      have r11 := hra.cell 11
      have r12 := hra.cell 12
      have r15 := hra.cell 15
      have r19 := hra.cell 19
      have r20 := hra.cell 20
      have r21 := hra.cell 21
      have r23 := hra.cell 23
      obtain ⟨uo, uc, huf, _⟩ := row_form hra.rows.q
      obtain ⟨xo, xc, hxf, _⟩ := row_form hra.rows.l
      simp only [refC, List.getElem?_toArray, List.getElem?_cons_zero, List.getElem?_cons_succ, huf, hxf, (unhide HSE).clock, (unhide HSE).id, (unhide HSE).inc, (unhide HSE).st, (unhide HSE).probe, (unhide HSE).queue, (unhide HSE).rels, (unhide HSE).dropped, (unhide HSE).lost] at r8 r10 r11 r12 r15 r19 r20 r21 r23
      have HKY := hide (lkeys_any X.others (.slice oo X.others.length oc) (.slice lo t.r.others.length lc) wr (keysAt_row ho3) (rkeysAt_row hF.own) (by omega))
      have HBW := hide hBW
      have HO3 := hide ho3
      clear hra hF hbx2 ho3 hT huf hxf hBW
      go_wp2_with fail
      refine (unhide HKY).mono ?_
      rintro e' w4 ⟨rfl, k4, rfl⟩
      clear HKY
      go_wp2_with fail
      go_quiet (fail)
      go_wp2_with fail
      go_quiet (fail)
      go_wp2_with fail
      go_quiet (fail)
      go_wp2
      go_ret2
      refine ⟨_, rfl, ?_⟩
      have hfin : ∀ (Y : World), Below wr.heap.size wr Y → VS wb { s with a := [keysT (.slice oo X.others.length oc) t.x.x.others] } w Y := fun Y hY => by
        have hWY : Below W.heap.size W Y := (unhide HBW).trans (hY.mono (unhide HBW).size)
        refine ((unhide HC).mono hWY).mineA [keysT (.slice oo X.others.length oc) t.x.x.others] (by intro q hq; simp at hq; subst hq; rw [hX]; exact own_mono (own_below (unhide HO3) hY) (Nat.zero_le _)) (fun q hq k hk => ?_)
        simp at hq; subst hq
        have hk' := (own_lt (unhide HO3) (by simpa [rowT] using hk)).1
        obtain ⟨b1, b2⟩ := (unhide HC).beyond hk'
        exact ⟨b1, fun j _ => b2 j⟩
      exact hfin _ (below_draws (below_draws (below_draws (below_draws (Below.refl _ _) _) _) _) _)
end Go.Proofs.YtnneljcbelgoeaaGreatDoor.wire
/- plain.Drain: events are received as long as there are any (P6). -/
namespace Go.Proofs.YtnneljcbelgoeaaGreatDoor.wire
open Go.RowKit Go.Maps Go.Conc
section
variable {P : Program} {b : Frame} {a : Act} {k : List Item} {cs : List Frame} {w : World}
/-- A part that returns, whatever stands behind it. -/
theorem lone_ret {fn : Func} {f : FuncId} {x : Code} {R : Ending → World → Prop} (hf : P.funcs[f]? = some fn) (hbf : b.fn = f) (hbk : b.kind = .normal) (h : x.wp P (fun e a' w' => e = .ret ∧ bodyPost P fn R e a' w') a w) :
    LoneTo P (fun g' w' => ∃ e fr, g' = G fr cs ∧ R e w' ∧ fr.fn = f ∧ fr.leaving P w' e) (G (b.at a (.code x :: k)) cs) w := by
  obtain ⟨e, a', w', ⟨rfl, hq⟩, harr⟩ := h b k cs
  obtain ⟨hd, v, hr, hR⟩ := hq
  obtain ⟨todo, hs⟩ := harr
  exact ⟨_, w', hs, .returned v, _, rfl, hR, hbf, rfl, hd, hbk, fn, hbf ▸ hf, hr⟩
end
theorem infoAKey : (Tryz.prog.info? 76).map (fun i => (i.zero, i.size, i.bytes)) = some (some (.agg #[.int .i64 0, .int .i64 0, .int .i64 0]), 3, 24) := by kernel_rfl
theorem etyAK : Ety Tryz.prog 46 76 3 24 := ety_of Tryz.underlying46 infoAKey rfl (by omega) (by omega)
theorem oneAK (a : K3) : ∀ u ∈ keyC a, u.oneCell' = true := by intro u hu; simp [keyC] at hu; rcases hu with rfl | rfl | rfl <;> rfl
theorem events_any {x : Nd} {nb mb : Nat} {cb : Dk} {pv rv : Value} {W : World} (hn : NAt W nb mb cb pv rv x) :
    Calls Tryz.prog 108 #[.pointer (some ⟨nb, 0, none⟩)] W fun e w' => e = .returned (.chan (some cb.c)) ∧ w' = W := by
  have c16 := hn.c_evs
  clear hn
  go_enter Tryz.func108, Tryz.ntmps108
  go_wp2
  go_ret
  exact ⟨rfl, rfl⟩
section
variable {P : Program} {R : Goroutine → World → Prop} {b : Frame} {a : Act} {k : List Item} {cs : List Frame} {w : World}
theorem lone_as {x y : Code} (h : x = y) (h' : LoneTo P R (G (b.at a (.code y :: k)) cs) w) : LoneTo P R (G (b.at a (.code x :: k)) cs) w := h ▸ h'
theorem lone_inLoop {c : Code} (h : LoneTo P R (G (b.at a (.code c :: .inLoop c :: k)) cs) w) : LoneTo P R (G (b.at a (.inLoop c :: k)) cs) w := LoneTo.step step_inLoop h
theorem lone_loop {c : Code} (h : LoneTo P R (G (b.at a (.code c :: .inLoop c :: k)) cs) w) : LoneTo P R (G (b.at a (.code (.loop c) :: k)) cs) w := LoneTo.step step_loop h
theorem lone_block {id : Nat} {c : Code} (h : LoneTo P R (G (b.at a (.code c :: .inBlock id :: k)) cs) w) : LoneTo P R (G (b.at a (.code (.block id c) :: k)) cs) w := LoneTo.step step_block h
theorem lone_inBlock {id : Nat} (h : LoneTo P R (G (b.at a k) cs) w) : LoneTo P R (G (b.at a (.inBlock id :: k)) cs) w := LoneTo.step step_inBlock h
theorem lone_skip (h : LoneTo P R (G (b.at a k) cs) w) : LoneTo P R (G (b.at a (.code .skip :: k)) cs) w := LoneTo.step step_skip h
theorem lone_cond {c : Operand} {x y : Code} (t : Bool) (ht : a.eval c = .bool t) (h : LoneTo P R (G (b.at a (.code (if t then x else y) :: k)) cs) w) : LoneTo P R (G (b.at a (.code (.cond c x y) :: k)) cs) w := LoneTo.step (step_cond ht) h
theorem lone_exit {id : Nat} {k' : List Item} (hk : exitTo id k = some k') (h : LoneTo P R (G (b.at a k') cs) w) : LoneTo P R (G (b.at a (.code (.exit id) :: k)) cs) w := LoneTo.step (step_exit hk) h
end
/-- What stands between two rounds: what was received, what is left. -/
structure DI (W wr : World) (nb mb : Nat) (cb : Dk) (pv rv : Value) (x : Nd) (v : Value) (L E : List K3) : Prop where
  at_ : NAt wr nb mb cb pv rv { x with evs := E }
  row : wr.ownsRow W.heap.size 76 3 v L.length (L.flatMap keyC)
  frm : Frm [cb.c] W wr
theorem DI.push {W w1 w2 wr : World} {nb mb : Nat} {cb : Dk} {pv rv : Value} {x : Nd} {v v' : Value} {L E : List K3} (h : DI W wr nb mb cb pv rv x v L E) (hb : Below wr.heap.size wr w1) (hg : w1.grownBy w2 v.ownBlock) (k : K3) (hown : w2.ownsRow W.heap.size 76 3 v' (L.length + 1) (L.flatMap keyC ++ keyC k)) : DI W w2 nb mb cb pv rv x v' (L ++ [k]) E := by
  have hf1 : Frm [] wr w1 := Frm.of_below hb (Nat.le_refl _)
  have hr1 : w1.ownsRow W.heap.size 76 3 v L.length (L.flatMap keyC) := own_below h.row hb
  have hn1 := h.at_.below hb
  have hf2 : Frm v.ownBlock.toList w1 w2 := Frm.of_grown hg (fun q e => .inl (by simp [e]))
  refine ⟨hn1.frm hf2 (fun q hq hm => ?_), by simpa using hown, ?_⟩
  · rw [Option.mem_toList] at hm
    obtain ⟨cs, hc⟩ := own_blk hr1 hm
    exact hn1.not_feet hc (by decide) (by decide) (by decide) (by decide) hq
  · refine (h.frm.trans (S' := []) hf1 (by simp)).trans hf2 (fun q hq => ?_)
    rw [Option.mem_toList] at hq
    exact .inr (own_lt h.row hq).1
/-- Behind it all. -/
def DEnd (W : World) (nb mb : Nat) (cb : Dk) (pv rv : Value) (x : Nd) (K E : List K3) (e : Ending) (w' : World) : Prop := ∃ o, e = .returned o ∧ DI W w' nb mb cb pv rv x o K E
set_option maxRecDepth 100000 in
set_option maxHeartbeats 2000000 in
theorem drain_loop {W : World} {nb mb : Nat} {cb : Dk} {pv rv : Value} {x : Nd} (most : Int) {b : Frame} (hbf : b.fn = 75) (hbk : b.kind = .normal) (cs : List Frame) (r0 r1 C D : Code) (hC : Tryz.f75.body = some (.seq r0 (.seq r1 (.seq (.block 0 (.loop C)) D)))) : ∀ (E L : List K3) (wr : World) (v a2 a3 a4 a6 a7 a8 a9 a10 a11 a12 a13 a14 a15 a16 a17 a18 a19 a20 a21 a22 : Value), L.length + E.length ≤ 8 → DI W wr nb mb cb pv rv x v L E →
    LoneTo Tryz.prog (fun g' w' => ∃ e fr, g' = G fr cs ∧ DEnd W nb mb cb pv rv x (L ++ E.take (most.toNat - L.length)) (E.drop (most.toNat - L.length)) e w' ∧ fr.fn = 75 ∧ fr.leaving Tryz.prog w' e) (G (b.at { tmps := #[.pointer (some ⟨nb, 0, none⟩), .int .i64 most, a2, a3, a4, v, a6, a7, a8, a9, a10, a11, a12, a13, a14, a15, a16, a17, a18, a19, a20, a21, a22], defers := [] } [.code C, .inLoop C, .inBlock 0, .code D]) cs) wr := by
  simp only [Tryz.f75, Option.some.injEq, Code.seq.injEq, Code.block.injEq, Code.loop.injEq] at hC
  obtain ⟨_, _, ⟨_, hC⟩, hD⟩ := hC
  have HCC := hide hC
  have HDD := hide hD
  clear hC hD
  intro E
  induction E with
  | nil =>
    intro L wr v a2 a3 a4 a6 a7 a8 a9 a10 a11 a12 a13 a14 a15 a16 a17 a18 a19 a20 a21 a22 hlen hDI
    obtain ⟨vo, vc, rfl, _⟩ := row_form hDI.row
    obtain ⟨s, r, hch⟩ := hDI.at_.chan
    have HI := hide hDI
    have HCH := hide hch
    clear hDI hch
    refine lone_as (unhide HCC).symm ?_
    refine lone_split (lone_seq ?_)
    go_wp2
    by_cases hlt : (L.length : Int) < most
    · refine lone_cond true (by simp [Act.eval, hlt]) ?_
      rw [if_pos rfl]
      refine lone_skip (lone_block (lone_seq ?_))
      go_wp2_with fail
      refine (events_any (unhide HI).at_).mono ?_
      rintro e w1 ⟨rfl, rfl⟩
      go_wp2
      refine lone_split ?_
      refine lone_recv_none (z := .agg #[.int .i64 0, .int .i64 0, .int .i64 0]) (by rw [hbk]; decide) rfl rfl (by simp [go_sem, execOp, rcase, Act.eval]) (unhide HCH) ?_
      go_wp2
      refine lone_block (lone_cond false (by simp [Act.eval]) ?_)
      rw [if_neg (by decide)]
      refine lone_ret Tryz.func75 hbf hbk ?_
      go_wp2
      go_ret
      exact ⟨_, rfl, unhide HI⟩
    · refine lone_cond false (by simp [Act.eval, hlt]) ?_
      rw [if_neg (by decide)]
      refine lone_exit (k' := [.code D]) rfl (lone_as (unhide HDD).symm ?_)
      refine lone_last Tryz.func75 hbf hbk (by rintro _ ⟨_, h, _⟩; cases h) ?_
      go_wp2
      go_ret
      exact ⟨_, rfl, unhide HI⟩
  | cons k E ih =>
    intro L wr v a2 a3 a4 a6 a7 a8 a9 a10 a11 a12 a13 a14 a15 a16 a17 a18 a19 a20 a21 a22 hlen hDI
    obtain ⟨vo, vc, rfl, _⟩ := row_form hDI.row
    obtain ⟨s, r, hch⟩ := hDI.at_.chan
    have HI := hide hDI
    have HCH := hide hch
    have HIH := hide ih
    have hwz := hDI.frm.size
    clear hDI hch ih
    simp only [List.length_cons] at hlen
    refine lone_as (unhide HCC).symm ?_
    refine lone_split (lone_seq ?_)
    go_wp2_with fail
    by_cases hlt : (L.length : Int) < most
    · refine lone_cond true (by simp [Act.eval, hlt]) ?_
      rw [if_pos rfl]
      refine lone_skip (lone_block (lone_seq ?_))
      go_wp2_with fail
      refine (events_any (unhide HI).at_).mono ?_
      rintro e w1 ⟨rfl, rfl⟩
      go_wp2_with fail
      refine lone_split ?_
      obtain ⟨n1, n2⟩ := (unhide HI).at_.event E (buf := (E.map kval).toArray) rfl s (r + 1)
      have e0 : ((List.map kval (k :: E)).toArray).getD 0 undef = kval k := by simp
      have e1 : ((List.map kval (k :: E)).toArray).extract 1 ((List.map kval (k :: E)).toArray).size = (E.map kval).toArray := by simp; exact List.take_of_length_le (by simp)
      refine lone_recv_some (z := .agg #[.int .i64 0, .int .i64 0, .int .i64 0]) (by rw [hbk]; decide) rfl rfl (by simp [go_sem, execOp, rcase, Act.eval]) (unhide HCH) (by simp) ?_
      rw [e0, e1]
      have hD2 : DI W (w1.setChan cb.c 8 (E.map kval).toArray false s (r + 1) false) nb mb cb pv rv x (.slice vo L.length vc) L E :=
        ⟨n1, own_frm (unhide HI).row n2 (fun q hq hm => by
          simp at hm
          subst hm
          obtain ⟨cs', hb'⟩ := own_blk (unhide HI).row hq
          rw [unhide HCH] at hb'
          cases hb'), (unhide HI).frm.trans n2 (fun j hj => .inl hj)⟩
      generalize w1.setChan cb.c 8 (E.map kval).toArray false s (r + 1) false = w2 at hD2 ⊢
      have H2 := hide hD2
      have hz2 := hD2.frm.size
      clear n1 n2 hD2 HI HCH e0 e1
      go_wp2
      refine lone_block (lone_cond true (by simp [Act.eval]) ?_)
      rw [if_pos rfl]
      refine lone_part ?_
      have hh1 := heap_alloc_new w2 (.cells #[.int .i64 k.id, .int .i64 k.inc, .int .i64 k.st] 76)
      go_wp2_with (at_builtin; refine wpList_app rfl _ _ rfl etyAK W.heap.size rfl rfl (own_below (unhide H2).row (((Below.refl _ _).alloc (Nat.le_refl _) _).alloc (by simp) _)) (Src.box (cs := keyC k) 3 1 1 (by have hh := heap_alloc_new (w2.alloc (.cells #[.int .i64 k.id, .int .i64 k.inc, .int .i64 k.st] 76)) (.cells #[.int .i64 k.id, .int .i64 k.inc, .int .i64 k.st] 76); rw [World.size_alloc] at hh; exact hh) (by rfl)) (oneAK k) (by omega) (by simp; omega) ?_)
      intro v3 w3 hown3 hgr3 hat3
      have hb3 : Below w2.heap.size w2 ((w2.alloc (.cells #[.int .i64 k.id, .int .i64 k.inc, .int .i64 k.st] 76)).alloc (.cells #[.int .i64 k.id, .int .i64 k.inc, .int .i64 k.st] 76)) := ((Below.refl _ _).alloc (Nat.le_refl _) _).alloc (by simp) _
      have hD3 := (unhide H2).push hb3 hgr3 k hown3
      obtain ⟨vo3, vc3, hv3, _⟩ := row_form hD3.row
      subst hv3
      have hgo := unhide HIH (L ++ [k]) w3 _ a2 a3 a4 (.pointer (some ⟨w2.heap.size, 0, none⟩)) (.slice vo L.length vc) (.int .i64 L.length) (.int .i64 most) (.bool true) (.pointer (some ⟨nb, 0, none⟩)) (.chan (some cb.c)) (.tuple #[.int .i64 0, .bool true, kval k]) (.int .i64 0) (.bool true) a16 (kval k) (.slice vo L.length vc) (kval k) (.slice (some ⟨w2.heap.size + 1, 0, none⟩) 1 1) (.slice vo3 (L ++ [k]).length vc3) a22 (by simp; omega) hD3
      have HGO := hide hgo
      clear hgo hD3 hown3 hgr3 hat3 hh1 H2
      go_wp2
      refine lone_inBlock (lone_inBlock (lone_inLoop ?_))
      have e2 : most.toNat - L.length = (most.toNat - (L.length + 1)) + 1 := by omega
      have hgo := unhide HGO
      simp only [List.length_append, List.length_cons, List.length_nil, Nat.zero_add, List.append_assoc, List.cons_append, List.nil_append] at hgo
      rw [e2]
      simp only [List.take_succ_cons, List.drop_succ_cons]
      exact hgo
    · refine lone_cond false (by simp [Act.eval, hlt]) ?_
      rw [if_neg (by decide)]
      refine lone_exit (k' := [.code D]) rfl (lone_as (unhide HDD).symm ?_)
      refine lone_last Tryz.func75 hbf hbk (by rintro _ ⟨_, h, _⟩; cases h) ?_
      have hm0 : most.toNat - L.length = 0 := by omega
      rw [hm0]
      simp only [List.take_zero, List.append_nil, List.drop_zero]
      go_wp2
      go_ret
      exact ⟨_, rfl, unhide HI⟩
set_option maxRecDepth 100000 in
set_option maxHeartbeats 1000000 in
/-- Drain (P6). -/
theorem drain_any {x : Nd} (hx : x.evs.length ≤ 8) {nb mb : Nat} {cb : Dk} {pv rv : Value} {W : World} (hn : NAt W nb mb cb pv rv x) (most : Int) :
    Calls Tryz.prog 75 #[.pointer (some ⟨nb, 0, none⟩), .int .i64 most] W fun e w' => ∃ o, e = .returned o ∧ w'.ownsRow W.heap.size 76 3 o (x.evs.take most.toNat).length ((x.evs.take most.toNat).flatMap keyC) ∧ NTo W w' nb mb cb pv rv { x with evs := x.evs.drop most.toNat } := by
  have hD : DI W W nb mb cb pv rv x (.slice none 0 0) [] x.evs := ⟨hn, World.ownsRow_nil _ _ _ _, Frm.refl _ _⟩
  refine Calls.mono (R := fun e w' => DEnd W nb mb cb pv rv x ([] ++ x.evs.take (most.toNat - ([] : List K3).length)) (x.evs.drop (most.toNat - ([] : List K3).length)) e w') ?_ ?_
  · refine calls_lone Tryz.func75 rfl (by rintro _ ⟨_, h, _⟩; cases h) (fun cs b hbf hbk => ?_)
    simp only [Tryz.ntmps75, List.size_toArray, List.length_cons, List.length_nil, Nat.reduceAdd, Nat.reduceSub, Array.replicate_succ, Array.replicate_zero, List.push_toArray, List.append_toArray, List.nil_append, List.cons_append]
    have HL := hide (fun v a2 a3 a4 a6 a7 a8 a9 a10 a11 a12 a13 a14 a15 a16 a17 a18 a19 a20 a21 a22 h => drain_loop (W := W) (nb := nb) (mb := mb) (cb := cb) (pv := pv) (rv := rv) (x := x) most hbf hbk cs _ _ _ _ rfl x.evs [] W v a2 a3 a4 a6 a7 a8 a9 a10 a11 a12 a13 a14 a15 a16 a17 a18 a19 a20 a21 a22 (by simpa using hx) h)
    refine lone_seq ?_
    go_wp2_with fail
    refine lone_seq ?_
    go_wp2_with fail
    refine lone_split (lone_block (lone_loop ?_))
    exact unhide HL (.slice none 0 0) undef undef _ undef undef undef undef undef undef undef undef undef undef undef undef undef undef undef undef undef hD
  · rintro e w' ⟨o, rfl, hd⟩
    simp only [List.length_nil, Nat.sub_zero, List.nil_append] at hd
    exact ⟨o, rfl, hd.row, pv, rv, hd.at_, ⟨hd.frm.os, hd.frm.tape, hd.frm.output, hd.frm.size, fun k hk hnm => hd.frm.block k hk (fun hm => hnm (by simp at hm; subst hm; simp [feet]))⟩, fun k hk => .inl hk⟩
end Go.Proofs.YtnneljcbelgoeaaGreatDoor.wire
