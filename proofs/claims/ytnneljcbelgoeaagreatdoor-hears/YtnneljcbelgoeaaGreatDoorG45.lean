import Derived.Test.YtnneljcbelgoeaaGreatDoorG43
import Derived.Test.YtnneljcbelgoeaaGreatDoorG35
import Derived.Deep.RegionWith
import Derived.Test.YtnneljcbelgoeaaGreatDoorG40
import Derived.Test.YtnneljcbelgoeaaGreatDoorG17
import Derived.Test.YtnneljcbelgoeaaGreatDoorG15
import Derived.Test.YtnneljcbelgoeaaGreatDoorG44
import Derived.Test.YtnneljcbelgoeaaGreatDoorG13
/- gossiplaw's onNode over nodes: Join. -/
namespace Go.Proofs.YtnneljcbelgoeaaGreatDoor.wire
open Go.RowKit Go.Maps
/-- Join in a world that is a little later. -/
theorem joins_from {x : Nd} (hx : NdOk x) (hB : NdB Big x) {nb mb : Nat} {cb : Dk} {pv rv : Value} {W Y : World} (hn : NAt W nb mb cb pv rv x) (i : Int) (hY : Below W.heap.size W Y) :
    Calls Tryz.prog 36 #[.pointer (some ⟨nb, 0, none⟩), .int .i64 i] Y fun e w' => ∃ o, e = .returned (.tuple #[o, errV (x.joinErr i)]) ∧ Outs W w' o (x.joinX i).1 ∧ NTo W w' nb mb cb pv rv (x.joinX i).2 := by
  refine (joins_any hx hB (hn.below hY) i).mono ?_
  rintro e w' ⟨o, rfl, ho, ht⟩
  exact ⟨o, rfl, own_mono ho hY.size, NTo.trans (Frm.of_below hY (Nat.le_refl _)) (fun _ hk => .inl hk) ht⟩
theorem rjoin_from {B : Int} {x : Nd} {r : Rn} (hg : Gh B x r) (hB : B ≤ 999999999000) {W Y : World} {b : Nat} {v : Rv} (h : RAt W b v r) (i : Int) (hY : Below W.heap.size W Y) :
    Calls Tryz.prog 37 #[.pointer (some ⟨b, 0, none⟩), .int .i64 i] Y fun e w' => ∃ o, e = .returned (.tuple #[o, .int .i64 (r.joinErr i)]) ∧ ∃ v', v'.d = v.d ∧ RAt w' b v' (r.joinX i) ∧ Frm (rfeet b v) W w' ∧ (∀ k ∈ rfeet b v', k ∈ rfeet b v ∨ W.heap.size ≤ k) ∧ (o = v'.x ∨ (o = .slice none 0 0 ∧ (r.joinX i).out = [])) := by
  refine (rjoin_any hg hB ⟨(hY.block b h.ltb).trans h.blk, h.rows.below hY⟩ i).mono ?_
  rintro e w' ⟨o, rfl, _, v', h1, h2, h3, h4, h5⟩
  exact ⟨o, rfl, v', h1, h2, (Frm.of_below (S := rfeet b v) hY (Nat.le_refl _)).trans h3 (fun j hj => .inl hj), fun k hk => (h4 k hk).imp id (fun q => Nat.le_trans hY.size q), h5⟩
set_option maxRecDepth 100000 in
set_option maxHeartbeats 4000000 in
theorem on_join (n wb : Nat) (s : Sg) (w W : World) (h : VV n wb s w W) (hn : n ≤ 18000) (o : Op8) (hkd : o.kind = 13) (i : Nat) (t : Nt) (hi : s.ns[i]? = some t) (hg : w.cell? ⟨0, 0, none⟩ = some (.iface 207 (.agg #[.pointer (some ⟨1, 64, none⟩)]))) (hlt : 0 < w.heap.size) :
    Calls Tryz.prog 20 #[.pointer (some ⟨wb, 0, none⟩), .pointer (some ⟨t.b, 0, none⟩), opv o] W fun e W' => e = .returned (.bool true) ∧ ∃ s', VV (n + 1) wb s' w W' := by
  obtain ⟨kind, a, b, c, d, e, x, S⟩ := o
  simp only at hkd
  subst hkd
  have hbox := heap_alloc_new W (.cells #[.int .i64 13, .int .i64 x, .int .i64 a, .int .i64 b, .int .i64 c, .int .i64 d, .int .i64 e, .string (bs S)] 28)
  have h0 := h.vs.block #[.int .i64 13, .int .i64 x, .int .i64 a, .int .i64 b, .int .i64 c, .int .i64 d, .int .i64 e, .string (bs S)] 28
  have hvi0 := h.vi.fzx (cellsT W.heap.size #[.int .i64 13, .int .i64 x, .int .i64 a, .int .i64 b, .int .i64 c, .int .i64 d, .int .i64 e, .string (bs S)] 28)
  obtain ⟨s1, hs1, hfb, he1⟩ : ∃ s1, VV n wb s1 w (W.alloc (.cells #[.int .i64 13, .int .i64 x, .int .i64 a, .int .i64 b, .int .i64 c, .int .i64 d, .int .i64 e, .string (bs S)] 28)) ∧ cellsT W.heap.size #[.int .i64 13, .int .i64 x, .int .i64 a, .int .i64 b, .int .i64 c, .int .i64 d, .int .i64 e, .string (bs S)] 28 ∈ s1.fz ∧ s1.ns = s.ns := ⟨_, ⟨h0, hvi0⟩, List.mem_cons_self .., rfl⟩
  rw [← he1] at hi
  clear h h0 hvi0 he1
  have h := hs1
  clear hs1
  have p2 := cell_at hbox 2
  simp only [List.getElem?_toArray, List.getElem?_cons_zero, List.getElem?_cons_succ] at p2
  have hbl := lt_blk hbox
  have hk := h.vi.nk t (List.mem_of_getElem? hi)
  have hrec : (W.alloc (.cells #[.int .i64 13, .int .i64 x, .int .i64 a, .int .i64 b, .int .i64 c, .int .i64 d, .int .i64 e, .string (bs S)] 28)).heap[t.b]? = some (.cells #[.pointer (some ⟨t.x.nb, 0, none⟩), .pointer (some ⟨t.y.nb, 0, none⟩), .pointer (some ⟨t.rb, 0, none⟩)] 88 (0, 0)) := h.vs.has hk.rc
  have k0 := cell_at hrec 0
  simp only [List.getElem?_toArray, List.getElem?_cons_zero] at k0
  have hltb := lt_blk hrec
  have hBg : NdB Big t.x.x := hk.gh.b.mono (by unfold Big; omega)
  have hG := hk.gh.joinedX (by omega) a
  have HX := hide (fun (Y : World) (hY : Below (W.alloc (.cells #[.int .i64 13, .int .i64 x, .int .i64 a, .int .i64 b, .int .i64 c, .int .i64 d, .int .i64 e, .string (bs S)] 28)).heap.size (W.alloc (.cells #[.int .i64 13, .int .i64 x, .int .i64 a, .int .i64 b, .int .i64 c, .int .i64 d, .int .i64 e, .string (bs S)] 28)) Y) => joins_from hk.gh.ok hBg (h.vs.atX hi) a hY)
  have HK := hide hk
  have HC := hide h
  have HI := hide hi
  have HG := hide hG
  have HGT := hide hg
  have HFB := hide hfb
  clear h hk hi hrec hG hBg hg hbox hfb
  go_enter Tryz.func20, Tryz.ntmps20
  go_wp2_with fail
  generalize W.alloc (.cells #[.int .i64 13, .int .i64 x, .int .i64 a, .int .i64 b, .int .i64 c, .int .i64 d, .int .i64 e, .string (bs S)] 28) = W0 at HC HX k0 hltb hbl p2 ⊢
  go_region_with (go_at_call 36; refine (unhide HX _ (below_draws (Below.refl _ _) _)).mono ?_; rintro e' w1 ⟨o1, rfl, ho1, ht1⟩)
  all_goals
    obtain ⟨p, q, h1⟩ := (unhide HC).vs.gotX (unhide HI) ht1 ho1 (by decide) (by decide) (by decide) (by decide)
    have hi1 : (s1.ns.set i (t.setX p q (t.x.x.joinX a).2))[i]? = some (t.setX p q (t.x.x.joinX a).2) := List.getElem?_set_self (List.getElem?_eq_some_iff.1 (unhide HI)).1
    have hrec1 : w1.heap[t.b]? = some (.cells #[.pointer (some ⟨t.x.nb, 0, none⟩), .pointer (some ⟨t.y.nb, 0, none⟩), .pointer (some ⟨t.rb, 0, none⟩)] 88 (0, 0)) := h1.has (unhide HK).rc
    have hbx1 : w1.heap[W.heap.size]? = some (.cells #[.int .i64 13, .int .i64 x, .int .i64 a, .int .i64 b, .int .i64 c, .int .i64 d, .int .i64 e, .string (bs S)] 28 (0, 0)) := h1.has (unhide HFB)
    have k1 := cell_at hrec1 1
    have p21 := cell_at hbx1 2
    simp only [List.getElem?_toArray, List.getElem?_cons_zero, List.getElem?_cons_succ] at k1 p21
    have hltb1 := lt_blk hrec1
    have hbl1 := lt_blk hbx1
    have hBg1 : NdB Big t.y.x := by rw [(unhide HK).tw]; exact (unhide HK).gh.b.mono (by unfold Big; omega)
    have hok1 : NdOk t.y.x := by rw [(unhide HK).tw]; exact (unhide HK).gh.ok
    have HY := hide (fun (Y : World) (hY : Below w1.heap.size w1 Y) => joins_from hok1 hBg1 (h1.atY (n := t.setX p q (t.x.x.joinX a).2) hi1) a hY)
    rw [(unhide HK).tw] at HY
    have H1 := hide h1
    have HI1 := hide hi1
    clear h1 hi1 hrec1 ho1 ht1 HX k0 hBg1 hok1 hbx1 p2 hbl hltb
    rw [(unhide HG).2.symm] at HY ⊢
    generalize her : t.r.joinErr a = er at HY ⊢
    have HER := hide her
    clear her
    generalize hev : errV er = ev at HY ⊢
    have HEV := hide hev
    clear hev
    go_wp2_with fail
    go_region_with (go_at_call 36; refine (unhide HY _ (below_draws (Below.refl _ _) _)).mono ?_; rintro e' w2 ⟨o2, rfl, ho2, ht2⟩)
    all_goals
      obtain ⟨p', q', h2⟩ := (unhide H1).gotY (t := t.setX p q (t.x.x.joinX a).2) (unhide HI1) ht2 ho2 (by decide) (by decide) (by decide) (by decide)
      simp only [List.set_set] at h2
      have hi2 : (s1.ns.set i ((t.setX p q (t.x.x.joinX a).2).setY p' q' (t.x.x.joinX a).2))[i]? = some ((t.setX p q (t.x.x.joinX a).2).setY p' q' (t.x.x.joinX a).2) := List.getElem?_set_self (List.getElem?_eq_some_iff.1 (unhide HI)).1
      have hrec2 : w2.heap[t.b]? = some (.cells #[.pointer (some ⟨t.x.nb, 0, none⟩), .pointer (some ⟨t.y.nb, 0, none⟩), .pointer (some ⟨t.rb, 0, none⟩)] 88 (0, 0)) := h2.has (unhide HK).rc
      have hbx2 : w2.heap[W.heap.size]? = some (.cells #[.int .i64 13, .int .i64 x, .int .i64 a, .int .i64 b, .int .i64 c, .int .i64 d, .int .i64 e, .string (bs S)] 28 (0, 0)) := h2.has (unhide HFB)
      have k2 := cell_at hrec2 2
      have p22 := cell_at hbx2 2
      simp only [List.getElem?_toArray, List.getElem?_cons_zero, List.getElem?_cons_succ] at k2 p22
      have hltb2 := lt_blk hrec2
      have hbl2 := lt_blk hbx2
      have HR := hide (fun (Y : World) (hY : Below w2.heap.size w2 Y) => rjoin_from (unhide HK).gh (by omega) (h2.atR (n := (t.setX p q (t.x.x.joinX a).2).setY p' q' (t.x.x.joinX a).2) hi2 (unhide HK).dr) a hY)
      have H2 := hide h2
      have HI2 := hide hi2
      clear h2 hi2 hrec2 ho2 ht2 HY k1 H1 HI1 hbx2 p21 hbl1 hltb1
      rw [unhide HER] at HR
      go_wp2_with fail
      go_region_with (go_at_call 37; refine (unhide HR _ (below_draws (Below.refl _ _) _)).mono ?_; rintro e' w3 ⟨o3, rfl, v', hvd, hra, hfr, hft, hox⟩)
      all_goals
        have h3 := (unhide H2).callR (unhide HI2) hra hfr hft
        simp only [List.set_set] at h3
        have hV : VI (n + 1) { s1 with ns := s1.ns.set i (t.set3 (t.x.x.joinX a).2 p q p' q' v' (t.r.joinX a)) } := (unhide HC).vi.node (unhide HI) p q p' q' ((unhide HG).1.gh.mono (by omega)) (unhide HG).1.dl hvd
        have H3 := hide h3
        have HV := hide hV
        have HOX := hide hox
        clear h3 hra hfr hft hV HR H2 HI2 k2 p22 hox
        rw [← unhide HEV]
        go_wp2_with fail
        refine (ltold_any er w3 ((unhide H3).gate hlt (unhide HGT))).mono ?_
        rintro e' w4 ⟨rfl, hb4⟩
        have H4 := hide ((unhide H3).mono hb4)
        clear hb4 H3
        go_wp2_with fail
        refine (ltold_any er w4 ((unhide H4).gate hlt (unhide HGT))).mono ?_
        rintro e' w5 ⟨rfl, hb5⟩
        have H5 := hide ((unhide H4).mono hb5)
        clear hb5 H4
        have hi3 : (s1.ns.set i (t.set3 (t.x.x.joinX a).2 p q p' q' v' (t.r.joinX a)))[i]? = some (t.set3 (t.x.x.joinX a).2 p q p' q' v' (t.r.joinX a)) := List.getElem?_set_self (List.getElem?_eq_some_iff.1 (unhide HI)).1
        have hvi := (unhide HC).vi
        have hGo := (unhide HG).1
        have HS := hide (sends_g wb { s1 with ns := s1.ns.set i (t.set3 (t.x.x.joinX a).2 p q p' q' v' (t.r.joinX a)), a := [pksT o1 (t.x.x.joinX a).1], b := [pksT o2 (t.x.x.joinX a).1] } w w5 (unhide H5) ((unhide HV).hd.of rfl rfl rfl rfl (fun _ q => q)) (by have := hvi.ol; simp only; omega) hvi.m0 (by have := hvi.m1; simp only; omega) hvi.pn o1 o2 o3 (t.x.x.joinX a).1 (by have := hGo.len; omega) rfl rfl (fun s' W' h' e => by
          rcases unhide HOX with hx | ⟨hx, hx0⟩
          · have := Sep.rd h' (.r i)
            rw [show s'.th wb (.r i) = refT t.rb v' (t.r.joinX a) from onN_at (n := t.set3 (t.x.x.joinX a).2 p q p' q' v' (t.r.joinX a)) (by rw [e]; exact hi3) _] at this
            rw [hx, ← hGo.out]
            exact this.2.x
          · rw [hx, ← hGo.out, hx0]
            exact World.ownsRow_nil _ _ _ _))
        have HO := hide hvi.ol
        have HM := hide hvi.m1
        have HGo := hide hGo
        clear hi3 hvi hGo HOX H5
        go_wp2_with fail
        refine (unhide HS).mono ?_
        rintro e' w6 ⟨rfl, pv, ov, kv, ps, os, ks, mark, fz, h6, hw, hh, hos, hmk, hf⟩
        have HF : Hid (VV (n + 1) wb { s1 with ns := s1.ns.set i (t.set3 (t.x.x.joinX a).2 p q p' q' v' (t.r.joinX a)), a := [], b := [], pv := pv, ps := ps, ov := ov, kv := kv, os := os, ks := ks, mark := mark, fz := fz } w w6) := hide ⟨h6, VI.sent (s := { s1 with ns := s1.ns.set i (t.set3 (t.x.x.joinX a).2 p q p' q' v' (t.r.joinX a)) }) (l := (t.x.x.joinX a).1) (unhide HV) (unhide HGo).len (unhide HGo).small (unhide HO) (unhide HM) ⟨hw.len, hw.of⟩ hh hos hmk hf⟩
        clear h6 hw hh hos hmk hf HS
        go_wp2
        go_ret
        exact ⟨rfl, _, unhide HF⟩
end Go.Proofs.YtnneljcbelgoeaaGreatDoor.wire
/- gossiplaw's seen over nodes: what is seen of a node is the document's (P4). -/
namespace Go.Proofs.YtnneljcbelgoeaaGreatDoor.wire
open Go.RowKit Go.Maps
theorem keysAt_row {W : World} {base : Nat} {v : Value} {l : List K3} (h : W.ownsRow base 76 3 v l.length (l.flatMap keyC)) : KeysAt W v l := by
  rw [← kcells_flat] at h
  exact keysAt_of_own h
theorem rkeysAt_row {W : World} {base : Nat} {v : Value} {l : List K3} (h : W.ownsRow base 58 3 v l.length (l.flatMap keyC)) : KeysAt W v l := by
  rw [← kcells_flat] at h
  exact rkeysAt_of_own h
/-- What is seen, and what the document has: the same. -/
structure Sees (x : Nd) (r : Rn) : Prop where
  clock : r.clock = x.clock
  id : r.self.id = x.own.id
  inc : r.self.inc = x.own.inc
  st : r.self.st = x.own.st
  others : r.others.map RM.k = x.others
  probe : r.probe = x.ptgt
  queue : r.queue.length = x.pending
  rels : r.rels.length = x.rels.length
  dropped : r.dropped = x.dropped
  lost : r.lost = x.lost
theorem Rf.sees {x : Nd} {r : Rn} (h : Rf x r) : Sees x r := by
  refine ⟨h.clock, by rw [h.self], by rw [h.self], by rw [h.self], ?_, h.probe, ?_, by rw [h.rels], h.dropped, h.lost⟩
  · rw [h.others, List.map_map]; rfl
  · rw [h.queue.length_eq, List.length_map]; rfl
set_option maxRecDepth 100000 in
set_option maxHeartbeats 800000 in
theorem seen_s (wb : Nat) (s : Sg) (w W : World) (h : VS wb s w W) (n : Nat) (hi0 : VI n s) (_hn : n ≤ 18000) (i : Nat) (t : Nt) (hi : s.ns[i]? = some t) (z : Nn) (hz : NAt W z.nb z.mb z.cb z.pv z.rv t.x.x) :
    Calls Tryz.prog 44 #[.pointer (some ⟨t.b, 0, none⟩), .pointer (some ⟨z.nb, 0, none⟩)] W fun e W' => ∃ o, e = .returned (.tuple #[o, .bool true]) ∧ VS wb { s with a := [keysT o t.x.x.others] } w W' := by
  have hk := hi0.nk t (List.mem_of_getElem? hi)
  have hrec : W.heap[t.b]? = some (.cells #[.pointer (some ⟨t.x.nb, 0, none⟩), .pointer (some ⟨t.y.nb, 0, none⟩), .pointer (some ⟨t.rb, 0, none⟩)] 88 (0, 0)) := h.has hk.rc
  have hra := h.atR hi hk.dr
  have hse := hk.gh.rf.sees
  have hox : t.x.x.others.length ≤ 1000 := by unfold Nd.others; rw [List.length_map]; have := List.length_filter_le (fun m => !(m.k.id == t.x.x.c.self)) t.x.x.tab; have := hk.gh.ok.len; omega
  have HX := hide (see_any hk.gh.ok hz)
  have HREC := hide hrec
  have HRA := hide hra
  have HC := hide h
  have HSE := hide hse
  clear h hk hi hrec hra hz hse hi0
  go_enter Tryz.func44, Tryz.ntmps44
  go_wp2_with fail
  refine (unhide HX).mono ?_
  rintro e w1 ⟨o, rfl, ho, hb1⟩
  obtain ⟨oo, oc, hof, _⟩ := row_form ho
  subst hof
  generalize hX : t.x.x = X at *
  have hb2 := hb1.alloc hb1.size (.cells #[.int .i64 X.clock, .int .i64 X.own.id, .int .i64 X.own.inc, .int .i64 X.own.st, .slice oo X.others.length oc, .int .i64 X.ptgt, .int .i64 X.pending, .int .i64 X.rels.length, .int .i64 X.dropped, .int .i64 X.lost] 137)
  have hbx := heap_alloc_new w1 (.cells #[.int .i64 X.clock, .int .i64 X.own.id, .int .i64 X.own.inc, .int .i64 X.own.st, .slice oo X.others.length oc, .int .i64 X.ptgt, .int .i64 X.pending, .int .i64 X.rels.length, .int .i64 X.dropped, .int .i64 X.lost] 137)
  have ho2 := ho.alloc (.cells #[.int .i64 X.clock, .int .i64 X.own.id, .int .i64 X.own.inc, .int .i64 X.own.st, .slice oo X.others.length oc, .int .i64 X.ptgt, .int .i64 X.pending, .int .i64 X.rels.length, .int .i64 X.dropped, .int .i64 X.lost] 137)
  have hw1 := hb1.size
  have hltr := lt_blk (unhide HREC)
  have k2 := cell_at ((hb1.block t.b hltr).trans (unhide HREC)) 2
  simp only [List.getElem?_toArray, List.getElem?_cons_zero, List.getElem?_cons_succ] at k2
  have HB2 := hide hb2
  have HBX := hide hbx
  have HO2 := hide ho2
  clear hb1 hb2 hbx ho ho2 HX
  have hlt1 : t.b < w1.heap.size := by omega
  go_wp2_with fail
  generalize w1.alloc (.cells #[.int .i64 X.clock, .int .i64 X.own.id, .int .i64 X.own.inc, .int .i64 X.own.st, .slice oo X.others.length oc, .int .i64 X.ptgt, .int .i64 X.pending, .int .i64 X.rels.length, .int .i64 X.dropped, .int .i64 X.lost] 137) = W2 at HB2 HBX HO2 ⊢
  have HRB : Hid (∀ wr, Below W.heap.size W wr → RAt wr t.rb t.rv t.r) := hide (fun wr hb => ⟨(hb.block t.rb (unhide HRA).ltb).trans (unhide HRA).blk, (unhide HRA).rows.below hb⟩)
  obtain ⟨so, sc, hsf, hsn, _⟩ := row_form (unhide HRA).rows.o
  have HSF := hide hsf
  have HSN := hide hsn
  have hlr : t.r.others.length = X.others.length := by rw [← (unhide HSE).others, List.length_map]
  have hr1000 : t.r.others.length ≤ 1000 := by omega
  clear hsf hsn hlr k2 hw1 HRA
  go_loopw [8, 9] (fun lv iv wr => ∃ j : Nat, j ≤ t.r.others.length ∧ iv = .int .i64 j ∧ Fi keyC 58 3 W2 wr lv ((t.r.others.map RM.k).take j)) (fun _ iv _ => t.r.others.length - (intOf iv).toNat)
  case atStart => exact ⟨0, Nat.zero_le _, rfl, by simpa using Fi.nil keyC 58 3 (Below.refl W2.heap.size W2)⟩
  case round =>
    obtain ⟨j, hj, rfl, hF⟩ := hrel
    obtain ⟨lo, lc, hlf, _⟩ := row_form hF.own
    have hlj : ((t.r.others.map RM.k).take j).length = j := by simp; omega
    rw [hlj] at hlf
    subst hlf
    have hBW : Below W.heap.size W wr := (unhide HB2).trans (hF.below.mono (unhide HB2).size)
    have hra := unhide HRB wr hBW
    have hltb := hra.ltb
    have c13 := hra.cell 13
    simp only [refC, List.getElem?_toArray, List.getElem?_cons_zero, List.getElem?_cons_succ] at c13
    rw [unhide HSF] at c13
    have hW2 := (unhide HB2).size
    have hz := hF.below.size
    by_cases hlt : j < t.r.others.length
    · have hji : (j : Int) < (t.r.others.length : Int) := by omega
      obtain ⟨sb, rfl, hsb⟩ := unhide HSN (by omega)
      have hrow := hra.rows.o
      rw [unhide HSF] at hrow
      have q0 : wr.cell? ⟨sb, j * 4, none⟩ = _ := row_cell rmC 4 (fun _ => rfl) hrow j hlt 0 (by omega)
      have q1 : wr.cell? ⟨sb, j * 4 + 1, none⟩ = _ := row_cell rmC 4 (fun _ => rfl) hrow j hlt 1 (by omega)
      have q2 : wr.cell? ⟨sb, j * 4 + 2, none⟩ = _ := row_cell rmC 4 (fun _ => rfl) hrow j hlt 2 (by omega)
      simp only [rmC, List.getElem?_cons_zero, List.getElem?_cons_succ] at q0 q1 q2
      have hsucc : (t.r.others.map RM.k).take (j + 1) = (t.r.others.map RM.k).take j ++ [t.r.others[j].k] := by
        rw [List.take_succ_eq_append_getElem (by simpa using hlt)]; simp
      have HSU := hide hsucc
      generalize t.r.others[j].k = K at q0 q1 q2 HSU
      have HF := hide hF
      clear hF hra hrow hsucc hBW
      have HLJ := hide hlj
      clear hlj
      go_wp2_with (at_builtin; refine wpList_app rfl _ _ rfl etyK W2.heap.size rfl rfl (by have := (unhide HF).own; rw [unhide HLJ] at this; exact this.alloc _) (Src.box (cs := keyC K) 3 1 1 (by exact heap_alloc_new wr _) (by rfl)) (oneKv K) (by omega) (by simp; omega) ?_)
      intro v3 w3 hown3 hgr3 _
      have hF3 := (unhide HF).push ((Below.refl _ _).alloc (Nat.le_refl _) _) hgr3 [K] (by rw [unhide HLJ]; simpa using hown3)
      rw [← unhide HSU] at hF3
      have HF3 := hide hF3
      clear hown3 hgr3 hF3 HF
      go_wp2
      go_roundw
      case rel => exact ⟨j + 1, by omega, by go_num, unhide HF3⟩
      case measure => simp [intOf]; omega
    · have hje : j = t.r.others.length := by omega
      subst hje
      have hT : (t.r.others.map RM.k).take t.r.others.length = X.others := by rw [← (unhide HSE).others]; exact List.take_of_length_le (by simp)
      rw [hT] at hF
      have hbx2 := (hF.below.block w1.heap.size (lt_blk (unhide HBX))).trans (unhide HBX)
      have ho3 := own_below (unhide HO2) hF.below
      have d0 := cell_at hbx2 0
      have d1 := cell_at hbx2 1
      have d2 := cell_at hbx2 2
      have d3 := cell_at hbx2 3
      have d4 := cell_at hbx2 4
      have d5 := cell_at hbx2 5
      have d6 := cell_at hbx2 6
      have d7 := cell_at hbx2 7
      have d8 := cell_at hbx2 8
      have d9 := cell_at hbx2 9
      simp only [List.getElem?_toArray, List.getElem?_cons_zero, List.getElem?_cons_succ] at d0 d1 d2 d3 d4 d5 d6 d7 d8 d9
      have hltx := lt_blk hbx2
      have r8 := hra.cell 8
      have r10 := hra.cell 10
      have r11 := hra.cell 11
      have r12 := hra.cell 12
      have r15 := hra.cell 15
      have r19 := hra.cell 19
      have r20 := hra.cell 20
      have r21 := hra.cell 21
      have r23 := hra.cell 23
      obtain ⟨uo, uc, huf, _⟩ := row_form hra.rows.q
      obtain ⟨xo, xc, hxf, _⟩ := row_form hra.rows.l
      simp only [refC, List.getElem?_toArray, List.getElem?_cons_zero, List.getElem?_cons_succ, huf, hxf, (unhide HSE).clock, (unhide HSE).id, (unhide HSE).inc, (unhide HSE).st, (unhide HSE).probe, (unhide HSE).queue, (unhide HSE).rels, (unhide HSE).dropped, (unhide HSE).lost] at r8 r10 r11 r12 r15 r19 r20 r21 r23
      have HKY := hide (lkeys_any X.others (.slice oo X.others.length oc) (.slice lo t.r.others.length lc) wr (keysAt_row ho3) (rkeysAt_row hF.own) (by omega))
      have HBW := hide hBW
      have HO3 := hide ho3
      clear hra hF hbx2 ho3 hT huf hxf hBW
      go_wp2_with fail
      refine (unhide HKY).mono ?_
      rintro e' w4 ⟨rfl, k4, rfl⟩
      clear HKY
      go_wp2_with fail
      go_quiet (fail)
      go_wp2_with fail
      go_quiet (fail)
      go_wp2_with fail
      go_quiet (fail)
      go_wp2
      go_ret2
      refine ⟨_, rfl, ?_⟩
      have hfin : ∀ (Y : World), Below wr.heap.size wr Y → VS wb { s with a := [keysT (.slice oo X.others.length oc) t.x.x.others] } w Y := fun Y hY => by
        have hWY : Below W.heap.size W Y := (unhide HBW).trans (hY.mono (unhide HBW).size)
        refine ((unhide HC).mono hWY).mineA [keysT (.slice oo X.others.length oc) t.x.x.others] (by intro q hq; simp at hq; subst hq; rw [hX]; exact own_mono (own_below (unhide HO3) hY) (Nat.zero_le _)) (fun q hq k hk => ?_)
        simp at hq; subst hq
        have hk' := (own_lt (unhide HO3) (by simpa [rowT] using hk)).1
        obtain ⟨b1, b2⟩ := (unhide HC).beyond hk'
        exact ⟨b1, fun j _ => b2 j⟩
      exact hfin _ (below_draws (below_draws (below_draws (below_draws (Below.refl _ _) _) _) _) _)
end Go.Proofs.YtnneljcbelgoeaaGreatDoor.wire
/- gossiplaw's drained over nodes: the events that can be received are the document's (P6). -/
namespace Go.Proofs.YtnneljcbelgoeaaGreatDoor.wire
open Go.RowKit Go.Maps
theorem keysAt_head {W : World} {ao : Option Addr} {cap : Nat} {l : List K3} (h : KeysAt W (.slice ao l.length cap) l) (k : Nat) (hk : k ≤ l.length) : KeysAt W (.slice ao k cap) (l.take k) := by
  rcases h with ⟨hv, rfl⟩ | ⟨b, off, cap', hv, hlt, hc⟩
  · simp only [Value.slice.injEq] at hv
    obtain ⟨rfl, _, rfl⟩ := hv
    have : k = 0 := by simpa using hk
    subst this
    exact .inl ⟨rfl, by simp⟩
  · simp only [Value.slice.injEq] at hv
    obtain ⟨rfl, _, rfl⟩ := hv
    have hl : (l.take k).length = k := by simp; omega
    refine .inr ⟨b, off, cap, by rw [hl], hlt, fun i hi => ?_⟩
    have hil : i < l.length := by omega
    rw [List.getElem_take]
    exact hc i hil
/-- How many are received. -/
theorem drain_count (most : Int) (l : List K3) : ∃ k : Nat, k ≤ l.length ∧ l.take most.toNat = l.take k ∧ l.drop most.toNat = l.drop k ∧ ((¬ most < (l.length : Int) ∧ k = l.length) ∨ (most < (l.length : Int) ∧ ¬ most < 0 ∧ most = (k : Int)) ∨ (most < (l.length : Int) ∧ most < 0 ∧ k = 0)) := by
  by_cases h1 : most < (l.length : Int)
  · by_cases h2 : most < 0
    · have h0 : most.toNat = 0 := by omega
      exact ⟨0, Nat.zero_le _, by rw [h0], by rw [h0], .inr (.inr ⟨h1, h2, rfl⟩)⟩
    · exact ⟨most.toNat, by omega, rfl, rfl, .inr (.inl ⟨h1, h2, by omega⟩)⟩
  · refine ⟨l.length, Nat.le_refl _, ?_, ?_, .inl ⟨h1, rfl⟩⟩
    · rw [List.take_of_length_le (by omega), List.take_of_length_le (Nat.le_refl _)]
    · rw [List.drop_of_length_le (by omega), List.drop_of_length_le (Nat.le_refl _)]
set_option maxRecDepth 100000 in
set_option maxHeartbeats 1000000 in
theorem drained_s (n wb : Nat) (s : Sg) (w W : World) (h : VV n wb s w W) (_hn : n ≤ 18000) (i : Nat) (t : Nt) (hi : s.ns[i]? = some t) (most : Int) :
    Calls Tryz.prog 43 #[.pointer (some ⟨t.b, 0, none⟩), .int .i64 most] W fun e W' => ∃ (o : Value) (K : List K3) (s' : Sg), e = .returned (.tuple #[o, .bool true]) ∧ K.length ≤ 8 ∧ VS wb { s' with a := [keysT o K] } w W' ∧ VI (n + 1) s' ∧ s'.ls.length ≤ 2 * n ∧ s'.mark ≤ 2000 * (n : Int) := by
  have hk := h.vi.nk t (List.mem_of_getElem? hi)
  have hrec : W.heap[t.b]? = some (.cells #[.pointer (some ⟨t.x.nb, 0, none⟩), .pointer (some ⟨t.y.nb, 0, none⟩), .pointer (some ⟨t.rb, 0, none⟩)] 88 (0, 0)) := h.vs.has hk.rc
  have k0 := cell_at hrec 0
  simp only [List.getElem?_toArray, List.getElem?_cons_zero] at k0
  have hltb := lt_blk hrec
  obtain ⟨kk, hkk, e1, e2, hcase⟩ := drain_count most t.x.x.evs
  have hev8 := hk.gh.ok.evs
  have HX := hide (drain_any hev8 (h.vs.atX hi) most)
  rw [e1, e2] at HX
  have HG := hide (hk.gh.drained kk)
  have HK := hide hk
  have HC := hide h
  have HI := hide hi
  have HLL := hide (unhide HC).vi.ll
  have HMK := hide (unhide HC).vi.m1
  have HE1 := hide e1
  have HE2 := hide e2
  clear h hk hi hrec e1 e2
  go_enter Tryz.func43, Tryz.ntmps43
  go_wp2_with fail
  refine (unhide HX).mono ?_
  rintro e w1 ⟨o1, rfl, ho1, ht1⟩
  obtain ⟨p, q, h1⟩ := (unhide HC).vs.gotX (unhide HI) ht1 ho1 (by decide) (by decide) (by decide) (by decide)
  generalize hX' : ({ t.x.x with evs := t.x.x.evs.drop kk } : Nd) = X' at *
  have hi1 : (s.ns.set i (t.setX p q X'))[i]? = some (t.setX p q X') := List.getElem?_set_self (List.getElem?_eq_some_iff.1 (unhide HI)).1
  have hrec1 : w1.heap[t.b]? = some (.cells #[.pointer (some ⟨t.x.nb, 0, none⟩), .pointer (some ⟨t.y.nb, 0, none⟩), .pointer (some ⟨t.rb, 0, none⟩)] 88 (0, 0)) := h1.has (unhide HK).rc
  have k1 := cell_at hrec1 1
  simp only [List.getElem?_toArray, List.getElem?_cons_zero, List.getElem?_cons_succ] at k1
  have hltb1 := lt_blk hrec1
  have HY := hide (drain_any (x := t.y.x) (by rw [(unhide HK).tw]; exact hev8) (h1.atY (n := t.setX p q X') hi1) most)
  rw [(unhide HK).tw, unhide HE1, unhide HE2, hX'] at HY
  have H1 := hide h1
  have HI1 := hide hi1
  have HX' := hide hX'
  clear h1 hi1 hrec1 ho1 ht1 HX k0 hX'
  go_wp2_with fail
  refine (unhide HY).mono ?_
  rintro e w2 ⟨o2, rfl, ho2, ht2⟩
  obtain ⟨p', q', h2⟩ := (unhide H1).callY (n := t.setX p q X') (unhide HI1) ht2
  simp only [List.set_set] at h2
  have hi2 : (s.ns.set i ((t.setX p q X').setY p' q' X'))[i]? = some ((t.setX p q X').setY p' q' X') := List.getElem?_set_self (List.getElem?_eq_some_iff.1 (unhide HI)).1
  have hrec2 : w2.heap[t.b]? = some (.cells #[.pointer (some ⟨t.x.nb, 0, none⟩), .pointer (some ⟨t.y.nb, 0, none⟩), .pointer (some ⟨t.rb, 0, none⟩)] 88 (0, 0)) := h2.has (unhide HK).rc
  have k2 := cell_at hrec2 2
  simp only [List.getElem?_toArray, List.getElem?_cons_zero, List.getElem?_cons_succ] at k2
  have hltb2 := lt_blk hrec2
  have hra := h2.atR (n := (t.setX p q X').setY p' q' X') hi2 (unhide HK).dr
  have hltr := hra.ltb
  have hev : t.r.evs = t.x.x.evs := (unhide HK).gh.rf.evs
  have hrow : w2.ownsRow 0 58 3 t.rv.e t.r.evs.length (t.r.evs.flatMap keyC) := hra.rows.e
  have c22 := hra.cell 22
  have f22 := hra.free 22
  rw [hev] at hrow
  obtain ⟨eo, ec, hef, _⟩ := row_form hrow
  simp only [refC, List.getElem?_toArray, List.getElem?_cons_zero, List.getElem?_cons_succ, hef] at c22
  rw [hef] at hrow
  have hra1 : w2.ownsRow 0 76 3 o1 (t.x.x.evs.take kk).length ((t.x.x.evs.take kk).flatMap keyC) := Sep.rd h2 .ta _ (List.mem_singleton.2 rfl)
  have hl8 : (t.x.x.evs.take kk).length ≤ 8 := by rw [List.length_take]; omega
  have HL8 := hide hl8
  have HS1 := hide (lkeys_any (t.x.x.evs.take kk) o1 (.slice eo kk ec) w2 (keysAt_row hra1) (keysAt_head (rkeysAt_row hrow) kk hkk) (by omega))
  have HS2 := hide (fun m => lkeys_any (t.x.x.evs.take kk) o2 (.slice eo kk ec) (w2.drewN m) ((keysAt_row ho2).below (below_draws (Below.refl _ _) m)) ((keysAt_head (rkeysAt_row hrow) kk hkk).below (below_draws (Below.refl _ _) m)) (by omega))
  have H2 := hide h2
  have HI2 := hide hi2
  have HRA := hide hra
  have HROW := hide hrow
  have HEV := hide hev
  have HEF := hide hef
  clear h2 hi2 hrec2 ho2 ht2 HY k1 H1 HI1 hra hrow hra1 hev hef hl8
  rcases hcase with ⟨g1, rfl⟩ | ⟨g1, g2, rfl⟩ | ⟨g1, g2, rfl⟩
  · go_wp2_with fail
    refine (unhide HS1).mono ?_
    rintro e w3 ⟨rfl, m1, rfl⟩
    go_wp2_with fail
    refine (unhide HS2 m1).mono ?_
    rintro e w3 ⟨rfl, m2, rfl⟩
    have h3 := ((unhide H2).draws m1).draws m2
    have hra3 : RAt ((w2.drewN m1).drewN m2) t.rb t.rv t.r := h3.atR (n := (t.setX p q X').setY p' q' X') (unhide HI2) (unhide HK).dr
    have hrow3 := own_below (unhide HROW) (below_draws (below_draws (Below.refl _ _) m1) m2)
    have hrec3 : ((w2.drewN m1).drewN m2).heap[t.b]? = some (.cells #[.pointer (some ⟨t.x.nb, 0, none⟩), .pointer (some ⟨t.y.nb, 0, none⟩), .pointer (some ⟨t.rb, 0, none⟩)] 88 (0, 0)) := h3.has (unhide HK).rc
    generalize (w2.drewN m1).drewN m2 = w3 at h3 hra3 hrow3 hrec3 ⊢
    have j2 := cell_at hrec3 2
    have j22 := hra3.cell 22
    simp only [refC, List.getElem?_toArray, List.getElem?_cons_zero, List.getElem?_cons_succ, unhide HEF] at j2 j22
    have hl3 := lt_blk hrec3
    have hl4 := hra3.ltb
    have H3 := hide h3
    have HRA3 := hide hra3
    have HROW3 := hide hrow3
    have HREC3 := hide hrec3
    clear h3 hra3 hrow3 hrec3 HS1 HS2 H2 HRA HROW k2 c22 f22
    go_wp2_with (refine wpList_tail rfl _ _ rfl etyK (t.x.x.evs.length) rfl rfl (unhide HROW3) (by omega) ?_)
    intro vt hvt
    have hvt2 : Src w3 3 vt (t.x.x.evs.length - (t.x.x.evs.length)) ((t.x.x.evs.drop (t.x.x.evs.length)).flatMap keyC) := by
      have e := row_drop keyC 3 (fun _ => rfl) t.x.x.evs (t.x.x.evs.length)
      rw [← e]
      first | exact hvt | (rw [Nat.sub_self]; exact hvt)
    have HVT := hide hvt2
    clear hvt hvt2
    go_wp2_with (at_builtin; refine wpList_app rfl _ _ rfl etyK w3.heap.size (n1 := 0) (xs1 := []) rfl rfl (World.ownsRow_nil _ _ _ _) (unhide HVT) (one_of oneKv _) (by omega) (Nat.le_refl _) ?_)
    intro v5 w5 ho5 hg5 _
    have hb5 : Below w3.heap.size w3 w5 := (Below.refl _ _).grown hg5 (Nat.le_refl _) (fun k e => by cases e)
    have hlen5 : (t.r.evs.drop (t.x.x.evs.length)).length = 0 + (t.x.x.evs.length - (t.x.x.evs.length)) := by rw [unhide HEV, List.length_drop]; omega
    have ho5' : w5.ownsRow 0 58 3 v5 (t.r.evs.drop (t.x.x.evs.length)).length ((t.r.evs.drop (t.x.x.evs.length)).flatMap keyC) := by
      rw [hlen5, unhide HEV]
      exact own_mono (by simpa using ho5) (Nat.zero_le _)
    obtain ⟨v', hvd, hra6, hfr6, hft6⟩ := (unhide HRA3).setE (l := t.r.evs.drop (t.x.x.evs.length)) (Frm.of_below hb5 (Nat.le_refl _)) (fun g hg => .inr (own_lt ho5 hg).1) ho5'
    have h6 := (unhide H3).callR (unhide HI2) hra6 hfr6 hft6
    simp only [List.set_set] at h6
    have hGd := unhide HG
    have hdl : X'.dl = t.x.x.dl := by rw [← unhide HX']
    have hV : VI (n + 1) { s with ns := s.ns.set i (t.set3 X' p q p' q' v' { t.r with evs := t.r.evs.drop (t.x.x.evs.length) }) } := (unhide HC).vi.node (unhide HI) p q p' q' (hGd.mono (by omega)) hdl hvd
    have i2 := cell_at ((hb5.block t.b hl3).trans (unhide HREC3)) 2
    have hblk5 := (hb5.block t.rb hl4).trans (unhide HRA3).blk
    have i22 := cell_at hblk5 22
    have g22 := free_at hblk5 22
    simp only [refC, List.getElem?_toArray, List.getElem?_cons_zero, List.getElem?_cons_succ, unhide HEF] at i2 i22
    obtain ⟨vo5, vc5, hvf5, _⟩ := row_form ho5
    subst hvf5
    have hz5 := hb5.size
    have H6 := hide h6
    have HV := hide hV
    clear h6 hV hra6 hfr6 hft6 ho5 ho5' hg5 hb5 HVT H3 HRA3 HROW3 HREC3 hGd hblk5 j2 j22 HG HC hlen5 hdl
    go_wp2
    go_ret2
    exact ⟨_, rfl, _, unhide HL8, _, unhide H6, unhide HV, unhide HLL, unhide HMK⟩
  · go_wp2_with fail
    refine (unhide HS1).mono ?_
    rintro e w3 ⟨rfl, m1, rfl⟩
    go_wp2_with fail
    refine (unhide HS2 m1).mono ?_
    rintro e w3 ⟨rfl, m2, rfl⟩
    have h3 := ((unhide H2).draws m1).draws m2
    have hra3 : RAt ((w2.drewN m1).drewN m2) t.rb t.rv t.r := h3.atR (n := (t.setX p q X').setY p' q' X') (unhide HI2) (unhide HK).dr
    have hrow3 := own_below (unhide HROW) (below_draws (below_draws (Below.refl _ _) m1) m2)
    have hrec3 : ((w2.drewN m1).drewN m2).heap[t.b]? = some (.cells #[.pointer (some ⟨t.x.nb, 0, none⟩), .pointer (some ⟨t.y.nb, 0, none⟩), .pointer (some ⟨t.rb, 0, none⟩)] 88 (0, 0)) := h3.has (unhide HK).rc
    generalize (w2.drewN m1).drewN m2 = w3 at h3 hra3 hrow3 hrec3 ⊢
    have j2 := cell_at hrec3 2
    have j22 := hra3.cell 22
    simp only [refC, List.getElem?_toArray, List.getElem?_cons_zero, List.getElem?_cons_succ, unhide HEF] at j2 j22
    have hl3 := lt_blk hrec3
    have hl4 := hra3.ltb
    have H3 := hide h3
    have HRA3 := hide hra3
    have HROW3 := hide hrow3
    have HREC3 := hide hrec3
    clear h3 hra3 hrow3 hrec3 HS1 HS2 H2 HRA HROW k2 c22 f22
    go_wp2_with (refine wpList_tail rfl _ _ rfl etyK (kk) rfl rfl (unhide HROW3) (by omega) ?_)
    intro vt hvt
    have hvt2 : Src w3 3 vt (t.x.x.evs.length - (kk)) ((t.x.x.evs.drop (kk)).flatMap keyC) := by
      have e := row_drop keyC 3 (fun _ => rfl) t.x.x.evs (kk)
      rw [← e]
      first | exact hvt | (rw [Nat.sub_self]; exact hvt)
    have HVT := hide hvt2
    clear hvt hvt2
    go_wp2_with (at_builtin; refine wpList_app rfl _ _ rfl etyK w3.heap.size (n1 := 0) (xs1 := []) rfl rfl (World.ownsRow_nil _ _ _ _) (unhide HVT) (one_of oneKv _) (by omega) (Nat.le_refl _) ?_)
    intro v5 w5 ho5 hg5 _
    have hb5 : Below w3.heap.size w3 w5 := (Below.refl _ _).grown hg5 (Nat.le_refl _) (fun k e => by cases e)
    have hlen5 : (t.r.evs.drop (kk)).length = 0 + (t.x.x.evs.length - (kk)) := by rw [unhide HEV, List.length_drop]; omega
    have ho5' : w5.ownsRow 0 58 3 v5 (t.r.evs.drop (kk)).length ((t.r.evs.drop (kk)).flatMap keyC) := by
      rw [hlen5, unhide HEV]
      exact own_mono (by simpa using ho5) (Nat.zero_le _)
    obtain ⟨v', hvd, hra6, hfr6, hft6⟩ := (unhide HRA3).setE (l := t.r.evs.drop (kk)) (Frm.of_below hb5 (Nat.le_refl _)) (fun g hg => .inr (own_lt ho5 hg).1) ho5'
    have h6 := (unhide H3).callR (unhide HI2) hra6 hfr6 hft6
    simp only [List.set_set] at h6
    have hGd := unhide HG
    have hdl : X'.dl = t.x.x.dl := by rw [← unhide HX']
    have hV : VI (n + 1) { s with ns := s.ns.set i (t.set3 X' p q p' q' v' { t.r with evs := t.r.evs.drop (kk) }) } := (unhide HC).vi.node (unhide HI) p q p' q' (hGd.mono (by omega)) hdl hvd
    have i2 := cell_at ((hb5.block t.b hl3).trans (unhide HREC3)) 2
    have hblk5 := (hb5.block t.rb hl4).trans (unhide HRA3).blk
    have i22 := cell_at hblk5 22
    have g22 := free_at hblk5 22
    simp only [refC, List.getElem?_toArray, List.getElem?_cons_zero, List.getElem?_cons_succ, unhide HEF] at i2 i22
    obtain ⟨vo5, vc5, hvf5, _⟩ := row_form ho5
    subst hvf5
    have hz5 := hb5.size
    have H6 := hide h6
    have HV := hide hV
    clear h6 hV hra6 hfr6 hft6 ho5 ho5' hg5 hb5 HVT H3 HRA3 HROW3 HREC3 hGd hblk5 j2 j22 HG HC hlen5 hdl
    go_wp2
    go_ret2
    exact ⟨_, rfl, _, unhide HL8, _, unhide H6, unhide HV, unhide HLL, unhide HMK⟩
  · go_wp2_with fail
    refine (unhide HS1).mono ?_
    rintro e w3 ⟨rfl, m1, rfl⟩
    go_wp2_with fail
    refine (unhide HS2 m1).mono ?_
    rintro e w3 ⟨rfl, m2, rfl⟩
    have h3 := ((unhide H2).draws m1).draws m2
    have hra3 : RAt ((w2.drewN m1).drewN m2) t.rb t.rv t.r := h3.atR (n := (t.setX p q X').setY p' q' X') (unhide HI2) (unhide HK).dr
    have hrow3 := own_below (unhide HROW) (below_draws (below_draws (Below.refl _ _) m1) m2)
    have hrec3 : ((w2.drewN m1).drewN m2).heap[t.b]? = some (.cells #[.pointer (some ⟨t.x.nb, 0, none⟩), .pointer (some ⟨t.y.nb, 0, none⟩), .pointer (some ⟨t.rb, 0, none⟩)] 88 (0, 0)) := h3.has (unhide HK).rc
    generalize (w2.drewN m1).drewN m2 = w3 at h3 hra3 hrow3 hrec3 ⊢
    have j2 := cell_at hrec3 2
    have j22 := hra3.cell 22
    simp only [refC, List.getElem?_toArray, List.getElem?_cons_zero, List.getElem?_cons_succ, unhide HEF] at j2 j22
    have hl3 := lt_blk hrec3
    have hl4 := hra3.ltb
    have H3 := hide h3
    have HRA3 := hide hra3
    have HROW3 := hide hrow3
    have HREC3 := hide hrec3
    clear h3 hra3 hrow3 hrec3 HS1 HS2 H2 HRA HROW k2 c22 f22
    go_wp2_with (refine wpList_tail rfl _ _ rfl etyK (0) rfl rfl (unhide HROW3) (by omega) ?_)
    intro vt hvt
    have hvt2 : Src w3 3 vt (t.x.x.evs.length - (0)) ((t.x.x.evs.drop (0)).flatMap keyC) := by
      have e := row_drop keyC 3 (fun _ => rfl) t.x.x.evs (0)
      rw [← e]
      first | exact hvt | (rw [Nat.sub_self]; exact hvt)
    have HVT := hide hvt2
    clear hvt hvt2
    go_wp2_with (at_builtin; refine wpList_app rfl _ _ rfl etyK w3.heap.size (n1 := 0) (xs1 := []) rfl rfl (World.ownsRow_nil _ _ _ _) (unhide HVT) (one_of oneKv _) (by omega) (Nat.le_refl _) ?_)
    intro v5 w5 ho5 hg5 _
    have hb5 : Below w3.heap.size w3 w5 := (Below.refl _ _).grown hg5 (Nat.le_refl _) (fun k e => by cases e)
    have hlen5 : (t.r.evs.drop (0)).length = 0 + (t.x.x.evs.length - (0)) := by rw [unhide HEV, List.length_drop]; omega
    have ho5' : w5.ownsRow 0 58 3 v5 (t.r.evs.drop (0)).length ((t.r.evs.drop (0)).flatMap keyC) := by
      rw [hlen5, unhide HEV]
      exact own_mono (by simpa using ho5) (Nat.zero_le _)
    obtain ⟨v', hvd, hra6, hfr6, hft6⟩ := (unhide HRA3).setE (l := t.r.evs.drop (0)) (Frm.of_below hb5 (Nat.le_refl _)) (fun g hg => .inr (own_lt ho5 hg).1) ho5'
    have h6 := (unhide H3).callR (unhide HI2) hra6 hfr6 hft6
    simp only [List.set_set] at h6
    have hGd := unhide HG
    have hdl : X'.dl = t.x.x.dl := by rw [← unhide HX']
    have hV : VI (n + 1) { s with ns := s.ns.set i (t.set3 X' p q p' q' v' { t.r with evs := t.r.evs.drop (0) }) } := (unhide HC).vi.node (unhide HI) p q p' q' (hGd.mono (by omega)) hdl hvd
    have i2 := cell_at ((hb5.block t.b hl3).trans (unhide HREC3)) 2
    have hblk5 := (hb5.block t.rb hl4).trans (unhide HRA3).blk
    have i22 := cell_at hblk5 22
    have g22 := free_at hblk5 22
    simp only [refC, List.getElem?_toArray, List.getElem?_cons_zero, List.getElem?_cons_succ, unhide HEF] at i2 i22
    obtain ⟨vo5, vc5, hvf5, _⟩ := row_form ho5
    subst hvf5
    have hz5 := hb5.size
    have H6 := hide h6
    have HV := hide hV
    clear h6 hV hra6 hfr6 hft6 ho5 ho5' hg5 hb5 HVT H3 HRA3 HROW3 HREC3 hGd hblk5 j2 j22 HG HC hlen5 hdl
    go_wp2
    go_ret2
    exact ⟨_, rfl, _, unhide HL8, _, unhide H6, unhide HV, unhide HLL, unhide HMK⟩
end Go.Proofs.YtnneljcbelgoeaaGreatDoor.wire
/- gossiplaw's onNode over nodes: Drain, See, See of the twin. -/
namespace Go.Proofs.YtnneljcbelgoeaaGreatDoor.wire
open Go.RowKit Go.Maps
theorem VI.kept {n : Nat} {s : Sg} (h : VI (n + 1) s) (hl : s.ls.length ≤ 2 * n) (hm : s.mark ≤ 2000 * (n : Int)) (k : Nat) (hk : k ≤ 1000) (v x y z lv wv : Value) (L LL : List K3) (hL : L.length ≤ 2000) (hLL : LL.length ≤ 2000) : VI (n + 1) { s with a := [], mark := s.mark + k + 2, lv := lv, wv := wv, ls := s.ls ++ [v] ++ [x], ws := s.ws ++ [y] ++ [z], fz := keysT z LL :: keysT y L :: keysT v L :: keysT x LL :: s.fz } := by
  have hf : ∀ q ∈ s.fz, q ∈ keysT z LL :: keysT y L :: keysT v L :: keysT x LL :: s.fz := fun q hq => by simp [hq]
  have m0 := h.m0
  exact { h with uf := hf _ h.uf, df := hf _ h.df, nk := fun t ht => (h.nk t ht).up (Nat.le_refl _) hf, hd := h.hd.pushL v x y z lv wv L LL _ [] hL hLL, ll := (by simp; omega), m0 := (by show 0 ≤ s.mark + k + 2; omega), m1 := (by show s.mark + k + 2 ≤ 2000 * ((n + 1 : Nat) : Int); omega), a := rfl }
set_option maxRecDepth 100000 in
set_option maxHeartbeats 1000000 in
theorem on_drain (n wb : Nat) (s : Sg) (w W : World) (h : VV n wb s w W) (hn : n ≤ 18000) (o : Op8) (hkd : o.kind = 16) (i : Nat) (t : Nt) (hi : s.ns[i]? = some t) :
    Calls Tryz.prog 20 #[.pointer (some ⟨wb, 0, none⟩), .pointer (some ⟨t.b, 0, none⟩), opv o] W fun e W' => e = .returned (.bool true) ∧ ∃ s', VV (n + 1) wb s' w W' := by
  obtain ⟨kind, a, b, c, d, e, x, S⟩ := o
  simp only at hkd
  subst hkd
  have HC := hide h
  have HI := hide hi
  clear h hi
  go_enter Tryz.func20, Tryz.ntmps20
  go_wp2_with fail
  refine (drained_s n wb s w _ ⟨(unhide HC).vs.alloc _, (unhide HC).vi⟩ hn i t (unhide HI) a).mono ?_
  rintro e' w1 ⟨o1, K, s1, rfl, hK, h1, hv1, hl1, hm1⟩
  have hrow : w1.ownsRow 0 76 3 o1 K.length (K.flatMap keyC) := Sep.rd h1 .ta _ (List.mem_singleton.2 rfl)
  obtain ⟨oo, oc, hof, _⟩ := row_form hrow
  subst hof
  have HKP := hide (keep_s wb _ w w1 h1 (by simp only; omega) (by simp only; rw [hv1.hd.lw]; omega) hv1.m0 (by simp only; omega) (.slice oo K.length oc) K (by omega) rfl)
  have HV1 := hide hv1
  clear h1 hrow hv1 HC HI
  go_wp2_with fail
  refine (unhide HKP).mono ?_
  rintro e' w2 ⟨rfl, lv, wv, x1, y1, z1, L, LL, hL, hLL, h2⟩
  have HF : Hid (VV (n + 1) wb _ w w2) := hide ⟨h2, (unhide HV1).kept hl1 hm1 K.length (by omega) (.slice oo K.length oc) x1 y1 z1 lv wv L LL (by omega) (by omega)⟩
  clear h2 HKP HV1
  go_wp2
  go_ret
  exact ⟨rfl, _, unhide HF⟩
set_option maxRecDepth 100000 in
set_option maxHeartbeats 1000000 in
theorem on_see (n wb : Nat) (s : Sg) (w W : World) (h : VV n wb s w W) (hn : n ≤ 18000) (o : Op8) (hkd : o.kind = 17 ∨ o.kind = 18) (i : Nat) (t : Nt) (hi : s.ns[i]? = some t) :
    Calls Tryz.prog 20 #[.pointer (some ⟨wb, 0, none⟩), .pointer (some ⟨t.b, 0, none⟩), opv o] W fun e W' => e = .returned (.bool true) ∧ ∃ s', VV (n + 1) wb s' w W' := by
  obtain ⟨kind, a, b, c, d, e, x, S⟩ := o
  simp only at hkd
  have hk := h.vi.nk t (List.mem_of_getElem? hi)
  have hrec : W.heap[t.b]? = some (.cells #[.pointer (some ⟨t.x.nb, 0, none⟩), .pointer (some ⟨t.y.nb, 0, none⟩), .pointer (some ⟨t.rb, 0, none⟩)] 88 (0, 0)) := h.vs.has hk.rc
  have k0 := cell_at hrec 0
  have k1 := cell_at hrec 1
  simp only [List.getElem?_toArray, List.getElem?_cons_zero, List.getElem?_cons_succ] at k0 k1
  have hltb := lt_blk hrec
  have hox : t.x.x.others.length ≤ 8 := by unfold Nd.others; rw [List.length_map]; have := List.length_filter_le (fun m => !(m.k.id == t.x.x.c.self)) t.x.x.tab; have := hk.gh.ok.len; omega
  have HC := hide h
  have HI := hide hi
  have HTW := hide hk.tw
  clear h hi hk hrec
  rcases hkd with rfl | rfl
  case' inl =>
    go_enter Tryz.func20, Tryz.ntmps20
    go_wp2_with fail
    have h0 := (unhide HC).vs.alloc (.cells #[.int .i64 17, .int .i64 x, .int .i64 a, .int .i64 b, .int .i64 c, .int .i64 d, .int .i64 e, .string (bs S)] 28)
    refine (seen_s wb s w _ h0 n (unhide HC).vi hn i t (unhide HI) t.x (h0.atX (unhide HI))).mono ?_
  case' inr =>
    go_enter Tryz.func20, Tryz.ntmps20
    go_wp2_with fail
    have h0 := (unhide HC).vs.alloc (.cells #[.int .i64 18, .int .i64 x, .int .i64 a, .int .i64 b, .int .i64 c, .int .i64 d, .int .i64 e, .string (bs S)] 28)
    refine (seen_s wb s w _ h0 n (unhide HC).vi hn i t (unhide HI) t.y (by have := h0.atY (unhide HI); rw [unhide HTW] at this; exact this)).mono ?_
  all_goals
    rintro e' w1 ⟨o1, rfl, h1⟩
    clear h0
    generalize t.x.x.others = K at h1 hox
    have hv := (unhide HC).vi
    have hll := hv.ll
    have hmk := hv.m1
    have hrow : w1.ownsRow 0 76 3 o1 K.length (K.flatMap keyC) := Sep.rd h1 .ta _ (List.mem_singleton.2 rfl)
    obtain ⟨oo, oc, hof, _⟩ := row_form hrow
    subst hof
    have HKP := hide (keep_s wb _ w w1 h1 (by simp only; omega) (by simp only; rw [hv.hd.lw]; omega) hv.m0 (by simp only; omega) (.slice oo K.length oc) K (by omega) rfl)
    have HV1 := hide hv.up
    clear h1 hrow hv HC HI k0 k1
    go_wp2_with fail
    refine (unhide HKP).mono ?_
    rintro e' w2 ⟨rfl, lv, wv, x1, y1, z1, L, LL, hL, hLL, h2⟩
    have HF : Hid (VV (n + 1) wb _ w w2) := hide ⟨h2, (unhide HV1).kept hll hmk K.length (by omega) (.slice oo K.length oc) x1 y1 z1 lv wv L LL (by omega) (by omega)⟩
    clear h2 HKP HV1
    go_wp2
    go_ret
    exact ⟨rfl, _, unhide HF⟩
end Go.Proofs.YtnneljcbelgoeaaGreatDoor.wire
