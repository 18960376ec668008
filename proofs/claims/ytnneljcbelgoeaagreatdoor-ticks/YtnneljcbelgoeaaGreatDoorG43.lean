import Derived.Test.YtnneljcbelgoeaaGreatDoorG40
import Derived.Test.YtnneljcbelgoeaaGreatDoorG35
import Derived.Test.YtnneljcbelgoeaaGreatDoorG21
import Derived.Test.YtnneljcbelgoeaaGreatDoorG42
/- gossiplaw's onNode over nodes: Receive, Tick. -/
namespace Go.Proofs.YtnneljcbelgoeaaGreatDoor.wire
open Go.RowKit Go.Maps
set_option maxRecDepth 100000 in
set_option maxHeartbeats 2000000 in
theorem on_recv (n wb : Nat) (s : Sg) (w W : World) (h : VV n wb s w W) (hn : n ≤ 18000) (o : Op8) (hkd : o.kind = 10) (ho : o.ok) (i : Nat) (t : Nt) (hi : s.ns[i]? = some t) :
    Calls Tryz.prog 20 #[.pointer (some ⟨wb, 0, none⟩), .pointer (some ⟨t.b, 0, none⟩), opv o] W fun e W' => e = .returned (.bool true) ∧ ∃ s', VV (n + 1) wb s' w W' := by
  have ha0 := ho.a0
  have ha1 := ho.a1
  obtain ⟨kind, a, b, c, d, e, x, S⟩ := o
  simp only at hkd ha0 ha1
  subst hkd
  have HC := hide h
  have HI := hide hi
  clear h hi ho
  go_enter Tryz.func20, Tryz.ntmps20
  go_wp2_with fail
  refine (text_s wb s w _ ((unhide HC).vs.alloc _) (by have := (unhide HC).vi.tn; omega) (unhide HC).vi.tl a ha0 ha1).mono ?_
  rintro e' w1 ⟨l, rfl, hl, k, rfl⟩
  go_wp2_with fail
  refine (received_s n wb s w _ ⟨((unhide HC).vs.alloc _).draws k, (unhide HC).vi⟩ hn i t (unhide HI) l hl).mono ?_
  rintro e' w2 ⟨rfl, s', hs'⟩
  have HS := hide hs'
  clear hs'
  go_wp2
  go_ret
  exact ⟨rfl, s', unhide HS⟩
set_option maxRecDepth 100000 in
set_option maxHeartbeats 2000000 in
theorem on_tick (n wb : Nat) (s : Sg) (w W : World) (h : VV n wb s w W) (hn : n ≤ 18000) (o : Op8) (hkd : o.kind = 15) (i : Nat) (t : Nt) (hi : s.ns[i]? = some t) :
    Calls Tryz.prog 20 #[.pointer (some ⟨wb, 0, none⟩), .pointer (some ⟨t.b, 0, none⟩), opv o] W fun e W' => e = .returned (.bool true) ∧ ∃ s', VV (n + 1) wb s' w W' := by
  obtain ⟨kind, a, b, c, d, e, x, S⟩ := o
  simp only at hkd
  subst hkd
  have h : VV n wb s w (W.alloc (.cells #[.int .i64 15, .int .i64 x, .int .i64 a, .int .i64 b, .int .i64 c, .int .i64 d, .int .i64 e, .string (bs S)] 28)) := ⟨h.vs.alloc _, h.vi⟩
  have hk := h.vi.nk t (List.mem_of_getElem? hi)
  have hrec : (W.alloc (.cells #[.int .i64 15, .int .i64 x, .int .i64 a, .int .i64 b, .int .i64 c, .int .i64 d, .int .i64 e, .string (bs S)] 28)).heap[t.b]? = some (.cells #[.pointer (some ⟨t.x.nb, 0, none⟩), .pointer (some ⟨t.y.nb, 0, none⟩), .pointer (some ⟨t.rb, 0, none⟩)] 88 (0, 0)) := h.vs.has hk.rc
  have k0 := cell_at hrec 0
  simp only [List.getElem?_toArray, List.getElem?_cons_zero] at k0
  have hltb := lt_blk hrec
  have hBg : NdB Bt t.x.x := hk.gh.b.mono (by unfold Bt; omega)
  have hG := hk.gh.ticked (by omega)
  have HX := hide (tick_any hk.gh.ok hk.gh.dl hBg (h.vs.atX hi))
  have HK := hide hk
  have HC := hide h
  have HI := hide hi
  have HG := hide hG
  clear h hk hi hrec hG hBg
  go_enter Tryz.func20, Tryz.ntmps20
  go_wp2_with fail
  generalize W.alloc (.cells #[.int .i64 15, .int .i64 x, .int .i64 a, .int .i64 b, .int .i64 c, .int .i64 d, .int .i64 e, .string (bs S)] 28) = W0 at HC HX k0 hltb ⊢
  refine (unhide HX).mono ?_
  rintro e' w1 ⟨o1, rfl, ho1, ht1⟩
  obtain ⟨p, q, h1⟩ := (unhide HC).vs.gotX (unhide HI) ht1 ho1 (by decide) (by decide) (by decide) (by decide)
  have hi1 : (s.ns.set i (t.setX p q t.x.x.tick.2))[i]? = some (t.setX p q t.x.x.tick.2) := List.getElem?_set_self (List.getElem?_eq_some_iff.1 (unhide HI)).1
  have hrec1 : w1.heap[t.b]? = some (.cells #[.pointer (some ⟨t.x.nb, 0, none⟩), .pointer (some ⟨t.y.nb, 0, none⟩), .pointer (some ⟨t.rb, 0, none⟩)] 88 (0, 0)) := h1.has (unhide HK).rc
  have k1 := cell_at hrec1 1
  simp only [List.getElem?_toArray, List.getElem?_cons_zero, List.getElem?_cons_succ] at k1
  have hltb1 := lt_blk hrec1
  have hBg1 : NdB Bt t.y.x := by rw [(unhide HK).tw]; exact (unhide HK).gh.b.mono (by unfold Bt; omega)
  have hdl1 : DlOk t.y.x.dl := by rw [(unhide HK).tw]; exact (unhide HK).gh.dl
  have hok1 : NdOk t.y.x := by rw [(unhide HK).tw]; exact (unhide HK).gh.ok
  have HY := hide (tick_any hok1 hdl1 hBg1 (h1.atY (n := t.setX p q t.x.x.tick.2) hi1))
  have H1 := hide h1
  have HI1 := hide hi1
  clear h1 hi1 hrec1 ho1 ht1 HX k0 hBg1 hok1 hdl1
  go_wp2_with fail
  refine (unhide HY).mono ?_
  rintro e' w2 ⟨o2, rfl, ho2, ht2⟩
  rw [(unhide HK).tw] at ho2 ht2
  obtain ⟨p', q', h2⟩ := (unhide H1).gotY (t := t.setX p q t.x.x.tick.2) (unhide HI1) ht2 ho2 (by decide) (by decide) (by decide) (by decide)
  simp only [List.set_set] at h2
  have hi2 : (s.ns.set i ((t.setX p q t.x.x.tick.2).setY p' q' t.x.x.tick.2))[i]? = some ((t.setX p q t.x.x.tick.2).setY p' q' t.x.x.tick.2) := List.getElem?_set_self (List.getElem?_eq_some_iff.1 (unhide HI)).1
  have hrec2 : w2.heap[t.b]? = some (.cells #[.pointer (some ⟨t.x.nb, 0, none⟩), .pointer (some ⟨t.y.nb, 0, none⟩), .pointer (some ⟨t.rb, 0, none⟩)] 88 (0, 0)) := h2.has (unhide HK).rc
  have k2 := cell_at hrec2 2
  simp only [List.getElem?_toArray, List.getElem?_cons_zero, List.getElem?_cons_succ] at k2
  have hltb2 := lt_blk hrec2
  have HR := hide (rtick_any (unhide HK).gh (by omega) (h2.atR (n := (t.setX p q t.x.x.tick.2).setY p' q' t.x.x.tick.2) hi2 (unhide HK).dr))
  have H2 := hide h2
  have HI2 := hide hi2
  clear h2 hi2 hrec2 ho2 ht2 HY k1 H1 HI1
  go_wp2_with fail
  refine (unhide HR).mono ?_
  rintro e' w3 ⟨o3, rfl, v', hvd, hra, hfr, hft, rfl⟩
  have h3 := (unhide H2).callR (unhide HI2) hra hfr hft
  simp only [List.set_set] at h3
  have hV : VI (n + 1) { s with ns := s.ns.set i (t.set3 t.x.x.tick.2 p q p' q' v' t.r.tick) } := (unhide HC).vi.node (unhide HI) p q p' q' ((unhide HG).gh.mono (by omega)) (unhide HG).dl hvd
  have hi3 : (s.ns.set i (t.set3 t.x.x.tick.2 p q p' q' v' t.r.tick))[i]? = some (t.set3 t.x.x.tick.2 p q p' q' v' t.r.tick) := List.getElem?_set_self (List.getElem?_eq_some_iff.1 (unhide HI)).1
  have hvi := (unhide HC).vi
  have HS := hide (sends_s wb { s with ns := s.ns.set i (t.set3 t.x.x.tick.2 p q p' q' v' t.r.tick), a := [pksT o1 t.x.x.tick.1], b := [pksT o2 t.x.x.tick.1] } w w3 h3 (hV.hd.of rfl rfl rfl rfl (fun _ q => q)) (by have := hvi.ol; simp only; omega) hvi.m0 (by have := hvi.m1; simp only; omega) hvi.pn o1 o2 i (t.set3 t.x.x.tick.2 p q p' q' v' t.r.tick) hi3 (by show t.r.tick.out.length ≤ 900; rw [(unhide HG).out]; have := (unhide HG).len; omega) (by show _ = [pksT o1 t.r.tick.out]; rw [(unhide HG).out]) (by show _ = [pksT o2 t.r.tick.out]; rw [(unhide HG).out]))
  have HV := hide hV
  have HO := hide hvi.ol
  have HM := hide hvi.m1
  clear h3 hra hfr hft hV hi3 hvi HR H2 HI2 k2 HC
  go_wp2_with fail
  refine (unhide HS).mono ?_
  rintro e' w4 ⟨rfl, pv, ov, kv, ps, os, ks, mark, fz, h4, hw, hh, hos, hmk, hf⟩
  have HF : Hid (VV (n + 1) wb { s with ns := s.ns.set i (t.set3 t.x.x.tick.2 p q p' q' v' t.r.tick), a := [], b := [], pv := pv, ps := ps, ov := ov, kv := kv, os := os, ks := ks, mark := mark, fz := fz } w w4) := hide ⟨h4, VI.sent (s := { s with ns := s.ns.set i (t.set3 t.x.x.tick.2 p q p' q' v' t.r.tick) }) (l := t.r.tick.out) (unhide HV) (by rw [(unhide HG).out]; exact (unhide HG).len) (by rw [(unhide HG).out]; exact (unhide HG).small) (unhide HO) (unhide HM) ⟨hw.len, hw.of⟩ hh hos hmk hf⟩
  clear h4 hw hh hos hmk hf HS
  go_wp2
  go_ret
  exact ⟨rfl, _, unhide HF⟩
end Go.Proofs.YtnneljcbelgoeaaGreatDoor.wire
/- gossiplaw's onNode over nodes: Leave. -/
namespace Go.Proofs.YtnneljcbelgoeaaGreatDoor.wire
open Go.RowKit Go.Maps
set_option maxRecDepth 100000 in
set_option maxHeartbeats 2000000 in
theorem on_leave (n wb : Nat) (s : Sg) (w W : World) (h : VV n wb s w W) (hn : n ≤ 18000) (o : Op8) (hkd : o.kind = 14) (i : Nat) (t : Nt) (hi : s.ns[i]? = some t) (hg : w.cell? ⟨0, 0, none⟩ = some (.iface 207 (.agg #[.pointer (some ⟨1, 64, none⟩)]))) (hlt : 0 < w.heap.size) :
    Calls Tryz.prog 20 #[.pointer (some ⟨wb, 0, none⟩), .pointer (some ⟨t.b, 0, none⟩), opv o] W fun e W' => e = .returned (.bool true) ∧ ∃ s', VV (n + 1) wb s' w W' := by
  obtain ⟨kind, a, b, c, d, e, x, S⟩ := o
  simp only at hkd
  subst hkd
  have h : VV n wb s w (W.alloc (.cells #[.int .i64 14, .int .i64 x, .int .i64 a, .int .i64 b, .int .i64 c, .int .i64 d, .int .i64 e, .string (bs S)] 28)) := ⟨h.vs.alloc _, h.vi⟩
  have hk := h.vi.nk t (List.mem_of_getElem? hi)
  have hrec : (W.alloc (.cells #[.int .i64 14, .int .i64 x, .int .i64 a, .int .i64 b, .int .i64 c, .int .i64 d, .int .i64 e, .string (bs S)] 28)).heap[t.b]? = some (.cells #[.pointer (some ⟨t.x.nb, 0, none⟩), .pointer (some ⟨t.y.nb, 0, none⟩), .pointer (some ⟨t.rb, 0, none⟩)] 88 (0, 0)) := h.vs.has hk.rc
  have k0 := cell_at hrec 0
  simp only [List.getElem?_toArray, List.getElem?_cons_zero] at k0
  have hltb := lt_blk hrec
  have hBg : NdB Big t.x.x := hk.gh.b.mono (by unfold Big; omega)
  have hG := hk.gh.leftX
  have HX := hide (leaves_any hk.gh.ok hBg (h.vs.atX hi))
  have HK := hide hk
  have HC := hide h
  have HI := hide hi
  have HG := hide hG
  have HGT := hide hg
  clear h hk hi hrec hG hBg hg
  go_enter Tryz.func20, Tryz.ntmps20
  go_wp2_with fail
  generalize W.alloc (.cells #[.int .i64 14, .int .i64 x, .int .i64 a, .int .i64 b, .int .i64 c, .int .i64 d, .int .i64 e, .string (bs S)] 28) = W0 at HC HX k0 hltb ⊢
  refine (unhide HX).mono ?_
  rintro e' w1 ⟨rfl, ht1⟩
  obtain ⟨p, q, h1⟩ := (unhide HC).vs.callX (unhide HI) ht1
  have hi1 : (s.ns.set i (t.setX p q t.x.x.leaveX))[i]? = some (t.setX p q t.x.x.leaveX) := List.getElem?_set_self (List.getElem?_eq_some_iff.1 (unhide HI)).1
  have hrec1 : w1.heap[t.b]? = some (.cells #[.pointer (some ⟨t.x.nb, 0, none⟩), .pointer (some ⟨t.y.nb, 0, none⟩), .pointer (some ⟨t.rb, 0, none⟩)] 88 (0, 0)) := h1.has (unhide HK).rc
  have k1 := cell_at hrec1 1
  simp only [List.getElem?_toArray, List.getElem?_cons_zero, List.getElem?_cons_succ] at k1
  have hltb1 := lt_blk hrec1
  have hBg1 : NdB Big t.y.x := by rw [(unhide HK).tw]; exact (unhide HK).gh.b.mono (by unfold Big; omega)
  have hok1 : NdOk t.y.x := by rw [(unhide HK).tw]; exact (unhide HK).gh.ok
  have HY := hide (leaves_any hok1 hBg1 (h1.atY (n := t.setX p q t.x.x.leaveX) hi1))
  rw [(unhide HK).tw] at HY
  have H1 := hide h1
  have HI1 := hide hi1
  clear h1 hi1 hrec1 ht1 HX k0 hBg1 hok1
  generalize t.x.x.leaveErr = er at HG HY ⊢
  generalize hev : errV er = ev at HY ⊢
  have HEV := hide hev
  clear hev
  go_wp2_with fail
  refine (unhide HY).mono ?_
  rintro e' w2 ⟨rfl, ht2⟩
  obtain ⟨p', q', h2⟩ := (unhide H1).callY (n := t.setX p q t.x.x.leaveX) (unhide HI1) ht2
  simp only [List.set_set] at h2
  have hi2 : (s.ns.set i ((t.setX p q t.x.x.leaveX).setY p' q' t.x.x.leaveX))[i]? = some ((t.setX p q t.x.x.leaveX).setY p' q' t.x.x.leaveX) := List.getElem?_set_self (List.getElem?_eq_some_iff.1 (unhide HI)).1
  have hrec2 : w2.heap[t.b]? = some (.cells #[.pointer (some ⟨t.x.nb, 0, none⟩), .pointer (some ⟨t.y.nb, 0, none⟩), .pointer (some ⟨t.rb, 0, none⟩)] 88 (0, 0)) := h2.has (unhide HK).rc
  have k2 := cell_at hrec2 2
  simp only [List.getElem?_toArray, List.getElem?_cons_zero, List.getElem?_cons_succ] at k2
  have hltb2 := lt_blk hrec2
  have hbs := (unhide HK).gh.bs (by unfold Big; omega)
  have HR := hide (rleave_any (h2.atR (n := (t.setX p q t.x.x.leaveX).setY p' q' t.x.x.leaveX) hi2 (unhide HK).dr) hbs.evs (by have := hbs.queue; omega) hbs.lost)
  rw [(unhide HG).2.2] at HR
  have H2 := hide h2
  have HI2 := hide hi2
  clear h2 hi2 hrec2 ht2 HY k1 H1 HI1 hbs
  go_wp2_with fail
  refine (unhide HR).mono ?_
  rintro e' w3 ⟨rfl, v', hvd, hra, hfr, hft⟩
  have h3 := (unhide H2).callR (unhide HI2) hra hfr hft
  simp only [List.set_set] at h3
  have hV : VI (n + 1) { s with ns := s.ns.set i (t.set3 t.x.x.leaveX p q p' q' v' t.r.leaveX) } := (unhide HC).vi.node (unhide HI) p q p' q' ((unhide HG).1.mono (by omega)) (unhide HG).2.1 hvd
  have HF : Hid (VV (n + 1) wb { s with ns := s.ns.set i (t.set3 t.x.x.leaveX p q p' q' v' t.r.leaveX) } w w3) := hide ⟨h3, hV⟩
  clear h3 hra hfr hft hV HR H2 HI2 k2 HC
  rw [← unhide HEV]
  go_wp2_with fail
  refine (ltold_any er w3 ((unhide HF).vs.gate hlt (unhide HGT))).mono ?_
  rintro e' w4 ⟨rfl, hb4⟩
  have HB4 := hide hb4
  clear hb4
  go_wp2_with fail
  refine (ltold_any er w4 (((unhide HF).vs.mono (unhide HB4)).gate hlt (unhide HGT))).mono ?_
  rintro e' w5 ⟨rfl, hb5⟩
  have HB5 := hide hb5
  clear hb5
  go_wp2
  go_ret
  exact ⟨rfl, _, ((unhide HF).vs.mono (unhide HB4)).mono (unhide HB5), (unhide HF).vi⟩
end Go.Proofs.YtnneljcbelgoeaaGreatDoor.wire
/- gossiplaw's delivered over nodes: a packet comes to whom it is sent. -/
namespace Go.Proofs.YtnneljcbelgoeaaGreatDoor.wire
open Go.RowKit Go.Maps
theorem VI.fzx {n : Nat} {s : Sg} (h : VI n s) (q : Th) : VI n { s with fz := q :: s.fz } :=
  { h with uf := List.mem_cons_of_mem _ h.uf, df := List.mem_cons_of_mem _ h.df, nk := fun t ht => (h.nk t ht).up (Nat.le_refl _) (fun _ hq => List.mem_cons_of_mem _ hq), hd := h.hd.of rfl rfl rfl rfl (fun _ hq => List.mem_cons_of_mem _ hq) }
/-- A new block that nobody writes. -/
theorem VS.block {wb : Nat} {s : Sg} {w W : World} (h : VS wb s w W) (cs : Array Value) (t : TypeId) : VS wb { s with fz := cellsT W.heap.size cs t :: s.fz } w (W.alloc (.cells cs t)) := by
  refine (h.alloc (.cells cs t)).freeze (s' := { s with fz := cellsT W.heap.size cs t :: s.fz }) [cellsT W.heap.size cs t] (by intro q hq; simp at hq; subst hq; exact heap_alloc_new W _) (fun q hq k hk => ?_) rfl (fun q hq => by cases q <;> first | rfl | exact absurd rfl hq)
  simp at hq; subst hq
  simp [cellsT] at hk; subst hk
  obtain ⟨a1, a2⟩ := h.beyond (Nat.le_refl W.heap.size)
  exact ⟨a1, fun j _ => a2 j⟩
set_option maxRecDepth 100000 in
set_option maxHeartbeats 4000000 in
theorem delivered_s (n wb : Nat) (s : Sg) (w W : World) (h : VV n wb s w W) (hn : n ≤ 18000) (o : Op8) (ho : o.ok) :
    Calls Tryz.prog 18 #[.pointer (some ⟨wb, 0, none⟩), opv o] W fun e W' => e = .returned (.bool true) ∧ ∃ s', VV (n + 1) wb s' w W' := by
  have ha0 := ho.a0
  have ha1 := ho.a1
  have HC := hide h
  obtain ⟨kind, a, b, c, d, e, x, S⟩ := o
  simp only at ha0 ha1
  have hpn := h.vi.pn
  have hrow : W.ownsRow 0 60 2 s.pv s.ps.length (s.ps.flatMap pkC) := Sep.rd h.vs .ow
  obtain ⟨po, pc, hpf, hpb, _⟩ := row_form hrow
  have c15 : W.cell? ⟨wb, 15, none⟩ = some s.pv := h.vs.cell 15
  rw [hpf] at c15 hrow
  have hwl := h.vs.lt
  clear hpf h ho
  by_cases hz : s.ps.length = 0
  · have hz' : (s.ps.length : Int) = 0 := by omega
    clear hrow hpb
    go_enter Tryz.func18, Tryz.ntmps18
    go_wp2
    go_ret
    exact ⟨rfl, _, (unhide HC).vs.alloc _, (unhide HC).vi.up⟩
  · obtain ⟨q0, q1⟩ := pickW_bd a (s.ps.length : Int) (by omega)
    obtain ⟨q, hq⟩ := Int.eq_ofNat_of_zero_le q0
    have hql : q < s.ps.length := by omega
    have hqi : (q : Int) < (s.ps.length : Int) := by omega
    have hz' : (0 : Int) < (s.ps.length : Int) := by omega
    have hz2 : ¬ (s.ps.length : Int) = 0 := by omega
    have hlp : (s.ps.length : Int) ≤ 4294967296 := by omega
    have HP := hide (fun W' => lpick_any a (s.ps.length : Int) W' ha0 ha1 hz' hlp)
    rw [hq] at HP
    clear q0 q1 hq
    obtain ⟨pb, rfl, hpb'⟩ := hpb (by omega)
    have p0 : W.cell? ⟨pb, q * 2, none⟩ = _ := row_cell pkC 2 (fun _ => rfl) hrow q hql 0 (by omega)
    have p1 : W.cell? ⟨pb, q * 2 + 1, none⟩ = _ := row_cell pkC 2 (fun _ => rfl) hrow q hql 1 (by omega)
    simp only [pkC, List.getElem?_cons_zero, List.getElem?_cons_succ] at p0 p1
    have hpl := (unhide HC).vi.pl _ (List.getElem_mem hql)
    generalize s.ps[q].dest = pd at p0
    generalize s.ps[q].bytes = pt at p1 hpl
    clear hrow
    have HV : Hid (∀ nq, ∃ s1, VV n wb s1 w (((W.alloc (.cells #[.int .i64 kind, .int .i64 x, .int .i64 a, .int .i64 b, .int .i64 c, .int .i64 d, .int .i64 e, .string (bs S)] 28)).drewN nq).alloc (.cells #[.int .i64 pd, .string (bs pt)] 60)) ∧ cellsT (W.heap.size + 1) #[.int .i64 pd, .string (bs pt)] 60 ∈ s1.fz ∧ s1.ps = s.ps) := hide (fun nq => by
      have h1 := ((((unhide HC).vs.alloc (.cells #[.int .i64 kind, .int .i64 x, .int .i64 a, .int .i64 b, .int .i64 c, .int .i64 d, .int .i64 e, .string (bs S)] 28)).draws nq).block #[.int .i64 pd, .string (bs pt)] 60)
      refine ⟨_, ⟨h1, (unhide HC).vi.fzx _⟩, ?_, rfl⟩
      have e : ((W.alloc (.cells #[.int .i64 kind, .int .i64 x, .int .i64 a, .int .i64 b, .int .i64 c, .int .i64 d, .int .i64 e, .string (bs S)] 28)).drewN nq).heap.size = W.heap.size + 1 := by simp
      rw [e]
      exact List.mem_cons_self ..)
    by_cases hb1 : b = 1
    case' pos =>
      subst hb1
      go_enter Tryz.func18, Tryz.ntmps18
      go_wp2_with fail
      go_quiet ((go_at_call 19; exact Calls.quiet_of_same (unhide HP _)))
      go_wp2_with fail
      obtain ⟨s1, hs1, hf1, _⟩ := unhide HV nq
      clear HV HC HP c15 p0 p1
      generalize ((W.alloc (.cells #[.int .i64 kind, .int .i64 x, .int .i64 a, .int .i64 1, .int .i64 c, .int .i64 d, .int .i64 e, .string (bs S)] 28)).drewN nq).alloc (.cells #[.int .i64 pd, .string (bs pt)] 60) = X at hs1 ⊢
    case' neg =>
      go_enter Tryz.func18, Tryz.ntmps18
      go_wp2_with fail
      go_quiet ((go_at_call 19; exact Calls.quiet_of_same (unhide HP _)))
      go_wp2_with fail
      obtain ⟨s0, hs0, hf0, he0⟩ := unhide HV nq
      refine (take_s wb s0 w _ hs0.vs hs0.vi.pn q (by rw [he0]; exact hql)).mono ?_
      rintro e' X ⟨⟨v, rfl⟩, pv, hs1'⟩
      obtain ⟨s1, hs1, hf1⟩ : ∃ s1, VV n wb s1 w X ∧ cellsT (W.heap.size + 1) #[.int .i64 pd, .string (bs pt)] 60 ∈ s1.fz := ⟨_, ⟨hs1', hs0.vi.lose q pv⟩, hf0⟩
      clear HV HC HP c15 p0 p1 hs1' hs0 hf0 he0
      have HS1 := hide hs1
      have HF1 := hide hf1
      clear hs1 hf1
      go_wp2_with fail
      have hs1 := unhide HS1
      have hf1 := unhide HF1
      clear HS1 HF1
    all_goals
      have hbox : X.heap[W.heap.size + 1]? = some (.cells #[.int .i64 pd, .string (bs pt)] 60 (0, 0)) := hs1.vs.has hf1
      have b0 := cell_at hbox 0
      have b1 := cell_at hbox 1
      simp only [List.getElem?_toArray, List.getElem?_cons_zero, List.getElem?_cons_succ] at b0 b1
      have hnrow : X.ownsRow 0 51 1 s1.nv s1.ns.length (s1.ns.map fun n => .pointer (some ⟨n.b, 0, none⟩)) := Sep.rd hs1.vs .nd
      obtain ⟨no, nc, hnf, _⟩ := row_form hnrow
      have c14 : X.cell? ⟨wb, 14, none⟩ = some s1.nv := hs1.vs.cell 14
      rw [hnf] at c14 hnrow
      have hnn := hs1.vi.nn
      have hwl1 := hs1.vs.lt
      have HS := hide hs1
      have HN := hide hnrow
      clear hs1 hf1 hbox hnrow hnf
      go_loopw [7] (fun i wr => ∃ (j k : Nat), j ≤ s1.ns.length ∧ i = .int .i64 j ∧ wr = X.drewN k) (fun i _ => s1.ns.length - (intOf i).toNat)
      case atStart => exact ⟨0, 0, Nat.zero_le _, rfl, rfl⟩
      case round =>
        obtain ⟨j, k, hj, rfl, rfl⟩ := hrel
        by_cases hlt : j < s1.ns.length
        · have hji : (j : Int) < (s1.ns.length : Int) := by omega
          have hi : s1.ns[j]? = some s1.ns[j] := List.getElem?_eq_getElem hlt
          obtain ⟨g, gc, e1, _, hcl⟩ := own_cell1 (unhide HN) j (.pointer (some ⟨(s1.ns[j]).b, 0, none⟩)) (by rw [List.getElem?_map, hi]; rfl)
          simp only [Value.slice.injEq] at e1
          obtain ⟨rfl, _, rfl⟩ := e1
          generalize s1.ns[j] = t at hi hcl
          have hk := (unhide HS).vi.nk t (List.mem_of_getElem? hi)
          have hrec : X.heap[t.b]? = some (.cells #[.pointer (some ⟨t.x.nb, 0, none⟩), .pointer (some ⟨t.y.nb, 0, none⟩), .pointer (some ⟨t.rb, 0, none⟩)] 88 (0, 0)) := (unhide HS).vs.has hk.rc
          have k2 := cell_at hrec 2
          have hra := (unhide HS).vs.atR hi hk.dr
          have r10 := hra.cell 10
          simp only [refC, List.getElem?_toArray, List.getElem?_cons_zero, List.getElem?_cons_succ] at k2 r10
          have HI := hide hi
          clear hi hk hrec hra
          by_cases hid : t.r.self.id = pd
          · have HR := hide (fun (Y : World) (hY : Below X.heap.size X Y) => received_s n wb s1 w Y ⟨(unhide HS).vs.mono hY, (unhide HS).vi⟩ hn j t (unhide HI) pt (by omega))
            go_wp2_with fail
            go_quiet (fail)
            go_wp2_with fail
            go_region_with (go_at_call 35; refine (unhide HR _ (below_draws (Below.refl _ _) _)).mono ?_; rintro e' w5 ⟨rfl, s5, hs5⟩)
            all_goals
              have HS5 := hide hs5
              clear hs5 HR
              go_wp2_with fail
              refine (looks_s wb s5 w w5 (unhide HS5).vs (unhide HS5).vi.hd (by have := (unhide HS5).vi.ll; omega) (by have := (unhide HS5).vi.ol; omega)).mono ?_
              rintro e' w6 ⟨rfl, k6, rfl⟩
              go_wp2
              go_ret
              exact ⟨rfl, _, (unhide HS5).vs.draws k6, (unhide HS5).vi⟩
          · go_wp2_with fail
            go_quiet (fail)
            go_wp2
            go_roundw
            case rel => exact ⟨j + 1, _, by omega, by go_num, rfl⟩
            case measure => simp [intOf]; omega
        · go_wp2
          go_ret
          exact ⟨rfl, _, (unhide HS).vs.draws k, (unhide HS).vi.up⟩
end Go.Proofs.YtnneljcbelgoeaaGreatDoor.wire
