import Derived.Test.YtnneljcbelgoeaaGreatNUps
import Derived.Test.YtnneljcbelgoeaaGreatNRefutes
import Derived.Deep.CutRange
/- Bounded: nothing grows without a bound. -/
namespace Go.Proofs.YtnneljcbelgoeaaGreat.wire
open Go.RowKit Go.Maps

/-- Texts that came in. -/
structure RawS (W : World) (ao : Option Addr) (l : List (List UInt8)) : Prop where
  ex : 0 < l.length → ∃ b off, ao = some ⟨b, off, none⟩ ∧ b < W.heap.size ∧ ∀ (i : Nat) (h : i < l.length), W.cell? ⟨b, off + i, none⟩ = some (.string (bs l[i]))
  len : ∀ s ∈ l, s.length ≤ maxLen
/-- The cells of what is seen of a node. -/
def seenC (y : Nd) (v : Value) : Array Value := #[.int .i64 y.clock, .int .i64 y.own.id, .int .i64 y.own.inc, .int .i64 y.own.st, v, .int .i64 y.ptgt, .int .i64 y.pending, .int .i64 y.rels.length, .int .i64 y.dropped, .int .i64 y.lost]
/-- A node that is the law's own. -/
structure Mine (W wr : World) (nb mb : Nat) (cb : Dk) (y : Nd) : Prop where
  ex : ∃ pv rv, NAt wr nb mb cb pv rv y ∧ ∀ k ∈ feet nb mb cb pv rv, W.heap.size ≤ k
  below : Below W.heap.size W wr
theorem Mine.mono {W wr w' : World} {nb mb : Nat} {cb : Dk} {y : Nd} (h : Mine W wr nb mb cb y) (hb : Below wr.heap.size wr w') : Mine W w' nb mb cb y := by
  obtain ⟨pv, rv, hn, hf⟩ := h.ex
  exact ⟨⟨pv, rv, hn.below hb, hf⟩, h.below.trans (hb.mono h.below.size)⟩
theorem Mine.goes {W wr w' : World} {nb mb : Nat} {cb : Dk} {y y' : Nd} {pv rv : Value} (_hn : NAt wr nb mb cb pv rv y) (hf : ∀ k ∈ feet nb mb cb pv rv, W.heap.size ≤ k) (hb : Below W.heap.size W wr) (hto : NTo wr w' nb mb cb pv rv y') : Mine W w' nb mb cb y' := by
  obtain ⟨pv', rv', hn', hf', hs'⟩ := hto
  refine ⟨⟨pv', rv', hn', fun k hk => ?_⟩, below_frm hb hf' hf hb.size⟩
  rcases hs' k hk with h | h
  · exact hf k h
  · exact Nat.le_trans hb.size h
/-- A block aside of the node is left alone. -/
theorem Mine.aside {wr w' : World} {nb mb : Nat} {cb : Dk} {y y' : Nd} {pv rv : Value} (hn : NAt wr nb mb cb pv rv y) (hto : NTo wr w' nb mb cb pv rv y') {b : Nat} {cs : Array Value} {t : TypeId} (hb : wr.heap[b]? = some (.cells cs t (0, 0))) (h1 : t ≠ 70) (h2 : t ≠ 3) (h3 : t ≠ 107) (h4 : t ≠ 22) : w'.heap[b]? = some (.cells cs t (0, 0)) := by
  obtain ⟨pv', rv', _, hf', _⟩ := hto
  exact (hf'.block b (lt_blk hb) (hn.not_feet hb h1 h2 h3 h4)).trans hb
/-- What the node keeps to, all along. -/
structure BdOk (k : Nat) (y : Nd) : Prop where
  ok : NdOk y
  b : NdB (5000 + 40 * k) y
  dl : DlOk y.dl
  rel : RelOk y
  self : y.c.self = 1
  k2 : Knows 2 y
  k3 : Knows 3 y
theorem BdOk.got {k : Nat} {y : Nd} (h : BdOk k y) (l : List UInt8) : NdOk (y.receive l).2 ∧ NdB (5000 + 40 * k + 10) (y.receive l).2 ∧ DlOk (y.receive l).2.dl ∧ RelOk (y.receive l).2 ∧ (y.receive l).2.c.self = 1 ∧ Knows 2 (y.receive l).2 ∧ Knows 3 (y.receive l).2 := by
  obtain ⟨g, _⟩ := receive_keeps h.ok l
  exact ⟨g.ok, g.b _ h.b, by rw [g.up.dl]; exact h.dl, g.rel h.rel, by rw [g.up.c]; exact h.self, knows_up g.up h.k2, knows_up g.up h.k3⟩
theorem BdOk.next {k : Nat} {y : Nd} (h : BdOk k y) (l : List UInt8) : BdOk (k + 1) (y.receive l).2.tick.2 := by
  obtain ⟨a, b, c, d, e, f, g⟩ := h.got l
  have u := Up.tick a
  exact ⟨tick_ok a, (tick_b a b).mono (by omega), by rw [u.dl]; exact c, d.tick, by rw [u.c]; exact e, knows_up u f, knows_up u g⟩
theorem BdOk.two {k : Nat} {y : Nd} (h : BdOk k y) : 2 ≤ y.others.length := by
  have := others_ge (x := y) [2, 3] (by decide) (fun i hi => by
    rw [h.self]
    simp at hi
    rcases hi with rfl | rfl
    · exact ⟨by decide, h.k2⟩
    · exact ⟨by decide, h.k3⟩)
  simpa using this
/-- What is seen is laid over what was seen. -/
def World.overB (w : World) (b : Nat) (y : Nd) (v : Value) : World := ((((((((((w.setCell ⟨b, 0, none⟩ (.int .i64 y.clock)).setCell ⟨b, 1, none⟩ (.int .i64 y.own.id)).setCell ⟨b, 2, none⟩ (.int .i64 y.own.inc)).setCell ⟨b, 3, none⟩ (.int .i64 y.own.st)).setCell ⟨b, 4, none⟩ (v)).setCell ⟨b, 5, none⟩ (.int .i64 y.ptgt)).setCell ⟨b, 6, none⟩ (.int .i64 y.pending)).setCell ⟨b, 7, none⟩ (.int .i64 y.rels.length)).setCell ⟨b, 8, none⟩ (.int .i64 y.dropped)).setCell ⟨b, 9, none⟩ (.int .i64 y.lost))
theorem over_box {w : World} {b : Nat} {y0 : Nd} {v0 : Value} (h : w.heap[b]? = some (.cells (seenC y0 v0) 43 (0, 0))) (y : Nd) (v : Value) : (World.overB w b y v).heap[b]? = some (.cells (seenC y v) 43 (0, 0)) ∧ Frm [b] w (World.overB w b y v) := by
  constructor
  · have g0 := heap_setCell_same w b 0 _ _ (.int .i64 y.clock) h
    have g1 := heap_setCell_same _ b 1 _ _ (.int .i64 y.own.id) g0
    have g2 := heap_setCell_same _ b 2 _ _ (.int .i64 y.own.inc) g1
    have g3 := heap_setCell_same _ b 3 _ _ (.int .i64 y.own.st) g2
    have g4 := heap_setCell_same _ b 4 _ _ v g3
    have g5 := heap_setCell_same _ b 5 _ _ (.int .i64 y.ptgt) g4
    have g6 := heap_setCell_same _ b 6 _ _ (.int .i64 y.pending) g5
    have g7 := heap_setCell_same _ b 7 _ _ (.int .i64 y.rels.length) g6
    have g8 := heap_setCell_same _ b 8 _ _ (.int .i64 y.dropped) g7
    have g9 := heap_setCell_same _ b 9 _ _ (.int .i64 y.lost) g8
    unfold World.overB
    rw [g9]
    simp [seenC]
  · unfold World.overB
    have t : ∀ {a c : World} (i : Nat) (u : Value), Frm [b] a c → Frm [b] a (c.setCell ⟨b, i, none⟩ u) := fun i u hh => hh.trans (set_frm _ b i u) (fun j hj => .inl hj)
    exact t 9 _ (t 8 _ (t 7 _ (t 6 _ (t 5 _ (t 4 _ (t 3 _ (t 2 _ (t 1 _ (t 0 _ (Frm.refl _ _))))))))))
theorem Mine.over {W w w' : World} {nb mb : Nat} {cb : Dk} {y : Nd} {b : Nat} {cs : Array Value} (h : Mine W w nb mb cb y) (hb : w.heap[b]? = some (.cells cs 43 (0, 0))) (hf : Frm [b] w w') (hw : W.heap.size ≤ b) : Mine W w' nb mb cb y := by
  obtain ⟨pv, rv, hn, hff⟩ := h.ex
  refine ⟨⟨pv, rv, hn.frm hf (fun k hk e => ?_), hff⟩, below_frm h.below hf (by simpa using hw) h.below.size⟩
  simp only [List.mem_singleton] at e
  subst e
  exact hn.not_feet hb (by decide) (by decide) (by decide) (by decide) hk
theorem bs_len (l : List UInt8) : (bs l).size = l.length := by simp [bs, ByteArray.size]
theorem gdecode_all (S : List UInt8) (w : World) (hl : S.length ≤ maxLen) :
    Calls Tryz.prog 12 #[.string (bs S)] w fun e w' => ∃ (M : M6) (ao : Option Addr) (cap : Nat), M = (if decB S = true then readM S else M6.zero) ∧ e = .returned (.tuple #[mval M (.slice ao M.ups.length cap), if decB S = true then .nilIface else .iface 86 (.int .i64 2)]) ∧ Below w.heap.size w w' := by
  by_cases hd : decB S = true
  · refine (gdecode_yes S w hl hd).mono ?_
    rintro e w' ⟨v, rfl, hown, hb⟩
    obtain ⟨ao, cap, rfl⟩ := own_form hown
    exact ⟨readM S, ao, cap, by rw [if_pos hd], by rw [if_pos hd], hb⟩
  · refine (gdecode_no S w hl (by simpa using hd)).mono ?_
    rintro e w' ⟨rfl, hb⟩
    exact ⟨M6.zero, none, 0, by rw [if_neg hd], by rw [if_neg hd]; rfl, hb⟩
set_option maxHeartbeats 4000000 in
set_option maxRecDepth 100000 in
theorem bounded_any (c : Int) (l : List Int) (hl : l.length ≤ maxLen) {ao : Option Addr} {cap : Nat} {W : World} (hv : RawI W ao l) (hrng : ∀ z ∈ l, -9223372036854775808 ≤ z ∧ z ≤ 9223372036854775807)
    (c0 : -9223372036854775808 ≤ c) (c1 : c ≤ 9223372036854775807) (T : List (List UInt8)) (hT : T.length ≤ maxLen) {tao : Option Addr} {tcap : Nat} (hr : RawS W tao T) :
    Calls Tryz.prog 7 #[.int .i64 c, .slice ao l.length cap, .slice tao T.length tcap] W fun e w' => e = .returned (.bool true) ∧ Below W.heap.size W w' := by
  have hM : Calls Tryz.prog 8 #[.int .i64 3, .int .i64 c, .slice ao l.length cap] W fun e w' => ∃ lv xs, e = .returned lv ∧ xs.length = 3 ∧ AK c 3 3 xs ∧ MI W w' lv 3 5000 xs := made_any 3 (by omega) (by omega) c c0 c1 l hl hv hrng
  have HM := hide hM
  have HR := hide hr
  have hTi : (T.length : Int) ≤ 9223372036854775807 := by unfold maxLen at hT; omega
  clear hM hv hrng hr
  go_enter Tryz.func7, Tryz.ntmps7
  go_wp2_with fail
  refine (unhide HM).mono ?_
  rintro e w1 ⟨lv, xs, rfl, hxl, hak, hmi⟩
  obtain ⟨nb, mb, cb, pv, rv, g, lcap, rfl, hcell, hn, hfresh⟩ := hmi.first 0 (by omega)
  obtain ⟨hni, hnb⟩ := hmi.nice 0 (by omega)
  have hni1 : Nice 3 1 xs[0] := by simpa using hni
  have hk2 : Knows 2 xs[0] := by simpa using hak.all 0 1 (by omega) (by omega) (by omega) (by omega)
  have hk3 : Knows 3 xs[0] := by simpa using hak.all 0 2 (by omega) (by omega) (by omega) (by omega)
  have hbd : BdOk 0 xs[0] := ⟨hni1.ok, hnb.mono (by omega), hni1.fr.dl, ⟨by rw [hni1.fr.rels]; exact List.Pairwise.nil, fun r hr => by rw [hni1.fr.rels] at hr; cases hr⟩, hni1.self, hk2, hk3⟩
  have hbw := hmi.below
  have hgl := World.block_lt_of_cell? w1 _ hcell
  rw [hxl]
  generalize xs[0]'(by omega) = X at hn hbd
  have HMI := hide (⟨⟨pv, rv, hn, hfresh⟩, hbw⟩ : Mine W w1 nb mb cb X)
  have HS := hide (see_any hbd.ok hn)
  have HBD := hide hbd
  clear hmi hni hxl HM hn hnb hni1 hbw hfresh hak hk2 hk3 hbd
  go_wp2_with fail
  refine (unhide HS).mono ?_
  rintro e w2 ⟨sv, rfl, hso, hb2⟩
  obtain ⟨sao, scap, rfl⟩ := own_form hso
  have HM2 := hide ((unhide HMI).mono hb2)
  have HBX := hide (heap_alloc_new w2 (.cells (seenC X (.slice sao X.others.length scap)) 43))
  have hWw2 := (unhide HM2).below.size
  have HM2 := hide ((unhide HM2).mono ((Below.refl _ _).alloc (Nat.le_refl _) (.cells (seenC X (.slice sao X.others.length scap)) 43)))
  clear hso hb2 HS HMI
  go_wp2
  go_loopw [10] (fun i wr => ∃ (k : Nat) (y : Nd) (so : Option Addr) (sc : Nat), i = .int .i64 k ∧ k ≤ 60 ∧ k ≤ T.length ∧ Hid (BdOk k y) ∧ Hid (Mine W wr nb mb cb y) ∧ Hid (wr.heap[w2.heap.size]? = some (.cells (seenC y (.slice so y.others.length sc)) 43 (0, 0)))) (fun i _ => 60 - (Go.RowKit.intOf i).toNat)
  case atStart => exact ⟨0, X, sao, scap, by go_num, Nat.zero_le _, Nat.zero_le _, HBD, HM2, HBX⟩
  case round =>
    obtain ⟨k, y, so, sc, rfl, hk60, hkT, HB, HMY, HA⟩ := hrel
    by_cases hlt : k < T.length ∧ k < 60
    · obtain ⟨h1, h2⟩ := hlt
      obtain ⟨tb, toff, rfl, htl, htc⟩ := (unhide HR).ex (by omega)
      have ct0 : wr.cell? ⟨tb, toff + k, none⟩ = some (.string (bs T[k])) := ((unhide HMY).below.cell (p := ⟨tb, toff + k, none⟩) htl).trans (htc k h1)
      have hSl := (unhide HR).len T[k] (List.getElem_mem h1)
      have h1' : (k : Int) < (T.length : Int) := by omega
      have h2' : (k : Int) < 60 := by omega
      have htw : tb < wr.heap.size := Nat.lt_of_lt_of_le htl (unhide HMY).below.size
      clear htc
      generalize T[k] = S at ct0 hSl
      obtain ⟨pv0, rv0, hn0, hf0⟩ := (unhide HMY).ex
      have HN0 := hide hn0
      have HF0 := hide hf0
      have HBW := hide (unhide HMY).below
      clear hn0 hf0 HMY HM2 HBX HBD
      have hcase : (decB S = false ∧ takesB 1 S = false) ∨ (decB S = true ∧ (readM S).frm = 1 ∧ takesB 1 S = false) ∨ (decB S = true ∧ (readM S).frm ≠ 1 ∧ takesB 1 S = true) := by
        unfold takesB
        by_cases hd : decB S = true
        · by_cases hf : (readM S).frm = 1
          · right; left; simp [hd, hf]
          · right; right; simp [hd, hf]
        · left; simp at hd; simp [hd]
      have HG := hide (gdecode_all S wr hSl)
      have hBk := (unhide HB).b
      have hself := (unhide HB).self
      have HRC := fun w' (hb : Below wr.heap.size wr w') => hide (receive_any (unhide HB).ok (hBk.mono (by unfold Bg; omega)) ((unhide HN0).below hb) S hSl)
      have hY1 := (unhide HB).got S
      have hout := receive_out (unhide HB).ok (unhide HB).rel S
      have HNX := hide ((unhide HB).next S)
      have hno : takesB 1 S = false → y.receive S = ([], { y with dropped := y.dropped + 1 }) := fun h => by simp [Nd.receive, hself, h]
      obtain ⟨O, hO⟩ : ∃ O, O = (y.receive S).1 := ⟨_, rfl⟩
      obtain ⟨Y, hY⟩ : ∃ Y, Y = (y.receive S).2 := ⟨_, rfl⟩
      rw [← hY] at hY1 HNX
      rw [← hO] at hout
      rw [← hY, ← hO] at HRC
      have hno' : takesB 1 S = false → O = [] ∧ Y = { y with dropped := y.dropped + 1 } := fun h => by rw [hO, hY, hno h]; exact ⟨rfl, rfl⟩
      have HNO := hide hno'
      obtain ⟨yok, yb, ydl, yrel, yself, yk2, yk3⟩ := hY1
      have HYO := hide yok
      have HYB := hide yb
      have HYD := hide ydl
      have ho7 := others_le yok
      have ho8 := pending_le yok
      have ho4 := yok.rels
      have hdr := yb.dropped
      have hdr0 := hBk.dropped
      have HOS := hide hout.2
      have ho1 := hout.1
      clear hno hno' hO hY hout yok yb ydl yrel yself yk2 yk3 hself
      have HCA := hide hcase
      clear hcase
      go_wp2_with fail
      refine (unhide HG).mono ?_
      rintro e w3 ⟨M, mo, mc, hM, rfl, hb3⟩
      have ct3 := (hb3.cell (p := ⟨tb, toff + k, none⟩) htw).trans ct0
      have htw3 := Nat.lt_of_lt_of_le htw hb3.size
      have HB3 := hide hb3
      have HMM := hide hM
      obtain ⟨ev, hev⟩ : ∃ ev, ev = (if decB S = true then Value.nilIface else .iface 86 (.int .i64 2)) := ⟨_, rfl⟩
      rw [← hev]
      have HEV := hide hev
      clear hb3 HG hM hev
      simp only [mval]
      go_wp2_with fail
      have hb3a : Below wr.heap.size wr (w3.alloc (.cells #[.int .i64 M.kind, .int .i64 M.frm, .int .i64 M.inc, .int .i64 M.seq, .int .i64 M.tgt, .slice mo M.ups.length mc] 29)) := (unhide HB3).alloc (unhide HB3).size _
      refine (unhide (HRC _ hb3a)).mono ?_
      rintro e w4 ⟨o, rfl, ho, hto⟩
      have hn3 := (unhide HN0).below hb3a
      have hM4 : Mine W w4 nb mb cb Y := Mine.goes hn3 (unhide HF0) ((unhide HBW).trans (hb3a.mono (unhide HBW).size)) hto
      have ha3 := (hb3a.block _ (lt_blk (unhide HA))).trans (unhide HA)
      have ha4 := Mine.aside hn3 hto ha3 (by decide) (by decide) (by decide) (by decide)
      have hm4 := Mine.aside hn3 hto (heap_alloc_new w3 _) (by decide) (by decide) (by decide) (by decide)
      have HO4 := hide ho
      obtain ⟨oa, oc, rfl⟩ := own_form ho
      obtain ⟨pv4, rv4, hn4, hf4⟩ := hM4.ex
      have HS := hide (see_any (unhide HYO) hn4)
      have HM4 := hide hM4
      have HA4 := hide ha4
      have HX4 := hide hm4
      have hw23 : w2.heap.size < w4.heap.size := lt_blk ha4
      have hw34 : w3.heap.size < w4.heap.size := lt_blk hm4
      clear ho hto hn3 hM4 ha3 ha4 hm4 hn4 hf4 hb3a HRC HN0 HF0 HBW HA HB3 ct3 ct0
      go_wp2_with fail
      refine (unhide HS).mono ?_
      rintro e w5 ⟨bv, rfl, hbo, hb5⟩
      obtain ⟨bo, bc, rfl⟩ := own_form hbo
      have ha5 := (hb5.block _ hw23).trans (unhide HA4)
      have hm5 := (hb5.block _ hw34).trans (unhide HX4)
      have ho5 := own_below2 (unhide HO4) hb5
      have z1 := cell_at ha5 1
      have z2 := cell_at ha5 2
      have z3 := cell_at ha5 3
      have z4 := cell_at ha5 4
      have z6 := cell_at ha5 6
      have z7 := cell_at ha5 7
      have z8 := cell_at ha5 8
      have m1 := cell_at hm5 1
      simp only [seenC, List.getElem?_toArray, List.getElem?_cons_zero, List.getElem?_cons_succ] at z1 z2 z3 z4 z6 z7 z8 m1
      have hw25 := Nat.lt_of_lt_of_le hw23 hb5.size
      have hw35 := Nat.lt_of_lt_of_le hw34 hb5.size
      have HM5 := hide ((unhide HM4).mono hb5)
      have HA5 := hide ha5
      have HO5 := hide ho5
      clear hbo hb5 ha5 hm5 ho5 HS HM4 HA4 HX4 HO4
      go_upto_region 12 with fail
      go_cut [59] from 27 to 136 (fun b wq => b = .bool (!(takesB 1 S)) ∧ wq = w5.alloc (.cells (seenC Y (.slice bo Y.others.length bc)) 43))
      case first =>
        have hev := unhide HEV
        have hMM := unhide HMM
        rcases unhide HCA with ⟨hd, ht⟩ | ⟨hd, hf, ht⟩ | ⟨hd, hf, ht⟩
        · rw [hd] at hev
          simp only [Bool.false_eq_true, if_false] at hev
          subst hev
          clear hMM hd
          go_wp2_with fail
          go_meet
          exact ⟨by rw [ht]; rfl, rfl⟩
        · rw [hd] at hev hMM
          simp only [if_true] at hev hMM
          subst hev
          have hMf : (M.frm == 1) = true := by rw [hMM]; simpa using hf
          clear hMM hd hf
          go_wp2_with fail
          go_meet
          exact ⟨by rw [ht]; rfl, rfl⟩
        · rw [hd] at hev hMM
          simp only [if_true] at hev hMM
          subst hev
          have hMf : (M.frm == 1) = false := by rw [hMM]; simpa using hf
          clear hMM hd hf
          go_wp2_with fail
          go_meet
          exact ⟨by rw [ht]; rfl, rfl⟩
      case rest =>
        obtain ⟨hb59, rfl⟩ := hcut
        subst hb59
        go_upto_if 59 with fail
        go_cut [] from 27 to 136 (fun wq => wq = w5.alloc (.cells (seenC Y (.slice bo Y.others.length bc)) 43))
        case first =>
          have hAB : takesB 1 S = false → Hid (O.length = 0 ∧ Y.dropped = y.dropped + 1 ∧ Y.others.length = y.others.length ∧ Y.own = y.own ∧ Y.pending = y.pending ∧ Y.rels.length = y.rels.length) := fun h => by
            obtain ⟨h1, h2⟩ := (unhide HNO) h
            exact hide ⟨by rw [h1]; rfl, by rw [h2], by rw [h2]; rfl, by rw [h2]; rfl, by rw [h2]; rfl, by rw [h2]⟩
          rcases ht : takesB 1 S with _ | _
          · obtain ⟨q0, q1, q2, q3, q4, q5⟩ := unhide (hAB ht)
            clear hAB
            simp only [seenC]
            go_wp2_with fail
            go_meet
            simp only [seenC, q1, q2, q3, q4, q5]
          · clear hAB
            go_wp2_with fail
            go_meet
            rfl
        case rest =>
          subst hcut
          have hw5 : Below w5.heap.size w5 (w5.alloc (.cells (seenC Y (.slice bo Y.others.length bc)) 43)) := (Below.refl _ _).alloc (Nat.le_refl _) _
          have HM6 := hide ((unhide HM5).mono hw5)
          have ha6 := (hw5.block _ hw25).trans (unhide HA5)
          have ho6 : (w5.alloc (.cells (seenC Y (.slice bo Y.others.length bc)) 43)).ownsRow _ 39 2 (.slice oa O.length oc) O.length (O.flatMap pkC) := own_below2 (unhide HO5) hw5
          have HA6 := hide ha6
          have HO6 := hide ho6
          have hbb := heap_alloc_new w5 (.cells (seenC Y (.slice bo Y.others.length bc)) 43)
          have b4 : (w5.alloc (.cells (seenC Y (.slice bo Y.others.length bc)) 43)).cell? ⟨w5.heap.size, 4, none⟩ = some (.slice bo Y.others.length bc) := cell_at hbb 4
          have b6 : (w5.alloc (.cells (seenC Y (.slice bo Y.others.length bc)) 43)).cell? ⟨w5.heap.size, 6, none⟩ = some (.int .i64 Y.pending) := cell_at hbb 6
          have b7 : (w5.alloc (.cells (seenC Y (.slice bo Y.others.length bc)) 43)).cell? ⟨w5.heap.size, 7, none⟩ = some (.int .i64 Y.rels.length) := cell_at hbb 7
          have hwz := hw5.size
          clear hw5 ha6 ho6 hbb z1 z2 z3 z4 z6 z7 z8 m1 HM5 HA5 HO5 HNO HMM HEV HCA
          generalize w5.alloc (.cells (seenC Y (.slice bo Y.others.length bc)) 43) = w6 at HM6 HA6 HO6 hwz b4 b6 b7 ⊢
          have hOi : (O.length : Int) ≤ 1 := by omega
          have h7 : ¬ (7 : Int) < (Y.others.length : Int) := by omega
          have h8 : ¬ (8 : Int) < (Y.pending : Int) := by omega
          have h4 : ¬ (4 : Int) < (Y.rels.length : Int) := by omega
          go_wp2_with fail
          go_loopw [15] (fun j wq => ∃ k2 : Nat, j = .int .i64 k2 ∧ k2 ≤ O.length ∧ wq = w6) (fun j _ => O.length - (Go.RowKit.intOf j).toNat)
          case atStart => exact ⟨0, by go_num, Nat.zero_le _, rfl⟩
          case round =>
            obtain ⟨k2, rfl, hk2, rfl⟩ := hrel
            by_cases hlt2 : k2 < O.length
            · obtain rfl : k2 = 0 := by omega
              obtain ⟨p, hp⟩ : ∃ p, O = [p] := by
                rcases hO : O with _ | ⟨p, _ | ⟨q, r⟩⟩
                · rw [hO] at hlt2; simp at hlt2
                · exact ⟨p, rfl⟩
                · rw [hO] at ho1; simp at ho1
              subst hp
              obtain ⟨og, ogc, e0, _, _, o1, _⟩ := outs_cells (W := w3.alloc (.cells #[.int .i64 M.kind, .int .i64 M.frm, .int .i64 M.inc, .int .i64 M.seq, .int .i64 M.tgt, .slice mo M.ups.length mc] 29)) (unhide HO6)
              simp only [List.length_singleton, Value.slice.injEq] at e0
              obtain ⟨rfl, _, rfl⟩ := e0
              have hpl := (unhide HOS) p (by simp)
              have hbl := bs_len p.bytes
              have hp60 : ¬ (60 : Int) < (p.bytes.length : Int) := by omega
              go_wp2
              go_roundw
              case rel => exact ⟨1, by go_num, by simp, trivial⟩
              case measure => simp [Go.RowKit.intOf]
            · obtain rfl : k2 = O.length := by omega
              obtain ⟨pv6, rv6, hn6, hf6⟩ := (unhide HM6).ex
              have HTK := hide (tick_any (unhide HYO) (unhide HYD) ((unhide HYB).mono (by unfold Bt; omega)) hn6)
              have HN6 := hide hn6
              have HF6 := hide hf6
              clear hn6 hf6
              go_wp2_with fail
              refine (unhide HTK).mono ?_
              rintro e w7 ⟨o7, rfl, _, hto⟩
              have hM7 : Mine W w7 nb mb cb Y.tick.2 := Mine.goes (unhide HN6) (unhide HF6) (unhide HM6).below hto
              have ha7 := Mine.aside (unhide HN6) hto (unhide HA6) (by decide) (by decide) (by decide) (by decide)
              obtain ⟨pv7, rv7, hn7, _⟩ := hM7.ex
              have HS7 := hide (see_any (tick_ok (unhide HYO)) hn7)
              have HM7 := hide hM7
              have HA7 := hide ha7
              have hl7 := lt_blk ha7
              clear hto hM7 ha7 hn7 HTK HN6 HF6 HM6 HA6 HO6
              go_wp2_with fail
              refine (unhide HS7).mono ?_
              rintro e w8 ⟨v8, rfl, ho8', hb8⟩
              obtain ⟨so8, sc8, rfl⟩ := own_form ho8'
              have ha8 := (hb8.block _ hl7).trans (unhide HA7)
              have hM8 := (unhide HM7).mono hb8
              have hov := over_box ha8 Y.tick.2 (.slice so8 Y.tick.2.others.length sc8)
              have hwW : W.heap.size ≤ w2.heap.size := hWw2
              have HM9 := hide (hM8.over ha8 hov.2 hwW)
              have HA9 := hide hov.1
              unfold World.overB at HM9 HA9
              have zz := fun j => free_at ha8 j
              have y0 := cell_at ha8 0
              have y1 := cell_at ha8 1
              have y2 := cell_at ha8 2
              have y3 := cell_at ha8 3
              have y4 := cell_at ha8 4
              have y5 := cell_at ha8 5
              have y6 := cell_at ha8 6
              have y7 := cell_at ha8 7
              have y8 := cell_at ha8 8
              have y9 := cell_at ha8 9
              simp only [seenC, List.getElem?_toArray, List.getElem?_cons_zero, List.getElem?_cons_succ] at y0 y1 y2 y3 y4 y5 y6 y7 y8 y9
              clear ho8' hb8 ha8 hM8 hov HS7 HM7 HA7
              generalize Y.tick.2 = Z at HM9 HA9 HNX ⊢
              go_wp2
              go_roundw
              case rel => exact ⟨k + 1, Z, so8, sc8, by go_num, by omega, by omega, HNX, HM9, HA9⟩
              case measure => simp [Go.RowKit.intOf]; omega
    · have hno : ¬ ((k : Int) < (T.length : Int)) ∨ ¬ ((k : Int) < 60) := by omega
      have z4 := cell_at (unhide HA) 4
      simp only [seenC, List.getElem?_toArray, List.getElem?_cons_zero, List.getElem?_cons_succ] at z4
      have h2o := (unhide HB).two
      have h2i : (2 : Int) ≤ (y.others.length : Int) := by omega
      have HBW := hide (unhide HMY).below
      clear HM2 HBX HBD HMY HA HB
      by_cases h1 : (k : Int) < (T.length : Int)
      · have h60 : ¬ ((k : Int) < 60) := by omega
        go_wp2
        go_ret
        exact ⟨rfl, unhide HBW⟩
      · go_wp2
        go_ret
        exact ⟨rfl, unhide HBW⟩
end Go.Proofs.YtnneljcbelgoeaaGreat.wire
