import Derived.Test.YtnneljcbelgoeaaGreatDoorG33
import Derived.Test.YtnneljcbelgoeaaGreatDoorG34
import Derived.Test.YtnneljcbelgoeaaGreatDoorG19
import Derived.Test.YtnneljcbelgoeaaGreatDoorG28
import Derived.Test.YtnneljcbelgoeaaGreatDoorG11
import Derived.Test.YtnneljcbelgoeaaGreatDoorG29
import Derived.Test.YtnneljcbelgoeaaGreatDoorG12
import Derived.Test.YtnneljcbelgoeaaGreatDoorG05
import Derived.Test.YtnneljcbelgoeaaGreatDoorG17
/- gossiplaw's received over nodes: the node, its twin and the document's are given the same bytes. -/
namespace Go.Proofs.YtnneljcbelgoeaaGreatDoor.wire
open Go.RowKit Go.Maps
/-- What came out of a call lies apart, and is one's alone. -/
theorem VS.gotX {wb : Nat} {s : Sg} {w W W' : World} (h : VS wb s w W) {i : Nat} {t : Nt} (hi : s.ns[i]? = some t) {x' : Nd} (ht : NTo W W' t.x.nb t.x.mb t.x.cb t.x.pv t.x.rv x') {e : TypeId} {z : Nat} {o : Value} {n : Nat} {xs : List Value} (ho : W'.ownsRow W.heap.size e z o n xs) (h1 : e ≠ 123) (h2 : e ≠ 3) (h3 : e ≠ 161) (h4 : e ≠ 24) : ∃ pv rv, VS wb { s with ns := s.ns.set i (t.setX pv rv x'), a := [rowT e z o n xs] } w W' := by
  obtain ⟨pv, rv, hs⟩ := h.callX hi ht
  refine ⟨pv, rv, hs.mineA [rowT e z o n xs] (by intro q hq; simp at hq; subst hq; exact own_mono ho (Nat.zero_le _)) (fun q hq k hk => ?_)⟩
  simp at hq; subst hq
  have hk' : o.ownBlock = some k := by simpa [rowT] using hk
  have hlo := (own_lt ho hk').1
  obtain ⟨b1, b2⟩ := h.beyond hlo
  refine ⟨b1, fun j _ hm => ?_⟩
  by_cases e : j = .x i
  · subst e
    have hN := hs.atX (i := i) (n := t.setX pv rv x') (List.getElem?_set_self (List.getElem?_eq_some_iff.1 hi).1)
    rw [show ({ s with ns := s.ns.set i (t.setX pv rv x') } : Sg).th wb (.x i) = nodeT ⟨t.x.nb, t.x.mb, t.x.cb, pv, rv, x'⟩ from onN_set_eq hi _] at hm
    obtain ⟨cs, hb⟩ := own_blk ho hk'
    exact hN.not_feet hb h1 h2 h3 h4 hm
  · rw [setN_th (n' := t.setX pv rv x') hi rfl j (fun q => absurd q e) (fun _ => rfl) (fun _ => ⟨rfl, rfl, rfl⟩)] at hm
    exact b2 j hm
theorem VS.gotY {wb : Nat} {s : Sg} {w W W' : World} (h : VS wb s w W) {i : Nat} {t : Nt} (hi : s.ns[i]? = some t) {x' : Nd} (ht : NTo W W' t.y.nb t.y.mb t.y.cb t.y.pv t.y.rv x') {e : TypeId} {z : Nat} {o : Value} {n : Nat} {xs : List Value} (ho : W'.ownsRow W.heap.size e z o n xs) (h1 : e ≠ 123) (h2 : e ≠ 3) (h3 : e ≠ 161) (h4 : e ≠ 24) : ∃ pv rv, VS wb { s with ns := s.ns.set i (t.setY pv rv x'), b := [rowT e z o n xs] } w W' := by
  obtain ⟨pv, rv, hs⟩ := h.callY hi ht
  refine ⟨pv, rv, hs.mineB [rowT e z o n xs] (by intro q hq; simp at hq; subst hq; exact own_mono ho (Nat.zero_le _)) (fun q hq k hk => ?_)⟩
  simp at hq; subst hq
  have hk' : o.ownBlock = some k := by simpa [rowT] using hk
  have hlo := (own_lt ho hk').1
  obtain ⟨b1, b2⟩ := h.beyond hlo
  refine ⟨b1, fun j _ hm => ?_⟩
  by_cases e : j = .y i
  · subst e
    have hN := hs.atY (i := i) (n := t.setY pv rv x') (List.getElem?_set_self (List.getElem?_eq_some_iff.1 hi).1)
    rw [show ({ s with ns := s.ns.set i (t.setY pv rv x') } : Sg).th wb (.y i) = nodeT ⟨t.y.nb, t.y.mb, t.y.cb, pv, rv, x'⟩ from onN_set_eq hi _] at hm
    obtain ⟨cs, hb⟩ := own_blk ho hk'
    exact hN.not_feet hb h1 h2 h3 h4 hm
  · rw [setN_th (n' := t.setY pv rv x') hi rfl j (fun _ => rfl) (fun q => absurd q e) (fun _ => ⟨rfl, rfl, rfl⟩)] at hm
    exact b2 j hm
/-- The node behind a call on all three. -/
abbrev Nt.set3 (t : Nt) (x' : Nd) (p q p' q' : Value) (rv : Rv) (r : Rn) : Nt := ⟨t.b, ⟨t.x.nb, t.x.mb, t.x.cb, p, q, x'⟩, ⟨t.y.nb, t.y.mb, t.y.cb, p', q', x'⟩, t.rb, rv, r⟩
theorem VI.node {n : Nat} {s : Sg} (h : VI n s) {i : Nat} {t : Nt} (hi : s.ns[i]? = some t) {x' : Nd} {r' : Rn} {rv' : Rv} (p q p' q' : Value) (hg : Gh (100 * ((n + 1 : Nat) : Int)) x' r') (hdl : x'.dl = t.x.x.dl) (hd : rv'.d = t.rv.d) : VI (n + 1) { s with ns := s.ns.set i (t.set3 x' p q p' q' rv' r') } := by
  have u := h.up
  refine { u with nn := by show (s.ns.set i _).length ≤ n + 1; rw [List.length_set]; exact u.nn, nk := fun k hk => ?_, hd := u.hd.of rfl rfl rfl rfl (fun _ q => q) }
  rcases List.mem_or_eq_of_mem_set hk with hk | rfl
  · exact u.nk k hk
  · have hm := h.nk t (List.mem_of_getElem? hi)
    refine ⟨hm.rc, ?_, rfl, hg⟩
    show intsT rv'.d r'.draws ∈ s.fz
    rw [hd, hg.rf.draws, hdl, ← hm.gh.rf.draws]
    exact hm.dr
theorem VI.sent {n : Nat} {s : Sg} (h : VI (n + 1) s) {l : List Pk} (hl : l.length ≤ 9) (hsm : ∀ p ∈ l, p.bytes.length ≤ 60) (ho : s.os.length ≤ 4 * n) (hm : s.mark ≤ 2000 * (n : Int)) {pv ov kv : Value} {ps : List Pk} {os ks : List Value} {mark : Int} {fz : List Th} (hw : Way s l ps) (hh : Held { s with a := [], b := [], pv := pv, ps := ps, ov := ov, kv := kv, os := os, ks := ks, mark := mark, fz := fz }) (hos : os.length = s.os.length + 4) (hmk : mark = s.mark + 2 * l.length + 4) (hf : ∀ t ∈ s.fz, t ∈ fz) : VI (n + 1) { s with a := [], b := [], pv := pv, ps := ps, ov := ov, kv := kv, os := os, ks := ks, mark := mark, fz := fz } := by
  have hm0 := h.m0
  refine { h with uf := hf _ h.uf, df := hf _ h.df, nk := fun t ht => (h.nk t ht).up (Nat.le_refl _) hf, pn := hw.len, pl := fun p hp => ?_, hd := hh, ol := ?_, m0 := ?_, m1 := ?_, a := rfl, b := rfl }
  · rcases hw.of p hp with hp | hp
    · exact h.pl p hp
    · exact hsm p hp
  · show os.length ≤ 4 * (n + 1); omega
  · show 0 ≤ mark; omega
  · show mark ≤ 2000 * ((n + 1 : Nat) : Int); omega
set_option maxRecDepth 100000 in
set_option maxHeartbeats 2000000 in
theorem received_s (n wb : Nat) (s : Sg) (w W : World) (h : VV n wb s w W) (hn : n ≤ 18000) (i : Nat) (t : Nt) (hi : s.ns[i]? = some t) (l : List UInt8) (hl : l.length ≤ 17000) :
    Calls Tryz.prog 35 #[.pointer (some ⟨wb, 0, none⟩), .pointer (some ⟨t.b, 0, none⟩), .string (bs l)] W fun e W' => e = .returned (.bool true) ∧ ∃ s', VV (n + 1) wb s' w W' := by
  have hlm : l.length ≤ maxLen := by unfold maxLen; omega
  have hk := h.vi.nk t (List.mem_of_getElem? hi)
  have hrec : W.heap[t.b]? = some (.cells #[.pointer (some ⟨t.x.nb, 0, none⟩), .pointer (some ⟨t.y.nb, 0, none⟩), .pointer (some ⟨t.rb, 0, none⟩)] 88 (0, 0)) := h.vs.has hk.rc
  have k0 := cell_at hrec 0
  simp only [List.getElem?_toArray, List.getElem?_cons_zero] at k0
  have hltb := lt_blk hrec
  have hBg : NdB Bg t.x.x := hk.gh.b.mono (by unfold Bg; omega)
  have hG := hk.gh.received (by omega) l
  have HX := hide (receive_any hk.gh.ok hBg (h.vs.atX hi) l hlm)
  have HK := hide hk
  have HC := hide h
  have HI := hide hi
  have HG := hide hG
  clear h hk hi hrec hG hBg
  go_enter Tryz.func35, Tryz.ntmps35
  go_wp2_with fail
  refine (unhide HX).mono ?_
  rintro e w1 ⟨o1, rfl, ho1, ht1⟩
  obtain ⟨p, q, h1⟩ := (unhide HC).vs.gotX (unhide HI) ht1 ho1 (by decide) (by decide) (by decide) (by decide)
  have hi1 : (s.ns.set i (t.setX p q (t.x.x.receive l).2))[i]? = some (t.setX p q (t.x.x.receive l).2) := List.getElem?_set_self (List.getElem?_eq_some_iff.1 (unhide HI)).1
  have hrec1 : w1.heap[t.b]? = some (.cells #[.pointer (some ⟨t.x.nb, 0, none⟩), .pointer (some ⟨t.y.nb, 0, none⟩), .pointer (some ⟨t.rb, 0, none⟩)] 88 (0, 0)) := h1.has (unhide HK).rc
  have k1 := cell_at hrec1 1
  simp only [List.getElem?_toArray, List.getElem?_cons_zero, List.getElem?_cons_succ] at k1
  have hltb1 := lt_blk hrec1
  have hBg1 : NdB Bg t.y.x := by rw [(unhide HK).tw]; exact (unhide HK).gh.b.mono (by unfold Bg; omega)
  have hok1 : NdOk t.y.x := by rw [(unhide HK).tw]; exact (unhide HK).gh.ok
  have HY := hide (receive_any hok1 hBg1 (h1.atY (n := t.setX p q (t.x.x.receive l).2) hi1) l hlm)
  have H1 := hide h1
  have HI1 := hide hi1
  clear h1 hi1 hrec1 ho1 ht1 HX k0 hBg1 hok1
  go_wp2_with fail
  refine (unhide HY).mono ?_
  rintro e w2 ⟨o2, rfl, ho2, ht2⟩
  rw [(unhide HK).tw] at ho2 ht2
  obtain ⟨p', q', h2⟩ := (unhide H1).gotY (t := t.setX p q (t.x.x.receive l).2) (unhide HI1) ht2 ho2 (by decide) (by decide) (by decide) (by decide)
  simp only [List.set_set] at h2
  have hi2 : (s.ns.set i ((t.setX p q (t.x.x.receive l).2).setY p' q' (t.x.x.receive l).2))[i]? = some ((t.setX p q (t.x.x.receive l).2).setY p' q' (t.x.x.receive l).2) := List.getElem?_set_self (List.getElem?_eq_some_iff.1 (unhide HI)).1
  have hrec2 : w2.heap[t.b]? = some (.cells #[.pointer (some ⟨t.x.nb, 0, none⟩), .pointer (some ⟨t.y.nb, 0, none⟩), .pointer (some ⟨t.rb, 0, none⟩)] 88 (0, 0)) := h2.has (unhide HK).rc
  have k2 := cell_at hrec2 2
  simp only [List.getElem?_toArray, List.getElem?_cons_zero, List.getElem?_cons_succ] at k2
  have hltb2 := lt_blk hrec2
  have HR := hide (rreceive_any (unhide HK).gh (by omega) (h2.atR (n := (t.setX p q (t.x.x.receive l).2).setY p' q' (t.x.x.receive l).2) hi2 (unhide HK).dr) l hlm)
  have H2 := hide h2
  have HI2 := hide hi2
  clear h2 hi2 hrec2 ho2 ht2 HY k1 H1 HI1
  go_wp2_with fail
  refine (unhide HR).mono ?_
  rintro e w3 ⟨o3, rfl, v', hvd, hra, hfr, hft, rfl⟩
  have h3 := (unhide H2).callR (unhide HI2) hra hfr hft
  simp only [List.set_set] at h3
  have hV : VI (n + 1) { s with ns := s.ns.set i (t.set3 (t.x.x.receive l).2 p q p' q' v' (t.r.receive l)) } := (unhide HC).vi.node (unhide HI) p q p' q' ((unhide HG).gh.mono (by omega)) (unhide HG).dl hvd
  have hi3 : (s.ns.set i (t.set3 (t.x.x.receive l).2 p q p' q' v' (t.r.receive l)))[i]? = some (t.set3 (t.x.x.receive l).2 p q p' q' v' (t.r.receive l)) := List.getElem?_set_self (List.getElem?_eq_some_iff.1 (unhide HI)).1
  have hvi := (unhide HC).vi
  have HS := hide (sends_s wb { s with ns := s.ns.set i (t.set3 (t.x.x.receive l).2 p q p' q' v' (t.r.receive l)), a := [pksT o1 (t.x.x.receive l).1], b := [pksT o2 (t.x.x.receive l).1] } w w3 h3 (hV.hd.of rfl rfl rfl rfl (fun _ q => q)) (by have := hvi.ol; simp only; omega) hvi.m0 (by have := hvi.m1; simp only; omega) hvi.pn o1 o2 i (t.set3 (t.x.x.receive l).2 p q p' q' v' (t.r.receive l)) hi3 (by show (t.r.receive l).out.length ≤ 900; rw [(unhide HG).out]; have := (unhide HG).len; omega) (by show _ = [pksT o1 (t.r.receive l).out]; rw [(unhide HG).out]) (by show _ = [pksT o2 (t.r.receive l).out]; rw [(unhide HG).out]))
  have HV := hide hV
  have HO := hide hvi.ol
  have HM := hide hvi.m1
  clear h3 hra hfr hft hV hi3 hvi HR H2 HI2 k2 HC
  go_wp2_with fail
  refine (unhide HS).mono ?_
  rintro e w4 ⟨rfl, pv, ov, kv, ps, os, ks, mark, fz, h4, hw, hh, hos, hmk, hf⟩
  have HF : Hid (VV (n + 1) wb { s with ns := s.ns.set i (t.set3 (t.x.x.receive l).2 p q p' q' v' (t.r.receive l)), a := [], b := [], pv := pv, ps := ps, ov := ov, kv := kv, os := os, ks := ks, mark := mark, fz := fz } w w4) := hide ⟨h4, VI.sent (s := { s with ns := s.ns.set i (t.set3 (t.x.x.receive l).2 p q p' q' v' (t.r.receive l)) }) (l := (t.r.receive l).out) (unhide HV) (by rw [(unhide HG).out]; exact (unhide HG).len) (by rw [(unhide HG).out]; exact (unhide HG).small) (unhide HO) (unhide HM) ⟨hw.len, hw.of⟩ hh hos hmk hf⟩
  clear h4 hw hh hos hmk hf HS
  go_wp2
  go_ret
  exact ⟨rfl, _, unhide HF⟩
end Go.Proofs.YtnneljcbelgoeaaGreatDoor.wire
/- The document's node: Join (P8). -/
namespace Go.Proofs.YtnneljcbelgoeaaGreatDoor.wire
open Go.RowKit Go.Maps

set_option maxHeartbeats 2000000 in
set_option maxRecDepth 100000 in
theorem rjoin_no {W : World} {b : Nat} {v : Rv} {r : Rn} (h : RAt W b v r) (i : Int) (he : r.joinErr i ≠ 0) :
    Calls Tryz.prog 37 #[.pointer (some ⟨b, 0, none⟩), .int .i64 i] W fun e w' => e = .returned (.tuple #[.slice none 0 0, .int .i64 (r.joinErr i)]) ∧ RTo W w' b v { r with out := [] } := by
  obtain ⟨ha1, hf1, hs1⟩ := h.mute
  have c24 := h.cell 24
  have f24 := h.free 24
  have hlt := h.ltb
  obtain ⟨xo, xc, hxv, _⟩ := row_form h.rows.x
  simp only [refC, List.getElem?_toArray, List.getElem?_cons_zero, List.getElem?_cons_succ, hxv] at c24
  generalize hw1 : W.setCell ⟨b, 24, none⟩ (.slice none 0 0) = w1 at ha1 hf1
  have c10 := ha1.cell 10
  have c12 := ha1.cell 12
  have hlt1 := ha1.ltb
  simp only [refC, List.getElem?_toArray, List.getElem?_cons_zero, List.getElem?_cons_succ] at c10 c12
  have HT : Hid (RTo W w1 b v { r with out := [] }) := hide ⟨{ v with x := .slice none 0 0 }, rfl, ha1, hf1, hs1⟩
  have HI := hide (rid_any i w1)
  have HJ : Hid (r.joinErr i = if r.self.st = 4 then 4 else if isIdB i && !decide (i = r.self.id) then 0 else 3) := hide rfl
  clear h ha1 hf1 hs1 hxv
  by_cases h4 : r.self.st = 4
  · have h4' : (r.self.st == 4) = true := by simp [h4]
    have E : Hid (r.joinErr i = 4) := hide (by rw [unhide HJ, if_pos h4])
    clear h4
    go_enter Tryz.func37, Tryz.ntmps37
    go_wp2_with (go_at_call 46; refine (unhide HI).mono ?_; rintro e w2 ⟨rfl, rfl⟩)
    go_ret2
    rw [unhide E]
    exact ⟨rfl, unhide HT⟩
  · have h4' : (r.self.st == 4) = false := by simp [h4]
    have hc : isIdB i = false ∨ (isIdB i = true ∧ i = r.self.id) := by
      rw [unhide HJ, if_neg h4] at he
      cases hi : isIdB i with
      | false => exact .inl rfl
      | true =>
        refine .inr ⟨rfl, ?_⟩
        by_cases e : i = r.self.id
        · exact e
        · exfalso; apply he; rw [if_pos (by simp [hi, e])]
    have E : Hid (r.joinErr i = 3) := hide (by
      rw [unhide HJ, if_neg h4, if_neg]
      rcases hc with e | ⟨e, e2⟩
      · simp [e]
      · simp [e2])
    clear h4 he
    rcases hc with hi | ⟨hi, hid⟩
    · rw [hi] at HI
      go_enter Tryz.func37, Tryz.ntmps37
      go_wp2_with (go_at_call 46; refine (unhide HI).mono ?_; rintro e w2 ⟨rfl, rfl⟩)
      go_ret2
      rw [unhide E]
      exact ⟨rfl, unhide HT⟩
    · rw [hi] at HI
      have hid' : (i == r.self.id) = true := by simpa using hid
      have HID := hide hid
      clear hid
      go_enter Tryz.func37, Tryz.ntmps37
      go_wp2_with (go_at_call 46; refine (unhide HI).mono ?_; rintro e w2 ⟨rfl, rfl⟩)
      go_ret2
      rw [unhide E]
      exact ⟨rfl, unhide HT⟩
set_option maxHeartbeats 2000000 in
set_option maxRecDepth 100000 in
theorem rjoin_yes {B : Int} {x : Nd} {r : Rn} (hg : Gh B x r) (hB : B ≤ 999999999000) {W : World} {b : Nat} {v : Rv} (h : RAt W b v r) (i : Int) (he : r.joinErr i = 0) :
    Calls Tryz.prog 37 #[.pointer (some ⟨b, 0, none⟩), .int .i64 i] W fun e w' => ∃ o, e = .returned (.tuple #[o, .int .i64 0]) ∧ RToX W w' b v (r.join i) o := by
  obtain ⟨ha1, hf1, hs1⟩ := h.mute
  have hbs := hg.bs (by unfold Big; omega)
  have c24 := h.cell 24
  have f24 := h.free 24
  have hlt := h.ltb
  obtain ⟨xo, xc, hxv, _⟩ := row_form h.rows.x
  simp only [refC, List.getElem?_toArray, List.getElem?_cons_zero, List.getElem?_cons_succ, hxv] at c24
  generalize hw1 : W.setCell ⟨b, 24, none⟩ (.slice none 0 0) = w1 at ha1 hf1
  have c10 := ha1.cell 10
  have c12 := ha1.cell 12
  have hlt1 := ha1.ltb
  simp only [refC, List.getElem?_toArray, List.getElem?_cons_zero, List.getElem?_cons_succ] at c10 c12
  have HT : Hid (RTo W w1 b v { r with out := [] }) := hide ⟨{ v with x := .slice none 0 0 }, rfl, ha1, hf1, hs1⟩
  unfold Rn.joinErr at he
  have h4 : ¬ r.self.st = 4 := fun e => by rw [if_pos e] at he; cases he
  rw [if_neg h4] at he
  have hi : (isIdB i && !decide (i = r.self.id)) = true := by
    by_cases e : (isIdB i && !decide (i = r.self.id)) = true
    · exact e
    · rw [if_neg e] at he; cases he
  simp only [Bool.and_eq_true, Bool.not_eq_true', decide_eq_false_iff_not] at hi
  have HI := hide (rid_any i w1)
  rw [hi.1] at HI
  have h4' : (r.self.st == 4) = false := by simp [h4]
  have hid' : (i == r.self.id) = false := by simpa using hi.2
  have HN := hide (rnext_any ha1 hbs.seq)
  have hw : wholeB ⟨4, r.self.id, r.self.inc, r.seq + 1, 0, []⟩ = true := by
    obtain ⟨o1, o2⟩ := own_bounds hg.ok
    have h1 := hg.num
    have h2 := hg.b.num
    rw [hg.rf.self, hg.rf.seq]
    simp only [wholeB, Bool.and_eq_true]
    exact ⟨isId_mk o1.1 o1.2, isInc_mk o2.1 o2.2, isSeq_mk (by omega) (by omega), rfl, rfl⟩
  have HW := hide hw
  have HF1 := hide hf1
  have HS1 := hide hs1
  have HJ : Hid (r.join i = ({ r with out := [], seq := r.seq + 1 } : Rn).sendTo i 4 (r.seq + 1) 0 []) := hide rfl
  clear h ha1 hf1 hs1 hxv hw hbs hg he hi h4
  go_enter Tryz.func37, Tryz.ntmps37
  go_wp2_with (go_at_call 46; refine (unhide HI).mono ?_; rintro e w2 ⟨rfl, hw2⟩; subst hw2)
  clear hw1
  refine (unhide HN).mono ?_
  rintro e w3 ⟨rfl, h3⟩
  obtain ⟨v3, hd3, ha3, hf3, hs3⟩ := h3
  have HSD := hide (rsend_own ha3 (by simp) i 4 (r.seq + 1) 0 (by omega) [] (.slice none 0 0) (.inl ⟨rfl, rfl⟩) (unhide HW))
  have HTT := hide (fun w' (R : Rn) (h : RTo w3 w' b v3 R) => RTo.trans (v := v) (v1 := { v with x := .slice none 0 0 }) rfl (unhide HF1) (unhide HS1) (RTo.trans hd3 hf3 hs3 h))
  clear ha3 hf3 hs3 hd3 HN
  go_wp2_with fail
  refine (unhide HSD).mono ?_
  rintro e w4 ⟨rfl, h4⟩
  obtain ⟨v7, hd7, ha7, hf7, hs7⟩ := unhide HTT w4 _ h4
  obtain ⟨ao, cap, hx, _⟩ := row_form ha7.rows.x
  have e24 := ha7.cell 24
  simp only [refC, List.getElem?_toArray, List.getElem?_cons_zero, List.getElem?_cons_succ, hx] at e24
  have hbl := ha7.ltb
  have HX : Hid (RToX W w4 b v (r.join i) v7.x) := hide ⟨v7, hd7, ha7, hf7, hs7, rfl⟩
  rw [hx] at HX
  clear h4 hd7 ha7 hf7 hs7 hx HSD HTT
  go_wp2
  go_ret2
  exact ⟨_, rfl, unhide HX⟩
end Go.Proofs.YtnneljcbelgoeaaGreatDoor.wire
/- told, of whatever number; Join, Leave in one piece. -/
namespace Go.Proofs.YtnneljcbelgoeaaGreatDoor.wire
open Go.RowKit Go.Maps
/-- An error, by its number. -/
def errV (k : Int) : Value := if k = 0 then .nilIface else .iface 108 (.int .i64 k)
/-- told: whatever number. -/
theorem ltold_any (k : Int) (w : World) (hg : w.cell? ⟨0, 0, none⟩ = some (.iface 207 (.agg #[.pointer (some ⟨1, 64, none⟩)]))) :
    Calls Tryz.prog 26 #[errV k, .int .i64 k] w fun e w' => e = .returned (.bool true) ∧ Below w.heap.size w w' := by
  by_cases h0 : k = 0
  · subst h0
    rw [show errV 0 = .nilIface from rfl]
    refine (ltold_nil w).mono ?_
    rintro e w' ⟨rfl, rfl⟩
    exact ⟨rfl, Below.refl _ _⟩
  · have e : errV k = .iface 108 (.int .i64 k) := by unfold errV; rw [if_neg h0]
    rw [e]
    have HG := hide hg
    clear hg e
    go_enter Tryz.func26, Tryz.ntmps26
    go_wp2_with fail
    refine (told_any k _ (unhide HG)).mono ?_
    rintro e w1 ⟨rfl, hb⟩
    have HB := hide hb
    clear hb
    go_wp2_with fail
    refine (num_any k _).mono ?_
    rintro e w2 ⟨rfl, rfl⟩
    go_wp2
    go_ret
    exact ⟨by simp [h0], unhide HB⟩
/-- Join, plainly: whether or not it is refused. -/
def Nd.joinX (x : Nd) (i : Int) : List Pk × Nd := if x.joinErr i = 0 then x.join i else ([], x)
def Rn.joinX (r : Rn) (i : Int) : Rn := if r.joinErr i = 0 then r.join i else { r with out := [] }
theorem joins_any {x : Nd} (hx : NdOk x) (hB : NdB Big x) {nb mb : Nat} {cb : Dk} {pv rv : Value} {W : World} (hn : NAt W nb mb cb pv rv x) (i : Int) :
    Calls Tryz.prog 36 #[.pointer (some ⟨nb, 0, none⟩), .int .i64 i] W fun e w' => ∃ o, e = .returned (.tuple #[o, errV (x.joinErr i)]) ∧ Outs W w' o (x.joinX i).1 ∧ NTo W w' nb mb cb pv rv (x.joinX i).2 := by
  by_cases h : x.joinErr i = 0
  · refine (joins_yes hx hB hn i h).mono ?_
    rintro e w' ⟨o, rfl, ho, ha, hf⟩
    rw [show x.joinX i = x.join i by unfold Nd.joinX; rw [if_pos h], h]
    exact ⟨o, rfl, ho, pv, rv, ha, ⟨hf.os, hf.tape, hf.output, hf.size, fun k hk hm => hf.block k hk (fun h' => hm (by simp at h'; subst h'; simp [feet]))⟩, fun k hk => .inl hk⟩
  · refine (joins_no hx hn i h).mono ?_
    rintro e w' ⟨rfl, hb⟩
    rw [show x.joinX i = ([], x) by unfold Nd.joinX; rw [if_neg h]]
    refine ⟨.slice none 0 0, by unfold errV; rw [if_neg h], outs_nil _ _, pv, rv, hn.below hb, Frm.of_below hb (Nat.le_refl _), fun k hk => .inl hk⟩
theorem rjoin_any {B : Int} {x : Nd} {r : Rn} (hg : Gh B x r) (hB : B ≤ 999999999000) {W : World} {b : Nat} {v : Rv} (h : RAt W b v r) (i : Int) :
    Calls Tryz.prog 37 #[.pointer (some ⟨b, 0, none⟩), .int .i64 i] W fun e w' => ∃ o, e = .returned (.tuple #[o, .int .i64 (r.joinErr i)]) ∧ RTo W w' b v (r.joinX i) ∧ ((∃ v', v'.d = v.d ∧ RAt w' b v' (r.joinX i) ∧ Frm (rfeet b v) W w' ∧ (∀ k ∈ rfeet b v', k ∈ rfeet b v ∨ W.heap.size ≤ k) ∧ (o = v'.x ∨ (o = .slice none 0 0 ∧ (r.joinX i).out = [])))) := by
  by_cases he : r.joinErr i = 0
  · refine (rjoin_yes hg hB h i he).mono ?_
    rintro e w' ⟨o, rfl, v', h1, h2, h3, h4, h5⟩
    rw [show r.joinX i = r.join i by unfold Rn.joinX; rw [if_pos he], he]
    exact ⟨o, rfl, ⟨v', h1, h2, h3, h4⟩, v', h1, h2, h3, h4, .inl h5⟩
  · refine (rjoin_no h i he).mono ?_
    rintro e w' ⟨rfl, v', h1, h2, h3, h4⟩
    rw [show r.joinX i = { r with out := [] } by unfold Rn.joinX; rw [if_neg he]]
    exact ⟨_, rfl, ⟨v', h1, h2, h3, h4⟩, v', h1, h2, h3, h4, .inr ⟨rfl, rfl⟩⟩
theorem Gh.joinedX {B : Int} {x : Nd} {r : Rn} (h : Gh B x r) (hB : B ≤ 1000000000) (i : Int) : Gone (B + 1) x.dl (x.joinX i).1 (x.joinX i).2 (r.joinX i) ∧ r.joinErr i = x.joinErr i := by
  obtain ⟨g, e⟩ := h.joined hB i
  refine ⟨?_, e⟩
  unfold Nd.joinX Rn.joinX
  rw [e]
  split
  · exact g
  · exact ⟨h.sent.mono (by omega), rfl, by simp, by simp, rfl⟩
/-- Leave, plainly: whether or not it is refused. -/
def Nd.leaveX (x : Nd) : Nd := if x.left then x else x.leave
def Rn.leaveX (r : Rn) : Rn := if r.self.st = 4 then r else r.leave
def Nd.leaveErr (x : Nd) : Int := if x.left then 4 else 0
theorem leaves_any {x : Nd} (hx : NdOk x) (hB : NdB Big x) {nb mb : Nat} {cb : Dk} {pv rv : Value} {W : World} (hn : NAt W nb mb cb pv rv x) :
    Calls Tryz.prog 39 #[.pointer (some ⟨nb, 0, none⟩)] W fun e w' => e = .returned (errV x.leaveErr) ∧ NTo W w' nb mb cb pv rv x.leaveX := by
  cases h : x.left
  · refine (leave_yes hx hB hn h).mono ?_
    rintro e w' ⟨rfl, ha, hf⟩
    rw [show x.leaveX = x.leave by simp [Nd.leaveX, h], show x.leaveErr = 0 by simp [Nd.leaveErr, h]]
    exact ⟨rfl, pv, rv, ha, ⟨hf.os, hf.tape, hf.output, hf.size, fun k hk hm => hf.block k hk (fun h' => hm (by simp at h'; rcases h' with rfl | rfl | rfl <;> simp [feet]))⟩, fun k hk => .inl hk⟩
  · refine (leave_no hx hn h).mono ?_
    rintro e w' ⟨rfl, hb⟩
    rw [show x.leaveX = x by simp [Nd.leaveX, h], show x.leaveErr = 4 by simp [Nd.leaveErr, h]]
    exact ⟨rfl, pv, rv, hn.below hb, Frm.of_below hb (Nat.le_refl _), fun k hk => .inl hk⟩
theorem Gh.leftX {B : Int} {x : Nd} {r : Rn} (h : Gh B x r) : Gh (B + 1) x.leaveX r.leaveX ∧ x.leaveX.dl = x.dl ∧ (if r.self.st = 4 then (4 : Int) else 0) = x.leaveErr := by
  have e : x.left = decide (r.self.st = 4) := by rw [h.rf.self]; unfold Nd.left; by_cases q : x.own.st = 4 <;> simp [q]
  unfold Nd.leaveX Rn.leaveX Nd.leaveErr
  rw [e]
  by_cases h4 : r.self.st = 4
  · simp only [h4, decide_true, if_true]
    exact ⟨h.mono (by omega), by simp, by simp⟩
  · simp only [h4, decide_false, if_false]
    exact ⟨h.left, rfl, by simp⟩
end Go.Proofs.YtnneljcbelgoeaaGreatDoor.wire
/- The document's node: a draw, more closely; the mixing of a pass (P9). -/
namespace Go.Proofs.YtnneljcbelgoeaaGreatDoor.wire
open Go.RowKit Go.Maps

set_option maxHeartbeats 1000000 in
set_option maxRecDepth 100000 in
theorem rdraw_at {W : World} {b : Nat} {v : Rv} {r : Rn} (h : RAt W b v r) (hdl : DlOk r.draws) (hd : r.drawn ≤ 1000000000000) (n : Int) (hn0 : 1 ≤ n) (hn1 : n ≤ 1000000) :
    Calls Tryz.prog 107 #[.pointer (some ⟨b, 0, none⟩), .int .i64 n] W fun e w' => e = .returned (.int .i64 (r.draw n).1) ∧ RAt w' b v (r.draw n).2 ∧ Frm [b] W w' := by
  have c6 := h.cell 6
  have c7 := h.cell 7
  have f7 := h.free 7
  have hlt := h.ltb
  simp only [refC, List.getElem?_toArray, List.getElem?_cons_zero, List.getElem?_cons_succ] at c6 c7
  have hl := hdl.len
  rcases h.rows.d with ⟨hv, hl0⟩ | ⟨g, off, cap, cs, hv, hg, hcap, hcm, hcs⟩
  · rw [hv] at c6
    have e1 : r.draw n = (0, r) := by simp [Rn.draw, hl0]
    rw [e1]
    have HS : Hid (RAt W b v r ∧ Frm [b] W W) := hide ⟨h, Frm.refl _ _⟩
    clear h hdl
    go_enter Tryz.func107, Tryz.ntmps107
    go_wp2
    go_ret
    exact ⟨rfl, unhide HS⟩
  · rw [hv] at c6
    by_cases h0 : r.draws.length = 0
    · rw [h0] at c6
      have e1 : r.draw n = (0, r) := by simp [Rn.draw, h0]
      rw [e1]
      have HS : Hid (RAt W b v r ∧ Frm [b] W W) := hide ⟨h, Frm.refl _ _⟩
      clear h hdl
      go_enter Tryz.func107, Tryz.ntmps107
      go_wp2
      go_ret
      exact ⟨rfl, unhide HS⟩
    · have e1 : r.draw n = (drawZ r.draws r.drawn n, { r with drawn := r.drawn + 1 }) := by simp [Rn.draw, h0]
      rw [e1]
      have hmod : r.drawn % r.draws.length < r.draws.length := Nat.mod_lt _ (by omega)
      have hcell : W.cell? ⟨g, off + r.drawn % r.draws.length, none⟩ = some (.int .i64 (r.draws.getD (r.drawn % r.draws.length) 0)) := by
        rw [cell_at hg, hcs _ hmod, List.getD_eq_getElem?_getD, List.getElem?_eq_getElem hmod, Option.getD_some]
      have hr := hdl.rng _ (List.getElem_mem hmod)
      have hgd : r.draws.getD (r.drawn % r.draws.length) 0 = r.draws[r.drawn % r.draws.length] := by rw [List.getD_eq_getElem?_getD, List.getElem?_eq_getElem hmod, Option.getD_some]
      have hs : ∀ q, RAt ((W.drewN q).setCell ⟨b, 7, none⟩ (.int .i64 ((r.drawn : Int) + 1))) b v { r with drawn := r.drawn + 1 } ∧ Frm [b] W ((W.drewN q).setCell ⟨b, 7, none⟩ (.int .i64 ((r.drawn : Int) + 1))) := fun q => ⟨((h.drewN q).set 7 (.int .i64 ((r.drawn : Int) + 1)) (r' := { r with drawn := r.drawn + 1 }) (by simp [refC])).1, (Frm.of_below (S := [b]) (bdrewN (Below.refl _ _) q) (Nat.le_refl _)).trans (frm_set _ b 7 _) (fun j hj => .inl hj)⟩
      have HS := hide hs
      clear hs
      have hdz : drawZ r.draws r.drawn n = (if r.draws.getD (r.drawn % r.draws.length) 0 < 0 then -(r.draws.getD (r.drawn % r.draws.length) 0 + 1) else r.draws.getD (r.drawn % r.draws.length) 0).tmod n := rfl
      rw [hdz]
      rw [← hgd] at hr
      generalize r.draws.getD (r.drawn % r.draws.length) 0 = z at hcell hr ⊢
      have htm : ((r.drawn : Int).tmod (r.draws.length : Int)) = ((r.drawn % r.draws.length : Nat) : Int) := by
        rw [Int.tmod_eq_emod_of_nonneg (by omega)]; simp
      have hlen0 : ((r.draws.length : Int) == 0) = false := by rw [beq_eq_false_iff_ne]; omega
      have hnz : (n == 0) = false := by simp; omega
      have hmi : ((r.drawn % r.draws.length : Nat) : Int) < (r.draws.length : Int) := Int.ofNat_lt.2 hmod
      have hgl := lt_blk hg
      generalize r.drawn % r.draws.length = M at hcell htm hmi hmod
      clear h hdl hg hdz hgd hcs hv
      by_cases hz : z < 0
      all_goals
        go_enter Tryz.func107, Tryz.ntmps107
        go_wp2
        go_quiet (fail)
        go_wp2
        go_ret
      · exact ⟨rfl, (unhide HS) _⟩
      · exact ⟨by rw [Int.tmod_eq_emod_of_nonneg (by omega)]; rfl, (unhide HS) _⟩
theorem draw_bd (r : Rn) (_hdl : DlOk r.draws) {n : Int} (hn : 1 ≤ n) : 0 ≤ (r.draw n).1 ∧ (r.draw n).1 < n := by
  unfold Rn.draw
  by_cases h0 : r.draws.length = 0
  · rw [if_pos h0]; exact ⟨Int.le_refl _, by show (0 : Int) < n; omega⟩
  · rw [if_neg h0]
    show 0 ≤ drawZ r.draws r.drawn n ∧ drawZ r.draws r.drawn n < n
    unfold drawZ
    generalize r.draws.getD (r.drawn % r.draws.length) 0 = z
    have hp : 0 ≤ (if z < 0 then -(z + 1) else z) := by split <;> omega
    rw [Int.tmod_eq_emod_of_nonneg hp]
    exact ⟨Int.emod_nonneg _ (by omega), Int.emod_lt_of_pos _ (by omega)⟩
theorem draw_keep (r : Rn) (n : Int) : (r.draw n).2.draws = r.draws ∧ (r.draw n).2.drawn ≤ r.drawn + 1 ∧ (r.draw n).2.others = r.others ∧ (r.draw n).2.pass = r.pass := by
  unfold Rn.draw
  split
  · exact ⟨rfl, Nat.le_succ _, rfl, rfl⟩
  · exact ⟨rfl, Nat.le_refl _, rfl, rfl⟩
end Go.Proofs.YtnneljcbelgoeaaGreatDoor.wire
