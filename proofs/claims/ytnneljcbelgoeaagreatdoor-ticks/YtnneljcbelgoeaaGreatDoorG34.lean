import Derived.Test.YtnneljcbelgoeaaGreatDoorG23
import Derived.Test.YtnneljcbelgoeaaGreatDoorG32
import Derived.Test.YtnneljcbelgoeaaGreatDoorG33
import Derived.Test.YtnneljcbelgoeaaGreatDoorG21
import Derived.Test.YtnneljcbelgoeaaGreatDoorG17
import Derived.Test.YtnneljcbelgoeaaGreatDoorG09
import Derived.Outline
import Derived.Test.YtnneljcbelgoeaaGreatDoorG20
/- The document's node: Receive (P5, P7). -/
namespace Go.Proofs.YtnneljcbelgoeaaGreatDoor.wire
open Go.RowKit Go.Maps

/-- The document's node beside the program's. -/
structure Gh (B : Int) (x : Nd) (r : Rn) : Prop where
  rf : Rf x r
  ok : NdOk x
  dl : DlOk x.dl
  b : NdB B x
  rl : RlB x
  num : x.num ≤ 4000000000
  out : r.out.length ≤ 900
theorem Gh.bs {B : Int} {x : Nd} {r : Rn} (h : Gh B x r) (hB : B ≤ Big) : RBs r := RBs.of h.rf h.ok (h.b.mono hB) h.dl h.out
theorem hear_keep (x : Nd) (k : K3) : (x.hear k).dl = x.dl ∧ (x.hear k).num = x.num := by
  refine ⟨?_, (hear_rels x k).2⟩
  unfold Nd.hear Nd.hearSelf Nd.hearOther Nd.heard
  repeat' split
  all_goals rfl
theorem Gh.hear {B : Int} {x : Nd} {r : Rn} (h : Gh B x r) (k : K3) (hk : isKeyB k = true) : Gh (B + 1) (x.hear k) (r.heard k) :=
  ⟨h.rf.hear h.ok k hk, hear_ok h.ok k hk, by rw [(hear_keep x k).1]; exact h.dl, hear_b h.b k, h.rl.hear h.ok k, by rw [(hear_keep x k).2]; exact h.num, by rw [heard_out]; exact h.out⟩
theorem Gh.mono {B C : Int} {x : Nd} {r : Rn} (h : Gh B x r) (hB : B ≤ C) : Gh C x r := ⟨h.rf, h.ok, h.dl, h.b.mono hB, h.rl, h.num, h.out⟩
theorem Gh.whole {B : Int} {x : Nd} {r : Rn} (h : Gh B x r) {kind seq tgt : Int} (hk : 1 ≤ kind ∧ kind ≤ 3) (ht : 1 ≤ tgt ∧ tgt ≤ 250) (hq : 0 ≤ seq ∧ seq ≤ 4294967295) : wholeB ⟨kind, r.self.id, r.self.inc, seq, tgt, r.updates.1⟩ = true := by
  rw [h.rf.self, (h.rf.updates h.ok).1]
  exact direct_whole h.ok hk ht hq
theorem Gh.self {B : Int} {x : Nd} {r : Rn} (h : Gh B x r) : 1 ≤ r.self.id ∧ r.self.id ≤ 250 := by
  rw [h.rf.self]; exact (own_bounds h.ok).1
theorem Gh.tab {B : Int} {x : Nd} {r : Rn} (h : Gh B x r) {q : Int} (hq : 0 ≤ q ∧ q ≤ 4294967295) : wholeB ⟨5, r.self.id, r.self.inc, q, 0, putSelf r.self (r.others.map RM.k)⟩ = true := by
  obtain ⟨m0, hm0⟩ := h.ok.self
  obtain ⟨f1, f2⟩ := findM_in hm0
  have eo : x.own = m0.k := by simp [Nd.own, atM, hm0]
  have ek : putSelf r.self (r.others.map RM.k) = x.tab.map Mem.k := by
    rw [h.rf.self, h.rf.others, List.map_map, eo]
    exact putSelf_is x.c.self m0 f2 x.tab h.ok.rise f1
  obtain ⟨o1, o2⟩ := own_bounds h.ok
  rw [ek, h.rf.self]
  simp only [wholeB, Bool.and_eq_true]
  refine ⟨isId_mk o1.1 o1.2, isInc_mk o2.1 o2.2, isSeq_mk hq.1 hq.2, ?_, ?_⟩
  · have := h.ok.len
    have e : (x.tab.map Mem.k).length = x.tab.length := by simp
    rw [e]
    simp [suitsB, lowB, highB, this]
  · unfold allB
    rw [List.all_eq_true]
    intro k hk
    obtain ⟨m, hm, rfl⟩ := List.mem_map.1 hk
    exact h.ok.keys m hm
/-- Behind a call that hands out what goes out. -/
def RToX (W W' : World) (b : Nat) (v : Rv) (r' : Rn) (o : Value) : Prop := ∃ v', v'.d = v.d ∧ RAt W' b v' r' ∧ Frm (rfeet b v) W W' ∧ (∀ k ∈ rfeet b v', k ∈ rfeet b v ∨ W.heap.size ≤ k) ∧ o = v'.x
/-- Nothing goes out yet. -/
theorem RAt.mute {W : World} {b : Nat} {v : Rv} {r : Rn} (h : RAt W b v r) : RAt (W.setCell ⟨b, 24, none⟩ (.slice none 0 0)) b { v with x := .slice none 0 0 } { r with out := [] } ∧ Frm (rfeet b v) W (W.setCell ⟨b, 24, none⟩ (.slice none 0 0)) ∧ ∀ k ∈ rfeet b { v with x := .slice none 0 0 }, k ∈ rfeet b v ∨ W.heap.size ≤ k := by
  refine ⟨RAt.store h.blk (h.rows.setX (Frm.refl _ _) (l := []) (World.ownsRow_nil _ _ _ _)) 24 _ rfl, frm_own W b v _, fun k hk => .inl ?_⟩
  simp only [rfeet, Rv.all, List.mem_cons, List.mem_append] at hk ⊢
  rcases hk with hk | hk | hk | hk | hk | hk | hk
  · exact .inl hk
  · exact .inr (.inl hk)
  · exact .inr (.inr (.inl hk))
  · exact .inr (.inr (.inr (.inl hk)))
  · exact .inr (.inr (.inr (.inr (.inl hk))))
  · exact .inr (.inr (.inr (.inr (.inr (.inl hk)))))
  · simp [Value.ownBlock] at hk
set_option maxHeartbeats 2000000 in
set_option maxRecDepth 100000 in
theorem rreceive_no {B : Int} {x : Nd} {r : Rn} (hg : Gh B x r) (hB : B ≤ 999999999000) {W : World} {b : Nat} {v : Rv} (h : RAt W b v r) (s : List UInt8) (hs : s.length ≤ maxLen) (hd : (decB s && !decide ((readM s).frm = r.self.id)) = false) :
    Calls Tryz.prog 56 #[.pointer (some ⟨b, 0, none⟩), .string (bs s)] W fun e w' => ∃ o, e = .returned o ∧ RToX W w' b v (r.receive s) o := by
  obtain ⟨ha1, hf1, hs1⟩ := h.mute
  have hbs := hg.bs (by unfold Big; omega)
  have hdr := hbs.dropped
  have HE : Hid (r.receive s = { r with out := [], dropped := r.dropped + 1 }) := hide (by unfold Rn.receive; rw [if_neg (by rw [hd]; simp)])
  have c24 := h.cell 24
  have f24 := h.free 24
  have hlt := h.ltb
  obtain ⟨xo, xc, hxv, _⟩ := row_form h.rows.x
  simp only [refC, List.getElem?_toArray, List.getElem?_cons_zero, List.getElem?_cons_succ, hxv] at c24
  generalize hw1 : W.setCell ⟨b, 24, none⟩ (.slice none 0 0) = w1 at ha1 hf1
  have c10 := ha1.cell 10
  have c21 := ha1.cell 21
  have f21 := ha1.free 21
  simp only [refC, List.getElem?_toArray, List.getElem?_cons_zero, List.getElem?_cons_succ] at c10 c21
  have hlt1 := ha1.ltb
  have HF : Hid (∀ w', Below w1.heap.size w1 w' → RToX W (w'.setCell ⟨b, 21, none⟩ (.int .i64 (r.dropped + 1))) b v { r with out := [], dropped := r.dropped + 1 } (.slice none 0 0)) := hide (fun w' hb => by
    obtain ⟨k1, k2⟩ := (ha1.below hb).set 21 (.int .i64 (r.dropped + 1)) (r' := { r with out := [], dropped := r.dropped + 1 }) rfl
    exact ⟨{ v with x := .slice none 0 0 }, rfl, k1, (hf1.step hb).trans (frm_set w' b 21 _) (by simp [rfeet]), hs1, rfl⟩)
  have hbc : ∀ w', Below w1.heap.size w1 w' → w'.cell? ⟨b, 10, none⟩ = some (.int .i64 r.self.id) ∧ w'.cell? ⟨b, 21, none⟩ = some (.int .i64 r.dropped) ∧ w'.frozen? ⟨b, 21, none⟩ = false := fun w' hb => ⟨(hb.cell (p := ⟨b, 10, none⟩) hlt1).trans c10, (hb.cell (p := ⟨b, 21, none⟩) hlt1).trans c21, (hb.frozen (p := ⟨b, 21, none⟩) hlt1).trans f21⟩
  have HBC := hide hbc
  clear h ha1 hf1 hs1 hbs hg hxv hbc c10 c21 f21
  go_enter Tryz.func56, Tryz.ntmps56
  rcases hdb : decB s with _ | _
  · go_wp2_with fail
    clear hw1
    refine (rdecode_no s w1 hs hdb).mono ?_
    rintro e w2 ⟨rfl, hb2⟩
    obtain ⟨j10, j21, g21⟩ := unhide HBC w2 hb2
    have hz2 := hb2.size
    have hlt2 : b < w2.heap.size := by omega
    have HB2 := hide hb2
    clear hb2 hd hdb
    simp only [mval, M6.zero]
    go_wp2
    go_quiet (fail)
    go_wp2
    go_ret
    rw [unhide HE]
    exact ⟨_, rfl, unhide HF _ ((unhide HB2).trans (bdrewN ((Below.refl _ _).alloc (Nat.le_refl _) _) _ |>.mono (unhide HB2).size))⟩
  · have hfr : (readM s).frm = r.self.id := by
      rw [hdb] at hd
      simpa using hd
    have HFR := hide hfr
    go_wp2_with fail
    clear hw1
    refine (rdecode_yes s w1 hdb).mono ?_
    rintro e w2 ⟨vu, rfl, ho2, hb2⟩
    obtain ⟨j10, j21, g21⟩ := unhide HBC w2 hb2
    have hz2 := hb2.size
    have hlt2 : b < w2.heap.size := by omega
    have HB2 := hide hb2
    obtain ⟨uo, uc, hvu⟩ := own_form ho2
    subst hvu
    have hfr' : ((readM s).frm == r.self.id) = true := by simpa using hfr
    clear hb2 hd hdb ho2 hfr
    generalize readM s = M at hfr' HFR ⊢
    simp only [mval]
    go_wp2
    go_quiet (fail)
    go_wp2
    go_ret
    rw [unhide HE]
    exact ⟨_, rfl, unhide HF _ ((unhide HB2).trans (bdrewN ((Below.refl _ _).alloc (Nat.le_refl _) _) _ |>.mono (unhide HB2).size))⟩
end Go.Proofs.YtnneljcbelgoeaaGreatDoor.wire
/- The ghosts behind each call: the node and the document's are one. No Go here. -/
namespace Go.Proofs.YtnneljcbelgoeaaGreatDoor.wire
theorem join_bd {B : Int} {x : Nd} (h : NdB B x) (i : Int) : NdB (B + 1) (x.join i).2 := by
  obtain ⟨h1, h2, h3, h4, h5⟩ := h
  refine ⟨⟨h1.1, by show x.clock ≤ _; omega⟩, ⟨by show 0 ≤ x.num + 1; omega, by show x.num + 1 ≤ B + 1; omega⟩, ⟨h3.1, by show x.dropped ≤ _; omega⟩, ⟨h4.1, by show x.lost ≤ _; omega⟩, ⟨⟨h5.1.1, by show x.pst ≤ _; omega⟩, by show (x.dat : Int) ≤ _; omega⟩⟩
theorem asks_out : ∀ (n : Nat) (l : List Int) (x : Nd), (x.asks n l).1.length = n ∧ ∀ p ∈ (x.asks n l).1, p.bytes.length ≤ 60
  | 0, _, _ => ⟨rfl, fun _ h => by cases h⟩
  | n + 1, l, x => by
    obtain ⟨h1, h2⟩ := asks_out n (l.eraseIdx (x.drawn l.length).toNat) (x.drew l.length).along
    refine ⟨by simp [Nd.asks, h1], fun p hp => ?_⟩
    simp only [Nd.asks, List.mem_cons] at hp
    rcases hp with rfl | hp
    · exact direct_small _ _ _ _ _
    · exact h2 p hp
theorem goOn_out {x : Nd} (hx : NdOk x) : x.goOn.1.length ≤ 8 ∧ ∀ p ∈ x.goOn.1, p.bytes.length ≤ 60 := by
  unfold Nd.goOn
  split
  · exact ⟨by simp, fun _ h => by cases h⟩
  · split
    · unfold Nd.askOthers
      split
      · exact ⟨by simp, fun _ h => by cases h⟩
      · obtain ⟨h1, h2⟩ := asks_out (min x.c.proxies.toNat x.able.length) x.able x
        refine ⟨?_, h2⟩
        rw [h1]
        have : x.c.proxies ≤ 3 := by
          have := hx.cfg
          simp only [cfgB, Bool.and_eq_true, decide_eq_true_eq] at this
          omega
        omega
    · split <;> exact ⟨by simp, fun _ h => by cases h⟩
theorem probeNext_out (x : Nd) : x.probeNext.1.length ≤ 1 ∧ ∀ p ∈ x.probeNext.1, p.bytes.length ≤ 60 := by
  unfold Nd.probeNext
  split
  · exact ⟨by simp, fun _ h => by cases h⟩
  · unfold Nd.probeOne
    split
    · exact ⟨by simp, fun _ h => by cases h⟩
    · refine ⟨by simp, fun p hp => ?_⟩
      simp at hp; subst hp
      exact direct_small _ _ _ _ _
theorem tick_out {x : Nd} (hx : NdOk x) : x.tick.1.length ≤ 9 ∧ ∀ p ∈ x.tick.1, p.bytes.length ≤ 60 := by
  have h0 : NdOk x.later.endRelays.endSuspects := endSuspects_ok (endRelays_ok (later_ok hx))
  obtain ⟨a1, a2⟩ := goOn_out h0
  obtain ⟨b1, b2⟩ := probeNext_out x.later.endRelays.endSuspects.goOn.2
  refine ⟨by simp [Nd.tick]; omega, fun p hp => ?_⟩
  simp only [Nd.tick, List.mem_append] at hp
  rcases hp with hp | hp
  · exact a2 p hp
  · exact b2 p hp
theorem join_out (x : Nd) (i : Int) : (x.join i).1.length ≤ 1 ∧ ∀ p ∈ (x.join i).1, p.bytes.length ≤ 60 := by
  refine ⟨by simp [Nd.join], fun p hp => ?_⟩
  simp [Nd.join] at hp; subst hp
  exact bytesS_len _ (by simp)
/-- What comes of a call: the same packets, and they are one again. -/
structure Gone (B : Int) (dl : List Int) (o : List Pk) (x : Nd) (r : Rn) : Prop where
  gh : Gh B x r
  out : r.out = o
  len : o.length ≤ 9
  small : ∀ p ∈ o, p.bytes.length ≤ 60
  dl : x.dl = dl
theorem Gh.received {B : Int} {x : Nd} {r : Rn} (h : Gh B x r) (hB : B ≤ 1000000000) (l : List UInt8) : Gone (B + 10) x.dl (x.receive l).1 (x.receive l).2 (r.receive l) := by
  obtain ⟨g, _⟩ := receive_keeps h.ok l
  have hn := h.b.num
  have s := h.rf.receive h.ok h.rl ⟨hn.1, by omega⟩ l
  have hb := g.b B h.b
  obtain ⟨o1, o2⟩ := receive_out h.ok h.rl.rel l
  exact ⟨⟨s.rf, g.ok, by rw [g.up.dl]; exact h.dl, hb, s.rl, by have := hb.num.2; omega, by rw [s.out]; omega⟩, s.out, by omega, o2, g.up.dl⟩
theorem Gh.ticked {B : Int} {x : Nd} {r : Rn} (h : Gh B x r) (hB : B ≤ 1000000000) : Gone (B + 21) x.dl x.tick.1 x.tick.2 r.tick := by
  have hn := h.b.num
  have s := h.rf.tick h.ok h.rl ⟨hn.1, by omega⟩
  have hb := tick_b h.ok h.b
  obtain ⟨o1, o2⟩ := tick_out h.ok
  exact ⟨⟨s.rf, tick_ok h.ok, by rw [(Up.tick h.ok).dl]; exact h.dl, hb, s.rl, by have := hb.num.2; omega, by rw [s.out]; omega⟩, s.out, o1, o2, (Up.tick h.ok).dl⟩
theorem Gh.joined {B : Int} {x : Nd} {r : Rn} (h : Gh B x r) (hB : B ≤ 1000000000) (i : Int) : Gone (B + 1) x.dl (x.join i).1 (x.join i).2 (r.join i) ∧ r.joinErr i = x.joinErr i := by
  have hn := h.b.num
  obtain ⟨s, e⟩ := h.rf.join h.ok h.rl ⟨hn.1, by omega⟩ i
  have hb := join_bd h.b i
  obtain ⟨o1, o2⟩ := join_out x i
  exact ⟨⟨⟨s.rf, num_ok h.ok _, h.dl, hb, s.rl, by have := hb.num.2; omega, by rw [s.out]; omega⟩, s.out, by omega, o2, rfl⟩, e⟩
theorem Gh.left {B : Int} {x : Nd} {r : Rn} (h : Gh B x r) : Gh (B + 1) x.leave r.leave := by
  obtain ⟨a, b, c⟩ := h.rf.leave h.ok h.rl
  obtain ⟨m, hm⟩ := h.ok.self
  have hid : x.own.id = x.c.self := h.ok.own_key.2
  have hb : NdB (B + 1) x.leave := change_b h.b _
  exact ⟨a, change_ok h.ok _ (left_key h.ok.own_key.1) (.inl (by show (findM x.own.id x.tab).isSome = true; rw [hid, hm]; rfl)), h.dl, hb, b, h.num, by rw [c]; exact h.out⟩
theorem Gh.drained {B : Int} {x : Nd} {r : Rn} (h : Gh B x r) (k : Nat) : Gh B { x with evs := x.evs.drop k } { r with evs := r.evs.drop k } := by
  have f := h.rf
  have o := h.ok
  refine ⟨⟨f.c, f.draws, f.drawn, f.clock, f.seq, f.self, f.others, f.pass, f.probe, f.prb, f.queue, f.rels, f.dropped, by show r.evs.drop k = x.evs.drop k; rw [f.evs], f.lost⟩, ⟨o.cfg, o.rise, o.len, o.keys, o.sends, o.self, ?_, o.rels, o.pass⟩, h.dl, ⟨h.b.clock, h.b.num, h.b.dropped, h.b.lost, h.b.tk⟩, h.rl.same rfl (Int.le_refl _) rfl rfl rfl rfl rfl (.inl rfl), h.num, h.out⟩
  show (x.evs.drop k).length ≤ 8
  have := o.evs
  rw [List.length_drop]
  omega
theorem Gh.made {c : Cfg} (hc : cfgB c = true) (dl : List Int) (hd : DlOk dl) : Gh 0 (Nd.new c dl) (Rn.new c dl) := by
  have hs : (1 : Int) ≤ c.self ∧ c.self ≤ 250 := by simp only [cfgB, Bool.and_eq_true] at hc; exact isId_of hc.1
  have hself : (Nd.new c dl).own = ⟨c.self, 1, 1⟩ := by simp [Nd.own, Nd.new, atM, findM]
  have hok : NdOk (Nd.new c dl) := (nice_new c hc 250 (by omega) hd).ok
  refine ⟨⟨rfl, rfl, rfl, rfl, rfl, ?_, ?_, rfl, rfl, fun h => absurd rfl h, ?_, rfl, rfl, rfl, rfl⟩, hok, hd, new_b c dl, ⟨⟨by simp [Nd.new], by simp [Nd.new]⟩, by simp [Nd.new], fun h => absurd rfl h, .inl (by rw [hself])⟩, by simp [Nd.new], by simp [Rn.new]⟩
  · rw [hself]; rfl
  · simp [Rn.new, Nd.rest, Nd.new]
  · simp [Rn.new, Nd.new, pendB]
end Go.Proofs.YtnneljcbelgoeaaGreatDoor.wire
/- The document's node: Receive of a message (P5, P7). -/
namespace Go.Proofs.YtnneljcbelgoeaaGreatDoor.wire
open Go.RowKit Go.Maps

theorem Gh.sent {B : Int} {x : Nd} {r : Rn} (h : Gh B x r) : Gh B x { r with out := [] } := ⟨h.rf.sent [], h.ok, h.dl, h.b, h.rl, h.num, by simp⟩
theorem Gh.hears {B : Int} : ∀ (l : List K3) {x : Nd} {r : Rn}, Gh B x r → allB l = true → Gh (B + l.length) (x.hears l) (r.hears l) := fun l x r h hl =>
  ⟨h.rf.hears l h.ok hl, hears_ok' l h.ok hl, by
    have : ∀ (l : List K3) (x : Nd), (x.hears l).dl = x.dl := fun l => by
      induction l with
      | nil => intro x; rfl
      | cons k r ih => intro x; exact (ih (x.hear k)).trans (hear_keep x k).1
    rw [this]; exact h.dl, hears_b' l h.b, h.rl.hears l h.ok hl, by rw [(hears_rels l x).2]; exact h.num, by rw [hears_out]; exact h.out⟩
theorem hears_take (r : Rn) (l : List K3) (k : Nat) (h : k < l.length) : r.hears (l.take (k + 1)) = (r.hears (l.take k)).heard l[k] := by
  unfold Rn.hears
  rw [List.take_succ_eq_append_getElem h, List.foldl_append]
  rfl
theorem allB_take3 {l : List K3} (h : allB l = true) (k : Nat) : allB (l.take k) = true := by
  unfold allB at h ⊢
  rw [List.all_eq_true] at h ⊢
  exact fun a ha => h a (List.mem_of_mem_take ha)
theorem allB_get3 {l : List K3} (h : allB l = true) (k : Nat) (hk : k < l.length) : isKeyB l[k] = true := by
  unfold allB at h
  rw [List.all_eq_true] at h
  exact h _ (List.getElem_mem hk)
set_option maxHeartbeats 4000000 in
set_option maxRecDepth 100000 in
theorem rreceive_yes {B : Int} {x : Nd} {r : Rn} (hg : Gh B x r) (hB : B ≤ 999999999000) {W : World} {b : Nat} {v : Rv} (h : RAt W b v r) (s : List UInt8) (hdb : decB s = true) (hfr : ¬ (readM s).frm = r.self.id) :
    Calls Tryz.prog 56 #[.pointer (some ⟨b, 0, none⟩), .string (bs s)] W fun e w' => ∃ o, e = .returned o ∧ RToX W w' b v (r.receive s) o := by
  obtain ⟨ha1, hf1, hs1⟩ := h.mute
  have hw := (takes_parts (s := r.self.id) (b := s) (by unfold takesB; rw [hdb]; simpa using hfr)).1
  obtain ⟨hk0, _, hall⟩ := whole_parts hw
  obtain ⟨hsq, htg⟩ := whole_seq3 hw
  have hlen := whole_len hw
  have hkd : 1 ≤ (readM s).kind ∧ (readM s).kind ≤ 5 := by
    by_cases e : (readM s).kind < 1 ∨ 5 < (readM s).kind
    · rw [whole_kind e] at hw; cases hw
    · omega
  have HE : Hid (r.receive s = ((({ r with out := [] } : Rn).heard ⟨(readM s).frm, (readM s).inc, 1⟩).hears (readM s).ups).deed (readM s)) := hide (by unfold Rn.receive; rw [if_pos (by rw [hdb]; simpa using hfr)])
  have c24 := h.cell 24
  have f24 := h.free 24
  have hlt := h.ltb
  obtain ⟨xo, xc, hxv, _⟩ := row_form h.rows.x
  simp only [refC, List.getElem?_toArray, List.getElem?_cons_zero, List.getElem?_cons_succ, hxv] at c24
  generalize hw1 : W.setCell ⟨b, 24, none⟩ (.slice none 0 0) = w1 at ha1 hf1
  have HDEC := hide (rdecode_yes s w1 hdb)
  have hg0 := hg.sent
  have hself : ({ r with out := [] } : Rn).self.id = r.self.id := rfl
  generalize hM : readM s = M at *
  generalize hr0 : ({ r with out := [] } : Rn) = r0 at *
  have hfr0 : (M.frm == r0.self.id) = false := by rw [hself]; simpa using hfr
  have HG0 := hide hg0
  have HA1 := hide ha1
  have HF1 := hide hf1
  have HS1 := hide hs1
  have HALL := hide hall
  have HK0 := hide hk0
  have HW := hide hw
  have HSQ := hide hsq
  have HTG := hide htg
  have HHS := hide hself
  clear hg hg0 h ha1 hf1 hs1 hxv hall hk0 hw hsq htg hself hM hr0 hfr hdb
  go_enter Tryz.func56, Tryz.ntmps56
  go_wp2_with fail
  clear hw1 c24 f24 hlt
  refine (unhide HDEC).mono ?_
  rintro e w2 ⟨vu, rfl, ho2, hb2⟩
  obtain ⟨uo, uc, hvu, hub, _⟩ := row_form ho2
  subst hvu
  obtain ⟨v1, hv1⟩ : ∃ v1 : Rv, v1 = { v with x := .slice none 0 0 } := ⟨_, rfl⟩
  have hvd : v1.d = v.d := by rw [hv1]
  rw [← hv1] at HA1 HS1
  have hlow : ∀ k ∈ rfeet b v1, k < w1.heap.size := fun k hk => (unhide HA1).lt hk
  have hb3 := hb2.alloc hb2.size (.cells #[.int .i64 M.kind, .int .i64 M.frm, .int .i64 M.inc, .int .i64 M.seq, .int .i64 M.tgt, .slice uo M.ups.length uc] 33)
  have h3 := (unhide HA1).below hb3
  have hx3 : (w2.alloc (.cells #[.int .i64 M.kind, .int .i64 M.frm, .int .i64 M.inc, .int .i64 M.seq, .int .i64 M.tgt, .slice uo M.ups.length uc] 33)).heap[w2.heap.size]? = some (.cells #[.int .i64 M.kind, .int .i64 M.frm, .int .i64 M.inc, .int .i64 M.seq, .int .i64 M.tgt, .slice uo M.ups.length uc] 33 (0, 0)) := heap_alloc_new w2 _
  have ho3 := own_below ho2 ((Below.refl w2.heap.size w2).alloc (Nat.le_refl _) (.cells #[.int .i64 M.kind, .int .i64 M.frm, .int .i64 M.inc, .int .i64 M.seq, .int .i64 M.tgt, .slice uo M.ups.length uc] 33))
  have hnm : w2.heap.size ∉ rfeet b v1 := fun hm => by have := hlow _ hm; have := hb2.size; omega
  have hnu : ∀ g, uo = some ⟨g, 0, none⟩ → g ∉ rfeet b v1 := fun g e hm => by
    have h1 := hlow _ hm
    have h2 := (own_lt ho2 (show (Value.slice uo M.ups.length uc).ownBlock = some g by rw [e]; rfl)).1
    omega
  have hz12 := hb2.size
  generalize hw3 : w2.alloc (.cells #[.int .i64 M.kind, .int .i64 M.frm, .int .i64 M.inc, .int .i64 M.seq, .int .i64 M.tgt, .slice uo M.ups.length uc] 33) = w3 at hb3 h3 hx3 ho3
  have c10 := h3.cell 10
  have m1 := cell_at hx3 1
  have m2 := cell_at hx3 2
  have hlt3 := h3.ltb
  have hlm3 := lt_blk hx3
  simp only [refC, List.getElem?_toArray, List.getElem?_cons_zero, List.getElem?_cons_succ] at c10 m1 m2
  have HFIN : Hid (∀ (w' : World) (R : Rn), RTo w3 w' b v1 R → ∃ ao n c, w'.cell? ⟨b, 24, none⟩ = some (.slice ao n c) ∧ b < w'.heap.size ∧ RToX W w' b v R (.slice ao n c)) := hide (fun w' R hR => by
    have hf : Frm (rfeet b v) W w3 := (unhide HF1).step hb3
    obtain ⟨v7, hd7, ha7, hf7, hs7⟩ := RTo.trans hvd hf (unhide HS1) hR
    obtain ⟨ao, cap, hx, _⟩ := row_form ha7.rows.x
    have c := ha7.cell 24
    simp only [refC, List.getElem?_toArray, List.getElem?_cons_zero, List.getElem?_cons_succ, hx] at c
    exact ⟨ao, _, cap, c, ha7.ltb, v7, hd7, ha7, hf7, hs7, hx.symm⟩)
  have HH := hide (fun q => rheard_any (h3.drewN q) ((unhide HG0).bs (by unfold Big; omega)).toRBd ⟨M.frm, M.inc, 1⟩ (unhide HK0))
  have HG1 := hide ((unhide HG0).hear ⟨M.frm, M.inc, 1⟩ (unhide HK0))
  have H3 := hide h3
  have HX3 := hide hx3
  have HO3 := hide ho3
  have HNM := hide hnm
  have HNU := hide hnu
  have HUB := hide hub
  clear ho2 hb2 hb3 h3 hx3 ho3 hnm hnu hub hv1 hlow HDEC hvd
  simp only [mval]
  go_wp2
  go_quiet (fail)
  go_wp2_with fail
  clear hw3
  refine (unhide HH _).mono ?_
  rintro e w4 ⟨rfl, h4⟩
  have h4' := RTo.from (bdrewN (Below.refl w3.heap.size w3) _) h4
  have HT4 := hide h4'
  clear h4 h4' HH c10 m1 m2
  generalize r0.heard ⟨M.frm, M.inc, 1⟩ = r1 at HT4 HG1 HE
  generalize x.hear ⟨M.frm, M.inc, 1⟩ = x1 at HG1
  go_wp2_with fail
  go_loopw [7] (fun i wr => ∃ k : Nat, i = .int .i64 k ∧ k ≤ M.ups.length ∧ RTo w3 wr b v1 (r1.hears (M.ups.take k))) (fun i _ => M.ups.length - (Go.RowKit.intOf i).toNat)
  case atStart => exact ⟨0, by go_num, by omega, by simpa [Rn.hears] using unhide HT4⟩
  case round =>
    obtain ⟨k, rfl, hk, ht⟩ := hrel
    have hxm := (ht.block hlm3 (unhide HNM)).trans (unhide HX3)
    have m0 := cell_at hxm 0
    have m1 := cell_at hxm 1
    have m2 := cell_at hxm 2
    have m3 := cell_at hxm 3
    have m4 := cell_at hxm 4
    have m5 := cell_at hxm 5
    have hlm := lt_blk hxm
    simp only [List.getElem?_toArray, List.getElem?_cons_zero, List.getElem?_cons_succ] at m0 m1 m2 m3 m4 m5
    have HT := hide ht
    by_cases hlt2 : k < M.ups.length
    · obtain ⟨g, hg, hgl⟩ := unhide HUB (by omega)
      subst hg
      have hgl3 : g < w3.heap.size := by omega
      have hgb := ht.block hgl3 (unhide HNU g rfl)
      have hcell : ∀ j, j < 3 → wr.cell? ⟨g, k * 3 + j, none⟩ = (keyC M.ups[k])[j]? := fun j hj => by
        have := row_cell keyC 3 (fun _ => rfl) (b := g) (n := M.ups.length) (cap := uc) (by rw [flat_kcells]; exact unhide HO3) k hlt2 j hj
        rw [← this]
        simp only [World.cell?, hgb]
      have q0 := hcell 0 (by omega)
      have q1 := hcell 1 (by omega)
      have q2 := hcell 2 (by omega)
      simp only [keyC, List.getElem?_cons_zero, List.getElem?_cons_succ, Nat.add_zero] at q0 q1 q2
      obtain ⟨v5, hd5, ha5, hf5, hs5⟩ := ht
      have hgk := (unhide HG1).hears (M.ups.take k) (allB_take3 (unhide HALL) k)
      have hHC := rheard_any ha5 (hgk.bs (by have : ((M.ups.take k).length : Int) ≤ 8 := by simp; omega
                                             unfold Big; omega)).toRBd M.ups[k] (allB_get3 (unhide HALL) k hlt2)
      have hst := hears_take r1 M.ups k hlt2
      rw [← hst] at hHC
      have HHC := hide hHC
      have HTT := hide (fun w' (R : Rn) (h : RTo wr w' b v5 R) => RTo.trans hd5 hf5 hs5 h)
      have hki : (k : Int) < (M.ups.length : Int) := by omega
      clear ha5 hf5 hs5 hd5 hgk hHC hst hcell hgb hxm
      generalize M.ups[k] = U at q0 q1 q2 HHC
      obtain ⟨ui, ua, ub⟩ := U
      simp only at q0 q1 q2
      go_wp2_with fail
      refine (unhide HHC).mono ?_
      rintro e w6 ⟨rfl, h6⟩
      have HT6 := hide (unhide HTT w6 _ h6)
      clear h6 HHC HTT
      go_wp2
      go_roundw
      case rel => exact ⟨k + 1, by go_num, by omega, unhide HT6⟩
      case measure => simp [Go.RowKit.intOf]; omega
    · have hke : k = M.ups.length := by omega
      subst hke
      rw [List.take_length] at HT
      have hg2 := (unhide HG1).hears M.ups (unhide HALL)
      have hbs := hg2.bs (by have : (M.ups.length : Int) ≤ 8 := by omega
                             unfold Big; omega)
      have hlenI : (M.ups.length : Int) ≤ 8 := by omega
      clear ht
      generalize r1.hears M.ups = r2 at HT HE hg2 hbs
      generalize x1.hears M.ups = x2 at hg2
      obtain ⟨v5, hd5, ha5, hf5, hs5⟩ := unhide HT
      have HTT := hide (fun w' (R : Rn) (h : RTo wr w' b v5 R) => RTo.trans hd5 hf5 hs5 h)
      have c10 := ha5.cell 10
      simp only [refC, List.getElem?_toArray, List.getElem?_cons_zero, List.getElem?_cons_succ] at c10
      have hlt5 := ha5.ltb
      have huv : ∃ ao n c, (Value.slice uo M.ups.length uc) = .slice ao n c := ⟨_, _, _, rfl⟩
      have hsf := hg2.self
      have hcs : M.kind = 1 ∨ M.kind = 2 ∨ M.kind = 3 ∨ M.kind = 4 ∨ M.kind = 5 := by omega
      rcases hcs with k1 | k1 | k1 | k1 | k1
      · have hde : r2.deed M = if M.tgt = r2.self.id then r2.direct M.frm 2 M.seq r2.self.id else r2 := by unfold Rn.deed; rw [if_pos k1]
        rw [hde] at HE
        rw [k1] at m0
        by_cases ht : M.tgt = r2.self.id
        · rw [if_pos ht] at HE
          have ht' : (M.tgt == r2.self.id) = true := by simpa using ht
          have HSD := hide (fun q => rsend_direct (ha5.drewN q).drew hbs.plain.1 hbs.plain.2 hbs.qs M.frm 2 M.seq r2.self.id (by omega) (hg2.whole (by omega) hsf (unhide HSQ)))
          clear ha5 hf5 hs5 hd5 hg2 hbs ht hde k1 hxm
          go_wp2
          go_quiet (fail)
          go_wp2_with fail
          go_region_with (go_at_call 62; refine (unhide HSD _).mono ?_; rintro e w6 ⟨rfl, h6⟩)
          all_goals
            obtain ⟨ao, n, c, hc24, hbl, hX⟩ := unhide HFIN w6 _ (unhide HTT w6 _ (RTo.from (bdrew (bdrewN (Below.refl _ _) _)) h6))
            have HX := hide hX
            clear h6 hX
            go_wp2
            go_ret
            rw [unhide HE]
            exact ⟨_, rfl, unhide HX⟩
        · rw [if_neg ht] at HE
          have ht' : (M.tgt == r2.self.id) = false := by simpa using ht
          have hFI := fun q => unhide HFIN (wr.drewN q) _ (unhide HTT _ _ (RTo.same ha5 (bdrewN (Below.refl _ _) q)))
          have HFI := hide hFI
          obtain ⟨ao, n, c, hc24, hbl, _⟩ := unhide HFIN wr _ (unhide HTT _ _ (RTo.same ha5 (Below.refl _ _)))
          clear ha5 hf5 hs5 hd5 hg2 hbs ht hde k1 hxm hFI
          go_wp2
          go_quiet (fail)
          go_wp2
          go_ret
          rw [unhide HE]
          obtain ⟨ao', n', c', hc', _, hX⟩ := unhide HFI _
          simp only [World.cell?_drewN] at hc'
          rw [hc24] at hc'
          cases hc'
          exact ⟨_, rfl, hX⟩
      · have hde : r2.deed M = r2.ackd M := by unfold Rn.deed; rw [if_neg (by omega), if_pos k1]
        rw [hde] at HE
        have hca := racked_any ha5 hbs.plain.1 hbs.plain.2 hbs.qs (by have := hbs.rels; omega) M (.slice uo M.ups.length uc) huv (fun d hd => by
          obtain ⟨p1, p2, p3⟩ := hg2.rl.rng d (by rw [← hg2.rf.rels]; exact hd)
          exact hg2.whole (by omega) p1 p2)
        simp only [mval] at hca
        rw [k1] at hca m0
        have HCA := hide hca
        clear hca ha5 hf5 hs5 hd5 hg2 hbs hde k1 hxm
        go_wp2_with fail
        refine (unhide HCA).mono ?_
        rintro e w6 ⟨rfl, h6⟩
        obtain ⟨ao, n, c, hc24, hbl, hX⟩ := unhide HFIN w6 _ (unhide HTT w6 _ h6)
        have HX := hide hX
        clear h6 hX HCA
        go_wp2
        go_ret
        rw [unhide HE]
        exact ⟨_, rfl, unhide HX⟩
      · have hde : r2.deed M = r2.askd M := by unfold Rn.deed; rw [if_neg (by omega), if_neg (by omega), if_pos k1]
        rw [hde] at HE
        have hca := rasked_any ha5 hbs.plain.1 hbs.plain.2 hbs.qs hbs.rels hbs.seq hbs.clock (by have := hbs.period; omega) M (.slice uo M.ups.length uc) huv (fun _ => hg2.whole (by omega) hsf (unhide HSQ)) (hg2.whole (by omega) (unhide HTG (by omega)) (by have h1 := hg2.num; have h2 := hg2.b.num; rw [hg2.rf.seq]; omega))
        simp only [mval] at hca
        rw [k1] at hca m0
        have HCA := hide hca
        clear hca ha5 hf5 hs5 hd5 hg2 hbs hde k1 hxm
        go_wp2_with fail
        refine (unhide HCA).mono ?_
        rintro e w6 ⟨rfl, h6⟩
        obtain ⟨ao, n, c, hc24, hbl, hX⟩ := unhide HFIN w6 _ (unhide HTT w6 _ h6)
        have HX := hide hX
        clear h6 hX HCA
        go_wp2
        go_ret
        rw [unhide HE]
        exact ⟨_, rfl, unhide HX⟩
      · have hde : r2.deed M = r2.tabled M := by unfold Rn.deed; rw [if_neg (by omega), if_neg (by omega), if_neg (by omega), if_pos k1]
        rw [hde] at HE
        have hca := rtable_any ha5 hbs.len hbs.plain.1 M (.slice uo M.ups.length uc) (hg2.tab (unhide HSQ)) huv
        simp only [mval] at hca
        rw [k1] at hca m0
        have HCA := hide hca
        clear hca ha5 hf5 hs5 hd5 hg2 hbs hde k1 hxm
        go_wp2_with fail
        refine (unhide HCA).mono ?_
        rintro e w6 ⟨rfl, h6⟩
        obtain ⟨ao, n, c, hc24, hbl, hX⟩ := unhide HFIN w6 _ (unhide HTT w6 _ h6)
        have HX := hide hX
        clear h6 hX HCA
        go_wp2
        go_ret
        rw [unhide HE]
        exact ⟨_, rfl, unhide HX⟩
      · have hde : r2.deed M = r2 := by unfold Rn.deed; rw [if_neg (by omega), if_neg (by omega), if_neg (by omega), if_neg (by omega)]
        rw [hde] at HE
        rw [k1] at m0
        obtain ⟨ao, n, c, hc24, hbl, hX⟩ := unhide HFIN wr _ (unhide HTT _ _ (RTo.same ha5 (Below.refl _ _)))
        have HX := hide hX
        clear ha5 hf5 hs5 hd5 hg2 hbs hde k1 hxm hX
        go_wp2
        go_ret
        rw [unhide HE]
        exact ⟨_, rfl, unhide HX⟩
/-- Receive, whatever the bytes. -/
theorem rreceive_any {B : Int} {x : Nd} {r : Rn} (hg : Gh B x r) (hB : B ≤ 999999999000) {W : World} {b : Nat} {v : Rv} (h : RAt W b v r) (s : List UInt8) (hs : s.length ≤ maxLen) :
    Calls Tryz.prog 56 #[.pointer (some ⟨b, 0, none⟩), .string (bs s)] W fun e w' => ∃ o, e = .returned o ∧ RToX W w' b v (r.receive s) o := by
  rcases hd : (decB s && !decide ((readM s).frm = r.self.id)) with _ | _
  · exact rreceive_no hg hB h s hs hd
  · simp only [Bool.and_eq_true, Bool.not_eq_true', decide_eq_false_iff_not] at hd
    exact rreceive_yes hg hB h s hd.1 hd.2
end Go.Proofs.YtnneljcbelgoeaaGreatDoor.wire
/- The document's node: Join (P8). -/
namespace Go.Proofs.YtnneljcbelgoeaaGreatDoor.wire
open Go.RowKit Go.Maps

set_option maxHeartbeats 2000000 in
set_option maxRecDepth 100000 in
theorem rjoin_no {W : World} {b : Nat} {v : Rv} {r : Rn} (h : RAt W b v r) (i : Int) (he : r.joinErr i ≠ 0) :
    Calls Tryz.prog 37 #[.pointer (some ⟨b, 0, none⟩), .int .i64 i] W fun e w' => e = .returned (.tuple #[.slice none 0 0, .int .i64 (r.joinErr i)]) ∧ RTo W w' b v { r with out := [] } := by
  obtain ⟨ha1, hf1, hs1⟩ := h.mute
  have c24 := h.cell 24
  have f24 := h.free 24
  have hlt := h.ltb
  obtain ⟨xo, xc, hxv, _⟩ := row_form h.rows.x
  simp only [refC, List.getElem?_toArray, List.getElem?_cons_zero, List.getElem?_cons_succ, hxv] at c24
  generalize hw1 : W.setCell ⟨b, 24, none⟩ (.slice none 0 0) = w1 at ha1 hf1
  have c10 := ha1.cell 10
  have c12 := ha1.cell 12
  have hlt1 := ha1.ltb
  simp only [refC, List.getElem?_toArray, List.getElem?_cons_zero, List.getElem?_cons_succ] at c10 c12
  have HT : Hid (RTo W w1 b v { r with out := [] }) := hide ⟨{ v with x := .slice none 0 0 }, rfl, ha1, hf1, hs1⟩
  have HI := hide (rid_any i w1)
  have HJ : Hid (r.joinErr i = if r.self.st = 4 then 4 else if isIdB i && !decide (i = r.self.id) then 0 else 3) := hide rfl
  clear h ha1 hf1 hs1 hxv
  by_cases h4 : r.self.st = 4
  · have h4' : (r.self.st == 4) = true := by simp [h4]
    have E : Hid (r.joinErr i = 4) := hide (by rw [unhide HJ, if_pos h4])
    clear h4
    go_enter Tryz.func37, Tryz.ntmps37
    go_wp2_with (go_at_call 46; refine (unhide HI).mono ?_; rintro e w2 ⟨rfl, rfl⟩)
    go_ret2
    rw [unhide E]
    exact ⟨rfl, unhide HT⟩
  · have h4' : (r.self.st == 4) = false := by simp [h4]
    have hc : isIdB i = false ∨ (isIdB i = true ∧ i = r.self.id) := by
      rw [unhide HJ, if_neg h4] at he
      cases hi : isIdB i with
      | false => exact .inl rfl
      | true =>
        refine .inr ⟨rfl, ?_⟩
        by_cases e : i = r.self.id
        · exact e
        · exfalso; apply he; rw [if_pos (by simp [hi, e])]
    have E : Hid (r.joinErr i = 3) := hide (by
      rw [unhide HJ, if_neg h4, if_neg]
      rcases hc with e | ⟨e, e2⟩
      · simp [e]
      · simp [e2])
    clear h4 he
    rcases hc with hi | ⟨hi, hid⟩
    · rw [hi] at HI
      go_enter Tryz.func37, Tryz.ntmps37
      go_wp2_with (go_at_call 46; refine (unhide HI).mono ?_; rintro e w2 ⟨rfl, rfl⟩)
      go_ret2
      rw [unhide E]
      exact ⟨rfl, unhide HT⟩
    · rw [hi] at HI
      have hid' : (i == r.self.id) = true := by simpa using hid
      have HID := hide hid
      clear hid
      go_enter Tryz.func37, Tryz.ntmps37
      go_wp2_with (go_at_call 46; refine (unhide HI).mono ?_; rintro e w2 ⟨rfl, rfl⟩)
      go_ret2
      rw [unhide E]
      exact ⟨rfl, unhide HT⟩
set_option maxHeartbeats 2000000 in
set_option maxRecDepth 100000 in
theorem rjoin_yes {B : Int} {x : Nd} {r : Rn} (hg : Gh B x r) (hB : B ≤ 999999999000) {W : World} {b : Nat} {v : Rv} (h : RAt W b v r) (i : Int) (he : r.joinErr i = 0) :
    Calls Tryz.prog 37 #[.pointer (some ⟨b, 0, none⟩), .int .i64 i] W fun e w' => ∃ o, e = .returned (.tuple #[o, .int .i64 0]) ∧ RToX W w' b v (r.join i) o := by
  obtain ⟨ha1, hf1, hs1⟩ := h.mute
  have hbs := hg.bs (by unfold Big; omega)
  have c24 := h.cell 24
  have f24 := h.free 24
  have hlt := h.ltb
  obtain ⟨xo, xc, hxv, _⟩ := row_form h.rows.x
  simp only [refC, List.getElem?_toArray, List.getElem?_cons_zero, List.getElem?_cons_succ, hxv] at c24
  generalize hw1 : W.setCell ⟨b, 24, none⟩ (.slice none 0 0) = w1 at ha1 hf1
  have c10 := ha1.cell 10
  have c12 := ha1.cell 12
  have hlt1 := ha1.ltb
  simp only [refC, List.getElem?_toArray, List.getElem?_cons_zero, List.getElem?_cons_succ] at c10 c12
  have HT : Hid (RTo W w1 b v { r with out := [] }) := hide ⟨{ v with x := .slice none 0 0 }, rfl, ha1, hf1, hs1⟩
  unfold Rn.joinErr at he
  have h4 : ¬ r.self.st = 4 := fun e => by rw [if_pos e] at he; cases he
  rw [if_neg h4] at he
  have hi : (isIdB i && !decide (i = r.self.id)) = true := by
    by_cases e : (isIdB i && !decide (i = r.self.id)) = true
    · exact e
    · rw [if_neg e] at he; cases he
  simp only [Bool.and_eq_true, Bool.not_eq_true', decide_eq_false_iff_not] at hi
  have HI := hide (rid_any i w1)
  rw [hi.1] at HI
  have h4' : (r.self.st == 4) = false := by simp [h4]
  have hid' : (i == r.self.id) = false := by simpa using hi.2
  have HN := hide (rnext_any ha1 hbs.seq)
  have hw : wholeB ⟨4, r.self.id, r.self.inc, r.seq + 1, 0, []⟩ = true := by
    obtain ⟨o1, o2⟩ := own_bounds hg.ok
    have h1 := hg.num
    have h2 := hg.b.num
    rw [hg.rf.self, hg.rf.seq]
    simp only [wholeB, Bool.and_eq_true]
    exact ⟨isId_mk o1.1 o1.2, isInc_mk o2.1 o2.2, isSeq_mk (by omega) (by omega), rfl, rfl⟩
  have HW := hide hw
  have HF1 := hide hf1
  have HS1 := hide hs1
  have HJ : Hid (r.join i = ({ r with out := [], seq := r.seq + 1 } : Rn).sendTo i 4 (r.seq + 1) 0 []) := hide rfl
  clear h ha1 hf1 hs1 hxv hw hbs hg he hi h4
  go_enter Tryz.func37, Tryz.ntmps37
  go_wp2_with (go_at_call 46; refine (unhide HI).mono ?_; rintro e w2 ⟨rfl, hw2⟩; subst hw2)
  clear hw1
  refine (unhide HN).mono ?_
  rintro e w3 ⟨rfl, h3⟩
  obtain ⟨v3, hd3, ha3, hf3, hs3⟩ := h3
  have HSD := hide (rsend_own ha3 (by simp) i 4 (r.seq + 1) 0 (by omega) [] (.slice none 0 0) (.inl ⟨rfl, rfl⟩) (unhide HW))
  have HTT := hide (fun w' (R : Rn) (h : RTo w3 w' b v3 R) => RTo.trans (v := v) (v1 := { v with x := .slice none 0 0 }) rfl (unhide HF1) (unhide HS1) (RTo.trans hd3 hf3 hs3 h))
  clear ha3 hf3 hs3 hd3 HN
  go_wp2_with fail
  refine (unhide HSD).mono ?_
  rintro e w4 ⟨rfl, h4⟩
  obtain ⟨v7, hd7, ha7, hf7, hs7⟩ := unhide HTT w4 _ h4
  obtain ⟨ao, cap, hx, _⟩ := row_form ha7.rows.x
  have e24 := ha7.cell 24
  simp only [refC, List.getElem?_toArray, List.getElem?_cons_zero, List.getElem?_cons_succ, hx] at e24
  have hbl := ha7.ltb
  have HX : Hid (RToX W w4 b v (r.join i) v7.x) := hide ⟨v7, hd7, ha7, hf7, hs7, rfl⟩
  rw [hx] at HX
  clear h4 hd7 ha7 hf7 hs7 hx HSD HTT
  go_wp2
  go_ret2
  exact ⟨_, rfl, unhide HX⟩
end Go.Proofs.YtnneljcbelgoeaaGreatDoor.wire
/- The document's node: a draw, more closely; the mixing of a pass (P9). -/
namespace Go.Proofs.YtnneljcbelgoeaaGreatDoor.wire
open Go.RowKit Go.Maps

set_option maxHeartbeats 1000000 in
set_option maxRecDepth 100000 in
theorem rdraw_at {W : World} {b : Nat} {v : Rv} {r : Rn} (h : RAt W b v r) (hdl : DlOk r.draws) (hd : r.drawn ≤ 1000000000000) (n : Int) (hn0 : 1 ≤ n) (hn1 : n ≤ 1000000) :
    Calls Tryz.prog 107 #[.pointer (some ⟨b, 0, none⟩), .int .i64 n] W fun e w' => e = .returned (.int .i64 (r.draw n).1) ∧ RAt w' b v (r.draw n).2 ∧ Frm [b] W w' := by
  have c6 := h.cell 6
  have c7 := h.cell 7
  have f7 := h.free 7
  have hlt := h.ltb
  simp only [refC, List.getElem?_toArray, List.getElem?_cons_zero, List.getElem?_cons_succ] at c6 c7
  have hl := hdl.len
  rcases h.rows.d with ⟨hv, hl0⟩ | ⟨g, off, cap, cs, hv, hg, hcap, hcm, hcs⟩
  · rw [hv] at c6
    have e1 : r.draw n = (0, r) := by simp [Rn.draw, hl0]
    rw [e1]
    have HS : Hid (RAt W b v r ∧ Frm [b] W W) := hide ⟨h, Frm.refl _ _⟩
    clear h hdl
    go_enter Tryz.func107, Tryz.ntmps107
    go_wp2
    go_ret
    exact ⟨rfl, unhide HS⟩
  · rw [hv] at c6
    by_cases h0 : r.draws.length = 0
    · rw [h0] at c6
      have e1 : r.draw n = (0, r) := by simp [Rn.draw, h0]
      rw [e1]
      have HS : Hid (RAt W b v r ∧ Frm [b] W W) := hide ⟨h, Frm.refl _ _⟩
      clear h hdl
      go_enter Tryz.func107, Tryz.ntmps107
      go_wp2
      go_ret
      exact ⟨rfl, unhide HS⟩
    · have e1 : r.draw n = (drawZ r.draws r.drawn n, { r with drawn := r.drawn + 1 }) := by simp [Rn.draw, h0]
      rw [e1]
      have hmod : r.drawn % r.draws.length < r.draws.length := Nat.mod_lt _ (by omega)
      have hcell : W.cell? ⟨g, off + r.drawn % r.draws.length, none⟩ = some (.int .i64 (r.draws.getD (r.drawn % r.draws.length) 0)) := by
        rw [cell_at hg, hcs _ hmod, List.getD_eq_getElem?_getD, List.getElem?_eq_getElem hmod, Option.getD_some]
      have hr := hdl.rng _ (List.getElem_mem hmod)
      have hgd : r.draws.getD (r.drawn % r.draws.length) 0 = r.draws[r.drawn % r.draws.length] := by rw [List.getD_eq_getElem?_getD, List.getElem?_eq_getElem hmod, Option.getD_some]
      have hs : ∀ q, RAt ((W.drewN q).setCell ⟨b, 7, none⟩ (.int .i64 ((r.drawn : Int) + 1))) b v { r with drawn := r.drawn + 1 } ∧ Frm [b] W ((W.drewN q).setCell ⟨b, 7, none⟩ (.int .i64 ((r.drawn : Int) + 1))) := fun q => ⟨((h.drewN q).set 7 (.int .i64 ((r.drawn : Int) + 1)) (r' := { r with drawn := r.drawn + 1 }) (by simp [refC])).1, (Frm.of_below (S := [b]) (bdrewN (Below.refl _ _) q) (Nat.le_refl _)).trans (frm_set _ b 7 _) (fun j hj => .inl hj)⟩
      have HS := hide hs
      clear hs
      have hdz : drawZ r.draws r.drawn n = (if r.draws.getD (r.drawn % r.draws.length) 0 < 0 then -(r.draws.getD (r.drawn % r.draws.length) 0 + 1) else r.draws.getD (r.drawn % r.draws.length) 0).tmod n := rfl
      rw [hdz]
      rw [← hgd] at hr
      generalize r.draws.getD (r.drawn % r.draws.length) 0 = z at hcell hr ⊢
      have htm : ((r.drawn : Int).tmod (r.draws.length : Int)) = ((r.drawn % r.draws.length : Nat) : Int) := by
        rw [Int.tmod_eq_emod_of_nonneg (by omega)]; simp
      have hlen0 : ((r.draws.length : Int) == 0) = false := by rw [beq_eq_false_iff_ne]; omega
      have hnz : (n == 0) = false := by simp; omega
      have hmi : ((r.drawn % r.draws.length : Nat) : Int) < (r.draws.length : Int) := Int.ofNat_lt.2 hmod
      have hgl := lt_blk hg
      generalize r.drawn % r.draws.length = M at hcell htm hmi hmod
      clear h hdl hg hdz hgd hcs hv
      by_cases hz : z < 0
      all_goals
        go_enter Tryz.func107, Tryz.ntmps107
        go_wp2
        go_quiet (fail)
        go_wp2
        go_ret
      · exact ⟨rfl, (unhide HS) _⟩
      · exact ⟨by rw [Int.tmod_eq_emod_of_nonneg (by omega)]; rfl, (unhide HS) _⟩
theorem draw_bd (r : Rn) (_hdl : DlOk r.draws) {n : Int} (hn : 1 ≤ n) : 0 ≤ (r.draw n).1 ∧ (r.draw n).1 < n := by
  unfold Rn.draw
  by_cases h0 : r.draws.length = 0
  · rw [if_pos h0]; exact ⟨Int.le_refl _, by show (0 : Int) < n; omega⟩
  · rw [if_neg h0]
    show 0 ≤ drawZ r.draws r.drawn n ∧ drawZ r.draws r.drawn n < n
    unfold drawZ
    generalize r.draws.getD (r.drawn % r.draws.length) 0 = z
    have hp : 0 ≤ (if z < 0 then -(z + 1) else z) := by split <;> omega
    rw [Int.tmod_eq_emod_of_nonneg hp]
    exact ⟨Int.emod_nonneg _ (by omega), Int.emod_lt_of_pos _ (by omega)⟩
theorem draw_keep (r : Rn) (n : Int) : (r.draw n).2.draws = r.draws ∧ (r.draw n).2.drawn ≤ r.drawn + 1 ∧ (r.draw n).2.others = r.others ∧ (r.draw n).2.pass = r.pass := by
  unfold Rn.draw
  split
  · exact ⟨rfl, Nat.le_succ _, rfl, rfl⟩
  · exact ⟨rfl, Nat.le_refl _, rfl, rfl⟩
end Go.Proofs.YtnneljcbelgoeaaGreatDoor.wire
/- The document's node: New (P4). -/
namespace Go.Proofs.YtnneljcbelgoeaaGreatDoor.wire
open Go.RowKit Go.Maps

abbrev cfgV (c : Cfg) : Value := .agg #[.int .i64 c.self, .int .i64 c.period, .int .i64 c.wait, .int .i64 c.suspect, .int .i64 c.proxies, .int .i64 c.sends]
/-- A new node's rows: none but the draws. -/
def rv0 (vd : Value) : Rv := ⟨vd, .slice none 0 0, .slice none 0 0, .slice none 0 0, .slice none 0 0, .slice none 0 0, .slice none 0 0⟩
set_option maxHeartbeats 2000000 in
set_option maxRecDepth 100000 in
theorem rnew_no (c : Cfg) (vd : Value) (W : World) (hc : cfgB c = false) :
    Calls Tryz.prog 34 #[cfgV c, vd] W fun e w' => e = .returned (.tuple #[.pointer none, .int .i64 1]) ∧ Below W.heap.size W w' := by
  have HI := hide (fun w => rid_any c.self w)
  have hb := (Below.refl W.heap.size W).alloc (Nat.le_refl _) (.cells #[.int .i64 c.self, .int .i64 c.period, .int .i64 c.wait, .int .i64 c.suspect, .int .i64 c.proxies, .int .i64 c.sends] 35)
  have HB := hide hb
  clear hb
  simp only [cfgV]
  by_cases a0 : isIdB c.self = true
  case neg =>
    have a0' : isIdB c.self = false := by simpa using a0
    rw [a0'] at HI
    go_enter Tryz.func34, Tryz.ntmps34
    go_wp2_with (go_at_call 46; refine (unhide HI _).mono ?_; rintro e w2 ⟨rfl, rfl⟩)
    go_ret2
    exact ⟨rfl, unhide HB⟩
  rw [a0] at HI
  by_cases a1 : 4 ≤ c.period
  case neg =>
    have b1 : c.period < 4 := by omega
    clear a1 hc
    go_enter Tryz.func34, Tryz.ntmps34
    go_wp2_with (go_at_call 46; refine (unhide HI _).mono ?_; rintro e w2 ⟨rfl, rfl⟩)
    go_ret2
    exact ⟨rfl, unhide HB⟩
  by_cases a2 : c.period ≤ 50
  case neg =>
    have b2 : 50 < c.period := by omega
    clear a2 hc
    go_enter Tryz.func34, Tryz.ntmps34
    go_wp2_with (go_at_call 46; refine (unhide HI _).mono ?_; rintro e w2 ⟨rfl, rfl⟩)
    go_ret2
    exact ⟨rfl, unhide HB⟩
  by_cases a3 : 1 ≤ c.wait
  case neg =>
    have b3 : c.wait < 1 := by omega
    clear a3 hc
    go_enter Tryz.func34, Tryz.ntmps34
    go_wp2_with (go_at_call 46; refine (unhide HI _).mono ?_; rintro e w2 ⟨rfl, rfl⟩)
    go_ret2
    exact ⟨rfl, unhide HB⟩
  by_cases a4 : c.wait ≤ c.period - 2
  case neg =>
    have b4 : c.period - 2 < c.wait := by omega
    clear a4 hc
    go_enter Tryz.func34, Tryz.ntmps34
    go_wp2_with (go_at_call 46; refine (unhide HI _).mono ?_; rintro e w2 ⟨rfl, rfl⟩)
    go_ret2
    exact ⟨rfl, unhide HB⟩
  by_cases a5 : 1 ≤ c.suspect
  case neg =>
    have b5 : c.suspect < 1 := by omega
    clear a5 hc
    go_enter Tryz.func34, Tryz.ntmps34
    go_wp2_with (go_at_call 46; refine (unhide HI _).mono ?_; rintro e w2 ⟨rfl, rfl⟩)
    go_ret2
    exact ⟨rfl, unhide HB⟩
  by_cases a6 : c.suspect ≤ 500
  case neg =>
    have b6 : 500 < c.suspect := by omega
    clear a6 hc
    go_enter Tryz.func34, Tryz.ntmps34
    go_wp2_with (go_at_call 46; refine (unhide HI _).mono ?_; rintro e w2 ⟨rfl, rfl⟩)
    go_ret2
    exact ⟨rfl, unhide HB⟩
  by_cases a7 : 0 ≤ c.proxies
  case neg =>
    have b7 : c.proxies < 0 := by omega
    clear a7 hc
    go_enter Tryz.func34, Tryz.ntmps34
    go_wp2_with (go_at_call 46; refine (unhide HI _).mono ?_; rintro e w2 ⟨rfl, rfl⟩)
    go_ret2
    exact ⟨rfl, unhide HB⟩
  by_cases a8 : c.proxies ≤ 3
  case neg =>
    have b8 : 3 < c.proxies := by omega
    clear a8 hc
    go_enter Tryz.func34, Tryz.ntmps34
    go_wp2_with (go_at_call 46; refine (unhide HI _).mono ?_; rintro e w2 ⟨rfl, rfl⟩)
    go_ret2
    exact ⟨rfl, unhide HB⟩
  by_cases a9 : 1 ≤ c.sends
  case neg =>
    have b9 : c.sends < 1 := by omega
    clear a9 hc
    go_enter Tryz.func34, Tryz.ntmps34
    go_wp2_with (go_at_call 46; refine (unhide HI _).mono ?_; rintro e w2 ⟨rfl, rfl⟩)
    go_ret2
    exact ⟨rfl, unhide HB⟩
  by_cases a10 : c.sends ≤ 8
  case neg =>
    have b10 : 8 < c.sends := by omega
    clear a10 hc
    go_enter Tryz.func34, Tryz.ntmps34
    go_wp2_with (go_at_call 46; refine (unhide HI _).mono ?_; rintro e w2 ⟨rfl, rfl⟩)
    go_ret2
    exact ⟨rfl, unhide HB⟩
  exfalso
  have : cfgB c = true := by
    simp only [cfgB, Bool.and_eq_true, decide_eq_true_eq]
    exact ⟨a0, ⟨a1, a2⟩, ⟨a3, a4⟩, ⟨a5, a6⟩, ⟨a7, a8⟩, a9, a10⟩
  rw [this] at hc
  cases hc
set_option maxHeartbeats 2000000 in
set_option maxRecDepth 100000 in
theorem rnew_yes (c : Cfg) (dl : List Int) (ao : Option Addr) (n cap : Nat) (W : World) (hc : cfgB c = true) :
    Calls Tryz.prog 34 #[cfgV c, .slice ao n cap] W fun e w' => ∃ b, e = .returned (.tuple #[.pointer (some ⟨b, 0, none⟩), .int .i64 0]) ∧ W.heap.size ≤ b ∧ Below W.heap.size W w' ∧ w'.heap[b]? = some (.cells (refC (Rn.new c dl) (rv0 (.slice ao n cap))) 93 (0, 0)) := by
  have HI := hide (fun w => rid_any c.self w)
  simp only [cfgB, Bool.and_eq_true, decide_eq_true_eq] at hc
  obtain ⟨a0, ⟨a1, a2⟩, ⟨a3, a4⟩, ⟨a5, a6⟩, ⟨a7, a8⟩, a9, a10⟩ := hc
  rw [a0] at HI
  have hb := fun o o2 => (((Below.refl W.heap.size W).alloc (Nat.le_refl _) o).alloc (by simp) o2)
  have HB := hide hb
  clear hb
  simp only [cfgV]
  go_enter Tryz.func34, Tryz.ntmps34
  go_wp2_with (go_at_call 46; refine (unhide HI _).mono ?_; rintro e w2 ⟨rfl, rfl⟩)
  go_ret2
  exact ⟨W.heap.size + 1, rfl, by omega, unhide HB _ _, heap_new2 W _ _⟩
end Go.Proofs.YtnneljcbelgoeaaGreatDoor.wire
