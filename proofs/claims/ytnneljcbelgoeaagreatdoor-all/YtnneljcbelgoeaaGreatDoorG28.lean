import Derived.Test.YtnneljcbelgoeaaGreatDoorG26
import Derived.Outline
import Derived.Test.YtnneljcbelgoeaaGreatDoorG22
import Derived.Test.YtnneljcbelgoeaaGreatDoorG27
import Derived.Test.YtnneljcbelgoeaaGreatDoorG05
import Derived.Test.YtnneljcbelgoeaaGreatDoorG24
/- The document's node: an ack (P7). -/
namespace Go.Proofs.YtnneljcbelgoeaaGreatDoor.wire
open Go.RowKit Go.Maps

def zeroRel : Rel := ⟨0, 0, 0, 0, 0⟩
/-- The last of those that an ack answers. -/
def lastIts (m : M6) (l : List Rel) : Rel := ((l.filter (itsB m)).getLast?).getD zeroRel
theorem lastIts_step (m : M6) (l : List Rel) (k : Nat) (h : k < l.length) : lastIts m (l.take (k + 1)) = if itsB m l[k] then l[k] else lastIts m (l.take k) := by
  unfold lastIts
  rw [take_filter (itsB m) l k h]
  by_cases e : itsB m l[k] = true
  · rw [if_pos e, if_pos e]; simp
  · rw [if_neg e, if_neg e]; simp
theorem ackd_eq (r : Rn) (m : M6) : r.ackd m = if 0 < (lastIts m r.rels).num then ({ r with acked := if 0 < r.probe ∧ m.seq = r.no ∧ m.tgt = r.probe then true else r.acked, rels := r.rels.filter (fun q => !(itsB m q)) } : Rn).direct (lastIts m r.rels).asker 2 (lastIts m r.rels).under (lastIts m r.rels).tgt else { r with acked := if 0 < r.probe ∧ m.seq = r.no ∧ m.tgt = r.probe then true else r.acked, rels := r.rels.filter (fun q => !(itsB m q)) } := by
  unfold Rn.ackd lastIts
  cases (r.rels.filter (itsB m)).getLast? with
  | none => rw [if_neg (show ¬ 0 < ((none : Option Rel).getD zeroRel).num by decide)]
  | some d => rfl
theorem lastIts_mem {m : M6} {l : List Rel} (h : 0 < (lastIts m l).num) : lastIts m l ∈ l := by
  unfold lastIts at h ⊢
  cases e : (l.filter (itsB m)).getLast? with
  | none => rw [e] at h; exact absurd h (by decide)
  | some d => exact (List.mem_filter.1 (List.mem_of_getLast? e)).1
/-- Between two rounds: who is left, in memory of its own; in block db the one that is done. -/
structure Ak (w2 wr : World) (rv : Value) (L : List Rel) (db : Nat) (D : Rel) : Prop where
  fi : Fi rrC 132 5 w2 wr rv L
  ne : rv.ownBlock ≠ some db
  low : w2.heap.size ≤ db
  blk : wr.heap[db]? = some (.cells (rrC D).toArray 132 (0, 0))
theorem Ak.mono {w2 wr w' : World} {rv : Value} {L : List Rel} {db : Nat} {D : Rel} (h : Ak w2 wr rv L db D) (hb : Below wr.heap.size wr w') : Ak w2 w' rv L db D := ⟨h.fi.mono hb, h.ne, h.low, (hb.block _ (lt_blk h.blk)).trans h.blk⟩
theorem Ak.push {w2 wr w1 w3 : World} {rv v' : Value} {L : List Rel} {db : Nat} {D : Rel} (h : Ak w2 wr rv L db D) (hb : Below wr.heap.size wr w1) (hg : w1.grownBy w3 rv.ownBlock) (hat : v'.ownBlock = rv.ownBlock ∨ v'.ownBlock = some w1.heap.size) (q : Rel) (ho : w3.ownsRow w2.heap.size 132 5 v' (L.length + 1) (L.flatMap rrC ++ rrC q)) : Ak w2 w3 v' (L ++ [q]) db D := by
  have h1 := h.mono hb
  refine ⟨h.fi.push hb hg [q] (by simpa using ho), fun e => ?_, h.low, (hg.block db (lt_blk h1.blk) (fun e => h.ne e.symm)).trans h1.blk⟩
  rcases hat with a | a
  · exact h.ne (a ▸ e)
  · rw [a] at e; cases e; have := lt_blk h1.blk; omega
theorem Ak.put {w2 wr : World} {rv : Value} {L : List Rel} {db : Nat} {D : Rel} (h : Ak w2 wr rv L db D) (q : Rel) :
    Ak w2 (((((wr.setCell ⟨db, 0, none⟩ (.int .i64 q.num)).setCell ⟨db, 1, none⟩ (.int .i64 q.tgt)).setCell ⟨db, 2, none⟩ (.int .i64 q.asker)).setCell ⟨db, 3, none⟩ (.int .i64 q.under)).setCell ⟨db, 4, none⟩ (.int .i64 q.till)) rv L db q := by
  have k : ∀ {V : World} {E : Rel} (j : Nat) (u : Value) (E' : Rel), Ak w2 V rv L db E → (rrC E).set j u = rrC E' → Ak w2 (V.setCell ⟨db, j, none⟩ u) rv L db E' := fun {V E} j u E' hA he => by
    refine ⟨⟨own_frm hA.fi.own (frm_set V db j u) (fun k hk e => hA.ne (by simp only [List.mem_singleton] at e; rw [← e]; exact hk)), hA.fi.below.setCell hA.low u⟩, hA.ne, hA.low, ?_⟩
    rw [heap_setCell_same V db j _ _ u hA.blk, List.setIfInBounds_toArray, he]
  have a1 := k 0 (.int .i64 q.num) ⟨D.tgt, q.num, D.asker, D.under, D.till⟩ h rfl
  have a2 := k 1 (.int .i64 q.tgt) ⟨q.tgt, q.num, D.asker, D.under, D.till⟩ a1 rfl
  have a3 := k 2 (.int .i64 q.asker) ⟨q.tgt, q.num, q.asker, D.under, D.till⟩ a2 rfl
  have a4 := k 3 (.int .i64 q.under) ⟨q.tgt, q.num, q.asker, q.under, D.till⟩ a3 rfl
  exact k 4 (.int .i64 q.till) q a4 rfl
set_option maxHeartbeats 2000000 in
set_option maxRecDepth 100000 in
theorem racked_any {W : World} {b : Nat} {v : Rv} {r : Rn} (h : RAt W b v r) (ho : r.out.length ≤ 1000) (hq : r.queue.length ≤ 1000) (hs : ∀ u ∈ r.queue, -1000000 ≤ u.sent ∧ u.sent ≤ 1000000) (hr4 : r.rels.length ≤ 1000) (m : M6) (vu : Value) (huv : ∃ ao n c, vu = .slice ao n c)
    (hwR : ∀ d ∈ r.rels, wholeB ⟨2, r.self.id, r.self.inc, d.under, d.tgt, r.updates.1⟩ = true) :
    Calls Tryz.prog 86 #[.pointer (some ⟨b, 0, none⟩), mval m vu] W fun e w' => e = .returned (.tuple #[]) ∧ RTo W w' b v (r.ackd m) := by
  obtain ⟨ua, un, uc, rfl⟩ := huv
  have h0 := h.alloc (.cells #[.int .i64 m.kind, .int .i64 m.frm, .int .i64 m.inc, .int .i64 m.seq, .int .i64 m.tgt, .slice ua un uc] 33)
  have hb0 := (Below.refl W.heap.size W).alloc (Nat.le_refl _) (.cells #[.int .i64 m.kind, .int .i64 m.frm, .int .i64 m.inc, .int .i64 m.seq, .int .i64 m.tgt, .slice ua un uc] 33)
  have hx0 : (W.alloc (.cells #[.int .i64 m.kind, .int .i64 m.frm, .int .i64 m.inc, .int .i64 m.seq, .int .i64 m.tgt, .slice ua un uc] 33)).heap[W.heap.size]? = some (.cells #[.int .i64 m.kind, .int .i64 m.frm, .int .i64 m.inc, .int .i64 m.seq, .int .i64 m.tgt, .slice ua un uc] 33 (0, 0)) := heap_alloc_new W _
  have HNF := hide (fun hm => by have := h.lt hm; omega : W.heap.size ∉ rfeet b v)
  generalize hw1 : W.alloc (.cells #[.int .i64 m.kind, .int .i64 m.frm, .int .i64 m.inc, .int .i64 m.seq, .int .i64 m.tgt, .slice ua un uc] 33) = w1 at h0 hb0 hx0
  have c15 := h0.cell 15
  have c17 := h0.cell 17
  have c18 := h0.cell 18
  have f18 := h0.free 18
  have k3 := cell_at hx0 3
  have k4 := cell_at hx0 4
  have hlt := h0.ltb
  have hltk := lt_blk hx0
  simp only [refC, List.getElem?_toArray, List.getElem?_cons_zero, List.getElem?_cons_succ] at c15 c17 c18 k3 k4
  have H0 := hide h0
  have HB0 := hide hb0
  have HX0 := hide hx0
  have HQS := hide hs
  have HWR := hide hwR
  have HAE := hide (ackd_eq r m)
  obtain ⟨D, hD⟩ : ∃ D, D = (decide (0 < r.probe) && (decide (m.seq = r.no) && decide (m.tgt = r.probe))) := ⟨_, rfl⟩
  have HAC : Hid ((if 0 < r.probe ∧ m.seq = r.no ∧ m.tgt = r.probe then true else r.acked) = if D then true else r.acked) := hide (by rw [hD]; by_cases e1 : 0 < r.probe <;> by_cases e2 : m.seq = r.no <;> by_cases e3 : m.tgt = r.probe <;> simp [e1, e2, e3])
  have HD := hide hD
  clear h h0 hb0 hx0 hs hwR hD
  go_enter Tryz.func86, Tryz.ntmps86
  go_upto_region 1 with fail
  clear hw1
  go_cut [30] (fun p wq => p = .bool D ∧ ∃ q, wq = w1.drewN q)
  case first =>
    by_cases d1 : 0 < r.probe
    · have d1' : decide (0 < r.probe) = true := by simpa using d1
      by_cases d2 : m.seq = r.no
      · have d2' : (m.seq == r.no) = true := by simpa using d2
        by_cases d3 : m.tgt = r.probe
        · have d3' : (m.tgt == r.probe) = true := by simpa using d3
          have E : Hid (D = true) := hide (by rw [unhide HD]; simp [d1, d2, d3])
          clear d2 d3
          go_quiet (fail)
          go_wp2
          go_meet
          case rel => exact ⟨by rw [unhide E], _, rfl⟩
        · have d3' : (m.tgt == r.probe) = false := by simpa using d3
          have E : Hid (D = false) := hide (by rw [unhide HD]; simp [d3])
          clear d2 d3
          go_quiet (fail)
          go_wp2
          go_meet
          case rel => exact ⟨by rw [unhide E], _, rfl⟩
      · have d2' : (m.seq == r.no) = false := by simpa using d2
        have E : Hid (D = false) := hide (by rw [unhide HD]; simp [d2])
        clear d2
        go_quiet (fail)
        go_wp2
        go_meet
        case rel => exact ⟨by rw [unhide E], _, rfl⟩
    · have d1' : decide (0 < r.probe) = false := by simpa using d1
      have E : Hid (D = false) := hide (by rw [unhide HD]; simp [d1])
      clear d1
      go_quiet (fail)
      go_wp2
      go_meet
      case rel => exact ⟨by rw [unhide E], _, rfl⟩
  case rest =>
    obtain ⟨rfl, q, hwc⟩ := hcut
    subst hwc
    go_upto_if 30 with fail
    go_cut [] (fun wq => RTo w1 wq b v { r with acked := if D then true else r.acked })
    case first =>
      have HS := hide (RTo.from (bdrewN (Below.refl _ _) q) ((((unhide H0).drewN q).set 18 (.bool true) (r' := { r with acked := true }) rfl).2))
      have HS' := hide (RTo.same (unhide H0) (bdrewN (Below.refl _ _) q))
      cases D with
      | true =>
        go_wp2
        go_meet
        case rel => exact unhide HS
      | false =>
        go_wp2
        go_meet
        case rel => exact unhide HS'
    case rest =>
      obtain ⟨w2, hw2⟩ : ∃ w2, w2 = wc := ⟨_, rfl⟩
      rw [← hw2] at hcut ⊢
      clear hw2 c15 c17 c18 f18 k3 k4
      obtain ⟨R1, hR1⟩ : ∃ R1 : Rn, R1 = { r with acked := if D then true else r.acked } := ⟨_, rfl⟩
      rw [← hR1] at hcut
      obtain ⟨v1, hd1, ha1, hf1, hs1⟩ := hcut
      have hx2 := (hf1.block _ hltk (unhide HNF)).trans (unhide HX0)
      have hnf1 : W.heap.size ∉ rfeet b v1 := fun hm => by
        rcases hs1 _ hm with h | h
        · exact unhide HNF h
        · omega
      have hrl : R1.rels = r.rels := by rw [hR1]
      have e0 : R1.out = r.out ∧ R1.queue = r.queue ∧ R1.self = r.self ∧ R1.updates.1 = r.updates.1 := by rw [hR1]; exact ⟨rfl, rfl, rfl, rfl⟩
      have HFIN : Hid (r.ackd m = if 0 < (lastIts m R1.rels).num then ({ R1 with rels := R1.rels.filter (fun q => !(itsB m q)) } : Rn).direct (lastIts m R1.rels).asker 2 (lastIts m R1.rels).under (lastIts m R1.rels).tgt else { R1 with rels := R1.rels.filter (fun q => !(itsB m q)) }) := hide (by rw [unhide HAE, unhide HAC, hR1])
      obtain ⟨lo, lc, hlv, hlb, hlcc, _⟩ := row_form ha1.rows.l
      have HOL := hide (hlv ▸ ha1.rows.l : w2.ownsRow 0 132 5 (.slice lo R1.rels.length lc) R1.rels.length (R1.rels.flatMap rrC))
      have c20 := ha1.cell 20
      have f20 := ha1.free 20
      have k3 := cell_at hx2 3
      have k4 := cell_at hx2 4
      have hlt2 := ha1.ltb
      have hltk2 := lt_blk hx2
      simp only [refC, List.getElem?_toArray, List.getElem?_cons_zero, List.getElem?_cons_succ, hlv] at c20 k3 k4
      have HA1 := hide ha1
      have HF1 := hide hf1
      have HS1 := hide hs1
      have HD1 := hide hd1
      have HLB := hide hlb
      have HE0 := hide e0
      have HRL := hide hrl
      have hr4' : R1.rels.length ≤ 1000 := by rw [hrl]; exact hr4
      clear ha1 hf1 hs1 hd1 hx2 hnf1 hlb hlv hR1 hrl e0 HAE HAC HD hr4
      obtain ⟨Q, hQ⟩ : ∃ Q, Q = R1.rels := ⟨_, rfl⟩
      rw [← hQ] at hr4' HOL c20 HLB hlcc HFIN HRL
      have HQ := hide hQ
      clear hQ
      have HAK0 : Hid (Ak w2 (w2.alloc (.cells #[.int .i64 0, .int .i64 0, .int .i64 0, .int .i64 0, .int .i64 0] 132)) (.slice none 0 0) [] w2.heap.size zeroRel) := hide ⟨Fi.nil _ _ _ ((Below.refl _ _).alloc (Nat.le_refl _) _), by simp [Value.ownBlock], Nat.le_refl _, heap_alloc_new w2 _⟩
      go_wp2_with fail
      go_loopw [4, 6, 7] (fun rv i _ wr => ∃ k : Nat, i = .int .i64 k ∧ k ≤ Q.length ∧ Ak w2 wr rv ((Q.take k).filter (fun q => !(itsB m q))) w2.heap.size (lastIts m (Q.take k))) (fun _ i _ _ => Q.length - (Go.RowKit.intOf i).toNat)
      case atStart => exact ⟨0, by go_num, by omega, by simpa [lastIts] using unhide HAK0⟩
      case round =>
        obtain ⟨k, rfl, hk, hak⟩ := hrel
        have hbw := hak.fi.below
        have e20 := (hbw.cell (p := ⟨b, 20, none⟩) hlt2).trans c20
        have g20 := (hbw.frozen (p := ⟨b, 20, none⟩) hlt2).trans f20
        have e3 := (hbw.cell (p := ⟨W.heap.size, 3, none⟩) hltk2).trans k3
        have e4 := (hbw.cell (p := ⟨W.heap.size, 4, none⟩) hltk2).trans k4
        have hwz := hbw.size
        have hdl := lt_blk hak.blk
        have hlkr : W.heap.size < wr.heap.size := by omega
        have hltr : b < wr.heap.size := by omega
        have hkd : W.heap.size ≠ w2.heap.size := by omega
        have hbd : b ≠ w2.heap.size := by omega
        obtain ⟨ro, rc, hrv, _⟩ := row_form hak.fi.own
        subst hrv
        have HAK := hide hak
        have hfl : ((Q.take k).filter (fun q => !(itsB m q))).length ≤ Q.length := Nat.le_trans (List.length_filter_le _ _) (by simp; omega)
        by_cases hlt3 : k < Q.length
        · obtain ⟨g, hg, hgl⟩ := unhide HLB (by omega)
          subst hg
          have hcell : ∀ j, j < 5 → wr.cell? ⟨g, k * 5 + j, none⟩ = (rrC Q[k])[j]? := fun j hj => (hbw.cell (p := ⟨g, k * 5 + j, none⟩) hgl).trans (row_cell rrC 5 (fun _ => rfl) (unhide HOL) k hlt3 j hj)
          have q0 := hcell 0 (by omega)
          have q1 := hcell 1 (by omega)
          have q2 := hcell 2 (by omega)
          have q3 := hcell 3 (by omega)
          have q4 := hcell 4 (by omega)
          simp only [rrC, List.getElem?_cons_zero, List.getElem?_cons_succ, Nat.add_zero] at q0 q1 q2 q3 q4
          have htf := take_filter (fun q : Rel => !(itsB m q)) Q k hlt3
          have hls := lastIts_step m Q k hlt3
          generalize Q[k] = U at q0 q1 q2 q3 q4 htf hls
          obtain ⟨ut, un', uk, uu, ul⟩ := U
          simp only [itsB] at htf hls
          simp only at q0 q1 q2 q3 q4
          have hki : (k : Int) < (Q.length : Int) := by omega
          have HTF := hide htf
          have HLS := hide hls
          clear hak hbw hcell htf hls
          have d0 := cell_at (unhide HAK).blk 0
          have d1 := cell_at (unhide HAK).blk 1
          have d2 := cell_at (unhide HAK).blk 2
          have d3 := cell_at (unhide HAK).blk 3
          have d4 := cell_at (unhide HAK).blk 4
          have z0 := free_at (unhide HAK).blk 0
          have z1 := free_at (unhide HAK).blk 1
          have z2 := free_at (unhide HAK).blk 2
          have z3 := free_at (unhide HAK).blk 3
          have z4 := free_at (unhide HAK).blk 4
          simp only [rrC, List.getElem?_toArray, List.getElem?_cons_zero, List.getElem?_cons_succ] at d0 d1 d2 d3 d4
          by_cases h1 : un' = m.seq
          · by_cases h2 : ut = m.tgt
            · have h1' : (un' == m.seq) = true := by simpa using h1
              have h2' : (ut == m.tgt) = true := by simpa using h2
              have EF : Hid ((Q.take (k + 1)).filter (fun q => !(itsB m q)) = (Q.take k).filter (fun q => !(itsB m q))) := hide (by have := unhide HTF; simp only [itsB] at this ⊢; rw [this]; simp [h1, h2])
              have EL : Hid (lastIts m (Q.take (k + 1)) = ⟨ut, un', uk, uu, ul⟩) := hide (by rw [unhide HLS]; simp [h1, h2])
              have HPUT := hide (((unhide HAK).put ⟨ut, un', uk, uu, ul⟩).mono ((Below.refl _ _).alloc (Nat.le_refl _) (.cells #[.int .i64 un', .int .i64 ut, .int .i64 uk, .int .i64 uu, .int .i64 ul] 132)))
              clear h1 h2
              go_wp2
              go_roundw
              case rel => exact ⟨k + 1, by go_num, by omega, by rw [unhide EF, unhide EL]; exact unhide HPUT⟩
              case measure => simp [Go.RowKit.intOf]; omega
            · have h1' : (un' == m.seq) = true := by simpa using h1
              have h2' : (ut == m.tgt) = false := by simpa using h2
              have EF : Hid ((Q.take (k + 1)).filter (fun q => !(itsB m q)) = (Q.take k).filter (fun q => !(itsB m q)) ++ [⟨ut, un', uk, uu, ul⟩]) := hide (by have := unhide HTF; simp only [itsB] at this ⊢; rw [this]; simp [h2])
              have EL : Hid (lastIts m (Q.take (k + 1)) = lastIts m (Q.take k)) := hide (by rw [unhide HLS]; simp [h2])
              clear h1 h2
              go_wp2_with (at_builtin; refine wpList_app rfl _ _ rfl etyR w2.heap.size rfl rfl (own_below (unhide HAK).fi.own (((Below.refl _ _).alloc (Nat.le_refl _) _).alloc (by simp) _)) (Src.box (cs := rrC ⟨ut, un', uk, uu, ul⟩) 5 1 1 (heap_new2 wr _ _) (by rfl)) (rr_one _) (by omega) (by simp; omega) ?_)
              intro v' w3 ho3 hg3 hat3
              have HAK3 := hide ((unhide HAK).push (((Below.refl _ _).alloc (Nat.le_refl _) _).alloc (by simp) _) hg3 (by simpa using hat3) ⟨ut, un', uk, uu, ul⟩ (by simpa using ho3))
              clear ho3 hg3 hat3
              go_wp2
              go_roundw
              case rel => exact ⟨k + 1, by go_num, by omega, by rw [unhide EF, unhide EL]; exact unhide HAK3⟩
              case measure => simp [Go.RowKit.intOf]; omega
          · have h1' : (un' == m.seq) = false := by simpa using h1
            have EF : Hid ((Q.take (k + 1)).filter (fun q => !(itsB m q)) = (Q.take k).filter (fun q => !(itsB m q)) ++ [⟨ut, un', uk, uu, ul⟩]) := hide (by have := unhide HTF; simp only [itsB] at this ⊢; rw [this]; simp [h1])
            have EL : Hid (lastIts m (Q.take (k + 1)) = lastIts m (Q.take k)) := hide (by rw [unhide HLS]; simp [h1])
            clear h1
            go_wp2_with (at_builtin; refine wpList_app rfl _ _ rfl etyR w2.heap.size rfl rfl (own_below (unhide HAK).fi.own (((Below.refl _ _).alloc (Nat.le_refl _) _).alloc (by simp) _)) (Src.box (cs := rrC ⟨ut, un', uk, uu, ul⟩) 5 1 1 (heap_new2 wr _ _) (by rfl)) (rr_one _) (by omega) (by simp; omega) ?_)
            intro v' w3 ho3 hg3 hat3
            have HAK3 := hide ((unhide HAK).push (((Below.refl _ _).alloc (Nat.le_refl _) _).alloc (by simp) _) hg3 (by simpa using hat3) ⟨ut, un', uk, uu, ul⟩ (by simpa using ho3))
            clear ho3 hg3 hat3
            go_wp2
            go_roundw
            case rel => exact ⟨k + 1, by go_num, by omega, by rw [unhide EF, unhide EL]; exact unhide HAK3⟩
            case measure => simp [Go.RowKit.intOf]; omega
        · have hke : k = Q.length := by omega
          subst hke
          have hS := (unhide HA1).setL (l := (Q.take Q.length).filter (fun q => !(itsB m q))) (Frm.of_below (unhide HAK).fi.below (Nat.le_refl _)) (fun g hg => .inr (own_lt (unhide HAK).fi.own hg).1) (own_base0 (unhide HAK).fi.own)
          have hbk := (heap_setCell_other wr ⟨b, 20, none⟩ w2.heap.size (.slice ro ((Q.take Q.length).filter (fun q => !(itsB m q))).length rc) (by simpa using hbd.symm)).trans (unhide HAK).blk
          rw [List.take_length] at hS hbk
          obtain ⟨v5, hd5, ha5, hf5, hs5⟩ := hS
          obtain ⟨X, hX⟩ : ∃ X, X = lastIts m Q := ⟨_, rfl⟩
          rw [← hX] at hbk HFIN
          have u0 := cell_at hbk 0
          have u1 := cell_at hbk 1
          have u2 := cell_at hbk 2
          have u3 := cell_at hbk 3
          simp only [rrC, List.getElem?_toArray, List.getElem?_cons_zero, List.getElem?_cons_succ] at u0 u1 u2 u3
          obtain ⟨n1, n2, n3, n4⟩ := unhide HE0
          have HT := hide (fun w' (R' : Rn) (h : RTo _ w' b v5 R') => RTo.from (unhide HB0) (RTo.trans (unhide HD1) (unhide HF1) (unhide HS1) (RTo.trans hd5 hf5 hs5 h)))
          have HA5 := hide ha5
          by_cases hn : 0 < X.num
          · have hmem : X ∈ r.rels := by
              rw [hX] at hn ⊢
              rw [← unhide HRL]
              exact lastIts_mem hn
            have HSD := hide (rsend_direct ha5 (by rw [n1]; exact ho) (by rw [n2]; exact hq) (by rw [n2]; exact unhide HQS) X.asker 2 X.under X.tgt (by omega) (by
              have := unhide HWR X hmem
              rw [← n3, ← n4] at this
              exact this))
            have HE : Hid (r.ackd m = ({ R1 with rels := Q.filter (fun q => !(itsB m q)) } : Rn).direct X.asker 2 X.under X.tgt) := hide (by rw [unhide HFIN, if_pos hn])
            clear hak hbw hbk hX ha5 hf5 hs5 hd5 hmem n1 n2 n3 n4 HFIN
            go_wp2_with fail
            refine (unhide HSD).mono ?_
            rintro e w7 ⟨rfl, h7⟩
            have HT7 := hide (unhide HT w7 _ h7)
            clear h7 HSD
            go_wp2
            go_end0
            rw [unhide HE]
            exact ⟨rfl, unhide HT7⟩
          · have HE : Hid (r.ackd m = { R1 with rels := Q.filter (fun q => !(itsB m q)) }) := hide (by rw [unhide HFIN, if_neg hn])
            have HT7 := hide (unhide HT _ _ (RTo.same ha5 (Below.refl _ _)))
            clear hak hbw hbk hX ha5 hf5 hs5 hd5 n1 n2 n3 n4 HFIN
            go_wp2
            go_end0
            rw [unhide HE]
            exact ⟨rfl, unhide HT7⟩
end Go.Proofs.YtnneljcbelgoeaaGreatDoor.wire
/- The document's node: Receive (P5, P7). -/
namespace Go.Proofs.YtnneljcbelgoeaaGreatDoor.wire
open Go.RowKit Go.Maps

/-- The document's node beside the program's. -/
structure Gh (B : Int) (x : Nd) (r : Rn) : Prop where
  rf : Rf x r
  ok : NdOk x
  dl : DlOk x.dl
  b : NdB B x
  rl : RlB x
  num : x.num ≤ 4000000000
  out : r.out.length ≤ 900
theorem Gh.bs {B : Int} {x : Nd} {r : Rn} (h : Gh B x r) (hB : B ≤ Big) : RBs r := RBs.of h.rf h.ok (h.b.mono hB) h.dl h.out
theorem hear_keep (x : Nd) (k : K3) : (x.hear k).dl = x.dl ∧ (x.hear k).num = x.num := by
  refine ⟨?_, (hear_rels x k).2⟩
  unfold Nd.hear Nd.hearSelf Nd.hearOther Nd.heard
  repeat' split
  all_goals rfl
theorem Gh.hear {B : Int} {x : Nd} {r : Rn} (h : Gh B x r) (k : K3) (hk : isKeyB k = true) : Gh (B + 1) (x.hear k) (r.heard k) :=
  ⟨h.rf.hear h.ok k hk, hear_ok h.ok k hk, by rw [(hear_keep x k).1]; exact h.dl, hear_b h.b k, h.rl.hear h.ok k, by rw [(hear_keep x k).2]; exact h.num, by rw [heard_out]; exact h.out⟩
theorem Gh.mono {B C : Int} {x : Nd} {r : Rn} (h : Gh B x r) (hB : B ≤ C) : Gh C x r := ⟨h.rf, h.ok, h.dl, h.b.mono hB, h.rl, h.num, h.out⟩
theorem Gh.whole {B : Int} {x : Nd} {r : Rn} (h : Gh B x r) {kind seq tgt : Int} (hk : 1 ≤ kind ∧ kind ≤ 3) (ht : 1 ≤ tgt ∧ tgt ≤ 250) (hq : 0 ≤ seq ∧ seq ≤ 4294967295) : wholeB ⟨kind, r.self.id, r.self.inc, seq, tgt, r.updates.1⟩ = true := by
  rw [h.rf.self, (h.rf.updates h.ok).1]
  exact direct_whole h.ok hk ht hq
theorem Gh.self {B : Int} {x : Nd} {r : Rn} (h : Gh B x r) : 1 ≤ r.self.id ∧ r.self.id ≤ 250 := by
  rw [h.rf.self]; exact (own_bounds h.ok).1
theorem Gh.tab {B : Int} {x : Nd} {r : Rn} (h : Gh B x r) {q : Int} (hq : 0 ≤ q ∧ q ≤ 4294967295) : wholeB ⟨5, r.self.id, r.self.inc, q, 0, putSelf r.self (r.others.map RM.k)⟩ = true := by
  obtain ⟨m0, hm0⟩ := h.ok.self
  obtain ⟨f1, f2⟩ := findM_in hm0
  have eo : x.own = m0.k := by simp [Nd.own, atM, hm0]
  have ek : putSelf r.self (r.others.map RM.k) = x.tab.map Mem.k := by
    rw [h.rf.self, h.rf.others, List.map_map, eo]
    exact putSelf_is x.c.self m0 f2 x.tab h.ok.rise f1
  obtain ⟨o1, o2⟩ := own_bounds h.ok
  rw [ek, h.rf.self]
  simp only [wholeB, Bool.and_eq_true]
  refine ⟨isId_mk o1.1 o1.2, isInc_mk o2.1 o2.2, isSeq_mk hq.1 hq.2, ?_, ?_⟩
  · have := h.ok.len
    have e : (x.tab.map Mem.k).length = x.tab.length := by simp
    rw [e]
    simp [suitsB, lowB, highB, this]
  · unfold allB
    rw [List.all_eq_true]
    intro k hk
    obtain ⟨m, hm, rfl⟩ := List.mem_map.1 hk
    exact h.ok.keys m hm
/-- Behind a call that hands out what goes out. -/
def RToX (W W' : World) (b : Nat) (v : Rv) (r' : Rn) (o : Value) : Prop := ∃ v', v'.d = v.d ∧ RAt W' b v' r' ∧ Frm (rfeet b v) W W' ∧ (∀ k ∈ rfeet b v', k ∈ rfeet b v ∨ W.heap.size ≤ k) ∧ o = v'.x
/-- Nothing goes out yet. -/
theorem RAt.mute {W : World} {b : Nat} {v : Rv} {r : Rn} (h : RAt W b v r) : RAt (W.setCell ⟨b, 24, none⟩ (.slice none 0 0)) b { v with x := .slice none 0 0 } { r with out := [] } ∧ Frm (rfeet b v) W (W.setCell ⟨b, 24, none⟩ (.slice none 0 0)) ∧ ∀ k ∈ rfeet b { v with x := .slice none 0 0 }, k ∈ rfeet b v ∨ W.heap.size ≤ k := by
  refine ⟨RAt.store h.blk (h.rows.setX (Frm.refl _ _) (l := []) (World.ownsRow_nil _ _ _ _)) 24 _ rfl, frm_own W b v _, fun k hk => .inl ?_⟩
  simp only [rfeet, Rv.all, List.mem_cons, List.mem_append] at hk ⊢
  rcases hk with hk | hk | hk | hk | hk | hk | hk
  · exact .inl hk
  · exact .inr (.inl hk)
  · exact .inr (.inr (.inl hk))
  · exact .inr (.inr (.inr (.inl hk)))
  · exact .inr (.inr (.inr (.inr (.inl hk))))
  · exact .inr (.inr (.inr (.inr (.inr (.inl hk)))))
  · simp [Value.ownBlock] at hk
set_option maxHeartbeats 2000000 in
set_option maxRecDepth 100000 in
theorem rreceive_no {B : Int} {x : Nd} {r : Rn} (hg : Gh B x r) (hB : B ≤ 999999999000) {W : World} {b : Nat} {v : Rv} (h : RAt W b v r) (s : List UInt8) (hs : s.length ≤ maxLen) (hd : (decB s && !decide ((readM s).frm = r.self.id)) = false) :
    Calls Tryz.prog 56 #[.pointer (some ⟨b, 0, none⟩), .string (bs s)] W fun e w' => ∃ o, e = .returned o ∧ RToX W w' b v (r.receive s) o := by
  obtain ⟨ha1, hf1, hs1⟩ := h.mute
  have hbs := hg.bs (by unfold Big; omega)
  have hdr := hbs.dropped
  have HE : Hid (r.receive s = { r with out := [], dropped := r.dropped + 1 }) := hide (by unfold Rn.receive; rw [if_neg (by rw [hd]; simp)])
  have c24 := h.cell 24
  have f24 := h.free 24
  have hlt := h.ltb
  obtain ⟨xo, xc, hxv, _⟩ := row_form h.rows.x
  simp only [refC, List.getElem?_toArray, List.getElem?_cons_zero, List.getElem?_cons_succ, hxv] at c24
  generalize hw1 : W.setCell ⟨b, 24, none⟩ (.slice none 0 0) = w1 at ha1 hf1
  have c10 := ha1.cell 10
  have c21 := ha1.cell 21
  have f21 := ha1.free 21
  simp only [refC, List.getElem?_toArray, List.getElem?_cons_zero, List.getElem?_cons_succ] at c10 c21
  have hlt1 := ha1.ltb
  have HF : Hid (∀ w', Below w1.heap.size w1 w' → RToX W (w'.setCell ⟨b, 21, none⟩ (.int .i64 (r.dropped + 1))) b v { r with out := [], dropped := r.dropped + 1 } (.slice none 0 0)) := hide (fun w' hb => by
    obtain ⟨k1, k2⟩ := (ha1.below hb).set 21 (.int .i64 (r.dropped + 1)) (r' := { r with out := [], dropped := r.dropped + 1 }) rfl
    exact ⟨{ v with x := .slice none 0 0 }, rfl, k1, (hf1.step hb).trans (frm_set w' b 21 _) (by simp [rfeet]), hs1, rfl⟩)
  have hbc : ∀ w', Below w1.heap.size w1 w' → w'.cell? ⟨b, 10, none⟩ = some (.int .i64 r.self.id) ∧ w'.cell? ⟨b, 21, none⟩ = some (.int .i64 r.dropped) ∧ w'.frozen? ⟨b, 21, none⟩ = false := fun w' hb => ⟨(hb.cell (p := ⟨b, 10, none⟩) hlt1).trans c10, (hb.cell (p := ⟨b, 21, none⟩) hlt1).trans c21, (hb.frozen (p := ⟨b, 21, none⟩) hlt1).trans f21⟩
  have HBC := hide hbc
  clear h ha1 hf1 hs1 hbs hg hxv hbc c10 c21 f21
  go_enter Tryz.func56, Tryz.ntmps56
  rcases hdb : decB s with _ | _
  · go_wp2_with fail
    clear hw1
    refine (rdecode_no s w1 hs hdb).mono ?_
    rintro e w2 ⟨rfl, hb2⟩
    obtain ⟨j10, j21, g21⟩ := unhide HBC w2 hb2
    have hz2 := hb2.size
    have hlt2 : b < w2.heap.size := by omega
    have HB2 := hide hb2
    clear hb2 hd hdb
    simp only [mval, M6.zero]
    go_wp2
    go_quiet (fail)
    go_wp2
    go_ret
    rw [unhide HE]
    exact ⟨_, rfl, unhide HF _ ((unhide HB2).trans (bdrewN ((Below.refl _ _).alloc (Nat.le_refl _) _) _ |>.mono (unhide HB2).size))⟩
  · have hfr : (readM s).frm = r.self.id := by
      rw [hdb] at hd
      simpa using hd
    have HFR := hide hfr
    go_wp2_with fail
    clear hw1
    refine (rdecode_yes s w1 hdb).mono ?_
    rintro e w2 ⟨vu, rfl, ho2, hb2⟩
    obtain ⟨j10, j21, g21⟩ := unhide HBC w2 hb2
    have hz2 := hb2.size
    have hlt2 : b < w2.heap.size := by omega
    have HB2 := hide hb2
    obtain ⟨uo, uc, hvu⟩ := own_form ho2
    subst hvu
    have hfr' : ((readM s).frm == r.self.id) = true := by simpa using hfr
    clear hb2 hd hdb ho2 hfr
    generalize readM s = M at hfr' HFR ⊢
    simp only [mval]
    go_wp2
    go_quiet (fail)
    go_wp2
    go_ret
    rw [unhide HE]
    exact ⟨_, rfl, unhide HF _ ((unhide HB2).trans (bdrewN ((Below.refl _ _).alloc (Nat.le_refl _) _) _ |>.mono (unhide HB2).size))⟩
end Go.Proofs.YtnneljcbelgoeaaGreatDoor.wire
/- Nodes that have just met: all incarnations 1, all alive. No Go here. -/
namespace Go.Proofs.YtnneljcbelgoeaaGreatDoor.wire

theorem len_sub : ∀ (l m : List Int), l.Nodup → (∀ a ∈ l, a ∈ m) → l.length ≤ m.length
  | [], _, _, _ => Nat.zero_le _
  | a :: r, m, hn, hs => by
    have hm := hs a (List.mem_cons_self ..)
    have hn' := List.nodup_cons.1 hn
    have ih := len_sub r (m.erase a) hn'.2 (fun b hb => by
      have hb' := hs b (List.mem_cons_of_mem _ hb)
      have hne : b ≠ a := fun e => hn'.1 (e ▸ hb)
      exact (List.mem_erase_of_ne hne).2 hb')
    have hl := List.length_erase_of_mem hm
    have hpos := List.length_pos_of_mem hm
    simp only [List.length_cons]; omega
/-- A node that has not ticked yet. -/
structure Fresh (x : Nd) : Prop where
  clock : x.clock = 0
  pass : x.pass = []
  ptgt : x.ptgt = 0
  rels : x.rels = []
  dropped : x.dropped = 0
  dl : DlOk x.dl
structure Nice (n : Nat) (s : Int) (x : Nd) : Prop where
  ok : NdOk x
  self : x.c.self = s
  keys : ∀ m ∈ x.tab, m.k.inc = 1 ∧ m.k.st = 1 ∧ m.k.id ≤ n
  fr : Fresh x
theorem Nice.own {n : Nat} {s : Int} {x : Nd} (h : Nice n s x) : x.own = ⟨s, 1, 1⟩ := by
  obtain ⟨m, hm⟩ := h.ok.self
  have e : x.own = m.k := by simp [Nd.own, atM, hm]
  obtain ⟨h1, h2⟩ := findM_in hm
  obtain ⟨k1, k2, _⟩ := h.keys m h1
  rw [e, show m.k = ⟨m.k.id, m.k.inc, m.k.st⟩ from rfl, k1, k2, h2, h.self]
theorem Nice.left {n : Nat} {s : Int} {x : Nd} (h : Nice n s x) : x.left = false := by simp [Nd.left, h.own]
theorem Nice.len {n : Nat} {s : Int} {x : Nd} (h : Nice n s x) : x.tab.length ≤ n := by
  have := len_sub (x.tab.map fun m => m.k.id) ((List.range n).map (fun j : Nat => (j : Int) + 1)) (by
    rw [List.Nodup, List.pairwise_map]
    exact h.ok.rise.imp (fun {a b} hlt e => by omega)) (fun a ha => by
    obtain ⟨m, hm, rfl⟩ := List.mem_map.1 ha
    have k1 := (key_bounds (h.ok.keys m hm)).1
    have k2 := (h.keys m hm).2.2
    refine List.mem_map.2 ⟨(m.k.id - 1).toNat, List.mem_range.2 (by omega), by omega⟩)
  simpa using this
theorem nice_new (c : Cfg) (hc : cfgB c = true) (n : Nat) (hn : c.self ≤ n) {dl : List Int} (hdl : DlOk dl) : Nice n c.self (Nd.new c dl) := by
  have hid : isIdB c.self = true := by have := hc; simp only [cfgB, Bool.and_eq_true] at this; exact this.1
  refine ⟨⟨hc, by simp [Nd.new], by simp [Nd.new], ?_, ?_, ⟨⟨⟨c.self, 1, 1⟩, 0, 0⟩, by simp [Nd.new, findM]⟩, by simp [Nd.new], by simp [Nd.new], ⟨by simp [Nd.new], by simp [Nd.new], .inl rfl⟩⟩, rfl, ?_, ⟨rfl, rfl, rfl, rfl, rfl, hdl⟩⟩
  · intro m hm
    simp [Nd.new] at hm; subst hm
    simp only [isKeyB, Bool.and_eq_true]
    exact ⟨hid, rfl, rfl⟩
  · intro m hm; simp [Nd.new] at hm; subst hm; exact ⟨Int.le_refl 0, (by decide : (0 : Int) ≤ 8)⟩
  · intro m hm; simp [Nd.new] at hm; subst hm; exact ⟨rfl, rfl, hn⟩
theorem new_b (c : Cfg) (dl : List Int) : NdB 0 (Nd.new c dl) := ⟨⟨by simp [Nd.new], by simp [Nd.new]⟩, ⟨by simp [Nd.new], by simp [Nd.new]⟩, ⟨by simp [Nd.new], by simp [Nd.new]⟩, ⟨by simp [Nd.new], by simp [Nd.new]⟩, ⟨⟨by simp [Nd.new], by simp [Nd.new]⟩, by simp [Nd.new]⟩⟩
def Knows (j : Int) (x : Nd) : Prop := (findM j x.tab).isSome = true
theorem hear_tab {n : Nat} {s : Int} {x : Nd} (h : Nice n s x) (k : K3) (hk : k.inc = 1 ∧ k.st = 1) : (x.hear k).tab = x.tab ∨ ((x.hear k).tab = putM ⟨k, x.clock + x.c.suspect, x.c.sends⟩ x.tab ∧ findM k.id x.tab = none) := by
  unfold Nd.hear
  split
  · left; simp [Nd.hearSelf, hk.2]
  · unfold Nd.hearOther
    split
    · rename_i o ho
      obtain ⟨h1, h2⟩ := findM_in ho
      have := h.keys o h1
      left
      rw [if_neg]
      simp [greaterB, hk.1, hk.2, this.1, this.2.1]
    · rename_i ho
      split
      · left; rfl
      · right
        refine ⟨?_, ho⟩
        simp [Nd.heard, thereB, hk.2, Nd.change]
theorem hear_alive (x : Nd) (k : K3) (hk : k.st = 1) : x.hear k = x ∨ x.hear k = x.change k := by
  unfold Nd.hear
  split
  · left; simp [Nd.hearSelf, hk]
  · unfold Nd.hearOther
    split
    · split
      · right; simp [Nd.heard, thereB, hk]
      · left; rfl
    · split
      · left; rfl
      · right; simp [Nd.heard, thereB, hk]
theorem Fresh.hear {x : Nd} (h : Fresh x) (k : K3) (hk : k.st = 1) : Fresh (x.hear k) := by
  rcases hear_alive x k hk with e | e
  · rw [e]; exact h
  · rw [e]; exact ⟨h.clock, h.pass, h.ptgt, h.rels, h.dropped, h.dl⟩
theorem Nice.hear {n : Nat} {s : Int} {x : Nd} (h : Nice n s x) (k : K3) (hk : k.inc = 1 ∧ k.st = 1) (hid : 1 ≤ k.id ∧ k.id ≤ 250) (hkn : k.id ≤ n) : Nice n s (x.hear k) := by
  have hkey : isKeyB k = true := by
    simp only [isKeyB, Bool.and_eq_true]
    exact ⟨isId_mk hid.1 hid.2, isInc_mk (by omega) (by omega), isSt_mk (by omega) (by omega)⟩
  refine ⟨hear_ok h.ok k hkey, by rw [hear_c]; exact h.self, fun m hm => ?_, h.fr.hear k hk.2⟩
  rcases hear_tab h k hk with e | ⟨e, _⟩
  · rw [e] at hm; exact h.keys m hm
  · rw [e] at hm
    rcases putM_mem hm with rfl | hm
    · exact ⟨hk.1, hk.2, hkn⟩
    · exact h.keys m hm
theorem knows_hear {n : Nat} {s : Int} {x : Nd} (h : Nice n s x) (k : K3) (hk : k.inc = 1 ∧ k.st = 1) {j : Int} (hj : Knows j x) : Knows j (x.hear k) := by
  unfold Knows at *
  rcases hear_tab h k hk with e | ⟨e, _⟩
  · rw [e]; exact hj
  · rw [e, findM_putM _ _ _ h.ok.rise]
    split
    · rfl
    · exact hj
theorem knows_who {n : Nat} {s : Int} {x : Nd} (h : Nice n s x) (hn : n ≤ 7) (k : K3) (hk : k.inc = 1 ∧ k.st = 1) (hne : k.id ≠ s) : Knows k.id (x.hear k) := by
  have hl := h.len
  unfold Knows Nd.hear
  rw [if_neg (by rw [h.self]; exact hne)]
  unfold Nd.hearOther
  split
  · rename_i o ho
    obtain ⟨h1, h2⟩ := findM_in ho
    have := h.keys o h1
    rw [if_neg (by simp [greaterB, hk.1, hk.2, this.1, this.2.1])]
    rw [ho]; rfl
  · rw [if_neg (by omega)]
    simp only [Nd.heard, thereB, hk.2, decide_true, Bool.true_or, if_true, Nd.change]
    rw [findM_putM _ _ _ h.ok.rise, if_pos rfl]; rfl
theorem Nice.hears {n : Nat} {s : Int} : ∀ (l : List K3) {x : Nd}, Nice n s x → (∀ k ∈ l, (k.inc = 1 ∧ k.st = 1) ∧ (1 ≤ k.id ∧ k.id ≤ 250) ∧ k.id ≤ n) → Nice n s (x.hears l) ∧ ∀ j, Knows j x → Knows j (x.hears l)
  | [], _, h, _ => ⟨h, fun _ hj => hj⟩
  | k :: r, x, h, hl => by
    obtain ⟨h1, h2, h3⟩ := hl k (List.mem_cons_self ..)
    obtain ⟨a, b⟩ := Nice.hears r (h.hear k h1 h2 h3) (fun k' hk' => hl k' (List.mem_cons_of_mem _ hk'))
    exact ⟨a, fun j hj => b j (knows_hear h k h1 hj)⟩
/-- Its own Join. -/
def joinM (s q : Int) : M6 := ⟨4, s, 1, q, 0, []⟩
def tableM (s q : Int) (l : List K3) : M6 := ⟨5, s, 1, q, 0, l⟩
theorem join_whole {s q : Int} (hs : 1 ≤ s ∧ s ≤ 250) (hq : 0 ≤ q ∧ q ≤ 4294967295) : wholeB (joinM s q) = true := by
  simp only [wholeB, joinM, Bool.and_eq_true]
  exact ⟨isId_mk hs.1 hs.2, rfl, isSeq_mk hq.1 hq.2, rfl, rfl⟩
theorem Nice.self_id {n : Nat} {s : Int} {x : Nd} (h : Nice n s x) : 1 ≤ s ∧ s ≤ 250 := by rw [← h.self]; exact h.ok.id
theorem Nice.join {n : Nat} {s : Int} {x : Nd} (h : Nice n s x) (i : Int) (hB : NdB 100000 x) : (x.join i).1 = [⟨i, bytesM (joinM s (x.num + 1))⟩] ∧ Nice n s (x.join i).2 := by
  have hn : Nice n s { x with num := x.num + 1 } := ⟨num_ok h.ok _, h.self, h.keys, ⟨h.fr.clock, h.fr.pass, h.fr.ptgt, h.fr.rels, h.fr.dropped, h.fr.dl⟩⟩
  have hb := hB.num
  refine ⟨?_, hn⟩
  show [Pk.mk i (bytesS ⟨4, _, _, x.num + 1, 0, []⟩)] = _
  rw [hn.own]
  have := join_whole h.self_id (q := x.num + 1) (by omega)
  simp only [joinM] at this
  simp only [bytesS, this, if_true]; rfl
theorem Nice.joinErr {n : Nat} {s : Int} {x : Nd} (h : Nice n s x) (i : Int) (hi : 1 ≤ i ∧ i ≤ 250) (hne : i ≠ s) : x.joinErr i = 0 := by
  simp [Nd.joinErr, h.left, isId_mk hi.1 hi.2, h.self, hne]
theorem tab_keys {n : Nat} {s : Int} {x : Nd} (h : Nice n s x) : ∀ k ∈ x.tab.map Mem.k, (k.inc = 1 ∧ k.st = 1) ∧ (1 ≤ k.id ∧ k.id ≤ 250) ∧ k.id ≤ n := by
  intro k hk
  obtain ⟨m, hm, rfl⟩ := List.mem_map.1 hk
  obtain ⟨a, b, c⟩ := h.keys m hm
  exact ⟨⟨a, b⟩, (key_bounds (h.ok.keys m hm)).1, c⟩
theorem table_whole {n : Nat} {s : Int} {x : Nd} (h : Nice n s x) {q : Int} (hq : 0 ≤ q ∧ q ≤ 4294967295) : wholeB (tableM s q (x.tab.map Mem.k)) = true := by
  have hs := h.self_id
  simp only [wholeB, tableM, Bool.and_eq_true]
  refine ⟨isId_mk hs.1 hs.2, rfl, isSeq_mk hq.1 hq.2, ?_, ?_⟩
  · have := h.ok.len
    have e : (x.tab.map Mem.k).length = x.tab.length := by simp
    rw [e]
    simp [suitsB, lowB, highB, this]
  · unfold allB
    rw [List.all_eq_true]
    intro k hk
    obtain ⟨m, hm, rfl⟩ := List.mem_map.1 hk
    exact h.ok.keys m hm
theorem no_deeds {x : Nd} {m : M6} (h4 : m.kind = 4 → DeedOk 125 x m) (h5 : m.kind = 5 → DeedOk 126 x m) (h1 : m.kind = 1 → DeedOk 122 x m) (hk : m.kind = 1 ∨ m.kind = 4 ∨ m.kind = 5) : Deeds x m :=
  ⟨h1, fun h => by omega, fun h => by omega, h4, h5⟩
/-- Another one's Join is received. -/
theorem Nice.got_join {n : Nat} {s t : Int} {x : Nd} (h : Nice n s x) {q : Int} (hq : 0 ≤ q ∧ q ≤ 4294967295) (ht : 1 ≤ t ∧ t ≤ 250) (htn : t ≤ n) (hne : t ≠ s) (hd : decB (bytesM (joinM t q)) = true) (hr : readM (bytesM (joinM t q)) = joinM t q) :
    takesB x.c.self (bytesM (joinM t q)) = true ∧ (x.receive (bytesM (joinM t q))).2 = x.hear ⟨t, 1, 1⟩ ∧ (x.receive (bytesM (joinM t q))).1 = [⟨t, bytesM (tableM s q ((x.hear ⟨t, 1, 1⟩).tab.map Mem.k))⟩] ∧ Nice n s (x.hear ⟨t, 1, 1⟩) := by
  have hfr : (joinM t q).frm = t := rfl
  have htk : takesB x.c.self (bytesM (joinM t q)) = true := by
    unfold takesB
    rw [hd, hr, hfr, h.self]
    simp [hne]
  have hn := h.hear ⟨t, 1, 1⟩ ⟨rfl, rfl⟩ ht htn
  have e : x.receive (bytesM (joinM t q)) = ([(x.hear ⟨t, 1, 1⟩).packet t 5 q 0 ((x.hear ⟨t, 1, 1⟩).tab.map Mem.k)], x.hear ⟨t, 1, 1⟩) := by
    unfold Nd.receive
    rw [htk, hr]
    simp [joinM, Nd.hears, Nd.deed, Nd.takeJoin]
  refine ⟨htk, by rw [e], ?_, hn⟩
  rw [e]
  show [Pk.mk t (bytesS ⟨5, _, _, q, 0, _⟩)] = _
  rw [hn.own]
  have := table_whole hn hq
  simp only [tableM] at this
  simp only [bytesS, this, if_true]; rfl
/-- Another one's Table is received. -/
theorem Nice.got_table {n : Nat} {s t : Int} {x : Nd} (h : Nice n s x) (hn7 : n ≤ 7) {q : Int} {l : List K3} (hl : ∀ k ∈ l, (k.inc = 1 ∧ k.st = 1) ∧ (1 ≤ k.id ∧ k.id ≤ 250) ∧ k.id ≤ n) (ht : 1 ≤ t ∧ t ≤ 250) (htn : t ≤ n) (hne : t ≠ s) (hd : decB (bytesM (tableM t q l)) = true) (hr : readM (bytesM (tableM t q l)) = tableM t q l) :
    takesB x.c.self (bytesM (tableM t q l)) = true ∧ (x.receive (bytesM (tableM t q l))).2 = (x.hear ⟨t, 1, 1⟩).hears l ∧ (x.receive (bytesM (tableM t q l))).1 = [] ∧ Nice n s ((x.hear ⟨t, 1, 1⟩).hears l) ∧ Knows t ((x.hear ⟨t, 1, 1⟩).hears l) ∧ ∀ j, Knows j x → Knows j ((x.hear ⟨t, 1, 1⟩).hears l) := by
  have hfr : (tableM t q l).frm = t := rfl
  have htk : takesB x.c.self (bytesM (tableM t q l)) = true := by
    unfold takesB
    rw [hd, hr, hfr, h.self]
    simp [hne]
  have hn := h.hear ⟨t, 1, 1⟩ ⟨rfl, rfl⟩ ht htn
  obtain ⟨hn2, hk2⟩ := hn.hears l hl
  have e : x.receive (bytesM (tableM t q l)) = ([], (x.hear ⟨t, 1, 1⟩).hears l) := by
    unfold Nd.receive
    rw [htk, hr]
    simp [tableM, Nd.deed]
  exact ⟨htk, by rw [e], by rw [e], hn2, hk2 t (knows_who h hn7 ⟨t, 1, 1⟩ ⟨rfl, rfl⟩ hne), fun j hj => hk2 j (knows_hear h ⟨t, 1, 1⟩ ⟨rfl, rfl⟩ hj)⟩
end Go.Proofs.YtnneljcbelgoeaaGreatDoor.wire
