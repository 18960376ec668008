import Derived.Test.YtnneljcbelgoeaaGreatDoorG13
/- The relays that an Ack answers (P7). -/
namespace Go.Proofs.YtnneljcbelgoeaaGreatDoor.wire
open Go.RowKit Go.Maps

theorem relayed_snoc (l : List Rel) (r : Rel) : ∀ x : Nd, x.relayed (l ++ [r]) = ((x.relayed l).1 ++ [(x.relayed l).2.direct 2 r.asker r.under r.tgt], (x.relayed l).2.along) := by
  induction l with
  | nil => intro x; rfl
  | cons a t ih => intro x; simp only [List.cons_append, Nd.relayed, ih]
theorem relayed_ok : ∀ (l : List Rel) {x : Nd}, NdOk x → NdOk (x.relayed l).2
  | [], _, h => h
  | _ :: t, _, h => relayed_ok t (along_ok h)
theorem relayed_len : ∀ (l : List Rel) (x : Nd), (x.relayed l).1.length = l.length
  | [], _ => rfl
  | _ :: t, x => by simp only [Nd.relayed, List.length_cons, relayed_len t]
theorem grown_frm0 {o : Obj} {w w1 : World} {row : Option Nat} (h : (w.alloc o).grownBy w1 row) : Frm row.toList w w1 :=
  (Frm.of_below ((Below.refl _ w).alloc (Nat.le_refl _) o) (Nat.le_refl _)).trans (S' := row.toList) (Frm.of_grown h (fun k hk => .inl (by simp [hk]))) (fun j hj => .inl hj)
theorem Tryz.infoPL : (Tryz.prog.info? 78).map (fun i => (i.zero, i.size, i.bytes)) = some (some (.agg #[.int .i64 0, .string ⟨#[]⟩]), 2, 24) := by kernel_rfl
set_option maxHeartbeats 1000000 in
set_option maxRecDepth 100000 in
theorem back_any1 {x : Nd} (hx : NdOk x) (r : Rel) {nb mb : Nat} {cb : Dk} {xb : Nat} {pv rv : Value} {W : World} (hn : NAt W nb mb cb pv rv x) (hb : W.heap[xb]? = some (.cells #[.pointer (some ⟨nb, 0, none⟩)] 79 (0, 0))) :
    Calls Tryz.prog 151 #[.agg #[.int .i64 r.tgt, .int .i64 r.num, .int .i64 r.asker, .int .i64 r.under, .int .i64 r.till], .pointer (some ⟨xb, 0, none⟩)] W fun e w' => e = .returned (.agg #[.int .i64 (x.direct 2 r.asker r.under r.tgt).dest, .string (bs (x.direct 2 r.asker r.under r.tgt).bytes)]) ∧ NAt w' nb mb cb pv rv x.along ∧ Frm [mb] W w' := by
  have s0 := cell_at hb 0
  have hlt := lt_blk hb
  simp only [List.getElem?_toArray, List.getElem?_cons_zero] at s0
  have HN := hide hn
  have hd := direct_any hx ((hn.alloc (.cells #[.int .i64 r.tgt, .int .i64 r.num, .int .i64 r.asker, .int .i64 r.under, .int .i64 r.till] 161)).alloc (.cells #[.int .i64 0, .string ⟨#[]⟩] 78)) 2 r.asker r.under r.tgt
  generalize x.direct 2 r.asker r.under r.tgt = PK at hd ⊢
  have HD := hide hd
  clear hb hn hx hd
  go_enter Tryz.func151, Tryz.ntmps151
  go_wp2_with fail
  refine (unhide HD).mono ?_
  clear HD
  rintro e w2 ⟨rfl, hn2, hf2⟩
  have hmb := (unhide HN).lt_mb
  have hfeet := (unhide HN).feet_lt
  have br2 : w2.heap[W.heap.size + 1]? = some (.cells #[.int .i64 0, .string ⟨#[]⟩] 78 (0, 0)) := by
    have h1 := heap_alloc_new (W.alloc (.cells #[.int .i64 r.tgt, .int .i64 r.num, .int .i64 r.asker, .int .i64 r.under, .int .i64 r.till] 161)) (.cells #[.int .i64 0, .string ⟨#[]⟩] 78)
    have h2 := hf2.block (W.heap.size + 1) (by simp) (by simp; omega)
    simp only [World.size_alloc] at h1
    exact h2.trans h1
  have r0 := cell_at br2 0
  have r1 := cell_at br2 1
  have rf := free_at br2
  simp only [List.getElem?_toArray, List.getElem?_cons_zero, List.getElem?_cons_succ] at r0 r1
  have HN2 := hide hn2
  have HF2 := hide ((((Frm.refl [mb] W).alloc _).alloc _).trans hf2 (by simp))
  have HR2 := hide br2
  clear hn2 hf2 br2
  go_wp2
  refine bodyPost_ret (v := .agg #[.int .i64 PK.dest, .string (bs PK.bytes)]) (by simp [results, Tryz.results151, go_sem, r0, r1]) rfl ⟨rfl, ?_⟩
  have hW2 : W.heap.size < w2.heap.size := Nat.lt_of_le_of_lt (Nat.le_succ _) (lt_blk (unhide HR2))
  obtain ⟨g1, g2⟩ := low_cell (unhide HN2) (unhide HF2) hW2 0 (.int .i64 PK.dest) (Nat.le_succ _) (fun k hk => Nat.ne_of_lt (Nat.lt_succ_of_lt (hfeet k hk)))
  exact low_cell g1 g2 (by rw [World.size_setCell]; exact hW2) 1 (.string (bs PK.bytes)) (Nat.le_succ _) (fun k hk => Nat.ne_of_lt (Nat.lt_succ_of_lt (hfeet k hk)))
set_option maxHeartbeats 2000000 in
set_option maxRecDepth 100000 in
theorem relayed_at (l : List Rel) {x : Nd} (hx : NdOk x) {nb mb : Nat} {cb : Dk} {xb : Nat} {pv rv : Value} (b off cap : Nat) {w : World} (hn : NAt w nb mb cb pv rv x) (hxb : w.heap[xb]? = some (.cells #[.pointer (some ⟨nb, 0, none⟩)] 79 (0, 0))) (hb : b < w.heap.size) (hbm : b ≠ mb) (hl : l.length ≤ 1000) (hrow : rowsR w b off l) :
    Calls Tryz.prog 150 #[.slice (some ⟨b, off, none⟩) l.length cap, .func (.func 151) #[] #[.pointer (some ⟨xb, 0, none⟩)]] w fun e w' => ∃ o, e = .returned o ∧ Outs w w' o (x.relayed l).1 ∧ NAt w' nb mb cb pv rv (x.relayed l).2 ∧ Frm [mb] w w' := by
  obtain ⟨ti, hti, hz0, hz1, hz2⟩ := info_parts Tryz.infoPL
  have eg := enters_of Tryz.func151 (by kernel_rfl) rfl
  have hxm : xb ≠ mb := fun e => by
    obtain ⟨es, c, hm⟩ := map_blk hn.map
    rw [e, hm] at hxb; cases hxb
  have hmlt := hn.lt_mb
  have hxlt := lt_blk hxb
  have HX := hide hx
  have HN := hide hn
  have HXB := hide hxb
  clear hx hn hxb
  go_enter Tryz.func150, Tryz.ntmps150
  go_wp2
  go_loopw [5, 10] (fun o i wr => ∃ k : Nat, k ≤ l.length ∧ i = .int .i64 k ∧ Hid (wr.ownsRow w.heap.size 78 2 o k ((x.relayed (l.take k)).1.flatMap pkC)) ∧ Hid (NAt wr nb mb cb pv rv (x.relayed (l.take k)).2) ∧ Hid (Frm [mb] w wr)) (fun _ i _ => l.length - (Go.RowKit.intOf i).toNat)
  case atStart => exact ⟨0, Nat.zero_le _, rfl, ⟨rfl, .inl ⟨rfl, rfl⟩⟩, HN, Frm.refl _ _⟩
  case round =>
    rename_i o i
    obtain ⟨k, hk, rfl, HO, HN1, HF1⟩ := hrel
    by_cases hlt : k < l.length
    · have hrk := hrow k hlt
      have hsz := (unhide HF1).size
      have hft : x.relayed (l.take (k + 1)) = ((x.relayed (l.take k)).1 ++ [(x.relayed (l.take k)).2.direct 2 l[k].asker l[k].under l[k].tgt], (x.relayed (l.take k)).2.along) := by
        rw [List.take_succ_eq_append_getElem hlt, relayed_snoc]
      have HFT := hide hft
      clear hft
      have hok := relayed_ok (l.take k) (unhide HX)
      generalize (x.relayed (l.take k)).1 = PS at HO HFT
      generalize (x.relayed (l.take k)).2 = Y at HN1 HFT hok
      generalize l[k] = K at hrk HFT
      obtain ⟨c0, c1, c2, c3, c4⟩ := hrk
      have hcell : ∀ j, wr.cell? ⟨b, j, none⟩ = w.cell? ⟨b, j, none⟩ := fun j => World.cell?_of_block ((unhide HF1).block b hb (by simpa using hbm))
      have d0 := (hcell _).trans c0
      have d1 := (hcell _).trans c1
      have d2 := (hcell _).trans c2
      have d3 := (hcell _).trans c3
      have d4 := (hcell _).trans c4
      clear c0 c1 c2 c3 c4 hcell
      have hxb1 := ((unhide HF1).block xb hxlt (by simpa using hxm)).trans (unhide HXB)
      have HC := hide (back_any1 hok K ((unhide HN1).alloc (.cells #[.int .i64 K.tgt, .int .i64 K.num, .int .i64 K.asker, .int .i64 K.under, .int .i64 K.till] 161)) ((Below.heap_alloc _ _ _ (by omega)).trans hxb1))
      clear hxb1 hok
      go_wp2_with fail
      refine (unhide HC).mono ?_
      generalize Y.direct 2 K.asker K.under K.tgt = PK at HFT ⊢
      clear HC
      rintro e w1 ⟨rfl, hn1, hf1⟩
      have hf01 : Frm [mb] w w1 := ((unhide HF1).alloc _).trans hf1 (by simp)
      have HO1 := hide (own_frm (HO.out.alloc _) hf1 (fun j hj => by have := own_lt (unhide HO) hj; simp; omega))
      have HN2 := hide hn1
      have HF2 := hide hf01
      have hs1 := hf01.size
      clear hn1 hf1 hf01 d0 d1 d2 d3 d4 HO HN1 HF1
      go_wp2_with (at_builtin; refine wpList_append_own _ rfl _ _ 77 rfl w.heap.size 78 ti (.agg #[.int .i64 0, .string ⟨#[]⟩]) 2 24 Tryz.underlying77 hti hz0 hz1 hz2 rfl (by decide) _ _ _ rfl ((unhide HO1).alloc _) ⟨w1.heap.size, 0, none⟩ 1 1 [.int .i64 PK.dest, .string (bs PK.bytes)] rfl rfl ?c1 ?c2 ?c3 ?c4 ?c5 ?_)
      case c1 => exact World.news_of_block (heap_alloc_new w1 _)
      case c2 => intro u hu; simp at hu; rcases hu with rfl | rfl <;> rfl
      case c3 => unfold maxLen; omega
      case c4 => omega
      case c5 => simp; omega
      intro v' w2 hown' hgrow _
      have hg2 := grown_frm0 hgrow
      have HO2 := hide hown'
      have HG2 := hide hg2
      clear hown' hgrow hg2
      go_wp2
      go_roundw
      case rel =>
        refine ⟨k + 1, by omega, by go_num, ?_, ?_, ?_⟩
        · rw [unhide HFT]
          exact hide (by simpa [pkC] using unhide HO2)
        · rw [unhide HFT]
          exact hide ((unhide HN2).frm (unhide HG2) (fun j hj => by have := (unhide HN).feet_lt j hj; simp only [Option.mem_toList]; intro e; have := (own_lt (unhide HO1) e).1; omega))
        · exact hide ((unhide HF2).trans (unhide HG2) (fun j hj => .inr (own_lt (unhide HO1) (by simpa using hj)).1))
      case measure => simp [Go.RowKit.intOf]; omega
    · have e : k = l.length := by omega
      rw [e, List.take_length] at HO HN1
      go_wp2
      go_ret
      exact ⟨_, rfl, by rw [Outs, relayed_len]; exact HO.out, unhide HN1, unhide HF1⟩
theorem relayed_nil {x : Nd} {nb mb : Nat} {cb : Dk} {pv rv fv : Value} {w : World} (hn : NAt w nb mb cb pv rv x) :
    Calls Tryz.prog 150 #[.slice none 0 0, fv] w fun e w' => ∃ o, e = .returned o ∧ Outs w w' o (x.relayed []).1 ∧ NAt w' nb mb cb pv rv (x.relayed []).2 ∧ Frm [mb] w w' := by
  have HN := hide hn
  clear hn
  go_enter Tryz.func150, Tryz.ntmps150
  go_wp2
  refine wp_loop_rounds 1 ?_
  rw [rounds_succ]
  go_wp2
  go_ret
  exact ⟨_, rfl, outs_nil _ _, unhide HN, Frm.refl _ _⟩
theorem relayed_any (l : List Rel) {x : Nd} (hx : NdOk x) {nb mb : Nat} {cb : Dk} {xb : Nat} {pv rv v : Value} {w : World} {base : Nat} (hn : NAt w nb mb cb pv rv x) (hxb : w.heap[xb]? = some (.cells #[.pointer (some ⟨nb, 0, none⟩)] 79 (0, 0))) (hv : w.ownsRow base 161 5 v l.length (l.flatMap relC)) (hl : l.length ≤ 1000) :
    Calls Tryz.prog 150 #[v, .func (.func 151) #[] #[.pointer (some ⟨xb, 0, none⟩)]] w fun e w' => ∃ o, e = .returned o ∧ Outs w w' o (x.relayed l).1 ∧ NAt w' nb mb cb pv rv (x.relayed l).2 ∧ Frm [mb] w w' := by
  have hv0 := hv
  rcases hv.2 with ⟨rfl, h0⟩ | ⟨b, cap, cur, rfl, hb, hg, _⟩
  · obtain rfl : l = [] := List.length_eq_zero_iff.1 h0
    exact relayed_nil hn
  · refine relayed_at l hx b 0 cap hn hxb (lt_blk hg) (fun e => ?_) hl (rowR hv0)
    obtain ⟨es, c, hm⟩ := map_blk hn.map
    rw [e, hm] at hg; cases hg
end Go.Proofs.YtnneljcbelgoeaaGreatDoor.wire
