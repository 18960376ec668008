import Derived.Test.YtnneljcbelgoeaaGreatNPacket
/- A packet with updates along; the next number (P7). -/
namespace Go.Proofs.YtnneljcbelgoeaaGreat.wire
open Go.RowKit Go.Maps

theorem lessAll_keys : ∀ (l : List Mem) {t : List Mem}, Rise t → (∀ m ∈ l, (findM m.k.id t).map Mem.k = some m.k) → ∀ i, (findM i (lessAll l t)).map Mem.k = (findM i t).map Mem.k
  | [], _, _, _, _ => rfl
  | m :: r, t, h, hm, i => by
    have h0 := hm m (List.mem_cons_self ..)
    have step : ∀ i, (findM i (putM m.less t)).map Mem.k = (findM i t).map Mem.k := fun i => by
      rw [findM_putM _ _ _ h]
      split
      · rename_i e
        have e' : m.k.id = i := e
        rw [← e', h0]; rfl
      · rfl
    have := lessAll_keys r (putM_rise m.less t h) (fun m' hm' => by rw [step]; exact hm m' (List.mem_cons_of_mem _ hm')) i
    exact this.trans (step i)
theorem lessAll_same : ∀ (l : List Mem) {t : List Mem}, Rise t → (∀ m ∈ l, (findM m.k.id t).isSome = true) → (lessAll l t).length = t.length
  | [], _, _, _ => rfl
  | m :: r, t, h, hm => by
    have h0 : (findM m.less.k.id t).isSome = true := hm m (List.mem_cons_self ..)
    have h1 := putM_len m.less t h
    rw [if_pos h0] at h1
    have := lessAll_same r (putM_rise m.less t h) (fun m' hm' => by
      rw [findM_putM _ _ _ h]
      split
      · rfl
      · exact hm m' (List.mem_cons_of_mem _ hm'))
    exact this.trans h1
theorem lessAll_mem : ∀ (l : List Mem) {t : List Mem} {z : Mem}, z ∈ lessAll l t → z ∈ t ∨ ∃ m ∈ l, z = m.less
  | [], _, _, h => .inl h
  | m :: r, t, z, h => by
    rcases lessAll_mem r (t := putM m.less t) h with h | ⟨m', h1, h2⟩
    · rcases putM_mem h with h | h
      · exact .inr ⟨m, List.mem_cons_self .., h⟩
      · exact .inl h
    · exact .inr ⟨m', List.mem_cons_of_mem _ h1, h2⟩
theorem along_tab (x : Nd) : x.along.tab = lessAll x.picks x.tab := rfl
theorem along_keys {x : Nd} (hx : NdOk x) (i : Int) : (findM i x.along.tab).map Mem.k = (findM i x.tab).map Mem.k :=
  lessAll_keys x.picks hx.rise (fun m hm => by rw [findM_mem hx.rise (picks_mem hm).1]; rfl) i
theorem along_own {x : Nd} (hx : NdOk x) : x.along.own = x.own := by
  have h := along_keys hx x.c.self
  obtain ⟨m, hm⟩ := hx.self
  show (atM x.c.self x.along.tab).k = (atM x.c.self x.tab).k
  unfold atM
  rw [hm] at h ⊢
  rcases hf : findM x.c.self x.along.tab with _ | m'
  · rw [hf] at h; cases h
  · rw [hf] at h; simpa using h
theorem along_ok {x : Nd} (hx : NdOk x) : NdOk x.along := by
  refine ⟨hx.cfg, lessAll_rise _ hx.rise, ?_, ?_, ?_, ?_, hx.evs, hx.rels, hx.pass⟩
  · have := lessAll_same x.picks hx.rise (fun m hm => by rw [findM_mem hx.rise (picks_mem hm).1]; rfl)
    rw [along_tab, this]; exact hx.len
  · intro m hm
    rcases lessAll_mem _ hm with h | ⟨m', h1, rfl⟩
    · exact hx.keys m h
    · exact hx.keys m' (picks_mem h1).1
  · intro m hm
    rcases lessAll_mem _ hm with h | ⟨m', h1, rfl⟩
    · exact hx.sends m h
    · have h2 := hx.sends m' (picks_mem h1).1
      have h3 := (picks_mem h1).2
      simp only [pendB, decide_eq_true_eq] at h3
      show 0 ≤ m'.sends - 1 ∧ m'.sends - 1 ≤ 8
      omega
  · have h := along_keys hx x.c.self
    obtain ⟨m, hm⟩ := hx.self
    rw [hm] at h
    rcases hf : findM x.c.self x.along.tab with _ | m'
    · rw [hf] at h; cases h
    · exact ⟨m', hf⟩
theorem along_b {B : Int} {x : Nd} (h : NdB B x) : NdB B x.along := ⟨h.clock, h.num, h.dropped, h.lost, h.tk⟩
theorem NAt.feet_lt {W : World} {nb mb : Nat} {cb : Dk} {pv rv : Value} {x : Nd} (h : NAt W nb mb cb pv rv x) : ∀ k ∈ feet nb mb cb pv rv, k < W.heap.size := by
  intro k hk
  simp only [feet, List.mem_cons, List.mem_append, Option.mem_toList] at hk
  rcases hk with rfl | rfl | rfl | hk | hk | hk
  · exact h.lt
  · exact h.lt_mb
  · exact h.lt_cb
  · exact h.pass.lt hk
  · exact (own_lt h.rel hk).2
  · exact h.draw.lt hk
/-- A cell of a new block is written. -/
theorem low_cell {S : List Nat} {W w : World} {nb mb : Nat} {cb : Dk} {pv rv : Value} {x : Nd} (h : NAt w nb mb cb pv rv x) (hf : Frm S W w) {b : Nat} (_hlt : W.heap.size < w.heap.size) (i : Nat) (u : Value) (hb : W.heap.size ≤ b) (hfeet : ∀ k ∈ feet nb mb cb pv rv, k ≠ b) :
    NAt (w.setCell ⟨b, i, none⟩ u) nb mb cb pv rv x ∧ Frm S W (w.setCell ⟨b, i, none⟩ u) := by
  have hbl := (Below.refl 0 w).setCell (p := ⟨b, i, none⟩) (Nat.zero_le _) u
  have hf1 : Frm [b] w (w.setCell ⟨b, i, none⟩ u) := ⟨hbl.os, hbl.tape, hbl.output, hbl.size, fun k _ hk => heap_setCell_other w ⟨b, i, none⟩ k u (by simpa using hk)⟩
  exact ⟨h.frm hf1 (fun k hk => by simpa using hfeet k hk), hf.trans hf1 (by simp; omega)⟩
set_option maxHeartbeats 400000 in
set_option maxRecDepth 100000 in
theorem direct_any {x : Nd} (hx : NdOk x) {nb mb : Nat} {cb : Dk} {pv rv : Value} {W : World} (hn : NAt W nb mb cb pv rv x) (kind dest seq tgt : Int) :
    Calls Tryz.prog 67 #[.pointer (some ⟨nb, 0, none⟩), .int .i64 kind, .int .i64 dest, .int .i64 seq, .int .i64 tgt] W fun e w' => e = .returned (.agg #[.int .i64 (x.direct kind dest seq tgt).dest, .string (bs (x.direct kind dest seq tgt).bytes)]) ∧ NAt w' nb mb cb pv rv x.along ∧ Frm [mb] W w' := by
  have hb0 : Below W.heap.size W (W.alloc (.cells #[.int .i64 0, .string ⟨#[]⟩] 39)) := (Below.refl _ _).alloc (Nat.le_refl _) _
  have HA := hide (along_any hx (hn.alloc (.cells #[.int .i64 0, .string ⟨#[]⟩] 39)))
  have HB0 := hide hb0
  have HX := hide (along_ok hx)
  have hm := hn.lt_mb
  have hfeet := hn.feet_lt
  have hp := picks_len x
  clear hb0 hn hx
  obtain ⟨PK, hPK⟩ : ∃ PK, PK = x.direct kind dest seq tgt := ⟨_, rfl⟩
  have HPK := hide hPK
  rw [← hPK]
  clear hPK
  go_enter Tryz.func67, Tryz.ntmps67
  go_wp2_with fail
  refine (unhide HA).mono ?_
  obtain ⟨L, hL⟩ : ∃ L, L = x.picks.map Mem.k := ⟨_, rfl⟩
  have hLl : L.length ≤ 4 := by rw [hL]; simpa using hp
  rw [← hL]
  have HLL := hide hL
  clear hL
  rintro e w1 ⟨v, rfl, ho1, hn1, hf1⟩
  obtain ⟨ao, cap, rfl⟩ := own_form ho1
  have hf01 : Frm [mb] W w1 := (Frm.of_below (unhide HB0) (Nat.le_refl _)).trans hf1 (fun j hj => .inl hj)
  have br := (hf1.block W.heap.size (by simp) (by simp; omega)).trans (heap_alloc_new W (.cells #[.int .i64 0, .string ⟨#[]⟩] 39))
  have HP := hide (packet_any (unhide HX) hn1 dest kind seq tgt L _ (keys_of_row ho1) (by omega))
  have HN1 := hide hn1
  have HF1 := hide hf01
  have HR := hide br
  clear ho1 hn1 hf1 hf01 br HA HB0
  go_wp2_with fail
  refine (unhide HP).mono ?_
  rw [show x.along.packet dest kind seq tgt L = PK from by rw [unhide HLL]; exact (unhide HPK).symm]
  rintro e w2 ⟨rfl, hb2⟩
  have br2 := (hb2.block W.heap.size (lt_blk (unhide HR))).trans (unhide HR)
  have r0 := cell_at br2 0
  have r1 := cell_at br2 1
  have rf := free_at br2
  simp only [List.getElem?_toArray, List.getElem?_cons_zero, List.getElem?_cons_succ] at r0 r1
  have hn2 := (unhide HN1).below hb2
  have hf2 := (unhide HF1).step hb2
  have hs1 := heap_setCell_same w2 W.heap.size 0 _ _ (.int .i64 PK.dest) br2
  have hf3 : Frm [] w2 w2 := Frm.refl _ _
  have HN2 := hide hn2
  have HF2 := hide hf2
  have HR2 := hide br2
  clear hb2 br2 hn2 hf2 hs1 hf3 HP
  go_wp2
  refine bodyPost_ret (v := .agg #[.int .i64 PK.dest, .string (bs PK.bytes)]) (by simp [results, Tryz.results67, go_sem, r0, r1]) rfl ⟨rfl, ?_⟩
  obtain ⟨g1, g2⟩ := low_cell (unhide HN2) (unhide HF2) (lt_blk (unhide HR2)) 0 (.int .i64 PK.dest) (Nat.le_refl _) (fun k hk => Nat.ne_of_lt (hfeet k hk))
  exact low_cell g1 g2 (by rw [World.size_setCell]; exact lt_blk (unhide HR2)) 1 (.string (bs PK.bytes)) (Nat.le_refl _) (fun k hk => Nat.ne_of_lt (hfeet k hk))
end Go.Proofs.YtnneljcbelgoeaaGreat.wire
