import Derived.Test.YtnneljcbelgoeaaGreatDoorG04
import Derived.Deep.RegionHeld3
import Derived.Laws.EntriesVeiled
/- The document's node in memory. (Written by gen/mkrat.py.) -/
namespace Go.Proofs.YtnneljcbelgoeaaGreatDoor.wire
open Go.RowKit Go.Maps

/-- Where its rows lie: the draws, the others, the pass, the queue, the relays, the events, what goes out. -/
structure Rv where
  d : Value
  o : Value
  p : Value
  q : Value
  l : Value
  e : Value
  x : Value
def rmC (m : RM) : List Value := [.int .i64 m.k.id, .int .i64 m.k.inc, .int .i64 m.k.st, .int .i64 m.due]
def ruC (u : RU) : List Value := [.int .i64 u.k.id, .int .i64 u.k.inc, .int .i64 u.k.st, .int .i64 u.sent]
def rrC (q : Rel) : List Value := [.int .i64 q.num, .int .i64 q.tgt, .int .i64 q.asker, .int .i64 q.under, .int .i64 q.till]
def refC (r : Rn) (v : Rv) : Array Value := #[.int .i64 r.c.self, .int .i64 r.c.period, .int .i64 r.c.wait, .int .i64 r.c.suspect, .int .i64 r.c.proxies, .int .i64 r.c.sends, v.d, .int .i64 r.drawn, .int .i64 r.clock, .int .i64 r.seq, .int .i64 r.self.id, .int .i64 r.self.inc, .int .i64 r.self.st, v.o, v.p, .int .i64 r.probe, .int .i64 r.start, .int .i64 r.no, .bool r.acked, v.q, v.l, .int .i64 r.dropped, v.e, .int .i64 r.lost, v.x]
/-- Its rows, but for the draws. -/
structure RRows0 (W : World) (v : Rv) (r : Rn) : Prop where
  o : W.ownsRow 0 134 4 v.o r.others.length (r.others.flatMap rmC)
  p : W.ownsRow 0 3 1 v.p r.pass.length (r.pass.flatMap intC)
  q : W.ownsRow 0 158 4 v.q r.queue.length (r.queue.flatMap ruC)
  l : W.ownsRow 0 132 5 v.l r.rels.length (r.rels.flatMap rrC)
  e : W.ownsRow 0 58 3 v.e r.evs.length (r.evs.flatMap keyC)
  x : W.ownsRow 0 60 2 v.x r.out.length (r.out.flatMap pkC)
/-- Its rows. -/
structure RRows (W : World) (v : Rv) (r : Rn) : Prop extends RRows0 W v r where
  d : PassAt W v.d r.draws
  sep : ∀ g, v.p.ownBlock = some g → v.d.ownBlock ≠ some g
structure RAt (W : World) (b : Nat) (v : Rv) (r : Rn) : Prop where
  blk : W.heap[b]? = some (.cells (refC r v) 93 (0, 0))
  rows : RRows W v r
def Rv.all (v : Rv) : List Nat := v.o.ownBlock.toList ++ (v.p.ownBlock.toList ++ (v.q.ownBlock.toList ++ (v.l.ownBlock.toList ++ (v.e.ownBlock.toList ++ (v.x.ownBlock.toList)))))
def rfeet (b : Nat) (v : Rv) : List Nat := b :: v.all
/-- Behind a call on it. -/
def RTo (W W' : World) (b : Nat) (v : Rv) (r' : Rn) : Prop := ∃ v', v'.d = v.d ∧ RAt W' b v' r' ∧ Frm (rfeet b v) W W' ∧ ∀ k ∈ rfeet b v', k ∈ rfeet b v ∨ W.heap.size ≤ k
theorem RRows0.frm {S : List Nat} {W W' : World} {v : Rv} {r : Rn} (h : RRows0 W v r) (hf : Frm S W W') (hn : ∀ k ∈ v.all, k ∉ S) : RRows0 W' v r :=
  ⟨own_frm h.o hf (fun k hk => hn k (by simp [Rv.all, hk])), own_frm h.p hf (fun k hk => hn k (by simp [Rv.all, hk])), own_frm h.q hf (fun k hk => hn k (by simp [Rv.all, hk])), own_frm h.l hf (fun k hk => hn k (by simp [Rv.all, hk])), own_frm h.e hf (fun k hk => hn k (by simp [Rv.all, hk])), own_frm h.x hf (fun k hk => hn k (by simp [Rv.all, hk]))⟩
theorem RRows.frm {S : List Nat} {W W' : World} {v : Rv} {r : Rn} (h : RRows W v r) (hf : Frm S W W') (hn : ∀ k ∈ v.all, k ∉ S) (hd : ∀ k, v.d.ownBlock = some k → k ∉ S) : RRows W' v r := ⟨h.toRRows0.frm hf hn, h.d.frm hf hd, h.sep⟩
theorem RRows.below {W W' : World} {v : Rv} {r : Rn} (h : RRows W v r) (hb : Below W.heap.size W W') : RRows W' v r := h.frm (S := []) (Frm.of_below hb (Nat.le_refl _)) (by simp) (by simp)
theorem RRows0.blk_of {W : World} {v : Rv} {r : Rn} (h : RRows0 W v r) {k : Nat} (hk : k ∈ v.all) : ∃ cs t, W.heap[k]? = some (.cells cs t (0, 0)) ∧ (t = 134 ∨ t = 3 ∨ t = 158 ∨ t = 132 ∨ t = 58 ∨ t = 60) := by
  simp only [Rv.all, List.mem_append, Option.mem_toList] at hk
  rcases hk with hk | hk | hk | hk | hk | hk
  · obtain ⟨cs, hc⟩ := own_blk h.o hk; exact ⟨cs, _, hc, .inl rfl⟩
  · obtain ⟨cs, hc⟩ := own_blk h.p hk; exact ⟨cs, _, hc, .inr (.inl rfl)⟩
  · obtain ⟨cs, hc⟩ := own_blk h.q hk; exact ⟨cs, _, hc, .inr (.inr (.inl rfl))⟩
  · obtain ⟨cs, hc⟩ := own_blk h.l hk; exact ⟨cs, _, hc, .inr (.inr (.inr (.inl rfl)))⟩
  · obtain ⟨cs, hc⟩ := own_blk h.e hk; exact ⟨cs, _, hc, .inr (.inr (.inr (.inr (.inl rfl))))⟩
  · obtain ⟨cs, hc⟩ := own_blk h.x hk; exact ⟨cs, _, hc, .inr (.inr (.inr (.inr (.inr rfl))))⟩
theorem RRows.not {W : World} {v : Rv} {r : Rn} (h : RRows W v r) {b : Nat} {cs : Array Value} (hb : W.heap[b]? = some (.cells cs 93 (0, 0))) : b ∉ v.all ∧ v.d.ownBlock ≠ some b := by
  refine ⟨fun hk => ?_, fun hk => ?_⟩
  · obtain ⟨cs', t, hc, ht⟩ := h.toRRows0.blk_of hk
    rw [hb] at hc
    cases hc
    revert ht
    decide
  · obtain ⟨cs', hc⟩ := h.d.blk hk
    rw [hb] at hc
    cases hc
theorem RRows0.lt {W : World} {v : Rv} {r : Rn} (h : RRows0 W v r) {k : Nat} (hk : k ∈ v.all) : k < W.heap.size := by
  obtain ⟨cs, t, hc, _⟩ := h.blk_of hk
  exact lt_blk hc
theorem RAt.frm {S : List Nat} {W W' : World} {b : Nat} {v : Rv} {r : Rn} (h : RAt W b v r) (hf : Frm S W W') (hn : ∀ k ∈ rfeet b v, k ∉ S) (hd : ∀ k, v.d.ownBlock = some k → k ∉ S) : RAt W' b v r :=
  ⟨(hf.block b (lt_blk h.blk) (hn b (by simp [rfeet]))).trans h.blk, h.rows.frm hf (fun k hk => hn k (by simp [rfeet, hk])) hd⟩
theorem RAt.below {W W' : World} {b : Nat} {v : Rv} {r : Rn} (h : RAt W b v r) (hb : Below W.heap.size W W') : RAt W' b v r := h.frm (S := []) (Frm.of_below hb (Nat.le_refl _)) (by simp) (by simp)
theorem RAt.alloc {W : World} {b : Nat} {v : Rv} {r : Rn} (h : RAt W b v r) (o : Obj) : RAt (W.alloc o) b v r := h.below ((Below.refl _ _).alloc (Nat.le_refl _) o)
theorem RAt.drew {W : World} {b : Nat} {v : Rv} {r : Rn} (h : RAt W b v r) : RAt W.drew b v r := h.below (bdrew (Below.refl _ _))
theorem RAt.drewN {W : World} {b : Nat} {v : Rv} {r : Rn} (h : RAt W b v r) (n : Nat) : RAt (W.drewN n) b v r := h.below (bdrewN (Below.refl _ _) n)
theorem RAt.ltb {W : World} {b : Nat} {v : Rv} {r : Rn} (h : RAt W b v r) : b < W.heap.size := lt_blk h.blk
theorem RAt.lt {W : World} {b : Nat} {v : Rv} {r : Rn} (h : RAt W b v r) {k : Nat} (hk : k ∈ rfeet b v) : k < W.heap.size := by
  rcases List.mem_cons.1 hk with rfl | hk
  · exact lt_blk h.blk
  · exact h.rows.toRRows0.lt hk
theorem RAt.cell {W : World} {b : Nat} {v : Rv} {r : Rn} (h : RAt W b v r) (j : Nat) : W.cell? ⟨b, j, none⟩ = (refC r v)[j]? := cell_at h.blk j
theorem RAt.free {W : World} {b : Nat} {v : Rv} {r : Rn} (h : RAt W b v r) (j : Nat) : W.frozen? ⟨b, j, none⟩ = false := free_at h.blk j
theorem RTo.same {W W' : World} {b : Nat} {v : Rv} {r : Rn} (h : RAt W b v r) (hb : Below W.heap.size W W') : RTo W W' b v r := ⟨v, rfl, h.below hb, Frm.of_below hb (Nat.le_refl _), fun _ hk => .inl hk⟩
theorem RTo.trans {W W1 W2 : World} {b : Nat} {v v1 : Rv} {r2 : Rn} (hd : v1.d = v.d) (hf : Frm (rfeet b v) W W1) (hs : ∀ k ∈ rfeet b v1, k ∈ rfeet b v ∨ W.heap.size ≤ k) (h : RTo W1 W2 b v1 r2) : RTo W W2 b v r2 := by
  obtain ⟨v2, hd2, ha, hf2, hs2⟩ := h
  refine ⟨v2, hd2.trans hd, ha, hf.trans hf2 hs, fun k hk => ?_⟩
  rcases hs2 k hk with h | h
  · exact hs k h
  · exact .inr (Nat.le_trans hf.size h)
theorem RTo.then {W W1 W2 : World} {b : Nat} {v : Rv} {r1 r2 : Rn} (h1 : RTo W W1 b v r1) (h : ∀ v1, RAt W1 b v1 r1 → RTo W1 W2 b v1 r2) : RTo W W2 b v r2 := by
  obtain ⟨v1, hd, ha, hf, hs⟩ := h1
  exact .trans hd hf hs (h v1 ha)
theorem RTo.step {W W1 W2 : World} {b : Nat} {v : Rv} {r1 : Rn} (h1 : RTo W W1 b v r1) (hb : Below W1.heap.size W1 W2) : RTo W W2 b v r1 := h1.then (fun _ ha => RTo.same ha hb)
theorem RTo.size {W W1 : World} {b : Nat} {v : Rv} {r1 : Rn} (h : RTo W W1 b v r1) : W.heap.size ≤ W1.heap.size := by obtain ⟨_, _, _, hf, _⟩ := h; exact hf.size
/-- A block of another's that is not among its own stays. -/
theorem RTo.block {W W1 : World} {b : Nat} {v : Rv} {r1 : Rn} (h : RTo W W1 b v r1) {k : Nat} (hk : k < W.heap.size) (hn : k ∉ rfeet b v) : W1.heap[k]? = W.heap[k]? := by obtain ⟨_, _, _, hf, _⟩ := h; exact hf.block k hk hn
/-- A store into its own block. -/
theorem frm_set (W : World) (b j : Nat) (u : Value) : Frm [b] W (W.setCell ⟨b, j, none⟩ u) :=
  ⟨rfl, rfl, rfl, by simp [World.size_setCell], fun k _ hk => by simp at hk; exact heap_setCell_other W ⟨b, j, none⟩ k u (by simpa using hk)⟩
theorem RAt.store {W : World} {b : Nat} {v v' : Rv} {r r' : Rn} (hb : W.heap[b]? = some (.cells (refC r v) 93 (0, 0))) (hr : RRows W v' r') (j : Nat) (u : Value) (hc : (refC r v).setIfInBounds j u = refC r' v') : RAt (W.setCell ⟨b, j, none⟩ u) b v' r' := by
  obtain ⟨n1, n2⟩ := hr.not hb
  refine ⟨by rw [heap_setCell_same _ _ _ _ _ _ hb, hc], hr.frm (frm_set W b j u) (fun k hk e => ?_) (fun k hk e => ?_)⟩
  · simp only [List.mem_singleton] at e; subst e; exact n1 hk
  · simp only [List.mem_singleton] at e; subst e; exact n2 hk
theorem RRows.same {W : World} {v : Rv} {r r' : Rn} (h : RRows W v r) (hd : r'.draws = r.draws) (ho : r'.others = r.others) (hp : r'.pass = r.pass) (hq : r'.queue = r.queue) (hl : r'.rels = r.rels) (he : r'.evs = r.evs) (hx : r'.out = r.out) : RRows W v r' :=
  ⟨⟨by rw [ho]; exact h.o, by rw [hp]; exact h.p, by rw [hq]; exact h.q, by rw [hl]; exact h.l, by rw [he]; exact h.e, by rw [hx]; exact h.x⟩, by rw [hd]; exact h.d, h.sep⟩
/-- A plain cell of it is written. -/
theorem RAt.set {W : World} {b : Nat} {v : Rv} {r : Rn} (h : RAt W b v r) (j : Nat) (u : Value) {r' : Rn} (hc : (refC r v).setIfInBounds j u = refC r' v) (hd : r'.draws = r.draws := by rfl) (ho : r'.others = r.others := by rfl) (hp : r'.pass = r.pass := by rfl) (hq : r'.queue = r.queue := by rfl) (hl : r'.rels = r.rels := by rfl) (he : r'.evs = r.evs := by rfl) (hx : r'.out = r.out := by rfl) : RAt (W.setCell ⟨b, j, none⟩ u) b v r' ∧ RTo W (W.setCell ⟨b, j, none⟩ u) b v r' := by
  have ha := RAt.store h.blk (h.rows.same (r' := r') hd ho hp hq hl he hx) j u hc
  exact ⟨ha, v, rfl, ha, (Frm.refl _ W).trans (frm_set W b j u) (by simp [rfeet]), fun k hk => .inl hk⟩
theorem RRows.setO {W W1 : World} {v : Rv} {r : Rn} (h : RRows W v r) {u : Value} (hf : Frm v.o.ownBlock.toList W W1) {l : List RM} (ho : W1.ownsRow 0 134 4 u l.length (l.flatMap rmC)) : RRows W1 { v with o := u } { r with others := l } := by
  have hne : ∀ {e : TypeId} {z : Nat} {x : Value} {n : Nat} {xs : List Value}, 134 ≠ e → W.ownsRow 0 e z x n xs → W1.ownsRow 0 e z x n xs := fun he hx => own_frm hx hf (fun k hk hm => row_apart h.o hx he k (Option.mem_toList.1 hm) hk)
  have hd : PassAt W1 v.d r.draws := h.d.frm hf (fun k hk hm => by
    obtain ⟨cs, h1⟩ := h.d.blk hk
    obtain ⟨cs', h2⟩ := own_blk h.o (Option.mem_toList.1 hm)
    rw [h1] at h2
    simp only [Option.some.injEq, Obj.cells.injEq] at h2
    exact absurd h2.2.1 (by decide))
  exact ⟨⟨ho, hne (by decide) h.p, hne (by decide) h.q, hne (by decide) h.l, hne (by decide) h.e, hne (by decide) h.x⟩, hd, h.sep⟩
theorem RAt.setO {W W1 : World} {b : Nat} {v : Rv} {r : Rn} (h : RAt W b v r) {u : Value} {l : List RM} (hf : Frm v.o.ownBlock.toList W W1) (hat : ∀ g, u.ownBlock = some g → v.o.ownBlock = some g ∨ W.heap.size ≤ g) (ho : W1.ownsRow 0 134 4 u l.length (l.flatMap rmC)) : RTo W (W1.setCell ⟨b, 13, none⟩ u) b v { r with others := l } := by
  have hb : b ∉ v.o.ownBlock.toList := fun hm => (h.rows.not h.blk).1 (by simp only [Rv.all, List.mem_append]; simp [hm])
  have hblk := (hf.block b h.ltb hb).trans h.blk
  have ha := RAt.store hblk (h.rows.setO hf ho) 13 u rfl
  refine ⟨{ v with o := u }, rfl, ha, ((Frm.refl _ W).trans hf (fun k hk => .inl ?_)).trans (frm_set W1 b 13 u) (by simp [rfeet]), fun k hk => ?_⟩
  · simp only [rfeet, Rv.all, List.mem_cons, List.mem_append]; simp [hk]
  · simp only [rfeet, Rv.all, List.mem_cons, List.mem_append, Option.mem_toList] at hk ⊢
    rcases hk with hk | hk | hk | hk | hk | hk | hk
    · exact .inl (.inl hk)
    · exact (hat k hk).elim (fun hk => .inl (.inr (.inl hk))) .inr
    · exact .inl (.inr (.inr (.inl hk)))
    · exact .inl (.inr (.inr (.inr (.inl hk))))
    · exact .inl (.inr (.inr (.inr (.inr (.inl hk)))))
    · exact .inl (.inr (.inr (.inr (.inr (.inr (.inl hk))))))
    · exact .inl (.inr (.inr (.inr (.inr (.inr (.inr (hk)))))))
theorem RRows.setP {W W1 : World} {v : Rv} {r : Rn} (h : RRows W v r) {u : Value} (hf : Frm v.p.ownBlock.toList W W1) {l : List Int} (ho : W1.ownsRow 0 3 1 u l.length (l.flatMap intC)) (hs : ∀ g, u.ownBlock = some g → v.d.ownBlock ≠ some g) : RRows W1 { v with p := u } { r with pass := l } := by
  have hne : ∀ {e : TypeId} {z : Nat} {x : Value} {n : Nat} {xs : List Value}, 3 ≠ e → W.ownsRow 0 e z x n xs → W1.ownsRow 0 e z x n xs := fun he hx => own_frm hx hf (fun k hk hm => row_apart h.p hx he k (Option.mem_toList.1 hm) hk)
  have hd : PassAt W1 v.d r.draws := h.d.frm hf (fun k hk hm => h.sep k (Option.mem_toList.1 hm) hk)
  exact ⟨⟨hne (by decide) h.o, ho, hne (by decide) h.q, hne (by decide) h.l, hne (by decide) h.e, hne (by decide) h.x⟩, hd, hs⟩
theorem RAt.setP {W W1 : World} {b : Nat} {v : Rv} {r : Rn} (h : RAt W b v r) {u : Value} {l : List Int} (hf : Frm v.p.ownBlock.toList W W1) (hat : ∀ g, u.ownBlock = some g → v.p.ownBlock = some g ∨ W.heap.size ≤ g) (ho : W1.ownsRow 0 3 1 u l.length (l.flatMap intC)) : RTo W (W1.setCell ⟨b, 14, none⟩ u) b v { r with pass := l } := by
  have hb : b ∉ v.p.ownBlock.toList := fun hm => (h.rows.not h.blk).1 (by simp only [Rv.all, List.mem_append]; simp [hm])
  have hblk := (hf.block b h.ltb hb).trans h.blk
  have hs : ∀ g, u.ownBlock = some g → v.d.ownBlock ≠ some g := fun g hg hd => by
    rcases hat g hg with e | e
    · exact h.rows.sep g e hd
    · have := h.rows.d.lt hd; omega
  have ha := RAt.store hblk (h.rows.setP hf ho hs) 14 u rfl
  refine ⟨{ v with p := u }, rfl, ha, ((Frm.refl _ W).trans hf (fun k hk => .inl ?_)).trans (frm_set W1 b 14 u) (by simp [rfeet]), fun k hk => ?_⟩
  · simp only [rfeet, Rv.all, List.mem_cons, List.mem_append]; simp [hk]
  · simp only [rfeet, Rv.all, List.mem_cons, List.mem_append, Option.mem_toList] at hk ⊢
    rcases hk with hk | hk | hk | hk | hk | hk | hk
    · exact .inl (.inl hk)
    · exact .inl (.inr (.inl hk))
    · exact (hat k hk).elim (fun hk => .inl (.inr (.inr (.inl hk)))) .inr
    · exact .inl (.inr (.inr (.inr (.inl hk))))
    · exact .inl (.inr (.inr (.inr (.inr (.inl hk)))))
    · exact .inl (.inr (.inr (.inr (.inr (.inr (.inl hk))))))
    · exact .inl (.inr (.inr (.inr (.inr (.inr (.inr (hk)))))))
theorem RRows.setQ {W W1 : World} {v : Rv} {r : Rn} (h : RRows W v r) {u : Value} (hf : Frm v.q.ownBlock.toList W W1) {l : List RU} (ho : W1.ownsRow 0 158 4 u l.length (l.flatMap ruC)) : RRows W1 { v with q := u } { r with queue := l } := by
  have hne : ∀ {e : TypeId} {z : Nat} {x : Value} {n : Nat} {xs : List Value}, 158 ≠ e → W.ownsRow 0 e z x n xs → W1.ownsRow 0 e z x n xs := fun he hx => own_frm hx hf (fun k hk hm => row_apart h.q hx he k (Option.mem_toList.1 hm) hk)
  have hd : PassAt W1 v.d r.draws := h.d.frm hf (fun k hk hm => by
    obtain ⟨cs, h1⟩ := h.d.blk hk
    obtain ⟨cs', h2⟩ := own_blk h.q (Option.mem_toList.1 hm)
    rw [h1] at h2
    simp only [Option.some.injEq, Obj.cells.injEq] at h2
    exact absurd h2.2.1 (by decide))
  exact ⟨⟨hne (by decide) h.o, hne (by decide) h.p, ho, hne (by decide) h.l, hne (by decide) h.e, hne (by decide) h.x⟩, hd, h.sep⟩
theorem RAt.setQ {W W1 : World} {b : Nat} {v : Rv} {r : Rn} (h : RAt W b v r) {u : Value} {l : List RU} (hf : Frm v.q.ownBlock.toList W W1) (hat : ∀ g, u.ownBlock = some g → v.q.ownBlock = some g ∨ W.heap.size ≤ g) (ho : W1.ownsRow 0 158 4 u l.length (l.flatMap ruC)) : RTo W (W1.setCell ⟨b, 19, none⟩ u) b v { r with queue := l } := by
  have hb : b ∉ v.q.ownBlock.toList := fun hm => (h.rows.not h.blk).1 (by simp only [Rv.all, List.mem_append]; simp [hm])
  have hblk := (hf.block b h.ltb hb).trans h.blk
  have ha := RAt.store hblk (h.rows.setQ hf ho) 19 u rfl
  refine ⟨{ v with q := u }, rfl, ha, ((Frm.refl _ W).trans hf (fun k hk => .inl ?_)).trans (frm_set W1 b 19 u) (by simp [rfeet]), fun k hk => ?_⟩
  · simp only [rfeet, Rv.all, List.mem_cons, List.mem_append]; simp [hk]
  · simp only [rfeet, Rv.all, List.mem_cons, List.mem_append, Option.mem_toList] at hk ⊢
    rcases hk with hk | hk | hk | hk | hk | hk | hk
    · exact .inl (.inl hk)
    · exact .inl (.inr (.inl hk))
    · exact .inl (.inr (.inr (.inl hk)))
    · exact (hat k hk).elim (fun hk => .inl (.inr (.inr (.inr (.inl hk))))) .inr
    · exact .inl (.inr (.inr (.inr (.inr (.inl hk)))))
    · exact .inl (.inr (.inr (.inr (.inr (.inr (.inl hk))))))
    · exact .inl (.inr (.inr (.inr (.inr (.inr (.inr (hk)))))))
theorem RRows.setL {W W1 : World} {v : Rv} {r : Rn} (h : RRows W v r) {u : Value} (hf : Frm v.l.ownBlock.toList W W1) {l : List Rel} (ho : W1.ownsRow 0 132 5 u l.length (l.flatMap rrC)) : RRows W1 { v with l := u } { r with rels := l } := by
  have hne : ∀ {e : TypeId} {z : Nat} {x : Value} {n : Nat} {xs : List Value}, 132 ≠ e → W.ownsRow 0 e z x n xs → W1.ownsRow 0 e z x n xs := fun he hx => own_frm hx hf (fun k hk hm => row_apart h.l hx he k (Option.mem_toList.1 hm) hk)
  have hd : PassAt W1 v.d r.draws := h.d.frm hf (fun k hk hm => by
    obtain ⟨cs, h1⟩ := h.d.blk hk
    obtain ⟨cs', h2⟩ := own_blk h.l (Option.mem_toList.1 hm)
    rw [h1] at h2
    simp only [Option.some.injEq, Obj.cells.injEq] at h2
    exact absurd h2.2.1 (by decide))
  exact ⟨⟨hne (by decide) h.o, hne (by decide) h.p, hne (by decide) h.q, ho, hne (by decide) h.e, hne (by decide) h.x⟩, hd, h.sep⟩
theorem RAt.setL {W W1 : World} {b : Nat} {v : Rv} {r : Rn} (h : RAt W b v r) {u : Value} {l : List Rel} (hf : Frm v.l.ownBlock.toList W W1) (hat : ∀ g, u.ownBlock = some g → v.l.ownBlock = some g ∨ W.heap.size ≤ g) (ho : W1.ownsRow 0 132 5 u l.length (l.flatMap rrC)) : RTo W (W1.setCell ⟨b, 20, none⟩ u) b v { r with rels := l } := by
  have hb : b ∉ v.l.ownBlock.toList := fun hm => (h.rows.not h.blk).1 (by simp only [Rv.all, List.mem_append]; simp [hm])
  have hblk := (hf.block b h.ltb hb).trans h.blk
  have ha := RAt.store hblk (h.rows.setL hf ho) 20 u rfl
  refine ⟨{ v with l := u }, rfl, ha, ((Frm.refl _ W).trans hf (fun k hk => .inl ?_)).trans (frm_set W1 b 20 u) (by simp [rfeet]), fun k hk => ?_⟩
  · simp only [rfeet, Rv.all, List.mem_cons, List.mem_append]; simp [hk]
  · simp only [rfeet, Rv.all, List.mem_cons, List.mem_append, Option.mem_toList] at hk ⊢
    rcases hk with hk | hk | hk | hk | hk | hk | hk
    · exact .inl (.inl hk)
    · exact .inl (.inr (.inl hk))
    · exact .inl (.inr (.inr (.inl hk)))
    · exact .inl (.inr (.inr (.inr (.inl hk))))
    · exact (hat k hk).elim (fun hk => .inl (.inr (.inr (.inr (.inr (.inl hk)))))) .inr
    · exact .inl (.inr (.inr (.inr (.inr (.inr (.inl hk))))))
    · exact .inl (.inr (.inr (.inr (.inr (.inr (.inr (hk)))))))
theorem RRows.setE {W W1 : World} {v : Rv} {r : Rn} (h : RRows W v r) {u : Value} (hf : Frm v.e.ownBlock.toList W W1) {l : List K3} (ho : W1.ownsRow 0 58 3 u l.length (l.flatMap keyC)) : RRows W1 { v with e := u } { r with evs := l } := by
  have hne : ∀ {e : TypeId} {z : Nat} {x : Value} {n : Nat} {xs : List Value}, 58 ≠ e → W.ownsRow 0 e z x n xs → W1.ownsRow 0 e z x n xs := fun he hx => own_frm hx hf (fun k hk hm => row_apart h.e hx he k (Option.mem_toList.1 hm) hk)
  have hd : PassAt W1 v.d r.draws := h.d.frm hf (fun k hk hm => by
    obtain ⟨cs, h1⟩ := h.d.blk hk
    obtain ⟨cs', h2⟩ := own_blk h.e (Option.mem_toList.1 hm)
    rw [h1] at h2
    simp only [Option.some.injEq, Obj.cells.injEq] at h2
    exact absurd h2.2.1 (by decide))
  exact ⟨⟨hne (by decide) h.o, hne (by decide) h.p, hne (by decide) h.q, hne (by decide) h.l, ho, hne (by decide) h.x⟩, hd, h.sep⟩
theorem RAt.setE {W W1 : World} {b : Nat} {v : Rv} {r : Rn} (h : RAt W b v r) {u : Value} {l : List K3} (hf : Frm v.e.ownBlock.toList W W1) (hat : ∀ g, u.ownBlock = some g → v.e.ownBlock = some g ∨ W.heap.size ≤ g) (ho : W1.ownsRow 0 58 3 u l.length (l.flatMap keyC)) : RTo W (W1.setCell ⟨b, 22, none⟩ u) b v { r with evs := l } := by
  have hb : b ∉ v.e.ownBlock.toList := fun hm => (h.rows.not h.blk).1 (by simp only [Rv.all, List.mem_append]; simp [hm])
  have hblk := (hf.block b h.ltb hb).trans h.blk
  have ha := RAt.store hblk (h.rows.setE hf ho) 22 u rfl
  refine ⟨{ v with e := u }, rfl, ha, ((Frm.refl _ W).trans hf (fun k hk => .inl ?_)).trans (frm_set W1 b 22 u) (by simp [rfeet]), fun k hk => ?_⟩
  · simp only [rfeet, Rv.all, List.mem_cons, List.mem_append]; simp [hk]
  · simp only [rfeet, Rv.all, List.mem_cons, List.mem_append, Option.mem_toList] at hk ⊢
    rcases hk with hk | hk | hk | hk | hk | hk | hk
    · exact .inl (.inl hk)
    · exact .inl (.inr (.inl hk))
    · exact .inl (.inr (.inr (.inl hk)))
    · exact .inl (.inr (.inr (.inr (.inl hk))))
    · exact .inl (.inr (.inr (.inr (.inr (.inl hk)))))
    · exact (hat k hk).elim (fun hk => .inl (.inr (.inr (.inr (.inr (.inr (.inl hk))))))) .inr
    · exact .inl (.inr (.inr (.inr (.inr (.inr (.inr (hk)))))))
theorem RRows.setX {W W1 : World} {v : Rv} {r : Rn} (h : RRows W v r) {u : Value} (hf : Frm v.x.ownBlock.toList W W1) {l : List Pk} (ho : W1.ownsRow 0 60 2 u l.length (l.flatMap pkC)) : RRows W1 { v with x := u } { r with out := l } := by
  have hne : ∀ {e : TypeId} {z : Nat} {x : Value} {n : Nat} {xs : List Value}, 60 ≠ e → W.ownsRow 0 e z x n xs → W1.ownsRow 0 e z x n xs := fun he hx => own_frm hx hf (fun k hk hm => row_apart h.x hx he k (Option.mem_toList.1 hm) hk)
  have hd : PassAt W1 v.d r.draws := h.d.frm hf (fun k hk hm => by
    obtain ⟨cs, h1⟩ := h.d.blk hk
    obtain ⟨cs', h2⟩ := own_blk h.x (Option.mem_toList.1 hm)
    rw [h1] at h2
    simp only [Option.some.injEq, Obj.cells.injEq] at h2
    exact absurd h2.2.1 (by decide))
  exact ⟨⟨hne (by decide) h.o, hne (by decide) h.p, hne (by decide) h.q, hne (by decide) h.l, hne (by decide) h.e, ho⟩, hd, h.sep⟩
theorem RAt.setX {W W1 : World} {b : Nat} {v : Rv} {r : Rn} (h : RAt W b v r) {u : Value} {l : List Pk} (hf : Frm v.x.ownBlock.toList W W1) (hat : ∀ g, u.ownBlock = some g → v.x.ownBlock = some g ∨ W.heap.size ≤ g) (ho : W1.ownsRow 0 60 2 u l.length (l.flatMap pkC)) : RTo W (W1.setCell ⟨b, 24, none⟩ u) b v { r with out := l } := by
  have hb : b ∉ v.x.ownBlock.toList := fun hm => (h.rows.not h.blk).1 (by simp only [Rv.all, List.mem_append]; simp [hm])
  have hblk := (hf.block b h.ltb hb).trans h.blk
  have ha := RAt.store hblk (h.rows.setX hf ho) 24 u rfl
  refine ⟨{ v with x := u }, rfl, ha, ((Frm.refl _ W).trans hf (fun k hk => .inl ?_)).trans (frm_set W1 b 24 u) (by simp [rfeet]), fun k hk => ?_⟩
  · simp only [rfeet, Rv.all, List.mem_cons, List.mem_append]; simp [hk]
  · simp only [rfeet, Rv.all, List.mem_cons, List.mem_append, Option.mem_toList] at hk ⊢
    rcases hk with hk | hk | hk | hk | hk | hk | hk
    · exact .inl (.inl hk)
    · exact .inl (.inr (.inl hk))
    · exact .inl (.inr (.inr (.inl hk)))
    · exact .inl (.inr (.inr (.inr (.inl hk))))
    · exact .inl (.inr (.inr (.inr (.inr (.inl hk)))))
    · exact .inl (.inr (.inr (.inr (.inr (.inr (.inl hk))))))
    · exact (hat k hk).elim (fun hk => .inl (.inr (.inr (.inr (.inr (.inr (.inr (hk)))))))) .inr
/-- A row's growth, as a frame. -/
theorem frm_grown {w w' : World} {v : Value} (h : w.grownBy w' v.ownBlock) : Frm v.ownBlock.toList w w' := Frm.of_grown h (fun k hk => .inl (by simp [hk]))
end Go.Proofs.YtnneljcbelgoeaaGreatDoor.wire
/- A packet of a node (P7). -/
namespace Go.Proofs.YtnneljcbelgoeaaGreatDoor.wire
open Go.RowKit Go.Maps

theorem enc_any (m : M6) (v : Value) (w : World) (hv : KeysAt w v m.ups) (hl : m.ups.length ≤ 1000000) :
    Calls Tryz.prog 45 #[mval m v] w fun e w' => ∃ ev, e = .returned (.tuple #[.string (bs (bytesS m)), ev]) ∧ Below w.heap.size w w' := by
  cases h : wholeB m
  · refine (encode_no m v w hv hl h).mono ?_
    rintro e w' ⟨rfl, hb⟩
    exact ⟨_, by simp only [bytesS, h]; rfl, hb⟩
  · refine (encode_yes m v w hv h).mono ?_
    rintro e w' ⟨rfl, hb⟩
    exact ⟨.nilIface, by simp only [bytesS, h, if_true], hb⟩
theorem keys_of_row {w : World} {base : Nat} {v : Value} {l : List K3} (h : w.ownsRow base 76 3 v l.length (l.flatMap keyC)) : KeysAt w v l := by
  rcases h.2 with ⟨rfl, h0⟩ | ⟨g, cap, cur, rfl, hb, hg, h1, h2, h3, h4⟩
  · exact .inl ⟨rfl, List.length_eq_zero_iff.1 h0⟩
  · refine .inr ⟨g, 0, cap, rfl, lt_blk hg, fun i hi => ?_⟩
    have hlen : ∀ l : List K3, (l.flatMap keyC).length = l.length * 3 := fun l => by
      induction l with
      | nil => rfl
      | cons a r ih => simp only [List.flatMap_cons, List.length_append, ih, List.length_cons, keyC, List.length_nil]; omega
    have hget : ∀ (l : List K3) (i : Nat) (h : i < l.length) (j : Nat), j < 3 → (l.flatMap keyC)[i * 3 + j]? = (keyC l[i])[j]? := by
      intro l
      induction l with
      | nil => intro i h; simp at h
      | cons a r ih =>
        intro i h j hj
        cases i with
        | zero => rw [List.flatMap_cons, List.getElem?_append_left (by simp [keyC]; omega)]; simp
        | succ i =>
          rw [List.flatMap_cons, List.getElem?_append_right (by simp [keyC]; omega)]
          have := ih i (by simpa using h) j hj
          simp only [List.getElem_cons_succ]
          rw [← this]
          congr 1
          simp [keyC]; omega
    have hc : ∀ j, j < 3 → w.cell? ⟨g, 0 + i * 3 + j, none⟩ = (keyC l[i])[j]? := fun j hj => by
      rw [cell_at hg, ← hget l i hi j hj, ← h4, List.getElem?_take, if_pos (by have : (i + 1) * 3 ≤ l.length * 3 := Nat.mul_le_mul_right _ hi; omega), Array.getElem?_toList, Nat.zero_add]
    exact ⟨hc 0 (by omega), hc 1 (by omega), hc 2 (by omega)⟩
set_option maxHeartbeats 2000000 in
set_option maxRecDepth 100000 in
theorem packet_any {x : Nd} (hx : NdOk x) {nb mb : Nat} {cb : Dk} {pv rv : Value} {W : World} (hn : NAt W nb mb cb pv rv x) (dest kind seq tgt : Int) (ups : List K3) (v : Value) (hv : KeysAt W v ups) (hl : ups.length ≤ 1000000) :
    Calls Tryz.prog 59 #[.pointer (some ⟨nb, 0, none⟩), .int .i64 dest, .agg #[.int .i64 kind, .int .i64 0, .int .i64 0, .int .i64 seq, .int .i64 tgt, v]] W fun e w' => e = .returned (.agg #[.int .i64 (x.packet dest kind seq tgt ups).dest, .string (bs (x.packet dest kind seq tgt ups).bytes)]) ∧ Below W.heap.size W w' := by
  obtain ⟨ao, cap, rfl⟩ := hv.form
  have hb0 : Below W.heap.size W ((W.alloc (.cells #[.int .i64 kind, .int .i64 0, .int .i64 0, .int .i64 seq, .int .i64 tgt, .slice ao ups.length cap] 68)).alloc (.cells #[.int .i64 0, .string ⟨#[]⟩] 78)) := ((Below.refl _ _).alloc (Nat.le_refl _) _).alloc (by simp) _
  have HS := hide (self_any hx ((hn.alloc (.cells #[.int .i64 kind, .int .i64 0, .int .i64 0, .int .i64 seq, .int .i64 tgt, .slice ao ups.length cap] 68)).alloc (.cells #[.int .i64 0, .string ⟨#[]⟩] 78)))
  have HB0 := hide hb0
  have HV := hide hv
  have hown : x.packet dest kind seq tgt ups = ⟨dest, bytesS ⟨kind, x.own.id, x.own.inc, seq, tgt, ups⟩⟩ := rfl
  rw [hown]
  generalize x.own = O at HS ⊢
  clear hb0 hv hn hx hown
  go_enter Tryz.func59, Tryz.ntmps59
  go_wp2_with fail
  refine (unhide HS).mono ?_
  rintro e w1 ⟨rfl, hb1⟩
  have hz1 := hb1.size
  simp only [World.size_alloc] at hz1
  have bm := (hb1.block W.heap.size (by simp; omega)).trans ((Below.heap_alloc _ _ _ (by simp)).trans (heap_alloc_new W (.cells #[.int .i64 kind, .int .i64 0, .int .i64 0, .int .i64 seq, .int .i64 tgt, .slice ao ups.length cap] 68)))
  have br : w1.heap[W.heap.size + 1]? = some (.cells #[.int .i64 0, .string ⟨#[]⟩] 78 (0, 0)) := by
    have h := heap_alloc_new (W.alloc (.cells #[.int .i64 kind, .int .i64 0, .int .i64 0, .int .i64 seq, .int .i64 tgt, .slice ao ups.length cap] 68)) (.cells #[.int .i64 0, .string ⟨#[]⟩] 78)
    rw [World.size_alloc] at h
    exact (hb1.block (W.heap.size + 1) (by simp)).trans h
  have hb01 : Below W.heap.size W w1 := (unhide HB0).trans (hb1.mono (by simp; omega))
  have HM := hide bm
  have HR := hide br
  have HB1 := hide hb01
  clear hb1 bm br hb01 HS HB0
  go_wp2_with fail
  generalize hw2 : w1.alloc (.cells #[.int .i64 O.id, .int .i64 O.inc, .int .i64 O.st] 76) = w2
  have bm : w2.heap[W.heap.size]? = some (.cells #[.int .i64 kind, .int .i64 0, .int .i64 0, .int .i64 seq, .int .i64 tgt, .slice ao ups.length cap] 68 (0, 0)) := by rw [← hw2]; exact (Below.heap_alloc _ _ _ (by omega)).trans (unhide HM)
  have br : w2.heap[W.heap.size + 1]? = some (.cells #[.int .i64 0, .string ⟨#[]⟩] 78 (0, 0)) := by rw [← hw2]; exact (Below.heap_alloc _ _ _ (by omega)).trans (unhide HR)
  have bo : w2.heap[w1.heap.size]? = some (.cells #[.int .i64 O.id, .int .i64 O.inc, .int .i64 O.st] 76 (0, 0)) := by rw [← hw2]; exact heap_alloc_new _ _
  have hb02 : Below W.heap.size W w2 := by rw [← hw2]; exact (unhide HB1).alloc (by omega) _
  have m0 := cell_at bm 0
  have m1 := cell_at bm 1
  have m2 := cell_at bm 2
  have m3 := cell_at bm 3
  have m4 := cell_at bm 4
  have m5 := cell_at bm 5
  have mf := free_at bm
  have o0 := cell_at bo 0
  have o1 := cell_at bo 1
  simp only [List.getElem?_toArray, List.getElem?_cons_zero, List.getElem?_cons_succ] at m0 m1 m2 m3 m4 m5 o0 o1
  have HM2 := hide bm
  have HR2 := hide br
  have HB2 := hide hb02
  clear bm br bo hb02 HM HR HB1 hw2
  go_region
  all_goals
    generalize hw3 : World.drew _ = w3
    have bm : w3.heap[W.heap.size]? = some (.cells #[.int .i64 kind, .int .i64 O.id, .int .i64 O.inc, .int .i64 seq, .int .i64 tgt, .slice ao ups.length cap] 68 (0, 0)) := by
      rw [← hw3]
      have h1 := heap_setCell_same w2 W.heap.size 1 _ _ (.int .i64 O.id) (unhide HM2)
      have h2 := heap_setCell_same _ W.heap.size 2 _ _ (.int .i64 O.inc) h1
      first
        | exact h2
        | (have h1 := heap_setCell_same w2 W.heap.size 2 _ _ (.int .i64 O.inc) (unhide HM2)
           have h2 := heap_setCell_same _ W.heap.size 1 _ _ (.int .i64 O.id) h1
           exact h2)
    have br : w3.heap[W.heap.size + 1]? = some (.cells #[.int .i64 0, .string ⟨#[]⟩] 78 (0, 0)) := by
      rw [← hw3]
      exact (heap_setCell_other _ _ _ _ (by simp)).trans ((heap_setCell_other _ _ _ _ (by simp)).trans (unhide HR2))
    have hb03 : Below W.heap.size W w3 := by
      rw [← hw3]
      exact (((unhide HB2).setCell (Nat.le_refl _) _).setCell (Nat.le_refl _) _).drew
    have HE := hide (enc_any ⟨kind, O.id, O.inc, seq, tgt, ups⟩ (.slice ao ups.length cap) w3 ((unhide HV).below hb03) hl)
    clear m0 m1 m2 m3 m4 m5 mf o0 o1 hw3 HM2 HR2 HB2
    have m0 := cell_at bm 0
    have m1 := cell_at bm 1
    have m2 := cell_at bm 2
    have m3 := cell_at bm 3
    have m4 := cell_at bm 4
    have m5 := cell_at bm 5
    simp only [List.getElem?_toArray, List.getElem?_cons_zero, List.getElem?_cons_succ] at m0 m1 m2 m3 m4 m5
    have HR3 := hide br
    have HB3 := hide hb03
    clear bm br hb03
    go_wp2_with fail
    refine (unhide HE).mono ?_
    rintro e w4 ⟨ev, rfl, hb4⟩
    have br4 := (hb4.block (W.heap.size + 1) (lt_blk (unhide HR3))).trans (unhide HR3)
    have r0 := cell_at br4 0
    have r1 := cell_at br4 1
    have rf := free_at br4
    simp only [List.getElem?_toArray, List.getElem?_cons_zero, List.getElem?_cons_succ] at r0 r1
    have HB4 := hide ((unhide HB3).trans (hb4.mono (unhide HB3).size))
    have HR4 := hide br4
    clear hb4 br4 HE m0 m1 m2 m3 m4 m5
    generalize hBS : bytesS ⟨kind, O.id, O.inc, seq, tgt, ups⟩ = BS
    have HBS := hide hBS
    clear hBS
    go_wp2
    refine bodyPost_ret (v := .agg #[.int .i64 dest, .string (bs BS)]) (by simp [results, Tryz.results59, go_sem, r0, r1]) rfl ⟨by rw [unhide HBS], ?_⟩
    exact ((unhide HB4).setCell (Nat.le_succ _) _).setCell (Nat.le_succ _) _
end Go.Proofs.YtnneljcbelgoeaaGreatDoor.wire
/- A packet with updates along; the next number (P7). -/
namespace Go.Proofs.YtnneljcbelgoeaaGreatDoor.wire
open Go.RowKit Go.Maps

theorem lessAll_keys : ∀ (l : List Mem) {t : List Mem}, Rise t → (∀ m ∈ l, (findM m.k.id t).map Mem.k = some m.k) → ∀ i, (findM i (lessAll l t)).map Mem.k = (findM i t).map Mem.k
  | [], _, _, _, _ => rfl
  | m :: r, t, h, hm, i => by
    have h0 := hm m (List.mem_cons_self ..)
    have step : ∀ i, (findM i (putM m.less t)).map Mem.k = (findM i t).map Mem.k := fun i => by
      rw [findM_putM _ _ _ h]
      split
      · rename_i e
        have e' : m.k.id = i := e
        rw [← e', h0]; rfl
      · rfl
    have := lessAll_keys r (putM_rise m.less t h) (fun m' hm' => by rw [step]; exact hm m' (List.mem_cons_of_mem _ hm')) i
    exact this.trans (step i)
theorem lessAll_same : ∀ (l : List Mem) {t : List Mem}, Rise t → (∀ m ∈ l, (findM m.k.id t).isSome = true) → (lessAll l t).length = t.length
  | [], _, _, _ => rfl
  | m :: r, t, h, hm => by
    have h0 : (findM m.less.k.id t).isSome = true := hm m (List.mem_cons_self ..)
    have h1 := putM_len m.less t h
    rw [if_pos h0] at h1
    have := lessAll_same r (putM_rise m.less t h) (fun m' hm' => by
      rw [findM_putM _ _ _ h]
      split
      · rfl
      · exact hm m' (List.mem_cons_of_mem _ hm'))
    exact this.trans h1
theorem lessAll_mem : ∀ (l : List Mem) {t : List Mem} {z : Mem}, z ∈ lessAll l t → z ∈ t ∨ ∃ m ∈ l, z = m.less
  | [], _, _, h => .inl h
  | m :: r, t, z, h => by
    rcases lessAll_mem r (t := putM m.less t) h with h | ⟨m', h1, h2⟩
    · rcases putM_mem h with h | h
      · exact .inr ⟨m, List.mem_cons_self .., h⟩
      · exact .inl h
    · exact .inr ⟨m', List.mem_cons_of_mem _ h1, h2⟩
theorem along_tab (x : Nd) : x.along.tab = lessAll x.picks x.tab := rfl
theorem along_keys {x : Nd} (hx : NdOk x) (i : Int) : (findM i x.along.tab).map Mem.k = (findM i x.tab).map Mem.k :=
  lessAll_keys x.picks hx.rise (fun m hm => by rw [findM_mem hx.rise (picks_mem hm).1]; rfl) i
theorem along_own {x : Nd} (hx : NdOk x) : x.along.own = x.own := by
  have h := along_keys hx x.c.self
  obtain ⟨m, hm⟩ := hx.self
  show (atM x.c.self x.along.tab).k = (atM x.c.self x.tab).k
  unfold atM
  rw [hm] at h ⊢
  rcases hf : findM x.c.self x.along.tab with _ | m'
  · rw [hf] at h; cases h
  · rw [hf] at h; simpa using h
theorem along_ok {x : Nd} (hx : NdOk x) : NdOk x.along := by
  refine ⟨hx.cfg, lessAll_rise _ hx.rise, ?_, ?_, ?_, ?_, hx.evs, hx.rels, hx.pass⟩
  · have := lessAll_same x.picks hx.rise (fun m hm => by rw [findM_mem hx.rise (picks_mem hm).1]; rfl)
    rw [along_tab, this]; exact hx.len
  · intro m hm
    rcases lessAll_mem _ hm with h | ⟨m', h1, rfl⟩
    · exact hx.keys m h
    · exact hx.keys m' (picks_mem h1).1
  · intro m hm
    rcases lessAll_mem _ hm with h | ⟨m', h1, rfl⟩
    · exact hx.sends m h
    · have h2 := hx.sends m' (picks_mem h1).1
      have h3 := (picks_mem h1).2
      simp only [pendB, decide_eq_true_eq] at h3
      show 0 ≤ m'.sends - 1 ∧ m'.sends - 1 ≤ 8
      omega
  · have h := along_keys hx x.c.self
    obtain ⟨m, hm⟩ := hx.self
    rw [hm] at h
    rcases hf : findM x.c.self x.along.tab with _ | m'
    · rw [hf] at h; cases h
    · exact ⟨m', hf⟩
theorem along_b {B : Int} {x : Nd} (h : NdB B x) : NdB B x.along := ⟨h.clock, h.num, h.dropped, h.lost, h.tk⟩
theorem NAt.feet_lt {W : World} {nb mb : Nat} {cb : Dk} {pv rv : Value} {x : Nd} (h : NAt W nb mb cb pv rv x) : ∀ k ∈ feet nb mb cb pv rv, k < W.heap.size := by
  intro k hk
  simp only [feet, List.mem_cons, List.mem_append, Option.mem_toList] at hk
  rcases hk with rfl | rfl | rfl | hk | hk | hk
  · exact h.lt
  · exact h.lt_mb
  · exact h.lt_cb
  · exact h.pass.lt hk
  · exact (own_lt h.rel hk).2
  · exact h.draw.lt hk
/-- A cell of a new block is written. -/
theorem low_cell {S : List Nat} {W w : World} {nb mb : Nat} {cb : Dk} {pv rv : Value} {x : Nd} (h : NAt w nb mb cb pv rv x) (hf : Frm S W w) {b : Nat} (_hlt : W.heap.size < w.heap.size) (i : Nat) (u : Value) (hb : W.heap.size ≤ b) (hfeet : ∀ k ∈ feet nb mb cb pv rv, k ≠ b) :
    NAt (w.setCell ⟨b, i, none⟩ u) nb mb cb pv rv x ∧ Frm S W (w.setCell ⟨b, i, none⟩ u) := by
  have hbl := (Below.refl 0 w).setCell (p := ⟨b, i, none⟩) (Nat.zero_le _) u
  have hf1 : Frm [b] w (w.setCell ⟨b, i, none⟩ u) := ⟨hbl.os, hbl.tape, hbl.output, hbl.size, fun k _ hk => heap_setCell_other w ⟨b, i, none⟩ k u (by simpa using hk)⟩
  exact ⟨h.frm hf1 (fun k hk => by simpa using hfeet k hk), hf.trans hf1 (by simp; omega)⟩
set_option maxHeartbeats 400000 in
set_option maxRecDepth 100000 in
theorem direct_any {x : Nd} (hx : NdOk x) {nb mb : Nat} {cb : Dk} {pv rv : Value} {W : World} (hn : NAt W nb mb cb pv rv x) (kind dest seq tgt : Int) :
    Calls Tryz.prog 102 #[.pointer (some ⟨nb, 0, none⟩), .int .i64 kind, .int .i64 dest, .int .i64 seq, .int .i64 tgt] W fun e w' => e = .returned (.agg #[.int .i64 (x.direct kind dest seq tgt).dest, .string (bs (x.direct kind dest seq tgt).bytes)]) ∧ NAt w' nb mb cb pv rv x.along ∧ Frm [mb] W w' := by
  have hb0 : Below W.heap.size W (W.alloc (.cells #[.int .i64 0, .string ⟨#[]⟩] 78)) := (Below.refl _ _).alloc (Nat.le_refl _) _
  have HA := hide (along_any hx (hn.alloc (.cells #[.int .i64 0, .string ⟨#[]⟩] 78)))
  have HB0 := hide hb0
  have HX := hide (along_ok hx)
  have hm := hn.lt_mb
  have hfeet := hn.feet_lt
  have hp := picks_len x
  clear hb0 hn hx
  obtain ⟨PK, hPK⟩ : ∃ PK, PK = x.direct kind dest seq tgt := ⟨_, rfl⟩
  have HPK := hide hPK
  rw [← hPK]
  clear hPK
  go_enter Tryz.func102, Tryz.ntmps102
  go_wp2_with fail
  refine (unhide HA).mono ?_
  obtain ⟨L, hL⟩ : ∃ L, L = x.picks.map Mem.k := ⟨_, rfl⟩
  have hLl : L.length ≤ 4 := by rw [hL]; simpa using hp
  rw [← hL]
  have HLL := hide hL
  clear hL
  rintro e w1 ⟨v, rfl, ho1, hn1, hf1⟩
  obtain ⟨ao, cap, rfl⟩ := own_form ho1
  have hf01 : Frm [mb] W w1 := (Frm.of_below (unhide HB0) (Nat.le_refl _)).trans hf1 (fun j hj => .inl hj)
  have br := (hf1.block W.heap.size (by simp) (by simp; omega)).trans (heap_alloc_new W (.cells #[.int .i64 0, .string ⟨#[]⟩] 78))
  have HP := hide (packet_any (unhide HX) hn1 dest kind seq tgt L _ (keys_of_row ho1) (by omega))
  have HN1 := hide hn1
  have HF1 := hide hf01
  have HR := hide br
  clear ho1 hn1 hf1 hf01 br HA HB0
  go_wp2_with fail
  refine (unhide HP).mono ?_
  rw [show x.along.packet dest kind seq tgt L = PK from by rw [unhide HLL]; exact (unhide HPK).symm]
  rintro e w2 ⟨rfl, hb2⟩
  have br2 := (hb2.block W.heap.size (lt_blk (unhide HR))).trans (unhide HR)
  have r0 := cell_at br2 0
  have r1 := cell_at br2 1
  have rf := free_at br2
  simp only [List.getElem?_toArray, List.getElem?_cons_zero, List.getElem?_cons_succ] at r0 r1
  have hn2 := (unhide HN1).below hb2
  have hf2 := (unhide HF1).step hb2
  have hs1 := heap_setCell_same w2 W.heap.size 0 _ _ (.int .i64 PK.dest) br2
  have hf3 : Frm [] w2 w2 := Frm.refl _ _
  have HN2 := hide hn2
  have HF2 := hide hf2
  have HR2 := hide br2
  clear hb2 br2 hn2 hf2 hs1 hf3 HP
  go_wp2
  refine bodyPost_ret (v := .agg #[.int .i64 PK.dest, .string (bs PK.bytes)]) (by simp [results, Tryz.results102, go_sem, r0, r1]) rfl ⟨rfl, ?_⟩
  obtain ⟨g1, g2⟩ := low_cell (unhide HN2) (unhide HF2) (lt_blk (unhide HR2)) 0 (.int .i64 PK.dest) (Nat.le_refl _) (fun k hk => Nat.ne_of_lt (hfeet k hk))
  exact low_cell g1 g2 (by rw [World.size_setCell]; exact lt_blk (unhide HR2)) 1 (.string (bs PK.bytes)) (Nat.le_refl _) (fun k hk => Nat.ne_of_lt (hfeet k hk))
end Go.Proofs.YtnneljcbelgoeaaGreatDoor.wire
/- What a node does for a message of each kind (P7), first part. -/
namespace Go.Proofs.YtnneljcbelgoeaaGreatDoor.wire
open Go.RowKit Go.Maps

/-- The packets of a call, in new memory. -/
def Outs (W w' : World) (o : Value) (l : List Pk) : Prop := w'.ownsRow W.heap.size 78 2 o l.length (l.flatMap pkC)
theorem outs_nil (W w' : World) : Outs W w' (.slice none 0 0) [] := ⟨rfl, .inl ⟨rfl, rfl⟩⟩
theorem outs_one {W w1 : World} (p : Pk) (h : W.heap.size ≤ w1.heap.size) : Outs W (w1.alloc (.cells #[.int .i64 p.dest, .string (bs p.bytes)] 78)) (.slice (some ⟨w1.heap.size, 0, none⟩) 1 1) [p] :=
  ⟨rfl, .inr ⟨w1.heap.size, 1, _, rfl, h, heap_alloc_new w1 _, Nat.le_refl _, by decide, rfl, rfl⟩⟩
/-- What is asked of the function for a message. -/
def DeedOk (f : Nat) (x : Nd) (m : M6) : Prop := ∀ (nb mb : Nat) (cb : Dk) (pv rv v : Value) (W : World), NAt W nb mb cb pv rv x → KeysAt W v m.ups →
  Calls Tryz.prog f #[.pointer (some ⟨nb, 0, none⟩), .agg #[.int .i64 m.kind, .int .i64 m.frm, .int .i64 m.inc, .int .i64 m.seq, .int .i64 m.tgt, v]] W fun e w' => ∃ o, e = .returned o ∧ Outs W w' o (x.deed m).1 ∧ NTo W w' nb mb cb pv rv (x.deed m).2
set_option maxHeartbeats 1000000 in
theorem next_any {x : Nd} (hB : NdB Big x) {nb mb : Nat} {cb : Dk} {pv rv : Value} {W : World} (hn : NAt W nb mb cb pv rv x) :
    Calls Tryz.prog 60 #[.pointer (some ⟨nb, 0, none⟩)] W fun e w' => e = .returned (.int .i64 (x.num + 1)) ∧ NAt w' nb mb cb pv rv { x with num := x.num + 1 } ∧ Frm [nb] W w' := by
  obtain ⟨n0, n1⟩ := hB.num
  have c13 := hn.c_num
  have f13 := free_at hn.blk 15
  have hset := hn.set 15 (.int .i64 (x.num + 1)) (x' := { x with num := x.num + 1 }) rfl rfl rfl rfl rfl
  have HS := hide hset
  unfold Big at n1
  clear hn hB hset
  go_enter Tryz.func60, Tryz.ntmps60
  go_wp2
  go_ret
  exact ⟨rfl, unhide HS⟩
set_option maxHeartbeats 1000000 in
set_option maxRecDepth 100000 in
/-- A Ping, or what goes as one. -/
theorem ping_go {x : Nd} (hx : NdOk x) (m : M6) {nb mb : Nat} {cb : Dk} {pv rv v : Value} {W : World} (hn : NAt W nb mb cb pv rv x) (hv : KeysAt W v m.ups) :
    Calls Tryz.prog 122 #[.pointer (some ⟨nb, 0, none⟩), .agg #[.int .i64 m.kind, .int .i64 m.frm, .int .i64 m.inc, .int .i64 m.seq, .int .i64 m.tgt, v]] W fun e w' => ∃ o, e = .returned o ∧ Outs W w' o (x.takePing m).1 ∧ NAt w' nb mb cb pv rv (x.takePing m).2 ∧ Frm [mb] W w' := by
  obtain ⟨ao, cap, rfl⟩ := hv.form
  clear hv
  have c0 := hn.c_self
  have hlt := hn.lt
  have hn1 := fun q => (hn.alloc (.cells #[.int .i64 m.kind, .int .i64 m.frm, .int .i64 m.inc, .int .i64 m.seq, .int .i64 m.tgt, .slice ao m.ups.length cap] 68)).drewN q
  have hb1 : ∀ q, Below W.heap.size W ((W.alloc (.cells #[.int .i64 m.kind, .int .i64 m.frm, .int .i64 m.inc, .int .i64 m.seq, .int .i64 m.tgt, .slice ao m.ups.length cap] 68)).drewN q) := fun q => bdrewN ((Below.refl _ _).alloc (Nat.le_refl _) _) q
  by_cases ht : m.tgt = x.c.self
  · have he : x.takePing m = ([x.direct 2 m.frm m.seq m.tgt], x.along) := by simp only [Nd.takePing, ht, if_true]
    have HD := fun q => hide (direct_any hx (hn1 q) 2 m.frm m.seq m.tgt)
    have HB := hide hb1
    have HE := hide he
    have ht' : (m.tgt == x.c.self) = true := by simp [ht]
    clear hn hn1 hb1 he hx ht
    go_enter Tryz.func122, Tryz.ntmps122
    go_wp2
    go_quiet (fail)
    go_wp2_with fail
    refine (unhide (HD _)).mono ?_
    generalize hPK : x.direct 2 m.frm m.seq m.tgt = PK
    have HPK := hide hPK
    clear hPK HD
    rintro e w2 ⟨rfl, hn2, hf2⟩
    have HN2 := hide hn2
    have HF2 := hide ((Frm.of_below (S := [mb]) (unhide HB _) (Nat.le_refl _)).trans hf2 (fun j hj => .inl hj))
    clear hn2 hf2
    go_wp2
    go_ret
    rw [unhide HE, unhide HPK]
    exact ⟨_, rfl, outs_one PK (unhide HF2).size, (unhide HN2).alloc _, (unhide HF2).alloc _⟩
  · have he : x.takePing m = ([], x) := by simp only [Nd.takePing, ht, if_false]
    have HE := hide he
    have HN1 := hide hn1
    have HB := hide hb1
    have ht' : (m.tgt == x.c.self) = false := by simp [ht]
    clear hn hn1 hb1 he hx ht
    go_enter Tryz.func122, Tryz.ntmps122
    go_wp2
    go_quiet (fail)
    go_wp2
    go_ret
    rw [unhide HE]
    exact ⟨_, rfl, outs_nil _ _, unhide HN1 _, Frm.of_below (unhide HB _) (Nat.le_refl _)⟩
theorem NTo.of_mb {W W1 : World} {nb mb : Nat} {cb : Dk} {pv rv : Value} {x1 : Nd} (h : NAt W1 nb mb cb pv rv x1) (hf : Frm [mb] W W1) : NTo W W1 nb mb cb pv rv x1 :=
  ⟨pv, rv, h, (Frm.refl _ W).trans hf (by simp [feet]), fun _ hk => .inl hk⟩
theorem ping_any {x : Nd} (hx : NdOk x) (m : M6) (hk : m.kind = 1) : DeedOk 122 x m := by
  intro nb mb cb pv rv v W hn hv
  refine (ping_go hx m hn hv).mono ?_
  rintro e w' ⟨o, rfl, ho, hn', hf'⟩
  have e1 : x.deed m = x.takePing m := by simp [Nd.deed, hk]
  rw [e1]
  exact ⟨o, rfl, ho, NTo.of_mb hn' hf'⟩
theorem table_any {x : Nd} (m : M6) (hk : m.kind = 5) : DeedOk 126 x m := by
  intro nb mb cb pv rv v W hn hv
  obtain ⟨ao, cap, rfl⟩ := hv.form
  clear hv
  have e1 : x.deed m = ([], x) := by simp [Nd.deed, hk]
  rw [e1]
  have HN := hide hn
  clear hn e1
  go_enter Tryz.func126, Tryz.ntmps126
  go_wp2
  go_ret
  exact ⟨_, rfl, outs_nil _ _, NTo.here (unhide HN) ((Below.refl _ _).alloc (Nat.le_refl _) _)⟩
set_option maxHeartbeats 1000000 in
set_option maxRecDepth 100000 in
theorem join_any {x : Nd} (hx : NdOk x) (m : M6) (hk : m.kind = 4) : DeedOk 125 x m := by
  intro nb mb cb pv rv v W hn hv
  obtain ⟨ao, cap, rfl⟩ := hv.form
  clear hv
  have e1 : x.deed m = ([x.packet m.frm 5 m.seq 0 (x.tab.map Mem.k)], x) := by simp [Nd.deed, hk, Nd.takeJoin]
  rw [e1]
  have hlen := hx.len
  have hn1 := hn.alloc (.cells #[.int .i64 m.kind, .int .i64 m.frm, .int .i64 m.inc, .int .i64 m.seq, .int .i64 m.tgt, .slice ao m.ups.length cap] 68)
  have HM := hide (members_any hx hn1)
  have HN := hide hn
  have HN1 := hide hn1
  have HX := hide hx
  clear hn hn1 hx e1 hk
  go_enter Tryz.func125, Tryz.ntmps125
  go_wp2_with fail
  refine (unhide HM).mono ?_
  rintro e w1 ⟨v1, rfl, ho1, hb1⟩
  have HT := hide (turnMK_any x.tab Mem.k 143 #[] #[] ho1 (by omega) (enters_of Tryz.func143 (by kernel_rfl) rfl) (fun m _ W' _ => key_any m W'))
  have bm := (hb1.block W.heap.size (by simp)).trans (heap_alloc_new W (.cells #[.int .i64 m.kind, .int .i64 m.frm, .int .i64 m.inc, .int .i64 m.seq, .int .i64 m.tgt, .slice ao m.ups.length cap] 68))
  have hb01 : Below W.heap.size W w1 := ((Below.refl _ _).alloc (Nat.le_refl _) _).trans (hb1.mono (by simp))
  have hn1 := (unhide HN1).below hb1
  have HBM := hide bm
  have HB1 := hide hb01
  have HN2 := hide hn1
  clear ho1 hb1 bm hb01 hn1 HM
  go_wp2_with fail
  refine (unhide HT).mono ?_
  obtain ⟨L, hL⟩ : ∃ L, L = x.tab.map Mem.k := ⟨_, rfl⟩
  have hLl : L.length ≤ 8 := by rw [hL]; simpa using hlen
  rw [← hL]
  have HLL := hide hL
  clear hL HT
  rintro e w2 ⟨v2, rfl, ho2, hb2⟩
  obtain ⟨ao2, cap2, rfl⟩ := own_form ho2
  have bm2 := (hb2.block W.heap.size (lt_blk (unhide HBM))).trans (unhide HBM)
  have hb02 : Below W.heap.size W w2 := (unhide HB1).trans (hb2.mono (unhide HB1).size)
  have HP := hide (packet_any (unhide HX) ((unhide HN2).below hb2) m.frm 5 m.seq 0 L _ (keys_of_row ho2) (by omega))
  have m1 := cell_at bm2 1
  have m3 := cell_at bm2 3
  simp only [List.getElem?_toArray, List.getElem?_cons_zero, List.getElem?_cons_succ] at m1 m3
  have HB2 := hide hb02
  clear ho2 hb2 bm2 hb02 HB1 HBM HN2
  go_wp2_with fail
  refine (unhide HP).mono ?_
  generalize hPK : x.packet m.frm 5 m.seq 0 L = PK
  have HPK := hide hPK
  clear hPK HP
  rintro e w3 ⟨rfl, hb3⟩
  have HB3 := hide ((unhide HB2).trans (hb3.mono (unhide HB2).size))
  clear hb3 m1 m3
  go_wp2
  go_ret
  rw [← unhide HLL, unhide HPK]
  exact ⟨_, rfl, outs_one PK (unhide HB3).size, NTo.here (unhide HN) ((unhide HB3).alloc (unhide HB3).size _)⟩
end Go.Proofs.YtnneljcbelgoeaaGreatDoor.wire
/- Receive (P7). -/
namespace Go.Proofs.YtnneljcbelgoeaaGreatDoor.wire
open Go.RowKit Go.Maps

def Bg : Int := 999999999000
structure Deeds (x : Nd) (m : M6) : Prop where
  d1 : m.kind = 1 → DeedOk 122 x m
  d2 : m.kind = 2 → DeedOk 123 x m
  d3 : m.kind = 3 → DeedOk 124 x m
  d4 : m.kind = 4 → DeedOk 125 x m
  d5 : m.kind = 5 → DeedOk 126 x m
theorem NAt.not_feet {W : World} {nb mb : Nat} {cb : Dk} {pv rv : Value} {x : Nd} (h : NAt W nb mb cb pv rv x) {b : Nat} {cs : Array Value} {t : TypeId} (hb : W.heap[b]? = some (.cells cs t (0, 0))) (h1 : t ≠ 123) (h2 : t ≠ 3) (h3 : t ≠ 161) (h4 : t ≠ 24 := by decide) : b ∉ feet nb mb cb pv rv := by
  intro hk
  simp only [feet, List.mem_cons, List.mem_append, Option.mem_toList] at hk
  rcases hk with rfl | rfl | rfl | hk | hk | hk
  · rw [h.blk] at hb; cases hb; exact h1 rfl
  · obtain ⟨es, c, hm⟩ := map_blk h.map; rw [hm] at hb; cases hb
  · obtain ⟨s, r, hm⟩ := h.chan; rw [hm] at hb; cases hb
  · obtain ⟨cs', hb'⟩ := h.pass.blk hk; rw [hb'] at hb; cases hb; exact h2 rfl
  · obtain ⟨cs', hb'⟩ := own_blk h.rel hk; rw [hb'] at hb; cases hb; exact h3 rfl
  · exact h.draw.not hb (fun cs e => by cases e; exact h4 rfl) (fun cs e => by cases e; exact h2 rfl) hk
theorem Frm.drewN {S : List Nat} {a b : World} (h : Frm S a b) (n : Nat) : Frm S a (b.drewN n) := ⟨h.os, h.tape, h.output, h.size, h.block⟩
theorem deeds_any (nb : Nat) (W : World) : Calls Tryz.prog 85 #[.pointer (some ⟨nb, 0, none⟩)] W fun e w' => e = .returned (.agg #[.nilFunc, .func (.func 122) #[.pointer (some ⟨nb, 0, none⟩)] #[], .func (.func 123) #[.pointer (some ⟨nb, 0, none⟩)] #[], .func (.func 124) #[.pointer (some ⟨nb, 0, none⟩)] #[], .func (.func 125) #[.pointer (some ⟨nb, 0, none⟩)] #[], .func (.func 126) #[.pointer (some ⟨nb, 0, none⟩)] #[]]) ∧ Below W.heap.size W w' := by
  go_enter Tryz.func85, Tryz.ntmps85
  go_wp2
  refine bodyPost_ret (v := .agg #[.nilFunc, .func (.func 122) #[.pointer (some ⟨nb, 0, none⟩)] #[], .func (.func 123) #[.pointer (some ⟨nb, 0, none⟩)] #[], .func (.func 124) #[.pointer (some ⟨nb, 0, none⟩)] #[], .func (.func 125) #[.pointer (some ⟨nb, 0, none⟩)] #[], .func (.func 126) #[.pointer (some ⟨nb, 0, none⟩)] #[]]) (by simp [results, Tryz.results85, go_sem]) rfl ⟨rfl, ?_⟩
  exact (Below.refl _ _).alloc (Nat.le_refl _) _
set_option maxHeartbeats 1000000 in
set_option maxRecDepth 100000 in
theorem receive_no {x : Nd} (hB : NdB Big x) {nb mb : Nat} {cb : Dk} {pv rv : Value} {W : World} (hn : NAt W nb mb cb pv rv x) (l : List UInt8) (hl : l.length ≤ maxLen) (ht : takesB x.c.self l = false) :
    Calls Tryz.prog 55 #[.pointer (some ⟨nb, 0, none⟩), .string (bs l)] W fun e w' => ∃ o, e = .returned o ∧ Outs W w' o (x.receive l).1 ∧ NTo W w' nb mb cb pv rv (x.receive l).2 := by
  obtain ⟨n0, n1⟩ := hB.dropped
  unfold Big at n1
  have he : x.receive l = ([], { x with dropped := x.dropped + 1 }) := by simp [Nd.receive, ht]
  rw [he]
  clear he hB
  have HN := hide hn
  have hlt := hn.lt
  cases hd : decB l
  · have HD := hide (decode_no l W hl hd)
    clear hn hd ht
    go_enter Tryz.func55, Tryz.ntmps55
    go_wp2_with fail
    refine (unhide HD).mono ?_
    rintro e w1 ⟨rfl, hb1⟩
    simp only [mval, M6.zero]
    have hn1 := fun o => ((unhide HN).below hb1).alloc o
    have hb01 := fun o => hb1.alloc hb1.size o
    have HB1 := hide hb01
    have c0 := fun o => (hn1 o).c_self
    have c15 := fun o => (hn1 o).c_dropped
    have f15 := fun o => free_at (hn1 o).blk 17
    have HS := hide (fun o => (hn1 o).set 17 (.int .i64 (x.dropped + 1)) (x' := { x with dropped := x.dropped + 1 }) rfl rfl rfl rfl rfl)
    clear hb1 hn1 hb01 HD
    go_wp2_with fail
    go_quiet (fail)
    go_wp2
    go_ret
    obtain ⟨g1, g2⟩ := (unhide HS) _
    exact ⟨_, rfl, outs_nil _ _, NTo.of (g1.drewN _) (((Frm.of_below ((unhide HB1) _) (Nat.le_refl _)).trans g2 (by simp)).drewN _)⟩
  · have hfr : (readM l).frm = x.c.self := by simpa [takesB, hd] using ht
    have HD := hide (decode_yes l W hl hd)
    have HFR := hide hfr
    clear hn hd ht hfr
    go_enter Tryz.func55, Tryz.ntmps55
    go_wp2_with fail
    refine (unhide HD).mono ?_
    rintro e w1 ⟨v, rfl, ho1, hb1⟩
    obtain ⟨ao, cap, rfl⟩ := own_form ho1
    have hfr := unhide HFR
    simp only [mval]
    generalize readM l = M at ho1 hfr ⊢
    have hfr' : (M.frm == x.c.self) = true := by simp [hfr]
    have hn1 := fun o => ((unhide HN).below hb1).alloc o
    have hb01 := fun o => hb1.alloc hb1.size o
    have HB1 := hide hb01
    have c0 := fun o => (hn1 o).c_self
    have c15 := fun o => (hn1 o).c_dropped
    have f15 := fun o => free_at (hn1 o).blk 17
    have HS := hide (fun o => (hn1 o).set 17 (.int .i64 (x.dropped + 1)) (x' := { x with dropped := x.dropped + 1 }) rfl rfl rfl rfl rfl)
    clear hb1 hn1 hb01 HD ho1 hfr HFR
    go_wp2_with fail
    go_quiet (fail)
    go_wp2
    go_ret
    obtain ⟨g1, g2⟩ := (unhide HS) _
    exact ⟨_, rfl, outs_nil _ _, NTo.of (g1.drewN _) (((Frm.of_below ((unhide HB1) _) (Nat.le_refl _)).trans g2 (by simp)).drewN _)⟩
end Go.Proofs.YtnneljcbelgoeaaGreatDoor.wire
/- Receive of a message (P7). -/
namespace Go.Proofs.YtnneljcbelgoeaaGreatDoor.wire
open Go.RowKit Go.Maps

theorem kcells_flat (l : List K3) : kcells l = l.flatMap keyC := by
  induction l with
  | nil => rfl
  | cons a r ih => simp [kcells, ih, keyC]
/-- What stands while a message's keys are heard: its box is block bx. -/
structure RvI (W wr : World) (nb mb : Nat) (cb : Dk) (bx : Nat) (pv rv : Value) (M : M6) (ao : Option Addr) (cap : Nat) (y : Nd) : Prop where
  nto : NTo W wr nb mb cb pv rv y
  box : wr.heap[bx]? = some (.cells #[.int .i64 M.kind, .int .i64 M.frm, .int .i64 M.inc, .int .i64 M.seq, .int .i64 M.tgt, .slice ao M.ups.length cap] 68 (0, 0))
  row : wr.ownsRow W.heap.size 76 3 (.slice ao M.ups.length cap) M.ups.length (M.ups.flatMap keyC)
theorem RvI.goes {W wr w' : World} {nb mb : Nat} {cb : Dk} {bx : Nat} {pv rv : Value} {M : M6} {ao : Option Addr} {cap : Nat} {y y' : Nd} (h : RvI W wr nb mb cb bx pv rv M ao cap y) (o : Obj)
    (hgo : ∀ pv1 rv1, NAt (wr.alloc o) nb mb cb pv1 rv1 y → NTo (wr.alloc o) w' nb mb cb pv1 rv1 y') : RvI W w' nb mb cb bx pv rv M ao cap y' := by
  obtain ⟨pv1, rv1, hn, hf, hs⟩ := h.nto
  have h1 := hgo pv1 rv1 (hn.alloc o)
  have hb := h.box
  have hr := h.row
  have hb1 : (wr.alloc o).heap[bx]? = _ := (Below.heap_alloc _ _ _ (lt_blk hb)).trans hb
  obtain ⟨pv2, rv2, hn2, hf2, hs2⟩ := h1
  refine ⟨NTo.trans (hf.alloc o) hs ⟨pv2, rv2, hn2, hf2, hs2⟩, (hf2.block bx (lt_blk hb1) ((hn.alloc o).not_feet hb1 (by decide) (by decide) (by decide) (by decide))).trans hb1, own_frm (hr.alloc o) hf2 (fun k hk => ?_)⟩
  obtain ⟨cs, hcs⟩ := own_blk (hr.alloc o) hk
  exact (hn.alloc o).not_feet hcs (by decide) (by decide) (by decide) (by decide)
/-- A key is heard, its box just laid. -/
theorem RvI.hear {W wr : World} {nb mb : Nat} {cb : Dk} {bx : Nat} {pv rv : Value} {M : M6} {ao : Option Addr} {cap : Nat} {y : Nd} (h : RvI W wr nb mb cb bx pv rv M ao cap y) (hy : NdOk y) (hB : NdB Big y) (k : K3) (hk : isKeyB k = true) (o : Obj) :
    Calls Tryz.prog 84 #[.pointer (some ⟨nb, 0, none⟩), .agg #[.int .i64 k.id, .int .i64 k.inc, .int .i64 k.st]] (wr.alloc o) fun e w' => e = .returned (.tuple #[]) ∧ RvI W w' nb mb cb bx pv rv M ao cap (y.hear k) := by
  obtain ⟨pv1, rv1, hn, hf, hs⟩ := h.nto
  refine (hear_any hy hB (hn.alloc o) k hk).mono ?_
  rintro e w' ⟨rfl, hto⟩
  refine ⟨rfl, ?_⟩
  have hb := h.box
  have hr := h.row
  have hb1 : (wr.alloc o).heap[bx]? = _ := (Below.heap_alloc _ _ _ (lt_blk hb)).trans hb
  obtain ⟨pv2, rv2, hn2, hf2, hs2⟩ := hto
  refine ⟨NTo.trans (hf.alloc o) hs ⟨pv2, rv2, hn2, hf2, hs2⟩, (hf2.block bx (lt_blk hb1) ((hn.alloc o).not_feet hb1 (by decide) (by decide) (by decide) (by decide))).trans hb1, own_frm (hr.alloc o) hf2 (fun k hk => ?_)⟩
  obtain ⟨cs, hcs⟩ := own_blk (hr.alloc o) hk
  exact (hn.alloc o).not_feet hcs (by decide) (by decide) (by decide) (by decide)
theorem RvI.hear0 {W wr : World} {nb mb : Nat} {cb : Dk} {bx : Nat} {pv rv : Value} {M : M6} {ao : Option Addr} {cap : Nat} {y : Nd} (h : RvI W wr nb mb cb bx pv rv M ao cap y) (hy : NdOk y) (hB : NdB Big y) (k : K3) (hk : isKeyB k = true) :
    Calls Tryz.prog 84 #[.pointer (some ⟨nb, 0, none⟩), .agg #[.int .i64 k.id, .int .i64 k.inc, .int .i64 k.st]] wr fun e w' => e = .returned (.tuple #[]) ∧ RvI W w' nb mb cb bx pv rv M ao cap (y.hear k) := by
  obtain ⟨pv1, rv1, hn, hf, hs⟩ := h.nto
  refine (hear_any hy hB hn k hk).mono ?_
  rintro e w' ⟨rfl, hto⟩
  refine ⟨rfl, ?_⟩
  have hb := h.box
  have hr := h.row
  obtain ⟨pv2, rv2, hn2, hf2, hs2⟩ := hto
  refine ⟨NTo.trans hf hs ⟨pv2, rv2, hn2, hf2, hs2⟩, (hf2.block bx (lt_blk hb) (hn.not_feet hb (by decide) (by decide) (by decide) (by decide))).trans hb, own_frm hr hf2 (fun k hk => ?_)⟩
  obtain ⟨cs, hcs⟩ := own_blk hr hk
  exact hn.not_feet hcs (by decide) (by decide) (by decide) (by decide)
theorem hears_snoc (x : Nd) (l : List K3) (k : Nat) (h : k < l.length) : x.hears (l.take (k + 1)) = (x.hears (l.take k)).hear l[k] := by
  unfold Nd.hears
  rw [List.take_succ_eq_append_getElem h, List.foldl_append]; rfl
theorem allB_take {l : List K3} (h : allB l = true) (k : Nat) : allB (l.take k) = true := by
  unfold allB at *
  rw [List.all_eq_true] at *
  exact fun x hx => h x (List.mem_of_mem_take hx)
theorem allB_get {l : List K3} (h : allB l = true) (k : Nat) (hk : k < l.length) : isKeyB l[k] = true := by
  unfold allB at h
  rw [List.all_eq_true] at h
  exact h _ (List.getElem_mem hk)
theorem undrew {w w' : World} (h : Below w.drew.heap.size w.drew w') : Below w.heap.size w w' := ⟨h.os, h.tape, h.output, h.size, h.block⟩
theorem index_1 (nb : Nat) (w : World) : (Instr.index 152 (.agg #[.nilFunc, .func (.func 122) #[.pointer (some ⟨nb, 0, none⟩)] #[], .func (.func 123) #[.pointer (some ⟨nb, 0, none⟩)] #[], .func (.func 124) #[.pointer (some ⟨nb, 0, none⟩)] #[], .func (.func 125) #[.pointer (some ⟨nb, 0, none⟩)] #[], .func (.func 126) #[.pointer (some ⟨nb, 0, none⟩)] #[]]) (.int .i64 1)).run Tryz.prog w = .ok (.func (.func 122) #[.pointer (some ⟨nb, 0, none⟩)] #[]) w := by kernel_rfl
theorem index_2 (nb : Nat) (w : World) : (Instr.index 152 (.agg #[.nilFunc, .func (.func 122) #[.pointer (some ⟨nb, 0, none⟩)] #[], .func (.func 123) #[.pointer (some ⟨nb, 0, none⟩)] #[], .func (.func 124) #[.pointer (some ⟨nb, 0, none⟩)] #[], .func (.func 125) #[.pointer (some ⟨nb, 0, none⟩)] #[], .func (.func 126) #[.pointer (some ⟨nb, 0, none⟩)] #[]]) (.int .i64 2)).run Tryz.prog w = .ok (.func (.func 123) #[.pointer (some ⟨nb, 0, none⟩)] #[]) w := by kernel_rfl
theorem index_3 (nb : Nat) (w : World) : (Instr.index 152 (.agg #[.nilFunc, .func (.func 122) #[.pointer (some ⟨nb, 0, none⟩)] #[], .func (.func 123) #[.pointer (some ⟨nb, 0, none⟩)] #[], .func (.func 124) #[.pointer (some ⟨nb, 0, none⟩)] #[], .func (.func 125) #[.pointer (some ⟨nb, 0, none⟩)] #[], .func (.func 126) #[.pointer (some ⟨nb, 0, none⟩)] #[]]) (.int .i64 3)).run Tryz.prog w = .ok (.func (.func 124) #[.pointer (some ⟨nb, 0, none⟩)] #[]) w := by kernel_rfl
theorem index_4 (nb : Nat) (w : World) : (Instr.index 152 (.agg #[.nilFunc, .func (.func 122) #[.pointer (some ⟨nb, 0, none⟩)] #[], .func (.func 123) #[.pointer (some ⟨nb, 0, none⟩)] #[], .func (.func 124) #[.pointer (some ⟨nb, 0, none⟩)] #[], .func (.func 125) #[.pointer (some ⟨nb, 0, none⟩)] #[], .func (.func 126) #[.pointer (some ⟨nb, 0, none⟩)] #[]]) (.int .i64 4)).run Tryz.prog w = .ok (.func (.func 125) #[.pointer (some ⟨nb, 0, none⟩)] #[]) w := by kernel_rfl
theorem index_5 (nb : Nat) (w : World) : (Instr.index 152 (.agg #[.nilFunc, .func (.func 122) #[.pointer (some ⟨nb, 0, none⟩)] #[], .func (.func 123) #[.pointer (some ⟨nb, 0, none⟩)] #[], .func (.func 124) #[.pointer (some ⟨nb, 0, none⟩)] #[], .func (.func 125) #[.pointer (some ⟨nb, 0, none⟩)] #[], .func (.func 126) #[.pointer (some ⟨nb, 0, none⟩)] #[]]) (.int .i64 5)).run Tryz.prog w = .ok (.func (.func 126) #[.pointer (some ⟨nb, 0, none⟩)] #[]) w := by kernel_rfl
set_option maxHeartbeats 2000000 in
set_option maxRecDepth 100000 in
theorem receive_yes {x : Nd} (hx : NdOk x) (hB : NdB Bg x) {nb mb : Nat} {cb : Dk} {pv rv : Value} {W : World} (hn : NAt W nb mb cb pv rv x) (l : List UInt8) (hl : l.length ≤ maxLen) (ht : takesB x.c.self l = true)
    (hdd : Deeds ((x.hear ⟨(readM l).frm, (readM l).inc, 1⟩).hears (readM l).ups) (readM l)) :
    Calls Tryz.prog 55 #[.pointer (some ⟨nb, 0, none⟩), .string (bs l)] W fun e w' => ∃ o, e = .returned o ∧ Outs W w' o (x.receive l).1 ∧ NTo W w' nb mb cb pv rv (x.receive l).2 := by
  have he : x.receive l = ((x.hear ⟨(readM l).frm, (readM l).inc, 1⟩).hears (readM l).ups).deed (readM l) := by simp [Nd.receive, ht]
  have HE := hide he
  have hd : decB l = true := by simp [takesB] at ht; exact ht.1
  have hfr : ¬ (readM l).frm = x.c.self := by simp [takesB, hd] at ht; exact ht
  have hw : wholeB (readM l) = true := by simp [decB] at hd; exact hd.2
  have HD := hide (decode_yes l W hl hd)
  have HFR := hide hfr
  have HW := hide hw
  have HX := hide hx
  have HB := hide hB
  have HN := hide hn
  have HDD := hide hdd
  clear he hd hfr hw hx hB hn hdd ht
  generalize readM l = M at HE HFR HW HD HDD
  have hul := whole_len (unhide HW)
  have hall : allB M.ups = true := by have := unhide HW; simp only [wholeB, Bool.and_eq_true] at this; exact this.2.2.2.2
  have hfk : isKeyB ⟨M.frm, M.inc, 1⟩ = true := by
    have := unhide HW
    simp only [wholeB, Bool.and_eq_true] at this
    simp only [isKeyB, Bool.and_eq_true]
    exact ⟨this.1, this.2.1, rfl⟩
  have HALL := hide hall
  have HFK := hide hfk
  clear hall hfk
  go_enter Tryz.func55, Tryz.ntmps55
  go_wp2_with fail
  refine (unhide HD).mono ?_
  rintro e w1 ⟨v, rfl, ho1, hb1⟩
  obtain ⟨ao, cap, rfl⟩ := own_form ho1
  rw [kcells_flat] at ho1
  have hfr := unhide HFR
  have hfr' : (M.frm == x.c.self) = false := by simp [hfr]
  have hlt := (unhide HN).lt
  have hri : ∀ q, RvI W ((w1.alloc (.cells #[.int .i64 M.kind, .int .i64 M.frm, .int .i64 M.inc, .int .i64 M.seq, .int .i64 M.tgt, .slice ao M.ups.length cap] 68)).drewN q) nb mb cb w1.heap.size pv rv M ao cap x := fun q =>
    ⟨NTo.here (unhide HN) (bdrewN (hb1.alloc hb1.size _) q), heap_alloc_new w1 _, ho1.alloc _⟩
  have c0 := fun o => (((unhide HN).below hb1).alloc o).c_self
  have HRI := hide hri
  simp only [mval]
  clear hb1 ho1 HD hri hfr
  go_wp2_with fail
  go_quiet (fail)
  generalize hw2 : World.drewN _ _ = w2
  have h2 : RvI W w2 nb mb cb w1.heap.size pv rv M ao cap x := by rw [← hw2]; exact unhide HRI _
  clear hw2 HRI c0
  have b1 := cell_at h2.box 1
  have b2 := cell_at h2.box 2
  simp only [List.getElem?_toArray, List.getElem?_cons_zero, List.getElem?_cons_succ] at b1 b2
  have HR2 := hide (h2.hear0 (unhide HX) ((unhide HB).mono (by decide)) ⟨M.frm, M.inc, 1⟩ (unhide HFK))
  clear h2
  go_wp2_with fail
  refine (unhide HR2).mono ?_
  rintro e w3 ⟨rfl, h3⟩
  have hx1 := hear_ok (unhide HX) ⟨M.frm, M.inc, 1⟩ (unhide HFK)
  have hB1 := hear_b (unhide HB) ⟨M.frm, M.inc, 1⟩
  generalize x.hear ⟨M.frm, M.inc, 1⟩ = x1 at h3 hx1 hB1 HE HDD
  have HX1 := hide hx1
  have HB1 := hide hB1
  clear hx1 hB1 HR2 b1 b2
  have b5 := cell_at h3.box 5
  simp only [List.getElem?_toArray, List.getElem?_cons_zero, List.getElem?_cons_succ] at b5
  have H3 := hide h3
  clear h3
  go_wp2
  clear b5
  go_loopw [43] (fun i wr => ∃ k : Nat, k ≤ M.ups.length ∧ i = .int .i64 k ∧ Hid (RvI W wr nb mb cb w1.heap.size pv rv M ao cap (x1.hears (M.ups.take k)))) (fun i _ => M.ups.length - (Go.RowKit.intOf i).toNat)
  case atStart => exact ⟨0, Nat.zero_le _, rfl, H3⟩
  case round =>
    obtain ⟨k, hk, rfl, HI⟩ := hrel
    by_cases hlt : k < M.ups.length
    · have hkeys := keys_of_row (unhide HI).row
      obtain ⟨g, goff, hao, hgl, hgk⟩ := hkeys.elem (by omega)
      subst hao
      obtain ⟨c0, c1, c2⟩ := hgk k hlt
      have hok := hears_ok (M.ups.take k) (unhide HX1) (allB_take (unhide HALL) k)
      have hbk := (hears_b (M.ups.take k) (unhide HB1)).mono (C := Big) (by simp only [Bg, Big, List.length_take]; omega)
      have HC := hide ((unhide HI).hear hok hbk M.ups[k] (allB_get (unhide HALL) k hlt) (.cells #[.int .i64 M.ups[k].id, .int .i64 M.ups[k].inc, .int .i64 M.ups[k].st] 76))
      have hsn := hears_snoc x1 M.ups k hlt
      rw [← hsn] at HC
      clear hsn hok hbk hkeys
      generalize M.ups[k] = K at c0 c1 c2 HC
      go_wp2_with fail
      refine (unhide HC).mono ?_
      rintro e w4 ⟨rfl, h4⟩
      have H4 := hide h4
      clear h4 HC c0 c1 c2
      go_wp2
      go_roundw
      case rel => exact ⟨k + 1, by omega, by go_num, H4⟩
      case measure => simp [Go.RowKit.intOf]; omega
    · have e : k = M.ups.length := by omega
      subst e
      rw [List.take_length] at HI
      go_wp2
      generalize x1.hears M.ups = y at HI HE HDD
      have hkind : M.kind = 1 ∨ M.kind = 2 ∨ M.kind = 3 ∨ M.kind = 4 ∨ M.kind = 5 := by
        have h := unhide HW
        simp only [wholeB, Bool.and_eq_true] at h
        have h2 := h.2.2.2.1
        unfold suitsB at h2
        split at h2
        · rename_i h3; simp only [lowB, Bool.and_eq_true, decide_eq_true_eq] at h3; omega
        · split at h2
          · rename_i h3; simp only [highB, Bool.and_eq_true, decide_eq_true_eq] at h3; omega
          · cases h2
      clear HX HB HFR HW hul HALL HFK HX1 HB1 H3 HN
      obtain ⟨kind, frm, inc, seq, tgt, ups⟩ := M
      dsimp only at HI HE HDD hkind
      have hI := unhide HI
      obtain ⟨pv1, rv1, hn1, hf1, hs1⟩ := hI.nto
      have hbx := lt_blk hI.box
      have b0 := cell_at hI.box 0
      have b1 := cell_at hI.box 1
      have b2 := cell_at hI.box 2
      have b3 := cell_at hI.box 3
      have b4 := cell_at hI.box 4
      have b5 := cell_at hI.box 5
      simp only [List.getElem?_toArray, List.getElem?_cons_zero, List.getElem?_cons_succ] at b0 b1 b2 b3 b4 b5
      have HROW := hide hI.row
      have HN1 := hide hn1
      have HF1 := hide hf1
      have HS1 := hide hs1
      have hfeet := hn1.not_feet hI.box (by decide) (by decide) (by decide) (by decide)
      have HFT := hide hfeet
      have hwr := hf1.size
      clear hI hn1 hf1 hs1 hfeet HI
      rcases hkind with rfl | rfl | rfl | rfl | rfl
      case inl =>
        have HC := fun w' (hb : Below wr.heap.size wr w') => hide ((unhide HDD).d1 rfl nb mb cb pv1 rv1 (.slice ao ups.length cap) w' ((unhide HN1).below hb) ((keys_of_row (unhide HROW)).below hb))
        dsimp only at HC
        have hix := index_1 nb
        go_region_held3 (fun w' => w'.cell? ⟨w1.heap.size, 0, none⟩ = some (.int .i64 1) ∧ w'.cell? ⟨w1.heap.size, 1, none⟩ = some (.int .i64 frm) ∧ w'.cell? ⟨w1.heap.size, 2, none⟩ = some (.int .i64 inc) ∧ w'.cell? ⟨w1.heap.size, 3, none⟩ = some (.int .i64 seq) ∧ w'.cell? ⟨w1.heap.size, 4, none⟩ = some (.int .i64 tgt) ∧ w'.cell? ⟨w1.heap.size, 5, none⟩ = some (.slice ao ups.length cap)) (go_keep)
          (first
            | (go_at_call 85; refine (deeds_any nb _).mono ?_; rintro e wd ⟨rfl, hbd'⟩; have hbd := undrew hbd'; have q0 := (hbd.cell (p := ⟨w1.heap.size, 0, none⟩) hbx).trans b0; have q1 := (hbd.cell (p := ⟨w1.heap.size, 1, none⟩) hbx).trans b1; have q2 := (hbd.cell (p := ⟨w1.heap.size, 2, none⟩) hbx).trans b2; have q3 := (hbd.cell (p := ⟨w1.heap.size, 3, none⟩) hbx).trans b3; have q4 := (hbd.cell (p := ⟨w1.heap.size, 4, none⟩) hbx).trans b4; have q5 := (hbd.cell (p := ⟨w1.heap.size, 5, none⟩) hbx).trans b5)
            | (go_at_call 122; refine (unhide (HC _ hbd)).mono ?_; rintro e w5 ⟨o, rfl, ho5, hn5⟩; have H5 := hide hn5; have hbk := Frm.block (Exists.choose_spec (Exists.choose_spec hn5)).2.1 w1.heap.size (Nat.lt_of_lt_of_le hbx hbd.size) (unhide HFT); have s0 := (World.cell?_of_block (a := ⟨w1.heap.size, 0, none⟩) hbk).trans q0; have s1 := (World.cell?_of_block (a := ⟨w1.heap.size, 1, none⟩) hbk).trans q1; have s2 := (World.cell?_of_block (a := ⟨w1.heap.size, 2, none⟩) hbk).trans q2; have s3 := (World.cell?_of_block (a := ⟨w1.heap.size, 3, none⟩) hbk).trans q3; have s4 := (World.cell?_of_block (a := ⟨w1.heap.size, 4, none⟩) hbk).trans q4; have s5 := (World.cell?_of_block (a := ⟨w1.heap.size, 5, none⟩) hbk).trans q5; have HO5 := hide ho5; clear hbk hn5 ho5))
        go_wp2
        go_ret
        rw [unhide HE]
        exact ⟨o, rfl, own_mono (unhide HO5) (Nat.le_trans hwr hbd.size), NTo.trans ((unhide HF1).step hbd) (unhide HS1) (unhide H5)⟩
      case inr.inl =>
        have HC := fun w' (hb : Below wr.heap.size wr w') => hide ((unhide HDD).d2 rfl nb mb cb pv1 rv1 (.slice ao ups.length cap) w' ((unhide HN1).below hb) ((keys_of_row (unhide HROW)).below hb))
        dsimp only at HC
        have hix := index_2 nb
        go_region_held3 (fun w' => w'.cell? ⟨w1.heap.size, 0, none⟩ = some (.int .i64 2) ∧ w'.cell? ⟨w1.heap.size, 1, none⟩ = some (.int .i64 frm) ∧ w'.cell? ⟨w1.heap.size, 2, none⟩ = some (.int .i64 inc) ∧ w'.cell? ⟨w1.heap.size, 3, none⟩ = some (.int .i64 seq) ∧ w'.cell? ⟨w1.heap.size, 4, none⟩ = some (.int .i64 tgt) ∧ w'.cell? ⟨w1.heap.size, 5, none⟩ = some (.slice ao ups.length cap)) (go_keep)
          (first
            | (go_at_call 85; refine (deeds_any nb _).mono ?_; rintro e wd ⟨rfl, hbd'⟩; have hbd := undrew hbd'; have q0 := (hbd.cell (p := ⟨w1.heap.size, 0, none⟩) hbx).trans b0; have q1 := (hbd.cell (p := ⟨w1.heap.size, 1, none⟩) hbx).trans b1; have q2 := (hbd.cell (p := ⟨w1.heap.size, 2, none⟩) hbx).trans b2; have q3 := (hbd.cell (p := ⟨w1.heap.size, 3, none⟩) hbx).trans b3; have q4 := (hbd.cell (p := ⟨w1.heap.size, 4, none⟩) hbx).trans b4; have q5 := (hbd.cell (p := ⟨w1.heap.size, 5, none⟩) hbx).trans b5)
            | (go_at_call 123; refine (unhide (HC _ hbd)).mono ?_; rintro e w5 ⟨o, rfl, ho5, hn5⟩; have H5 := hide hn5; have hbk := Frm.block (Exists.choose_spec (Exists.choose_spec hn5)).2.1 w1.heap.size (Nat.lt_of_lt_of_le hbx hbd.size) (unhide HFT); have s0 := (World.cell?_of_block (a := ⟨w1.heap.size, 0, none⟩) hbk).trans q0; have s1 := (World.cell?_of_block (a := ⟨w1.heap.size, 1, none⟩) hbk).trans q1; have s2 := (World.cell?_of_block (a := ⟨w1.heap.size, 2, none⟩) hbk).trans q2; have s3 := (World.cell?_of_block (a := ⟨w1.heap.size, 3, none⟩) hbk).trans q3; have s4 := (World.cell?_of_block (a := ⟨w1.heap.size, 4, none⟩) hbk).trans q4; have s5 := (World.cell?_of_block (a := ⟨w1.heap.size, 5, none⟩) hbk).trans q5; have HO5 := hide ho5; clear hbk hn5 ho5))
        go_wp2
        go_ret
        rw [unhide HE]
        exact ⟨o, rfl, own_mono (unhide HO5) (Nat.le_trans hwr hbd.size), NTo.trans ((unhide HF1).step hbd) (unhide HS1) (unhide H5)⟩
      case inr.inr.inl =>
        have HC := fun w' (hb : Below wr.heap.size wr w') => hide ((unhide HDD).d3 rfl nb mb cb pv1 rv1 (.slice ao ups.length cap) w' ((unhide HN1).below hb) ((keys_of_row (unhide HROW)).below hb))
        dsimp only at HC
        have hix := index_3 nb
        go_region_held3 (fun w' => w'.cell? ⟨w1.heap.size, 0, none⟩ = some (.int .i64 3) ∧ w'.cell? ⟨w1.heap.size, 1, none⟩ = some (.int .i64 frm) ∧ w'.cell? ⟨w1.heap.size, 2, none⟩ = some (.int .i64 inc) ∧ w'.cell? ⟨w1.heap.size, 3, none⟩ = some (.int .i64 seq) ∧ w'.cell? ⟨w1.heap.size, 4, none⟩ = some (.int .i64 tgt) ∧ w'.cell? ⟨w1.heap.size, 5, none⟩ = some (.slice ao ups.length cap)) (go_keep)
          (first
            | (go_at_call 85; refine (deeds_any nb _).mono ?_; rintro e wd ⟨rfl, hbd'⟩; have hbd := undrew hbd'; have q0 := (hbd.cell (p := ⟨w1.heap.size, 0, none⟩) hbx).trans b0; have q1 := (hbd.cell (p := ⟨w1.heap.size, 1, none⟩) hbx).trans b1; have q2 := (hbd.cell (p := ⟨w1.heap.size, 2, none⟩) hbx).trans b2; have q3 := (hbd.cell (p := ⟨w1.heap.size, 3, none⟩) hbx).trans b3; have q4 := (hbd.cell (p := ⟨w1.heap.size, 4, none⟩) hbx).trans b4; have q5 := (hbd.cell (p := ⟨w1.heap.size, 5, none⟩) hbx).trans b5)
            | (go_at_call 124; refine (unhide (HC _ hbd)).mono ?_; rintro e w5 ⟨o, rfl, ho5, hn5⟩; have H5 := hide hn5; have hbk := Frm.block (Exists.choose_spec (Exists.choose_spec hn5)).2.1 w1.heap.size (Nat.lt_of_lt_of_le hbx hbd.size) (unhide HFT); have s0 := (World.cell?_of_block (a := ⟨w1.heap.size, 0, none⟩) hbk).trans q0; have s1 := (World.cell?_of_block (a := ⟨w1.heap.size, 1, none⟩) hbk).trans q1; have s2 := (World.cell?_of_block (a := ⟨w1.heap.size, 2, none⟩) hbk).trans q2; have s3 := (World.cell?_of_block (a := ⟨w1.heap.size, 3, none⟩) hbk).trans q3; have s4 := (World.cell?_of_block (a := ⟨w1.heap.size, 4, none⟩) hbk).trans q4; have s5 := (World.cell?_of_block (a := ⟨w1.heap.size, 5, none⟩) hbk).trans q5; have HO5 := hide ho5; clear hbk hn5 ho5))
        go_wp2
        go_ret
        rw [unhide HE]
        exact ⟨o, rfl, own_mono (unhide HO5) (Nat.le_trans hwr hbd.size), NTo.trans ((unhide HF1).step hbd) (unhide HS1) (unhide H5)⟩
      case inr.inr.inr.inl =>
        have HC := fun w' (hb : Below wr.heap.size wr w') => hide ((unhide HDD).d4 rfl nb mb cb pv1 rv1 (.slice ao ups.length cap) w' ((unhide HN1).below hb) ((keys_of_row (unhide HROW)).below hb))
        dsimp only at HC
        have hix := index_4 nb
        go_region_held3 (fun w' => w'.cell? ⟨w1.heap.size, 0, none⟩ = some (.int .i64 4) ∧ w'.cell? ⟨w1.heap.size, 1, none⟩ = some (.int .i64 frm) ∧ w'.cell? ⟨w1.heap.size, 2, none⟩ = some (.int .i64 inc) ∧ w'.cell? ⟨w1.heap.size, 3, none⟩ = some (.int .i64 seq) ∧ w'.cell? ⟨w1.heap.size, 4, none⟩ = some (.int .i64 tgt) ∧ w'.cell? ⟨w1.heap.size, 5, none⟩ = some (.slice ao ups.length cap)) (go_keep)
          (first
            | (go_at_call 85; refine (deeds_any nb _).mono ?_; rintro e wd ⟨rfl, hbd'⟩; have hbd := undrew hbd'; have q0 := (hbd.cell (p := ⟨w1.heap.size, 0, none⟩) hbx).trans b0; have q1 := (hbd.cell (p := ⟨w1.heap.size, 1, none⟩) hbx).trans b1; have q2 := (hbd.cell (p := ⟨w1.heap.size, 2, none⟩) hbx).trans b2; have q3 := (hbd.cell (p := ⟨w1.heap.size, 3, none⟩) hbx).trans b3; have q4 := (hbd.cell (p := ⟨w1.heap.size, 4, none⟩) hbx).trans b4; have q5 := (hbd.cell (p := ⟨w1.heap.size, 5, none⟩) hbx).trans b5)
            | (go_at_call 125; refine (unhide (HC _ hbd)).mono ?_; rintro e w5 ⟨o, rfl, ho5, hn5⟩; have H5 := hide hn5; have hbk := Frm.block (Exists.choose_spec (Exists.choose_spec hn5)).2.1 w1.heap.size (Nat.lt_of_lt_of_le hbx hbd.size) (unhide HFT); have s0 := (World.cell?_of_block (a := ⟨w1.heap.size, 0, none⟩) hbk).trans q0; have s1 := (World.cell?_of_block (a := ⟨w1.heap.size, 1, none⟩) hbk).trans q1; have s2 := (World.cell?_of_block (a := ⟨w1.heap.size, 2, none⟩) hbk).trans q2; have s3 := (World.cell?_of_block (a := ⟨w1.heap.size, 3, none⟩) hbk).trans q3; have s4 := (World.cell?_of_block (a := ⟨w1.heap.size, 4, none⟩) hbk).trans q4; have s5 := (World.cell?_of_block (a := ⟨w1.heap.size, 5, none⟩) hbk).trans q5; have HO5 := hide ho5; clear hbk hn5 ho5))
        go_wp2
        go_ret
        rw [unhide HE]
        exact ⟨o, rfl, own_mono (unhide HO5) (Nat.le_trans hwr hbd.size), NTo.trans ((unhide HF1).step hbd) (unhide HS1) (unhide H5)⟩
      case inr.inr.inr.inr =>
        have HC := fun w' (hb : Below wr.heap.size wr w') => hide ((unhide HDD).d5 rfl nb mb cb pv1 rv1 (.slice ao ups.length cap) w' ((unhide HN1).below hb) ((keys_of_row (unhide HROW)).below hb))
        dsimp only at HC
        have hix := index_5 nb
        go_region_held3 (fun w' => w'.cell? ⟨w1.heap.size, 0, none⟩ = some (.int .i64 5) ∧ w'.cell? ⟨w1.heap.size, 1, none⟩ = some (.int .i64 frm) ∧ w'.cell? ⟨w1.heap.size, 2, none⟩ = some (.int .i64 inc) ∧ w'.cell? ⟨w1.heap.size, 3, none⟩ = some (.int .i64 seq) ∧ w'.cell? ⟨w1.heap.size, 4, none⟩ = some (.int .i64 tgt) ∧ w'.cell? ⟨w1.heap.size, 5, none⟩ = some (.slice ao ups.length cap)) (go_keep)
          (first
            | (go_at_call 85; refine (deeds_any nb _).mono ?_; rintro e wd ⟨rfl, hbd'⟩; have hbd := undrew hbd'; have q0 := (hbd.cell (p := ⟨w1.heap.size, 0, none⟩) hbx).trans b0; have q1 := (hbd.cell (p := ⟨w1.heap.size, 1, none⟩) hbx).trans b1; have q2 := (hbd.cell (p := ⟨w1.heap.size, 2, none⟩) hbx).trans b2; have q3 := (hbd.cell (p := ⟨w1.heap.size, 3, none⟩) hbx).trans b3; have q4 := (hbd.cell (p := ⟨w1.heap.size, 4, none⟩) hbx).trans b4; have q5 := (hbd.cell (p := ⟨w1.heap.size, 5, none⟩) hbx).trans b5)
            | (go_at_call 126; refine (unhide (HC _ hbd)).mono ?_; rintro e w5 ⟨o, rfl, ho5, hn5⟩; have H5 := hide hn5; have hbk := Frm.block (Exists.choose_spec (Exists.choose_spec hn5)).2.1 w1.heap.size (Nat.lt_of_lt_of_le hbx hbd.size) (unhide HFT); have s0 := (World.cell?_of_block (a := ⟨w1.heap.size, 0, none⟩) hbk).trans q0; have s1 := (World.cell?_of_block (a := ⟨w1.heap.size, 1, none⟩) hbk).trans q1; have s2 := (World.cell?_of_block (a := ⟨w1.heap.size, 2, none⟩) hbk).trans q2; have s3 := (World.cell?_of_block (a := ⟨w1.heap.size, 3, none⟩) hbk).trans q3; have s4 := (World.cell?_of_block (a := ⟨w1.heap.size, 4, none⟩) hbk).trans q4; have s5 := (World.cell?_of_block (a := ⟨w1.heap.size, 5, none⟩) hbk).trans q5; have HO5 := hide ho5; clear hbk hn5 ho5))
        go_wp2
        go_ret
        rw [unhide HE]
        exact ⟨o, rfl, own_mono (unhide HO5) (Nat.le_trans hwr hbd.size), NTo.trans ((unhide HF1).step hbd) (unhide HS1) (unhide H5)⟩
end Go.Proofs.YtnneljcbelgoeaaGreatDoor.wire
/- Join and Leave (P8). -/
namespace Go.Proofs.YtnneljcbelgoeaaGreatDoor.wire
open Go.RowKit Go.Maps

theorem num_ok {x : Nd} (h : NdOk x) (n : Int) : NdOk { x with num := n } := ⟨h.cfg, h.rise, h.len, h.keys, h.sends, h.self, h.evs, h.rels, h.pass⟩
set_option maxHeartbeats 1000000 in
set_option maxRecDepth 100000 in
theorem joins_no {x : Nd} (hx : NdOk x) {nb mb : Nat} {cb : Dk} {pv rv : Value} {W : World} (hn : NAt W nb mb cb pv rv x) (i : Int) (he : x.joinErr i ≠ 0) :
    Calls Tryz.prog 36 #[.pointer (some ⟨nb, 0, none⟩), .int .i64 i] W fun e w' => e = .returned (.tuple #[.slice none 0 0, .iface 108 (.int .i64 (x.joinErr i))]) ∧ Below W.heap.size W w' := by
  have HL := hide (left_any hx hn)
  have c0 := fun w' (hb : Below W.heap.size W w') => (hn.below hb).c_self
  cases hL : x.left
  · have he3 : x.joinErr i = 3 ∧ (isIdB i = false ∨ (isIdB i = true ∧ i = x.c.self)) := by
      simp only [Nd.joinErr, hL] at he ⊢
      cases h : isIdB i
      · simp
      · by_cases h2 : i = x.c.self
        · simp [h2]
        · simp [h, h2] at he
    rw [he3.1]
    have HLL := hide hL
    have hc := he3.2
    clear hn hx hL he he3
    rcases hc with h | ⟨h, h2⟩
    · go_enter Tryz.func36, Tryz.ntmps36
      go_wp2_with fail
      refine (unhide HL).mono ?_
      rw [unhide HLL]
      rintro e w1 ⟨rfl, hb1⟩
      have d0 := c0 w1 hb1
      have HB1 := hide hb1
      clear hb1 c0
      go_wp2_with (go_at_call 58; refine (isId_any _ _).mono ?_; rintro e w' ⟨rfl, rfl⟩)
      go_ret2
      exact ⟨rfl, unhide HB1⟩
    · have h2' : (i == x.c.self) = true := by simp [h2]
      clear h2
      go_enter Tryz.func36, Tryz.ntmps36
      go_wp2_with fail
      refine (unhide HL).mono ?_
      rw [unhide HLL]
      rintro e w1 ⟨rfl, hb1⟩
      have d0 := c0 w1 hb1
      have HB1 := hide hb1
      clear hb1 c0
      go_wp2_with (go_at_call 58; refine (isId_any _ _).mono ?_; rintro e w' ⟨rfl, rfl⟩)
      go_ret2
      exact ⟨rfl, unhide HB1⟩
  · have he4 : x.joinErr i = 4 := by simp [Nd.joinErr, hL]
    rw [he4]
    have HLL := hide hL
    clear hn hx hL he he4 c0
    go_enter Tryz.func36, Tryz.ntmps36
    go_wp2_with fail
    refine (unhide HL).mono ?_
    rw [unhide HLL]
    rintro e w1 ⟨rfl, hb1⟩
    have HB1 := hide hb1
    clear hb1
    go_wp2
    go_ret2
    exact ⟨rfl, unhide HB1⟩
set_option maxHeartbeats 1000000 in
set_option maxRecDepth 100000 in
theorem joins_yes {x : Nd} (hx : NdOk x) (hB : NdB Big x) {nb mb : Nat} {cb : Dk} {pv rv : Value} {W : World} (hn : NAt W nb mb cb pv rv x) (i : Int) (he : x.joinErr i = 0) :
    Calls Tryz.prog 36 #[.pointer (some ⟨nb, 0, none⟩), .int .i64 i] W fun e w' => ∃ o, e = .returned (.tuple #[o, .nilIface]) ∧ Outs W w' o (x.join i).1 ∧ NAt w' nb mb cb pv rv (x.join i).2 ∧ Frm [nb] W w' := by
  have HL := hide (left_any hx hn)
  have c0 := fun w' (hb : Below W.heap.size W w') => (hn.below hb).c_self
  have hc : x.left = false ∧ isIdB i = true ∧ ¬ i = x.c.self := by
    unfold Nd.joinErr at he
    split at he
    · cases he
    · rename_i h
      split at he
      · rename_i h2; simp at h2; exact ⟨by simpa using h, h2.1, h2.2⟩
      · cases he
  obtain ⟨hL, h1, h2⟩ := hc
  have h2' : (i == x.c.self) = false := by simp [h2]
  have HLL := hide hL
  have HX := hide hx
  have HB := hide hB
  have HN := hide hn
  clear hn hx hL he hB
  go_enter Tryz.func36, Tryz.ntmps36
  go_wp2_with fail
  refine (unhide HL).mono ?_
  rw [unhide HLL]
  rintro e w1 ⟨rfl, hb1⟩
  have d0 := c0 w1 hb1
  have HNX := hide (next_any (unhide HB) ((unhide HN).below hb1))
  have HB1 := hide hb1
  clear hb1 c0 HL
  go_wp2_with (go_at_call 58; refine (isId_any _ _).mono ?_; rintro e w' ⟨rfl, rfl⟩)
  refine (unhide HNX).mono ?_
  rintro e w2 ⟨rfl, hn2, hf2⟩
  have HP := hide (packet_any (num_ok (unhide HX) (x.num + 1)) hn2 i 4 (x.num + 1) 0 [] (.slice none 0 0) (.inl ⟨rfl, rfl⟩) (by simp))
  have HN2 := hide hn2
  have HF2 := hide ((Frm.of_below (S := [nb]) (unhide HB1) (Nat.le_refl _)).trans hf2 (fun j hj => .inl hj))
  clear hn2 hf2 HNX d0
  go_wp2_with fail
  refine (unhide HP).mono ?_
  generalize hPK : Nd.packet _ i 4 (x.num + 1) 0 [] = PK
  have HPK := hide hPK
  clear hPK HP
  rintro e w3 ⟨rfl, hb3⟩
  have HN3 := hide ((unhide HN2).below hb3)
  have HF3 := hide ((unhide HF2).step hb3)
  clear hb3
  go_wp2
  go_ret2
  refine ⟨_, rfl, ?_, (unhide HN3).alloc _, (unhide HF3).alloc _⟩
  have e1 : (x.join i).1 = [PK] := by rw [← unhide HPK]; rfl
  rw [e1]
  exact outs_one PK (unhide HF3).size
end Go.Proofs.YtnneljcbelgoeaaGreatDoor.wire
