import Derived.Test.YtnneljcbelgoeaaGreatDoorG20
import Derived.Test.YtnneljcbelgoeaaGreatDoorG21
import Derived.Test.YtnneljcbelgoeaaGreatDoorG12
/- What the document's node keeps to, out of what the program's does. -/
namespace Go.Proofs.YtnneljcbelgoeaaGreatDoor.wire
open Go.RowKit Go.Maps

/-- Its numbers are small. -/
structure RBs (r : Rn) : Prop extends RBd r where
  out : r.out.length ≤ 900
  qs : ∀ u ∈ r.queue, -1000000 ≤ u.sent ∧ u.sent ≤ 1000000
  rels : r.rels.length ≤ 4
  seq : 0 ≤ r.seq ∧ r.seq ≤ 1000000000000
  period : 4 ≤ r.c.period ∧ r.c.period ≤ 50
  wait : 1 ≤ r.c.wait ∧ r.c.wait ≤ 50
  prox : 0 ≤ r.c.proxies ∧ r.c.proxies ≤ 3
  dropped : 0 ≤ r.dropped ∧ r.dropped ≤ 1000000000000
  drawn : r.drawn ≤ 1000000000000
  dl : DlOk r.draws
  plen : r.pass.length ≤ 8
theorem RBs.of {x : Nd} {r : Rn} (hf : Rf x r) (hx : NdOk x) (hB : NdB Big x) (hdl : DlOk x.dl) (ho : r.out.length ≤ 900) : RBs r := by
  have hcf := hx.cfg
  simp only [cfgB, Bool.and_eq_true, decide_eq_true_eq] at hcf
  obtain ⟨_, p, w, s, px, sn⟩ := hcf
  have hql : r.queue.length ≤ 8 := by
    rw [hf.queue.length_eq, List.length_map]
    exact Nat.le_trans (List.length_filter_le _ _) hx.len
  unfold Big at hB
  refine ⟨⟨?_, by omega, ?_, ?_, ?_, ?_, ?_, ?_⟩, ho, fun u hu => ?_, ?_, ?_, ?_, ?_, ?_, ?_, ?_, ?_, ?_⟩
  · rw [hf.evs]; exact hx.evs
  · rw [hf.lost]; exact hB.lost
  · rw [hf.clock]; exact hB.clock
  · rw [hf.c]; omega
  · have := rest_len hx
    have := hx.len
    rw [hf.others, List.length_map]; omega
  · rw [hf.others]
    refine List.pairwise_map.2 ?_
    exact (hx.rise.filter _)
  · rw [hf.pass]; have := hx.pass.len; omega
  · obtain ⟨m, hm, rfl⟩ := List.mem_map.1 (hf.queue.mem_iff.1 hu)
    have := hx.sends m (List.mem_filter.1 hm).1
    show -1000000 ≤ x.c.sends - m.sends ∧ x.c.sends - m.sends ≤ 1000000
    omega
  · rw [hf.rels]; exact hx.rels
  · rw [hf.seq]; exact hB.num
  · rw [hf.c]; omega
  · rw [hf.c]; omega
  · rw [hf.c]; omega
  · rw [hf.dropped]; exact hB.dropped
  · rw [hf.drawn]; have := hB.tk.2; omega
  · rw [hf.draws]; exact hdl
  · rw [hf.pass]; exact hx.pass.len
theorem RBs.plain {r : Rn} (h : RBs r) : r.out.length ≤ 1000 ∧ r.queue.length ≤ 1000 := ⟨by have := h.out; omega, h.queue⟩
end Go.Proofs.YtnneljcbelgoeaaGreatDoor.wire
/- The document's node: what rides along: three lists that are being made. -/
namespace Go.Proofs.YtnneljcbelgoeaaGreatDoor.wire
open Go.RowKit Go.Maps

/-- What rides along, who is left, who is to be sent again. -/
structure U3 (W wr : World) (vo vl vs : Value) (O : List K3) (L S : List RU) : Prop where
  o : wr.ownsRow W.heap.size 58 3 vo O.length (O.flatMap keyC)
  l : wr.ownsRow W.heap.size 158 4 vl L.length (L.flatMap ruC)
  s : wr.ownsRow W.heap.size 158 4 vs S.length (S.flatMap ruC)
  sep : ∀ g, vl.ownBlock = some g → vs.ownBlock ≠ some g
  below : Below W.heap.size W wr
theorem U3.mono {W wr w' : World} {vo vl vs : Value} {O : List K3} {L S : List RU} (h : U3 W wr vo vl vs O L S) (hb : Below wr.heap.size wr w') : U3 W w' vo vl vs O L S :=
  ⟨own_below h.o hb, own_below h.l hb, own_below h.s hb, h.sep, h.below.trans (hb.mono h.below.size)⟩
theorem own_grown' {W W' : World} {base : Nat} {e : TypeId} {size : Nat} {v : Value} {n : Nat} {xs : List Value} {row : Option Nat} (h : W.ownsRow base e size v n xs) (hg : W.grownBy W' row) (hne : ∀ g, row = some g → v.ownBlock ≠ some g) : W'.ownsRow base e size v n xs :=
  own_frm h (S := row.toList) (Frm.of_grown hg (fun k hk => .inl (by simp [hk]))) (fun k hk hm => hne k (by simpa using hm) hk)
theorem U3.pushO {W wr w1 w2 : World} {vo vl vs v' : Value} {O : List K3} {L S : List RU} (h : U3 W wr vo vl vs O L S) (hb : Below wr.heap.size wr w1) (hg : w1.grownBy w2 vo.ownBlock) (k : K3) (ho : w2.ownsRow W.heap.size 58 3 v' (O.length + 1) (O.flatMap keyC ++ keyC k)) : U3 W w2 v' vl vs (O ++ [k]) L S := by
  have h1 := h.mono hb
  refine ⟨by simpa using ho, own_grown' h1.l hg (row_apart h1.o h1.l (by decide)), own_grown' h1.s hg (row_apart h1.o h1.s (by decide)), h.sep, h1.below.grown hg h1.below.size (fun k e => (own_lt h1.o e).1)⟩
theorem U3.pushS {W wr w1 w2 : World} {vo vl vs v' : Value} {O : List K3} {L S : List RU} (h : U3 W wr vo vl vs O L S) (hb : Below wr.heap.size wr w1) (hg : w1.grownBy w2 vs.ownBlock) (hat : v'.ownBlock = vs.ownBlock ∨ v'.ownBlock = some w1.heap.size) (u : RU) (ho : w2.ownsRow W.heap.size 158 4 v' (S.length + 1) (S.flatMap ruC ++ ruC u)) : U3 W w2 vo vl v' O L (S ++ [u]) := by
  have h1 := h.mono hb
  refine ⟨own_grown' h1.o hg (row_apart h1.s h1.o (by decide)), own_grown' h1.l hg (fun g e e' => h.sep g e' e), by simpa using ho, fun g e e' => ?_, h1.below.grown hg h1.below.size (fun k e => (own_lt h1.s e).1)⟩
  rcases hat with a | a
  · exact h.sep g e (a ▸ e')
  · rw [a] at e'
    cases e'
    have := (own_lt h1.l e).2
    omega
/-- The list of who is left is made anew, in memory of its own. -/
theorem U3.newL {W wr w2 : World} {vo vl vs v' : Value} {O : List K3} {L S L' : List RU} (h : U3 W wr vo vl vs O L S) (hf : Fi ruC 158 4 wr w2 v' L') : U3 W w2 vo v' vs O L' S := by
  have h1 := h.mono hf.below
  refine ⟨h1.o, own_mono hf.own h.below.size, h1.s, fun g e e' => ?_, h1.below⟩
  have a := (own_lt hf.own e).1
  have b := (own_lt h.s e').2
  omega
/-- A block of none of the three is written. -/
theorem U3.set {W w : World} {vo vl vs : Value} {O : List K3} {L S : List RU} (h : U3 W w vo vl vs O L S) (g j : Nat) (u : Value) (hg : W.heap.size ≤ g) (h1 : vo.ownBlock ≠ some g) (h2 : vl.ownBlock ≠ some g) (h3 : vs.ownBlock ≠ some g) : U3 W (w.setCell ⟨g, j, none⟩ u) vo vl vs O L S := by
  have hf := frm_set w g j u
  refine ⟨own_frm h.o hf (fun k hk e => ?_), own_frm h.l hf (fun k hk e => ?_), own_frm h.s hf (fun k hk e => ?_), h.sep, h.below.setCell hg u⟩
  all_goals
    simp only [List.mem_singleton] at e
    subst e
    contradiction
theorem heap_new2 (w : World) (o1 o2 : Obj) : ((w.alloc o1).alloc o2).heap[w.heap.size + 1]? = some o2 := by
  have := heap_alloc_new (w.alloc o1) o2
  simpa using this
theorem bestN_lt' (l : List RU) (n : Nat) (hn : 0 < n) (hl : n ≤ l.length) : bestN l n < l.length := by
  have := bestN_lt l n
  omega
theorem bestN_one (l : List RU) : bestN l 1 = 0 := by
  unfold bestN
  split <;> rfl
theorem getBang {α : Type} [Inhabited α] (l : List α) (i : Nat) (h : i < l.length) : l[i]! = l[i] := by simp [h]
theorem updGo_none (s : Int) (m : Nat) (L : List RU) (h : m = 0 ∨ L.length = 0) : updGo s m L = ([], L, []) := by
  cases m with
  | zero => rfl
  | succ m =>
    have hl : L.length = 0 := h.resolve_left (by omega)
    unfold updGo
    rw [if_pos hl]
theorem updGo_some (s : Int) (m : Nat) (L : List RU) (hb : bestI L < L.length) : updGo s (m + 1) L = (L[bestI L].k :: (updGo s m (L.eraseIdx (bestI L))).1, (updGo s m (L.eraseIdx (bestI L))).2.1, (if L[bestI L].sent + 1 < s then [⟨L[bestI L].k, L[bestI L].sent + 1⟩] else []) ++ (updGo s m (L.eraseIdx (bestI L))).2.2) := by
  conv => lhs; unfold updGo
  rw [if_neg (by omega), getBang L _ hb]
/-- What has been done, and what is to be done. -/
structure UpTo (s : Int) (Q : List RU) (O : List K3) (L S : List RU) (m : Nat) : Prop where
  len : O.length + m = 4
  lL : L.length ≤ Q.length
  lS : S.length ≤ 4
  one : (updGo s 4 Q).1 = O ++ (updGo s m L).1
  two : (updGo s 4 Q).2.1 = (updGo s m L).2.1
  three : (updGo s 4 Q).2.2 = S ++ (updGo s m L).2.2
  smL : ∀ u ∈ L, -1000000 ≤ u.sent ∧ u.sent ≤ 1000000
  lS' : S.length ≤ O.length
theorem UpTo.step {s : Int} {Q : List RU} {O : List K3} {L S : List RU} {m : Nat} (h : UpTo s Q O L S (m + 1)) (hb : bestI L < L.length) : UpTo s Q (O ++ [L[bestI L].k]) (L.eraseIdx (bestI L)) (S ++ if L[bestI L].sent + 1 < s then [⟨L[bestI L].k, L[bestI L].sent + 1⟩] else []) m := by
  have e := updGo_some s m L hb
  have hl := h.len
  have hs : (S ++ if L[bestI L].sent + 1 < s then [(⟨L[bestI L].k, L[bestI L].sent + 1⟩ : RU)] else []).length ≤ (O ++ [L[bestI L].k]).length := by
    have := h.lS'
    split <;> simp <;> omega
  refine ⟨by simp; omega, ?_, ?_, ?_, ?_, ?_, fun u hu => h.smL u (List.mem_of_mem_eraseIdx hu), hs⟩
  · rw [List.length_eraseIdx]; have := h.lL; split <;> omega
  · have : (O ++ [L[bestI L].k]).length ≤ 4 := by simp; omega
    omega
  · rw [h.one, e]; simp
  · rw [h.two, e]
  · rw [h.three, e]; simp
end Go.Proofs.YtnneljcbelgoeaaGreatDoor.wire
