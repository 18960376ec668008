import Derived.Test.YtnneljcbelgoeaaGreatDoorG30
import Derived.Test.YtnneljcbelgoeaaGreatDoorG34
import Derived.Test.YtnneljcbelgoeaaGreatDoorG13
import Derived.Test.YtnneljcbelgoeaaGreatDoorG17
import Derived.Test.YtnneljcbelgoeaaGreatDoorG09
/- What stands between two steps of a script over nodes. -/
namespace Go.Proofs.YtnneljcbelgoeaaGreatDoor.wire
open Go.RowKit Go.Maps
/-- A node of the script: its record and the draws are nobody's to write; its twin is one with it, and the document's. -/
structure Nk (n : Nat) (fz : List Th) (t : Nt) : Prop where
  rc : recT t ∈ fz
  dr : intsT t.rv.d t.r.draws ∈ fz
  tw : t.y.x = t.x.x
  gh : Gh (100 * (n : Int)) t.x.x t.r
theorem Nk.up {n n' : Nat} {fz fz' : List Th} {t : Nt} (h : Nk n fz t) (hn : n ≤ n') (hf : ∀ q ∈ fz, q ∈ fz') : Nk n' fz' t := ⟨hf _ h.rc, hf _ h.dr, h.tw, h.gh.mono (by omega)⟩
/-- How much there is of everything, when at most n steps were made. -/
structure VI (n : Nat) (s : Sg) : Prop where
  tn : s.ts.length ≤ n
  tl : ∀ l ∈ s.ts, l.length ≤ 17000
  un : s.m.ups.length ≤ n + 8
  uf : rkeysT s.uv s.m.ups ∈ s.fz
  df : intsT s.dv s.ds ∈ s.fz
  dn : s.ds.length ≤ n
  dr : ∀ z ∈ s.ds, -9223372036854775808 ≤ z ∧ z ≤ 9223372036854775807
  c : -9223372036854775808 ≤ s.c.period ∧ s.c.period ≤ 9223372036854775807
  nn : s.ns.length ≤ n
  nk : ∀ t ∈ s.ns, Nk n s.fz t
  pn : s.ps.length ≤ 60
  pl : ∀ p ∈ s.ps, p.bytes.length ≤ 60
  hd : Held s
  ll : s.ls.length ≤ 2 * n
  ol : s.os.length ≤ 4 * n
  m0 : 0 ≤ s.mark
  m1 : s.mark ≤ 2000 * (n : Int)
  a : s.a = []
  b : s.b = []
theorem VI.up {n : Nat} {s : Sg} (h : VI n s) : VI (n + 1) s :=
  ⟨by have := h.tn; omega, h.tl, by have := h.un; omega, h.uf, h.df, by have := h.dn; omega, h.dr, h.c, by have := h.nn; omega, fun t ht => (h.nk t ht).up (by omega) (fun _ q => q), h.pn, h.pl, h.hd, by have := h.ll; omega, by have := h.ol; omega, h.m0, by have := h.m1; omega, h.a, h.b⟩
/-- The state and its bounds. -/
def VV (n wb : Nat) (s : Sg) (w W : World) : Prop := VS wb s w W ∧ VI n s
theorem VV.vs {n wb : Nat} {s : Sg} {w W : World} (h : VV n wb s w W) : VS wb s w W := h.1
theorem VV.vi {n wb : Nat} {s : Sg} {w W : World} (h : VV n wb s w W) : VI n s := h.2
/-- The texts' row grows. -/
theorem VS.pushT {wb : Nat} {s : Sg} {w W W1 W2 : World} (h : VS wb s w W) (hb : Below W.heap.size W W1) (hg : W1.grownBy W2 s.tv.ownBlock) (S : List UInt8) (v' : Value) (hown : W2.ownsRow 0 9 1 v' (s.ts.length + 1) (s.ts.map (fun l => .string (bs l)) ++ [.string (bs S)])) (hat : v'.ownBlock = s.tv.ownBlock ∨ v'.ownBlock = some W1.heap.size) :
    VS wb { s with tv := v', ts := s.ts ++ [S] } w (W2.setCell ⟨wb, 0, none⟩ v') ∧ W2.heap[wb]? = some (.cells s.cells 41 (0, 0)) :=
  h.grow (s' := { s with tv := v', ts := s.ts ++ [S] }) .tx (by simp) hb (Frm.of_grown hg (fun k e => .inl (by simp [Sg.th, rowT, e]))) (by simpa [Sg.th, rowT] using hown) (fun k hk => by
    simp only [Sg.th, rowT, Option.mem_toList] at hk ⊢
    rcases hat with e | e
    · exact .inl (e ▸ hk)
    · rw [e] at hk; cases hk; exact .inr (Nat.le_refl _)) 0 v' rfl (fun q h1 h2 => by cases q <;> first | rfl | exact absurd rfl h1 | exact absurd rfl h2)
theorem VI.pushT {n : Nat} {s : Sg} (h : VI n s) (S : List UInt8) (v' : Value) (hS : S.length ≤ 17000) : VI (n + 1) { s with tv := v', ts := s.ts ++ [S] } := by
  have u := h.up
  refine { u with tn := by simp; exact h.tn, tl := fun l hl => ?_, hd := ⟨u.hd.lw, u.hd.ok, u.hd.l, u.hd.o⟩ }
  simp only [List.mem_append, List.mem_singleton] at hl
  rcases hl with hl | rfl
  · exact h.tl l hl
  · exact hS
/-- The message is another one, its updates nobody's to write. -/
theorem VS.setM {wb : Nat} {s : Sg} {w W : World} (h : VS wb s w W) (m : M6) (uv : Value) :
    VS wb { s with m := m, uv := uv } w ((((((W.setCell ⟨wb, 1, none⟩ (.int .i64 m.kind)).setCell ⟨wb, 2, none⟩ (.int .i64 m.frm)).setCell ⟨wb, 3, none⟩ (.int .i64 m.inc)).setCell ⟨wb, 4, none⟩ (.int .i64 m.seq)).setCell ⟨wb, 5, none⟩ (.int .i64 m.tgt)).setCell ⟨wb, 6, none⟩ uv) := by
  have k : ∀ (s s' : Sg), s'.tv = s.tv → s'.ts = s.ts → s'.nv = s.nv → s'.ns = s.ns → s'.pv = s.pv → s'.ps = s.ps → s'.lv = s.lv → s'.ls = s.ls → s'.wv = s.wv → s'.ws = s.ws → s'.ov = s.ov → s'.os = s.os → s'.kv = s.kv → s'.ks = s.ks → s'.fz = s.fz → s'.a = s.a → s'.b = s.b → ∀ q, q ≠ Ix.wb → s'.th wb q = s.th wb q := by
    intro s s' e1 e2 e3 e4 e5 e6 e7 e8 e9 e10 e11 e12 e13 e14 e15 e16 e17 q hq
    cases q <;> simp_all [Sg.th]
  have a1 := h.store (s' := { s with m := { s.m with kind := m.kind } }) 1 (.int .i64 m.kind) rfl (k _ _ rfl rfl rfl rfl rfl rfl rfl rfl rfl rfl rfl rfl rfl rfl rfl rfl rfl)
  have a2 := a1.store (s' := { s with m := { s.m with kind := m.kind, frm := m.frm } }) 2 (.int .i64 m.frm) rfl (k _ _ rfl rfl rfl rfl rfl rfl rfl rfl rfl rfl rfl rfl rfl rfl rfl rfl rfl)
  have a3 := a2.store (s' := { s with m := { s.m with kind := m.kind, frm := m.frm, inc := m.inc } }) 3 (.int .i64 m.inc) rfl (k _ _ rfl rfl rfl rfl rfl rfl rfl rfl rfl rfl rfl rfl rfl rfl rfl rfl rfl)
  have a4 := a3.store (s' := { s with m := { s.m with kind := m.kind, frm := m.frm, inc := m.inc, seq := m.seq } }) 4 (.int .i64 m.seq) rfl (k _ _ rfl rfl rfl rfl rfl rfl rfl rfl rfl rfl rfl rfl rfl rfl rfl rfl rfl)
  have a5 := a4.store (s' := { s with m := { s.m with kind := m.kind, frm := m.frm, inc := m.inc, seq := m.seq, tgt := m.tgt } }) 5 (.int .i64 m.tgt) rfl (k _ _ rfl rfl rfl rfl rfl rfl rfl rfl rfl rfl rfl rfl rfl rfl rfl rfl rfl)
  exact a5.store (s' := { s with m := m, uv := uv }) 6 uv rfl (k _ _ rfl rfl rfl rfl rfl rfl rfl rfl rfl rfl rfl rfl rfl rfl rfl rfl rfl)
theorem VS.setShape {wb : Nat} {s : Sg} {w W : World} (h : VS wb s w W) (c : Cfg) :
    VS wb { s with c := c } w ((((((W.setCell ⟨wb, 8, none⟩ (.int .i64 c.self)).setCell ⟨wb, 9, none⟩ (.int .i64 c.period)).setCell ⟨wb, 10, none⟩ (.int .i64 c.wait)).setCell ⟨wb, 11, none⟩ (.int .i64 c.suspect)).setCell ⟨wb, 12, none⟩ (.int .i64 c.proxies)).setCell ⟨wb, 13, none⟩ (.int .i64 c.sends)) := by
  have k : ∀ (s : Sg) (c : Cfg), ∀ q, q ≠ Ix.wb → ({ s with c := c } : Sg).th wb q = s.th wb q := by
    intro s c q hq
    cases q <;> first | rfl | exact absurd rfl hq
  have a1 := h.store (s' := { s with c := { s.c with self := c.self } }) 8 (.int .i64 c.self) rfl (k _ _)
  have a2 := a1.store (s' := { s with c := { s.c with self := c.self, period := c.period } }) 9 (.int .i64 c.period) rfl (fun q hq => (k _ _ q hq).trans (k _ _ q hq).symm)
  have a3 := a2.store (s' := { s with c := { s.c with self := c.self, period := c.period, wait := c.wait } }) 10 (.int .i64 c.wait) rfl (fun q hq => (k _ _ q hq).trans (k _ _ q hq).symm)
  have a4 := a3.store (s' := { s with c := { s.c with self := c.self, period := c.period, wait := c.wait, suspect := c.suspect } }) 11 (.int .i64 c.suspect) rfl (fun q hq => (k _ _ q hq).trans (k _ _ q hq).symm)
  have a5 := a4.store (s' := { s with c := { s.c with self := c.self, period := c.period, wait := c.wait, suspect := c.suspect, proxies := c.proxies } }) 12 (.int .i64 c.proxies) rfl (fun q hq => (k _ _ q hq).trans (k _ _ q hq).symm)
  exact a5.store (s' := { s with c := c }) 13 (.int .i64 c.sends) rfl (fun q hq => (k _ _ q hq).trans (k _ _ q hq).symm)
end Go.Proofs.YtnneljcbelgoeaaGreatDoor.wire
/- told, of whatever number; Join, Leave in one piece. -/
namespace Go.Proofs.YtnneljcbelgoeaaGreatDoor.wire
open Go.RowKit Go.Maps
/-- An error, by its number. -/
def errV (k : Int) : Value := if k = 0 then .nilIface else .iface 108 (.int .i64 k)
/-- told: whatever number. -/
theorem ltold_any (k : Int) (w : World) (hg : w.cell? ⟨0, 0, none⟩ = some (.iface 207 (.agg #[.pointer (some ⟨1, 64, none⟩)]))) :
    Calls Tryz.prog 26 #[errV k, .int .i64 k] w fun e w' => e = .returned (.bool true) ∧ Below w.heap.size w w' := by
  by_cases h0 : k = 0
  · subst h0
    rw [show errV 0 = .nilIface from rfl]
    refine (ltold_nil w).mono ?_
    rintro e w' ⟨rfl, rfl⟩
    exact ⟨rfl, Below.refl _ _⟩
  · have e : errV k = .iface 108 (.int .i64 k) := by unfold errV; rw [if_neg h0]
    rw [e]
    have HG := hide hg
    clear hg e
    go_enter Tryz.func26, Tryz.ntmps26
    go_wp2_with fail
    refine (told_any k _ (unhide HG)).mono ?_
    rintro e w1 ⟨rfl, hb⟩
    have HB := hide hb
    clear hb
    go_wp2_with fail
    refine (num_any k _).mono ?_
    rintro e w2 ⟨rfl, rfl⟩
    go_wp2
    go_ret
    exact ⟨by simp [h0], unhide HB⟩
/-- Join, plainly: whether or not it is refused. -/
def Nd.joinX (x : Nd) (i : Int) : List Pk × Nd := if x.joinErr i = 0 then x.join i else ([], x)
def Rn.joinX (r : Rn) (i : Int) : Rn := if r.joinErr i = 0 then r.join i else { r with out := [] }
theorem joins_any {x : Nd} (hx : NdOk x) (hB : NdB Big x) {nb mb : Nat} {cb : Dk} {pv rv : Value} {W : World} (hn : NAt W nb mb cb pv rv x) (i : Int) :
    Calls Tryz.prog 36 #[.pointer (some ⟨nb, 0, none⟩), .int .i64 i] W fun e w' => ∃ o, e = .returned (.tuple #[o, errV (x.joinErr i)]) ∧ Outs W w' o (x.joinX i).1 ∧ NTo W w' nb mb cb pv rv (x.joinX i).2 := by
  by_cases h : x.joinErr i = 0
  · refine (joins_yes hx hB hn i h).mono ?_
    rintro e w' ⟨o, rfl, ho, ha, hf⟩
    rw [show x.joinX i = x.join i by unfold Nd.joinX; rw [if_pos h], h]
    exact ⟨o, rfl, ho, pv, rv, ha, ⟨hf.os, hf.tape, hf.output, hf.size, fun k hk hm => hf.block k hk (fun h' => hm (by simp at h'; subst h'; simp [feet]))⟩, fun k hk => .inl hk⟩
  · refine (joins_no hx hn i h).mono ?_
    rintro e w' ⟨rfl, hb⟩
    rw [show x.joinX i = ([], x) by unfold Nd.joinX; rw [if_neg h]]
    refine ⟨.slice none 0 0, by unfold errV; rw [if_neg h], outs_nil _ _, pv, rv, hn.below hb, Frm.of_below hb (Nat.le_refl _), fun k hk => .inl hk⟩
theorem rjoin_any {B : Int} {x : Nd} {r : Rn} (hg : Gh B x r) (hB : B ≤ 999999999000) {W : World} {b : Nat} {v : Rv} (h : RAt W b v r) (i : Int) :
    Calls Tryz.prog 37 #[.pointer (some ⟨b, 0, none⟩), .int .i64 i] W fun e w' => ∃ o, e = .returned (.tuple #[o, .int .i64 (r.joinErr i)]) ∧ RTo W w' b v (r.joinX i) ∧ ((∃ v', v'.d = v.d ∧ RAt w' b v' (r.joinX i) ∧ Frm (rfeet b v) W w' ∧ (∀ k ∈ rfeet b v', k ∈ rfeet b v ∨ W.heap.size ≤ k) ∧ (o = v'.x ∨ (o = .slice none 0 0 ∧ (r.joinX i).out = [])))) := by
  by_cases he : r.joinErr i = 0
  · refine (rjoin_yes hg hB h i he).mono ?_
    rintro e w' ⟨o, rfl, v', h1, h2, h3, h4, h5⟩
    rw [show r.joinX i = r.join i by unfold Rn.joinX; rw [if_pos he], he]
    exact ⟨o, rfl, ⟨v', h1, h2, h3, h4⟩, v', h1, h2, h3, h4, .inl h5⟩
  · refine (rjoin_no h i he).mono ?_
    rintro e w' ⟨rfl, v', h1, h2, h3, h4⟩
    rw [show r.joinX i = { r with out := [] } by unfold Rn.joinX; rw [if_neg he]]
    exact ⟨_, rfl, ⟨v', h1, h2, h3, h4⟩, v', h1, h2, h3, h4, .inr ⟨rfl, rfl⟩⟩
theorem Gh.joinedX {B : Int} {x : Nd} {r : Rn} (h : Gh B x r) (hB : B ≤ 1000000000) (i : Int) : Gone (B + 1) x.dl (x.joinX i).1 (x.joinX i).2 (r.joinX i) ∧ r.joinErr i = x.joinErr i := by
  obtain ⟨g, e⟩ := h.joined hB i
  refine ⟨?_, e⟩
  unfold Nd.joinX Rn.joinX
  rw [e]
  split
  · exact g
  · exact ⟨h.sent.mono (by omega), rfl, by simp, by simp, rfl⟩
/-- Leave, plainly: whether or not it is refused. -/
def Nd.leaveX (x : Nd) : Nd := if x.left then x else x.leave
def Rn.leaveX (r : Rn) : Rn := if r.self.st = 4 then r else r.leave
def Nd.leaveErr (x : Nd) : Int := if x.left then 4 else 0
theorem leaves_any {x : Nd} (hx : NdOk x) (hB : NdB Big x) {nb mb : Nat} {cb : Dk} {pv rv : Value} {W : World} (hn : NAt W nb mb cb pv rv x) :
    Calls Tryz.prog 39 #[.pointer (some ⟨nb, 0, none⟩)] W fun e w' => e = .returned (errV x.leaveErr) ∧ NTo W w' nb mb cb pv rv x.leaveX := by
  cases h : x.left
  · refine (leave_yes hx hB hn h).mono ?_
    rintro e w' ⟨rfl, ha, hf⟩
    rw [show x.leaveX = x.leave by simp [Nd.leaveX, h], show x.leaveErr = 0 by simp [Nd.leaveErr, h]]
    exact ⟨rfl, pv, rv, ha, ⟨hf.os, hf.tape, hf.output, hf.size, fun k hk hm => hf.block k hk (fun h' => hm (by simp at h'; rcases h' with rfl | rfl | rfl <;> simp [feet]))⟩, fun k hk => .inl hk⟩
  · refine (leave_no hx hn h).mono ?_
    rintro e w' ⟨rfl, hb⟩
    rw [show x.leaveX = x by simp [Nd.leaveX, h], show x.leaveErr = 4 by simp [Nd.leaveErr, h]]
    exact ⟨rfl, pv, rv, hn.below hb, Frm.of_below hb (Nat.le_refl _), fun k hk => .inl hk⟩
theorem Gh.leftX {B : Int} {x : Nd} {r : Rn} (h : Gh B x r) : Gh (B + 1) x.leaveX r.leaveX ∧ x.leaveX.dl = x.dl ∧ (if r.self.st = 4 then (4 : Int) else 0) = x.leaveErr := by
  have e : x.left = decide (r.self.st = 4) := by rw [h.rf.self]; unfold Nd.left; by_cases q : x.own.st = 4 <;> simp [q]
  unfold Nd.leaveX Rn.leaveX Nd.leaveErr
  rw [e]
  by_cases h4 : r.self.st = 4
  · simp only [h4, decide_true, if_true]
    exact ⟨h.mono (by omega), by simp, by simp⟩
  · simp only [h4, decide_false, if_false]
    exact ⟨h.left, rfl, by simp⟩
end Go.Proofs.YtnneljcbelgoeaaGreatDoor.wire
