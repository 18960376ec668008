import Derived.Test.YtnneljcbelgoeaaGreatDoorG01
import Derived.Sort.Defs
import Derived.Maps.OwnSet
import Derived.Maps.OwnOps
import Derived.Lib.SlKeysI
/- THE PLAIN MATHEMATICS OF A NODE (P4 to P8): its state, what each call makes of it. No Go here. -/
namespace Go.Proofs.YtnneljcbelgoeaaGreatDoor.wire
/-- One of the table. -/
structure Mem where
  k : K3
  due : Int
  sends : Int
instance : Inhabited Mem := ⟨⟨⟨0, 0, 0⟩, 0, 0⟩⟩
/-- A relayed ping. -/
structure Rel where
  tgt : Int
  num : Int
  asker : Int
  under : Int
  till : Int
structure Cfg where
  self : Int
  period : Int
  wait : Int
  suspect : Int
  proxies : Int
  sends : Int
/-- A node. -/
structure Nd where
  c : Cfg
  clock : Int
  tab : List Mem
  pass : List Int
  ptgt : Int
  pnum : Int
  pst : Int
  pack : Bool
  rels : List Rel
  num : Int
  evs : List K3
  dropped : Int
  lost : Int
  dl : List Int
  dat : Nat
/-- A packet: to whom, its bytes. -/
structure Pk where
  dest : Int
  bytes : List UInt8
def cfgB (c : Cfg) : Bool := isIdB c.self && ((decide (4 ≤ c.period) && decide (c.period ≤ 50)) && ((decide (1 ≤ c.wait) && decide (c.wait ≤ c.period - 2)) && ((decide (1 ≤ c.suspect) && decide (c.suspect ≤ 500)) && ((decide (0 ≤ c.proxies) && decide (c.proxies ≤ 3)) && (decide (1 ≤ c.sends) && decide (c.sends ≤ 8))))))
def Nd.new (c : Cfg) (dl : List Int) : Nd := ⟨c, 0, [⟨⟨c.self, 1, 1⟩, 0, 0⟩], [], 0, 0, 0, false, [], 0, [], 0, 0, dl, 0⟩
def findM (i : Int) (t : List Mem) : Option Mem := t.find? (fun m => m.k.id == i)
def zeroM : Mem := ⟨⟨0, 0, 0⟩, 0, 0⟩
def atM (i : Int) (t : List Mem) : Mem := (findM i t).getD zeroM
def putM (m : Mem) : List Mem → List Mem
  | [] => [m]
  | y :: r => if m.k.id < y.k.id then m :: y :: r else if m.k.id = y.k.id then m :: r else y :: putM m r
def Nd.own (x : Nd) : K3 := (atM x.c.self x.tab).k
def Nd.left (x : Nd) : Bool := x.own.st == 4
def Nd.change (x : Nd) (k : K3) : Nd :=
  { x with tab := putM ⟨k, x.clock + x.c.suspect, x.c.sends⟩ x.tab, evs := if x.evs.length < 8 then x.evs ++ [k] else x.evs, lost := if x.evs.length < 8 then x.lost else x.lost + 1 }
def greaterB (a b : K3) : Bool := if a.inc = b.inc then decide (b.st < a.st) else decide (b.inc < a.inc)
def thereB (k : K3) : Bool := decide (k.st = 1) || decide (k.st = 2)
def Nd.hearSelf (x : Nd) (k : K3) : Nd :=
  if x.left || (decide (k.st = 1) || (decide (k.inc < x.own.inc) || decide (k.inc = 1073741824))) then x else x.change ⟨x.own.id, k.inc + 1, x.own.st⟩
def Nd.heard (x : Nd) (k : K3) : Nd := if thereB k then x.change k else { x.change k with pass := x.pass.filter (fun i => !(i == k.id)) }
def Nd.hearOther (x : Nd) (k : K3) : Nd :=
  match findM k.id x.tab with
  | some o => if greaterB k o.k then x.heard k else x
  | none => if 8 ≤ x.tab.length then x else x.heard k
def Nd.hear (x : Nd) (k : K3) : Nd := if k.id = x.c.self then x.hearSelf k else x.hearOther k
def pendB (m : Mem) : Bool := decide (0 < m.sends)
def sentCmp (a b : Mem) : Int := if b.sends < a.sends then -1 else if a.sends < b.sends then 1 else 0
def sentLt (a b : Mem) : Bool := decide (sentCmp a b < 0)
def sortM (l : List Mem) : List Mem := (Go.Sort.insertionSort sentLt l.toArray 0 l.length).toList
def Nd.picks (x : Nd) : List Mem := (sortM (x.tab.filter pendB)).take 4
def Mem.less (m : Mem) : Mem := { m with sends := m.sends - 1 }
def Nd.along (x : Nd) : Nd := { x with tab := x.picks.foldl (fun t m => putM m.less t) x.tab }
def bytesS (m : M6) : List UInt8 := if wholeB m then bytesM m else []
def Nd.packet (x : Nd) (dest : Int) (kind seq tgt : Int) (ups : List K3) : Pk := ⟨dest, bytesS ⟨kind, x.own.id, x.own.inc, seq, tgt, ups⟩⟩
def Nd.direct (x : Nd) (kind dest seq tgt : Int) : Pk := x.along.packet dest kind seq tgt (x.picks.map Mem.k)
def Nd.takePing (x : Nd) (m : M6) : List Pk × Nd := if m.tgt = x.c.self then ([x.direct 2 m.frm m.seq m.tgt], x.along) else ([], x)
def itsB (m : M6) (r : Rel) : Bool := decide (r.tgt = m.tgt) && decide (r.num = m.seq)
def Nd.relayed (x : Nd) : List Rel → List Pk × Nd
  | [] => ([], x)
  | r :: l => let y := x.along.relayed l; (x.direct 2 r.asker r.under r.tgt :: y.1, y.2)
def Nd.takeAck (x : Nd) (m : M6) : List Pk × Nd :=
  ({ x with pack := if x.ptgt = m.tgt ∧ x.pnum = m.seq then true else x.pack, rels := x.rels.filter (fun r => !(itsB m r)) } : Nd).relayed (x.rels.filter (itsB m))
def Nd.takeAsk (x : Nd) (m : M6) : List Pk × Nd :=
  if m.tgt = x.c.self then x.takePing m else if 4 ≤ x.rels.length then ([], x) else
    let y : Nd := { x with num := x.num + 1, rels := x.rels ++ [⟨m.tgt, x.num + 1, m.frm, m.seq, x.clock + x.c.period⟩] }
    ([y.direct 1 m.tgt (x.num + 1) m.tgt], y.along)
def Nd.takeJoin (x : Nd) (m : M6) : List Pk × Nd := ([x.packet m.frm 5 m.seq 0 (x.tab.map Mem.k)], x)
def Nd.deed (x : Nd) (m : M6) : List Pk × Nd :=
  if m.kind = 1 then x.takePing m else if m.kind = 2 then x.takeAck m else if m.kind = 3 then x.takeAsk m else if m.kind = 4 then x.takeJoin m else ([], x)
def Nd.hears (x : Nd) (l : List K3) : Nd := l.foldl Nd.hear x
def takesB (self : Int) (b : List UInt8) : Bool := decB b && !decide ((readM b).frm = self)
def Nd.receive (x : Nd) (b : List UInt8) : List Pk × Nd :=
  if takesB x.c.self b then ((x.hear ⟨(readM b).frm, (readM b).inc, 1⟩).hears (readM b).ups).deed (readM b) else ([], { x with dropped := x.dropped + 1 })
def Nd.joinErr (x : Nd) (i : Int) : Int := if x.left then 4 else if isIdB i && !decide (i = x.c.self) then 0 else 3
def Nd.join (x : Nd) (i : Int) : List Pk × Nd := let y : Nd := { x with num := x.num + 1 }; ([y.packet i 4 (x.num + 1) 0 []], y)
def Nd.leave (x : Nd) : Nd := x.change ⟨x.own.id, x.own.inc, 4⟩
/-- Whom it probes, and is to probe. -/
structure PrbOk (me : Int) (pass : List Int) (ptgt : Int) : Prop where
  len : pass.length ≤ 8
  ids : ∀ i ∈ pass, (1 ≤ i ∧ i ≤ 250) ∧ i ≠ me
  tgt : ptgt = 0 ∨ ((1 ≤ ptgt ∧ ptgt ≤ 250) ∧ ptgt ≠ me)
theorem PrbOk.filter {me : Int} {pass : List Int} {ptgt : Int} (h : PrbOk me pass ptgt) (p : Int → Bool) : PrbOk me (pass.filter p) ptgt :=
  ⟨Nat.le_trans (List.length_filter_le _ _) h.len, fun i hi => h.ids i (List.mem_filter.1 hi).1, h.tgt⟩
/-- What a node keeps to, whatever comes. -/
structure NdOk (x : Nd) : Prop where
  cfg : cfgB x.c = true
  rise : x.tab.Pairwise (fun a b => a.k.id < b.k.id)
  len : x.tab.length ≤ 8
  keys : ∀ m ∈ x.tab, isKeyB m.k = true
  sends : ∀ m ∈ x.tab, 0 ≤ m.sends ∧ m.sends ≤ 8
  self : ∃ m, findM x.c.self x.tab = some m
  evs : x.evs.length ≤ 8
  rels : x.rels.length ≤ 4
  pass : PrbOk x.c.self x.pass x.ptgt
/-- The draws' list is of numbers that there are. -/
structure DlOk (l : List Int) : Prop where
  rng : ∀ z ∈ l, -9223372036854775808 ≤ z ∧ z ≤ 9223372036854775807
  len : l.length ≤ 1000000
/-- Its numbers are at most B. -/
structure NdB (B : Int) (x : Nd) : Prop where
  clock : 0 ≤ x.clock ∧ x.clock ≤ B
  num : 0 ≤ x.num ∧ x.num ≤ B
  dropped : 0 ≤ x.dropped ∧ x.dropped ≤ B
  lost : 0 ≤ x.lost ∧ x.lost ≤ B
  tk : (0 ≤ x.pst ∧ x.pst ≤ B) ∧ (x.dat : Int) ≤ B
end Go.Proofs.YtnneljcbelgoeaaGreatDoor.wire
/- THE TABLE: a map of members as a plain list by rising ids. -/
namespace Go.Proofs.YtnneljcbelgoeaaGreatDoor.wire
open Go.RowKit Go.Maps

abbrev memv (m : Mem) : Value := .agg #[.int .i64 m.k.id, .int .i64 m.k.inc, .int .i64 m.k.st, .int .i64 m.due, .int .i64 m.sends]
abbrev RH : Value → Option (DataW Value × List MemPlace) := fun v => some (.held v, [])
def entM (m : Mem) : Lit × DataW Value := (Lit.int .i64 m.k.id, .held (memv m))
def tabD (t : List Mem) : DataW Value := .map (t.map entM)
abbrev Rise (t : List Mem) : Prop := t.Pairwise (fun a b => a.k.id < b.k.id)

theorem tabD_size (t : List Mem) : Maps.size (tabD t) = t.length := by simp [tabD, size_eq]
theorem same_ent (m : Mem) (i : Int) : (entM m).1.sameKey (.int .i64 i) = (m.k.id == i) := by
  by_cases h : m.k.id = i
  · simp [entM, Lit.sameKey, h]
  · have h' : (m.k.id == i) = false := by simp [h]
    rw [h']; simp [entM, Lit.sameKey, h]
theorem tabD_has (t : List Mem) (i : Int) : Maps.has (tabD t) (.int .i64 i) = (findM i t).isSome := by
  simp only [tabD, has_eq, findM, List.any_map, Function.comp_def, same_ent]
  induction t with
  | nil => rfl
  | cons a r ih =>
    simp only [List.any_cons, ih, List.find?_cons]
    cases (a.k.id == i) <;> simp
theorem tabD_at (t : List Mem) (i : Int) : (tabD t).atKey (.int .i64 i) (.held (memv zeroM)) = .held (memv (atM i t)) := by
  simp only [tabD, DataW.atKey, atM, findM]
  induction t with
  | nil => rfl
  | cons a r ih =>
    simp only [List.map_cons, List.find?_cons, entM, Lit.sameKey]
    by_cases h : a.k.id = i
    · simp [h]
    · have h' : (a.k.id == i) = false := by simp [h]
      simp only [h, h', and_false, decide_false]
      exact ih
theorem filter_far (m : Mem) (t : List Mem) (h : ∀ y ∈ t, m.k.id < y.k.id) : (t.map entM).filter (fun p => !p.1.sameKey (.int .i64 m.k.id)) = t.map entM := by
  rw [List.filter_eq_self]
  intro p hp
  obtain ⟨y, hy, rfl⟩ := List.mem_map.1 hp
  have := h y hy
  simp [entM, Lit.sameKey]
  omega
theorem insert_first (m : Mem) (t : List Mem) (h : ∀ y ∈ t, m.k.id < y.k.id) : DataW.insert (entM m) (t.map entM) = (m :: t).map entM := by
  cases t with
  | nil => rfl
  | cons y r =>
    have := h y (List.mem_cons_self ..)
    simp [DataW.insert, entM, Lit.before, this]
theorem tabD_putL (m : Mem) : ∀ (t : List Mem), Rise t → DataW.insert (entM m) ((t.map entM).filter (fun p => !p.1.sameKey (.int .i64 m.k.id))) = (putM m t).map entM
  | [], _ => rfl
  | y :: r, h => by
    have hr := (List.pairwise_cons.1 h).1
    by_cases h1 : m.k.id < y.k.id
    · have hall : ∀ z ∈ y :: r, m.k.id < z.k.id := by
        intro z hz
        rcases List.mem_cons.1 hz with rfl | hz
        · exact h1
        · exact Int.lt_trans h1 (hr z hz)
      rw [filter_far m _ hall, insert_first m _ hall]
      simp [putM, h1]
    · by_cases h2 : m.k.id = y.k.id
      · have hall : ∀ z ∈ r, m.k.id < z.k.id := fun z hz => by rw [h2]; exact hr z hz
        have e : (!(entM y).1.sameKey (.int .i64 m.k.id)) = false := by simp [entM, Lit.sameKey, h2]
        rw [List.map_cons, List.filter_cons_of_neg (by rw [e]; decide), filter_far m _ hall, insert_first m _ hall]
        simp [putM, h2]
      · have e : (!(entM y).1.sameKey (.int .i64 m.k.id)) = true := by simp [entM, Lit.sameKey]; omega
        rw [List.map_cons, List.filter_cons, if_pos e]
        have e2 : (entM m).1.before (entM y).1 = false := by simp [entM, Lit.before]; omega
        simp only [DataW.insert, e2, Bool.false_eq_true, if_false]
        rw [tabD_putL m r (List.pairwise_cons.1 h).2]
        simp [putM, h1, h2]
theorem tabD_put (m : Mem) (t : List Mem) (h : Rise t) : (tabD t).put (.int .i64 m.k.id) (.held (memv m)) = tabD (putM m t) := by
  show DataW.map (DataW.insert (entM m) _) = _
  rw [tabD_putL m t h]; rfl
theorem putM_mem {m z : Mem} : ∀ {t : List Mem}, z ∈ putM m t → z = m ∨ z ∈ t
  | [], h => by simpa [putM] using h
  | y :: r, h => by
    unfold putM at h
    split at h
    · simpa using h
    · split at h
      · rcases List.mem_cons.1 h with h | h
        · exact .inl h
        · exact .inr (List.mem_cons_of_mem _ h)
      · rcases List.mem_cons.1 h with h | h
        · exact .inr (by rw [h]; exact List.mem_cons_self ..)
        · rcases putM_mem h with h | h
          · exact .inl h
          · exact .inr (List.mem_cons_of_mem _ h)
theorem putM_rise (m : Mem) : ∀ (t : List Mem), Rise t → Rise (putM m t)
  | [], _ => by simp [putM]
  | y :: r, h => by
    have hr := (List.pairwise_cons.1 h).1
    unfold putM
    split
    · rename_i h1
      refine List.pairwise_cons.2 ⟨fun z hz => ?_, h⟩
      rcases List.mem_cons.1 hz with rfl | hz
      · exact h1
      · exact Int.lt_trans h1 (hr z hz)
    · split
      · rename_i h1 h2
        exact List.pairwise_cons.2 ⟨fun z hz => by rw [h2]; exact hr z hz, (List.pairwise_cons.1 h).2⟩
      · rename_i h1 h2
        refine List.pairwise_cons.2 ⟨fun z hz => ?_, putM_rise m r (List.pairwise_cons.1 h).2⟩
        rcases putM_mem hz with rfl | hz
        · omega
        · exact hr z hz
theorem findM_none_lt {i : Int} {t : List Mem} (h : ∀ y ∈ t, i < y.k.id) : findM i t = none := by
  unfold findM
  rw [List.find?_eq_none]
  intro y hy
  have := h y hy
  simp; omega
theorem putM_len (m : Mem) : ∀ (t : List Mem), Rise t → (putM m t).length = if (findM m.k.id t).isSome then t.length else t.length + 1
  | [], _ => by simp [putM, findM]
  | y :: r, h => by
    have hr := (List.pairwise_cons.1 h).1
    unfold putM
    split
    · rename_i h1
      have : findM m.k.id (y :: r) = none := findM_none_lt (fun z hz => by
        rcases List.mem_cons.1 hz with rfl | hz
        · exact h1
        · exact Int.lt_trans h1 (hr z hz))
      simp [this]
    · split
      · rename_i h1 h2
        simp [findM, h2]
      · rename_i h1 h2
        have h' : (y.k.id == m.k.id) = false := by simp; omega
        have ih := putM_len m r (List.pairwise_cons.1 h).2
        have e : findM m.k.id (y :: r) = findM m.k.id r := by simp [findM, h']
        rw [e]
        simp only [List.length_cons, ih]
        split <;> rfl
theorem findM_putM (m : Mem) (i : Int) : ∀ (t : List Mem), Rise t → findM i (putM m t) = if m.k.id = i then some m else findM i t
  | [], _ => by
    by_cases h : m.k.id = i
    · simp [putM, findM, h]
    · have h' : (m.k.id == i) = false := by simp [h]
      simp [putM, findM, h, h']
  | y :: r, h => by
    have hr := (List.pairwise_cons.1 h).1
    unfold putM
    split
    · by_cases h : m.k.id = i
      · simp [findM, h]
      · have h' : (m.k.id == i) = false := by simp [h]
        simp [findM, h, h']
    · split
      · rename_i h1 h2
        by_cases h : m.k.id = i
        · simp [findM, h]
        · have h' : (m.k.id == i) = false := by simp [h]
          have h'' : (y.k.id == i) = false := by simp; omega
          simp [findM, h, h', h'']
      · rename_i h1 h2
        have ih := findM_putM m i r (List.pairwise_cons.1 h).2
        by_cases h3 : y.k.id = i
        · have : ¬ m.k.id = i := by omega
          simp [findM, h3, this]
        · have h'' : (y.k.id == i) = false := by simp [h3]
          simp only [findM] at ih
          simp [findM, h'', ih]
theorem own_tight {w : World} {P : Program} {b n : Nat} {D : DataW Value} {k : TypeId} (h : w.ownsMap P k RH b n D) : w.ownsMap P k RH b (Maps.size D) D := by
  obtain ⟨es, clock, hb, F, hs, rfl⟩ := h
  refine ⟨es, clock, hb, F, ?_, rfl⟩
  rw [size_eq, length_sorted]; simp
theorem tabD_keys (t : List Mem) : Go.intKeys (tabD t) = t.map (fun m => m.k.id) := by
  simp [tabD, Go.intKeys, entM, Go.intOf, Function.comp_def]
theorem sorted_keys {ss : List Int} {t : List Mem} (h : Rise t) (hp : ss.Perm (Go.intKeys (tabD t))) : ss.mergeSort (fun x y => decide (x ≤ y)) = t.map (fun m => m.k.id) := by
  rw [tabD_keys] at hp
  have e := Go.mergeSort_of_perm_i hp
  rw [show (fun x y : Int => decide (x ≤ y)) = Go.leI from rfl, e]
  refine List.mergeSort_of_pairwise ?_
  rw [List.pairwise_map]
  exact h.imp (fun {a b} h => by simp [Go.leI]; omega)
end Go.Proofs.YtnneljcbelgoeaaGreatDoor.wire
