import Derived.Test.YtnneljcbelgoeaaGreatNMath
import Derived.Maps.OwnSet
import Derived.Maps.OwnOps
import Derived.Lib.SlKeysI
/- THE TABLE: a map of members as a plain list by rising ids. -/
namespace Go.Proofs.YtnneljcbelgoeaaGreat.wire
open Go.RowKit Go.Maps

abbrev memv (m : Mem) : Value := .agg #[.int .i64 m.k.id, .int .i64 m.k.inc, .int .i64 m.k.st, .int .i64 m.due, .int .i64 m.sends]
abbrev RH : Value → Option (DataW Value × List MemPlace) := fun v => some (.held v, [])
def entM (m : Mem) : Lit × DataW Value := (Lit.int .i64 m.k.id, .held (memv m))
def tabD (t : List Mem) : DataW Value := .map (t.map entM)
abbrev Rise (t : List Mem) : Prop := t.Pairwise (fun a b => a.k.id < b.k.id)

theorem tabD_size (t : List Mem) : Maps.size (tabD t) = t.length := by simp [tabD, size_eq]
theorem same_ent (m : Mem) (i : Int) : (entM m).1.sameKey (.int .i64 i) = (m.k.id == i) := by
  by_cases h : m.k.id = i
  · simp [entM, Lit.sameKey, h]
  · have h' : (m.k.id == i) = false := by simp [h]
    rw [h']; simp [entM, Lit.sameKey, h]
theorem tabD_has (t : List Mem) (i : Int) : Maps.has (tabD t) (.int .i64 i) = (findM i t).isSome := by
  simp only [tabD, has_eq, findM, List.any_map, Function.comp_def, same_ent]
  induction t with
  | nil => rfl
  | cons a r ih =>
    simp only [List.any_cons, ih, List.find?_cons]
    cases (a.k.id == i) <;> simp
theorem tabD_at (t : List Mem) (i : Int) : (tabD t).atKey (.int .i64 i) (.held (memv zeroM)) = .held (memv (atM i t)) := by
  simp only [tabD, DataW.atKey, atM, findM]
  induction t with
  | nil => rfl
  | cons a r ih =>
    simp only [List.map_cons, List.find?_cons, entM, Lit.sameKey]
    by_cases h : a.k.id = i
    · simp [h]
    · have h' : (a.k.id == i) = false := by simp [h]
      simp only [h, h', and_false, decide_false]
      exact ih
theorem filter_far (m : Mem) (t : List Mem) (h : ∀ y ∈ t, m.k.id < y.k.id) : (t.map entM).filter (fun p => !p.1.sameKey (.int .i64 m.k.id)) = t.map entM := by
  rw [List.filter_eq_self]
  intro p hp
  obtain ⟨y, hy, rfl⟩ := List.mem_map.1 hp
  have := h y hy
  simp [entM, Lit.sameKey]
  omega
theorem insert_first (m : Mem) (t : List Mem) (h : ∀ y ∈ t, m.k.id < y.k.id) : DataW.insert (entM m) (t.map entM) = (m :: t).map entM := by
  cases t with
  | nil => rfl
  | cons y r =>
    have := h y (List.mem_cons_self ..)
    simp [DataW.insert, entM, Lit.before, this]
theorem tabD_putL (m : Mem) : ∀ (t : List Mem), Rise t → DataW.insert (entM m) ((t.map entM).filter (fun p => !p.1.sameKey (.int .i64 m.k.id))) = (putM m t).map entM
  | [], _ => rfl
  | y :: r, h => by
    have hr := (List.pairwise_cons.1 h).1
    by_cases h1 : m.k.id < y.k.id
    · have hall : ∀ z ∈ y :: r, m.k.id < z.k.id := by
        intro z hz
        rcases List.mem_cons.1 hz with rfl | hz
        · exact h1
        · exact Int.lt_trans h1 (hr z hz)
      rw [filter_far m _ hall, insert_first m _ hall]
      simp [putM, h1]
    · by_cases h2 : m.k.id = y.k.id
      · have hall : ∀ z ∈ r, m.k.id < z.k.id := fun z hz => by rw [h2]; exact hr z hz
        have e : (!(entM y).1.sameKey (.int .i64 m.k.id)) = false := by simp [entM, Lit.sameKey, h2]
        rw [List.map_cons, List.filter_cons_of_neg (by rw [e]; decide), filter_far m _ hall, insert_first m _ hall]
        simp [putM, h2]
      · have e : (!(entM y).1.sameKey (.int .i64 m.k.id)) = true := by simp [entM, Lit.sameKey]; omega
        rw [List.map_cons, List.filter_cons, if_pos e]
        have e2 : (entM m).1.before (entM y).1 = false := by simp [entM, Lit.before]; omega
        simp only [DataW.insert, e2, Bool.false_eq_true, if_false]
        rw [tabD_putL m r (List.pairwise_cons.1 h).2]
        simp [putM, h1, h2]
theorem tabD_put (m : Mem) (t : List Mem) (h : Rise t) : (tabD t).put (.int .i64 m.k.id) (.held (memv m)) = tabD (putM m t) := by
  show DataW.map (DataW.insert (entM m) _) = _
  rw [tabD_putL m t h]; rfl
theorem putM_mem {m z : Mem} : ∀ {t : List Mem}, z ∈ putM m t → z = m ∨ z ∈ t
  | [], h => by simpa [putM] using h
  | y :: r, h => by
    unfold putM at h
    split at h
    · simpa using h
    · split at h
      · rcases List.mem_cons.1 h with h | h
        · exact .inl h
        · exact .inr (List.mem_cons_of_mem _ h)
      · rcases List.mem_cons.1 h with h | h
        · exact .inr (by rw [h]; exact List.mem_cons_self ..)
        · rcases putM_mem h with h | h
          · exact .inl h
          · exact .inr (List.mem_cons_of_mem _ h)
theorem putM_rise (m : Mem) : ∀ (t : List Mem), Rise t → Rise (putM m t)
  | [], _ => by simp [putM]
  | y :: r, h => by
    have hr := (List.pairwise_cons.1 h).1
    unfold putM
    split
    · rename_i h1
      refine List.pairwise_cons.2 ⟨fun z hz => ?_, h⟩
      rcases List.mem_cons.1 hz with rfl | hz
      · exact h1
      · exact Int.lt_trans h1 (hr z hz)
    · split
      · rename_i h1 h2
        exact List.pairwise_cons.2 ⟨fun z hz => by rw [h2]; exact hr z hz, (List.pairwise_cons.1 h).2⟩
      · rename_i h1 h2
        refine List.pairwise_cons.2 ⟨fun z hz => ?_, putM_rise m r (List.pairwise_cons.1 h).2⟩
        rcases putM_mem hz with rfl | hz
        · omega
        · exact hr z hz
theorem findM_none_lt {i : Int} {t : List Mem} (h : ∀ y ∈ t, i < y.k.id) : findM i t = none := by
  unfold findM
  rw [List.find?_eq_none]
  intro y hy
  have := h y hy
  simp; omega
theorem putM_len (m : Mem) : ∀ (t : List Mem), Rise t → (putM m t).length = if (findM m.k.id t).isSome then t.length else t.length + 1
  | [], _ => by simp [putM, findM]
  | y :: r, h => by
    have hr := (List.pairwise_cons.1 h).1
    unfold putM
    split
    · rename_i h1
      have : findM m.k.id (y :: r) = none := findM_none_lt (fun z hz => by
        rcases List.mem_cons.1 hz with rfl | hz
        · exact h1
        · exact Int.lt_trans h1 (hr z hz))
      simp [this]
    · split
      · rename_i h1 h2
        simp [findM, h2]
      · rename_i h1 h2
        have h' : (y.k.id == m.k.id) = false := by simp; omega
        have ih := putM_len m r (List.pairwise_cons.1 h).2
        have e : findM m.k.id (y :: r) = findM m.k.id r := by simp [findM, h']
        rw [e]
        simp only [List.length_cons, ih]
        split <;> rfl
theorem findM_putM (m : Mem) (i : Int) : ∀ (t : List Mem), Rise t → findM i (putM m t) = if m.k.id = i then some m else findM i t
  | [], _ => by
    by_cases h : m.k.id = i
    · simp [putM, findM, h]
    · have h' : (m.k.id == i) = false := by simp [h]
      simp [putM, findM, h, h']
  | y :: r, h => by
    have hr := (List.pairwise_cons.1 h).1
    unfold putM
    split
    · by_cases h : m.k.id = i
      · simp [findM, h]
      · have h' : (m.k.id == i) = false := by simp [h]
        simp [findM, h, h']
    · split
      · rename_i h1 h2
        by_cases h : m.k.id = i
        · simp [findM, h]
        · have h' : (m.k.id == i) = false := by simp [h]
          have h'' : (y.k.id == i) = false := by simp; omega
          simp [findM, h, h', h'']
      · rename_i h1 h2
        have ih := findM_putM m i r (List.pairwise_cons.1 h).2
        by_cases h3 : y.k.id = i
        · have : ¬ m.k.id = i := by omega
          simp [findM, h3, this]
        · have h'' : (y.k.id == i) = false := by simp [h3]
          simp only [findM] at ih
          simp [findM, h'', ih]
theorem own_tight {w : World} {P : Program} {b n : Nat} {D : DataW Value} {k : TypeId} (h : w.ownsMap P k RH b n D) : w.ownsMap P k RH b (Maps.size D) D := by
  obtain ⟨es, clock, hb, F, hs, rfl⟩ := h
  refine ⟨es, clock, hb, F, ?_, rfl⟩
  rw [size_eq, length_sorted]; simp
theorem tabD_keys (t : List Mem) : Go.intKeys (tabD t) = t.map (fun m => m.k.id) := by
  simp [tabD, Go.intKeys, entM, Go.intOf, Function.comp_def]
theorem sorted_keys {ss : List Int} {t : List Mem} (h : Rise t) (hp : ss.Perm (Go.intKeys (tabD t))) : ss.mergeSort (fun x y => decide (x ≤ y)) = t.map (fun m => m.k.id) := by
  rw [tabD_keys] at hp
  have e := Go.mergeSort_of_perm_i hp
  rw [show (fun x y : Int => decide (x ≤ y)) = Go.leI from rfl, e]
  refine List.mergeSort_of_pairwise ?_
  rw [List.pairwise_map]
  exact h.imp (fun {a b} h => by simp [Go.leI]; omega)
end Go.Proofs.YtnneljcbelgoeaaGreat.wire
