import Derived.Test.YtnneljcbelgoeaaGreatNReceive2
import Derived.Test.YtnneljcbelgoeaaGreatNJoin
import Derived.Test.YtnneljcbelgoeaaGreatWire
/- Nodes that have just met: all incarnations 1, all alive. No Go here. -/
namespace Go.Proofs.YtnneljcbelgoeaaGreat.wire

theorem len_sub : ∀ (l m : List Int), l.Nodup → (∀ a ∈ l, a ∈ m) → l.length ≤ m.length
  | [], _, _, _ => Nat.zero_le _
  | a :: r, m, hn, hs => by
    have hm := hs a (List.mem_cons_self ..)
    have hn' := List.nodup_cons.1 hn
    have ih := len_sub r (m.erase a) hn'.2 (fun b hb => by
      have hb' := hs b (List.mem_cons_of_mem _ hb)
      have hne : b ≠ a := fun e => hn'.1 (e ▸ hb)
      exact (List.mem_erase_of_ne hne).2 hb')
    have hl := List.length_erase_of_mem hm
    have hpos := List.length_pos_of_mem hm
    simp only [List.length_cons]; omega
/-- A node that has not ticked yet. -/
structure Fresh (x : Nd) : Prop where
  clock : x.clock = 0
  pass : x.pass = []
  ptgt : x.ptgt = 0
  rels : x.rels = []
  dropped : x.dropped = 0
  dl : DlOk x.dl
structure Nice (n : Nat) (s : Int) (x : Nd) : Prop where
  ok : NdOk x
  self : x.c.self = s
  keys : ∀ m ∈ x.tab, m.k.inc = 1 ∧ m.k.st = 1 ∧ m.k.id ≤ n
  fr : Fresh x
theorem Nice.own {n : Nat} {s : Int} {x : Nd} (h : Nice n s x) : x.own = ⟨s, 1, 1⟩ := by
  obtain ⟨m, hm⟩ := h.ok.self
  have e : x.own = m.k := by simp [Nd.own, atM, hm]
  obtain ⟨h1, h2⟩ := findM_in hm
  obtain ⟨k1, k2, _⟩ := h.keys m h1
  rw [e, show m.k = ⟨m.k.id, m.k.inc, m.k.st⟩ from rfl, k1, k2, h2, h.self]
theorem Nice.left {n : Nat} {s : Int} {x : Nd} (h : Nice n s x) : x.left = false := by simp [Nd.left, h.own]
theorem Nice.len {n : Nat} {s : Int} {x : Nd} (h : Nice n s x) : x.tab.length ≤ n := by
  have := len_sub (x.tab.map fun m => m.k.id) ((List.range n).map (fun j : Nat => (j : Int) + 1)) (by
    rw [List.Nodup, List.pairwise_map]
    exact h.ok.rise.imp (fun {a b} hlt e => by omega)) (fun a ha => by
    obtain ⟨m, hm, rfl⟩ := List.mem_map.1 ha
    have k1 := (key_bounds (h.ok.keys m hm)).1
    have k2 := (h.keys m hm).2.2
    refine List.mem_map.2 ⟨(m.k.id - 1).toNat, List.mem_range.2 (by omega), by omega⟩)
  simpa using this
theorem nice_new (c : Cfg) (hc : cfgB c = true) (n : Nat) (hn : c.self ≤ n) {dl : List Int} (hdl : DlOk dl) : Nice n c.self (Nd.new c dl) := by
  have hid : isIdB c.self = true := by have := hc; simp only [cfgB, Bool.and_eq_true] at this; exact this.1
  refine ⟨⟨hc, by simp [Nd.new], by simp [Nd.new], ?_, ?_, ⟨⟨⟨c.self, 1, 1⟩, 0, 0⟩, by simp [Nd.new, findM]⟩, by simp [Nd.new], by simp [Nd.new], ⟨by simp [Nd.new], by simp [Nd.new], .inl rfl⟩⟩, rfl, ?_, ⟨rfl, rfl, rfl, rfl, rfl, hdl⟩⟩
  · intro m hm
    simp [Nd.new] at hm; subst hm
    simp only [isKeyB, Bool.and_eq_true]
    exact ⟨hid, rfl, rfl⟩
  · intro m hm; simp [Nd.new] at hm; subst hm; exact ⟨Int.le_refl 0, (by decide : (0 : Int) ≤ 8)⟩
  · intro m hm; simp [Nd.new] at hm; subst hm; exact ⟨rfl, rfl, hn⟩
theorem new_b (c : Cfg) (dl : List Int) : NdB 0 (Nd.new c dl) := ⟨⟨by simp [Nd.new], by simp [Nd.new]⟩, ⟨by simp [Nd.new], by simp [Nd.new]⟩, ⟨by simp [Nd.new], by simp [Nd.new]⟩, ⟨by simp [Nd.new], by simp [Nd.new]⟩, ⟨⟨by simp [Nd.new], by simp [Nd.new]⟩, by simp [Nd.new]⟩⟩
def Knows (j : Int) (x : Nd) : Prop := (findM j x.tab).isSome = true
theorem hear_tab {n : Nat} {s : Int} {x : Nd} (h : Nice n s x) (k : K3) (hk : k.inc = 1 ∧ k.st = 1) : (x.hear k).tab = x.tab ∨ ((x.hear k).tab = putM ⟨k, x.clock + x.c.suspect, x.c.sends⟩ x.tab ∧ findM k.id x.tab = none) := by
  unfold Nd.hear
  split
  · left; simp [Nd.hearSelf, hk.2]
  · unfold Nd.hearOther
    split
    · rename_i o ho
      obtain ⟨h1, h2⟩ := findM_in ho
      have := h.keys o h1
      left
      rw [if_neg]
      simp [greaterB, hk.1, hk.2, this.1, this.2.1]
    · rename_i ho
      split
      · left; rfl
      · right
        refine ⟨?_, ho⟩
        simp [Nd.heard, thereB, hk.2, Nd.change]
theorem hear_alive (x : Nd) (k : K3) (hk : k.st = 1) : x.hear k = x ∨ x.hear k = x.change k := by
  unfold Nd.hear
  split
  · left; simp [Nd.hearSelf, hk]
  · unfold Nd.hearOther
    split
    · split
      · right; simp [Nd.heard, thereB, hk]
      · left; rfl
    · split
      · left; rfl
      · right; simp [Nd.heard, thereB, hk]
theorem Fresh.hear {x : Nd} (h : Fresh x) (k : K3) (hk : k.st = 1) : Fresh (x.hear k) := by
  rcases hear_alive x k hk with e | e
  · rw [e]; exact h
  · rw [e]; exact ⟨h.clock, h.pass, h.ptgt, h.rels, h.dropped, h.dl⟩
theorem Nice.hear {n : Nat} {s : Int} {x : Nd} (h : Nice n s x) (k : K3) (hk : k.inc = 1 ∧ k.st = 1) (hid : 1 ≤ k.id ∧ k.id ≤ 250) (hkn : k.id ≤ n) : Nice n s (x.hear k) := by
  have hkey : isKeyB k = true := by
    simp only [isKeyB, Bool.and_eq_true]
    exact ⟨isId_mk hid.1 hid.2, isInc_mk (by omega) (by omega), isSt_mk (by omega) (by omega)⟩
  refine ⟨hear_ok h.ok k hkey, by rw [hear_c]; exact h.self, fun m hm => ?_, h.fr.hear k hk.2⟩
  rcases hear_tab h k hk with e | ⟨e, _⟩
  · rw [e] at hm; exact h.keys m hm
  · rw [e] at hm
    rcases putM_mem hm with rfl | hm
    · exact ⟨hk.1, hk.2, hkn⟩
    · exact h.keys m hm
theorem knows_hear {n : Nat} {s : Int} {x : Nd} (h : Nice n s x) (k : K3) (hk : k.inc = 1 ∧ k.st = 1) {j : Int} (hj : Knows j x) : Knows j (x.hear k) := by
  unfold Knows at *
  rcases hear_tab h k hk with e | ⟨e, _⟩
  · rw [e]; exact hj
  · rw [e, findM_putM _ _ _ h.ok.rise]
    split
    · rfl
    · exact hj
theorem knows_who {n : Nat} {s : Int} {x : Nd} (h : Nice n s x) (hn : n ≤ 7) (k : K3) (hk : k.inc = 1 ∧ k.st = 1) (hne : k.id ≠ s) : Knows k.id (x.hear k) := by
  have hl := h.len
  unfold Knows Nd.hear
  rw [if_neg (by rw [h.self]; exact hne)]
  unfold Nd.hearOther
  split
  · rename_i o ho
    obtain ⟨h1, h2⟩ := findM_in ho
    have := h.keys o h1
    rw [if_neg (by simp [greaterB, hk.1, hk.2, this.1, this.2.1])]
    rw [ho]; rfl
  · rw [if_neg (by omega)]
    simp only [Nd.heard, thereB, hk.2, decide_true, Bool.true_or, if_true, Nd.change]
    rw [findM_putM _ _ _ h.ok.rise, if_pos rfl]; rfl
theorem Nice.hears {n : Nat} {s : Int} : ∀ (l : List K3) {x : Nd}, Nice n s x → (∀ k ∈ l, (k.inc = 1 ∧ k.st = 1) ∧ (1 ≤ k.id ∧ k.id ≤ 250) ∧ k.id ≤ n) → Nice n s (x.hears l) ∧ ∀ j, Knows j x → Knows j (x.hears l)
  | [], _, h, _ => ⟨h, fun _ hj => hj⟩
  | k :: r, x, h, hl => by
    obtain ⟨h1, h2, h3⟩ := hl k (List.mem_cons_self ..)
    obtain ⟨a, b⟩ := Nice.hears r (h.hear k h1 h2 h3) (fun k' hk' => hl k' (List.mem_cons_of_mem _ hk'))
    exact ⟨a, fun j hj => b j (knows_hear h k h1 hj)⟩
/-- Its own Join. -/
def joinM (s q : Int) : M6 := ⟨4, s, 1, q, 0, []⟩
def tableM (s q : Int) (l : List K3) : M6 := ⟨5, s, 1, q, 0, l⟩
theorem join_whole {s q : Int} (hs : 1 ≤ s ∧ s ≤ 250) (hq : 0 ≤ q ∧ q ≤ 4294967295) : wholeB (joinM s q) = true := by
  simp only [wholeB, joinM, Bool.and_eq_true]
  exact ⟨isId_mk hs.1 hs.2, rfl, isSeq_mk hq.1 hq.2, rfl, rfl⟩
theorem Nice.self_id {n : Nat} {s : Int} {x : Nd} (h : Nice n s x) : 1 ≤ s ∧ s ≤ 250 := by rw [← h.self]; exact h.ok.id
theorem Nice.join {n : Nat} {s : Int} {x : Nd} (h : Nice n s x) (i : Int) (hB : NdB 100000 x) : (x.join i).1 = [⟨i, bytesM (joinM s (x.num + 1))⟩] ∧ Nice n s (x.join i).2 := by
  have hn : Nice n s { x with num := x.num + 1 } := ⟨num_ok h.ok _, h.self, h.keys, ⟨h.fr.clock, h.fr.pass, h.fr.ptgt, h.fr.rels, h.fr.dropped, h.fr.dl⟩⟩
  have hb := hB.num
  refine ⟨?_, hn⟩
  show [Pk.mk i (bytesS ⟨4, _, _, x.num + 1, 0, []⟩)] = _
  rw [hn.own]
  have := join_whole h.self_id (q := x.num + 1) (by omega)
  simp only [joinM] at this
  simp only [bytesS, this, if_true]; rfl
theorem Nice.joinErr {n : Nat} {s : Int} {x : Nd} (h : Nice n s x) (i : Int) (hi : 1 ≤ i ∧ i ≤ 250) (hne : i ≠ s) : x.joinErr i = 0 := by
  simp [Nd.joinErr, h.left, isId_mk hi.1 hi.2, h.self, hne]
theorem tab_keys {n : Nat} {s : Int} {x : Nd} (h : Nice n s x) : ∀ k ∈ x.tab.map Mem.k, (k.inc = 1 ∧ k.st = 1) ∧ (1 ≤ k.id ∧ k.id ≤ 250) ∧ k.id ≤ n := by
  intro k hk
  obtain ⟨m, hm, rfl⟩ := List.mem_map.1 hk
  obtain ⟨a, b, c⟩ := h.keys m hm
  exact ⟨⟨a, b⟩, (key_bounds (h.ok.keys m hm)).1, c⟩
theorem table_whole {n : Nat} {s : Int} {x : Nd} (h : Nice n s x) {q : Int} (hq : 0 ≤ q ∧ q ≤ 4294967295) : wholeB (tableM s q (x.tab.map Mem.k)) = true := by
  have hs := h.self_id
  simp only [wholeB, tableM, Bool.and_eq_true]
  refine ⟨isId_mk hs.1 hs.2, rfl, isSeq_mk hq.1 hq.2, ?_, ?_⟩
  · have := h.ok.len
    have e : (x.tab.map Mem.k).length = x.tab.length := by simp
    rw [e]
    simp [suitsB, lowB, highB, this]
  · unfold allB
    rw [List.all_eq_true]
    intro k hk
    obtain ⟨m, hm, rfl⟩ := List.mem_map.1 hk
    exact h.ok.keys m hm
theorem no_deeds {x : Nd} {m : M6} (h4 : m.kind = 4 → DeedOk 49 x m) (h5 : m.kind = 5 → DeedOk 50 x m) (h1 : m.kind = 1 → DeedOk 46 x m) (hk : m.kind = 1 ∨ m.kind = 4 ∨ m.kind = 5) : Deeds x m :=
  ⟨h1, fun h => by omega, fun h => by omega, h4, h5⟩
/-- Another one's Join is received. -/
theorem Nice.got_join {n : Nat} {s t : Int} {x : Nd} (h : Nice n s x) {q : Int} (hq : 0 ≤ q ∧ q ≤ 4294967295) (ht : 1 ≤ t ∧ t ≤ 250) (htn : t ≤ n) (hne : t ≠ s) (hd : decB (bytesM (joinM t q)) = true) (hr : readM (bytesM (joinM t q)) = joinM t q) :
    takesB x.c.self (bytesM (joinM t q)) = true ∧ (x.receive (bytesM (joinM t q))).2 = x.hear ⟨t, 1, 1⟩ ∧ (x.receive (bytesM (joinM t q))).1 = [⟨t, bytesM (tableM s q ((x.hear ⟨t, 1, 1⟩).tab.map Mem.k))⟩] ∧ Nice n s (x.hear ⟨t, 1, 1⟩) := by
  have hfr : (joinM t q).frm = t := rfl
  have htk : takesB x.c.self (bytesM (joinM t q)) = true := by
    unfold takesB
    rw [hd, hr, hfr, h.self]
    simp [hne]
  have hn := h.hear ⟨t, 1, 1⟩ ⟨rfl, rfl⟩ ht htn
  have e : x.receive (bytesM (joinM t q)) = ([(x.hear ⟨t, 1, 1⟩).packet t 5 q 0 ((x.hear ⟨t, 1, 1⟩).tab.map Mem.k)], x.hear ⟨t, 1, 1⟩) := by
    unfold Nd.receive
    rw [htk, hr]
    simp [joinM, Nd.hears, Nd.deed, Nd.takeJoin]
  refine ⟨htk, by rw [e], ?_, hn⟩
  rw [e]
  show [Pk.mk t (bytesS ⟨5, _, _, q, 0, _⟩)] = _
  rw [hn.own]
  have := table_whole hn hq
  simp only [tableM] at this
  simp only [bytesS, this, if_true]; rfl
/-- Another one's Table is received. -/
theorem Nice.got_table {n : Nat} {s t : Int} {x : Nd} (h : Nice n s x) (hn7 : n ≤ 7) {q : Int} {l : List K3} (hl : ∀ k ∈ l, (k.inc = 1 ∧ k.st = 1) ∧ (1 ≤ k.id ∧ k.id ≤ 250) ∧ k.id ≤ n) (ht : 1 ≤ t ∧ t ≤ 250) (htn : t ≤ n) (hne : t ≠ s) (hd : decB (bytesM (tableM t q l)) = true) (hr : readM (bytesM (tableM t q l)) = tableM t q l) :
    takesB x.c.self (bytesM (tableM t q l)) = true ∧ (x.receive (bytesM (tableM t q l))).2 = (x.hear ⟨t, 1, 1⟩).hears l ∧ (x.receive (bytesM (tableM t q l))).1 = [] ∧ Nice n s ((x.hear ⟨t, 1, 1⟩).hears l) ∧ Knows t ((x.hear ⟨t, 1, 1⟩).hears l) ∧ ∀ j, Knows j x → Knows j ((x.hear ⟨t, 1, 1⟩).hears l) := by
  have hfr : (tableM t q l).frm = t := rfl
  have htk : takesB x.c.self (bytesM (tableM t q l)) = true := by
    unfold takesB
    rw [hd, hr, hfr, h.self]
    simp [hne]
  have hn := h.hear ⟨t, 1, 1⟩ ⟨rfl, rfl⟩ ht htn
  obtain ⟨hn2, hk2⟩ := hn.hears l hl
  have e : x.receive (bytesM (tableM t q l)) = ([], (x.hear ⟨t, 1, 1⟩).hears l) := by
    unfold Nd.receive
    rw [htk, hr]
    simp [tableM, Nd.deed]
  exact ⟨htk, by rw [e], by rw [e], hn2, hk2 t (knows_who h hn7 ⟨t, 1, 1⟩ ⟨rfl, rfl⟩ hne), fun j hj => hk2 j (knows_hear h ⟨t, 1, 1⟩ ⟨rfl, rfl⟩ hj)⟩
end Go.Proofs.YtnneljcbelgoeaaGreat.wire
