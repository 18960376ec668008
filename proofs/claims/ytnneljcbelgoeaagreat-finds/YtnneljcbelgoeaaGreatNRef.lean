import Derived.Test.YtnneljcbelgoeaaGreatNNice
/- Who is suspected speaks up. No Go here. -/
namespace Go.Proofs.YtnneljcbelgoeaaGreat.wire

/-- What the node is told. -/
def accM (N S : Int) : M6 := ⟨1, 2, 1, 77, 1, [⟨1, N, S⟩]⟩
theorem acc_whole {N S : Int} (hN : 1 ≤ N ∧ N ≤ 1073741823) (hS : S = 2 ∨ S = 3) : wholeB (accM N S) = true := by
  simp only [wholeB, accM, Bool.and_eq_true]
  refine ⟨rfl, rfl, rfl, rfl, ?_⟩
  simp only [allB, List.all_cons, List.all_nil, Bool.and_true, isKeyB, Bool.and_eq_true]
  exact ⟨rfl, isInc_mk hN.1 (by show N ≤ 1073741824; omega), isSt_mk (by show 1 ≤ S; omega) (by show S ≤ 4; omega)⟩
/-- The node behind it. -/
def Nd.accused (x : Nd) (N S : Int) : Nd := (x.hear ⟨2, 1, 1⟩).hear ⟨1, N, S⟩
theorem accused_is {n : Nat} {x : Nd} (h : Nice n 1 x) {N S : Int} (hN : 1 ≤ N ∧ N ≤ 1073741823) (hS : S = 2 ∨ S = 3) : x.hear ⟨1, N, S⟩ = x.change ⟨1, N + 1, 1⟩ := by
  have ho := h.own
  have hl := h.left
  unfold Nd.hear
  rw [if_pos (show (1 : Int) = x.c.self from h.self.symm)]
  unfold Nd.hearSelf
  rw [ho, hl]
  rw [if_neg]
  simp
  omega
structure Spoke (x y : Nd) (N : Int) : Prop where
  ok : NdOk y
  self : y.c.self = 1
  own : y.own = ⟨1, N + 1, 1⟩
  told : ⟨1, N + 1, 1⟩ ∈ y.picks.map Mem.k
  few : (y.picks.map Mem.k).length ≤ 4
theorem spoke {x : Nd} (h : Nice 2 1 x) {N S : Int} (hN : 1 ≤ N ∧ N ≤ 1073741823) (hS : S = 2 ∨ S = 3) : Spoke x (x.accused N S) N := by
  have h1 := h.hear ⟨2, 1, 1⟩ ⟨rfl, rfl⟩ ⟨by decide, by decide⟩ (by decide)
  have e : x.accused N S = (x.hear ⟨2, 1, 1⟩).change ⟨1, N + 1, 1⟩ := accused_is h1 hN hS
  have hk : isKeyB ⟨1, N, S⟩ = true := by
    simp only [isKeyB, Bool.and_eq_true]
    exact ⟨rfl, isInc_mk hN.1 (by show N ≤ 1073741824; omega), isSt_mk (by show 1 ≤ S; omega) (by show S ≤ 4; omega)⟩
  have hok : NdOk (x.accused N S) := hear_ok h1.ok _ hk
  generalize x.hear ⟨2, 1, 1⟩ = y1 at h1 e
  have hself : y1.c.self = 1 := h1.self
  have hlen := h1.len
  have htab : (y1.change ⟨1, N + 1, 1⟩).tab = putM ⟨⟨1, N + 1, 1⟩, y1.clock + y1.c.suspect, y1.c.sends⟩ y1.tab := rfl
  have hfind : findM 1 (y1.change ⟨1, N + 1, 1⟩).tab = some ⟨⟨1, N + 1, 1⟩, y1.clock + y1.c.suspect, y1.c.sends⟩ := by
    rw [htab, findM_putM _ _ _ h1.ok.rise, if_pos rfl]
  have hmem := (findM_in hfind).1
  have hsome : (findM 1 y1.tab).isSome = true := by
    obtain ⟨m, hm⟩ := h1.ok.self
    rw [hself] at hm; rw [hm]; rfl
  have htl : (y1.change ⟨1, N + 1, 1⟩).tab.length ≤ 2 := by
    rw [htab, putM_len _ _ h1.ok.rise]
    show (if (findM 1 y1.tab).isSome then y1.tab.length else y1.tab.length + 1) ≤ 2
    rw [if_pos hsome]; exact hlen
  rw [e] at hok ⊢
  have hs := h1.ok.cfgs.2.2.2.1
  refine ⟨hok, hself, ?_, ?_, by simpa using picks_len _⟩
  · show (atM y1.c.self _).k = _
    rw [hself]; unfold atM; rw [hfind]; rfl
  · refine List.mem_map.2 ⟨⟨⟨1, N + 1, 1⟩, y1.clock + y1.c.suspect, y1.c.sends⟩, ?_, rfl⟩
    unfold Nd.picks
    have hf : ((y1.change ⟨1, N + 1, 1⟩).tab.filter pendB).length ≤ 2 := Nat.le_trans (List.length_filter_le _ _) htl
    rw [List.take_of_length_le (by rw [sortM_len]; omega)]
    refine (sortM_perm _).mem_iff.2 (List.mem_filter.2 ⟨hmem, ?_⟩)
    simp [pendB]; omega
/-- Its answer. -/
def ansM (y : Nd) (N : Int) : M6 := ⟨2, 1, N + 1, 77, 1, y.picks.map Mem.k⟩
theorem ans_whole {x y : Nd} {N : Int} (h : Spoke x y N) (hN : 1 ≤ N ∧ N ≤ 1073741823) : wholeB (ansM y N) = true := by
  simp only [wholeB, ansM, Bool.and_eq_true]
  refine ⟨rfl, isInc_mk (by omega) (by omega), rfl, ?_, ?_⟩
  · have := h.few
    simp only [suitsB, lowB]
    simp at this
    simp [isIdB, this]
  · unfold allB
    rw [List.all_eq_true]
    intro k hk
    obtain ⟨m, hm, rfl⟩ := List.mem_map.1 hk
    exact h.ok.keys m (picks_mem hm).1
theorem got_acc {x : Nd} (h : Nice 2 1 x) {N S : Int} (hN : 1 ≤ N ∧ N ≤ 1073741823) (hS : S = 2 ∨ S = 3) (hd : decB (bytesM (accM N S)) = true) (hr : readM (bytesM (accM N S)) = accM N S) :
    takesB x.c.self (bytesM (accM N S)) = true ∧ (x.receive (bytesM (accM N S))).2 = (x.accused N S).along ∧ (x.receive (bytesM (accM N S))).1 = [⟨2, bytesM (ansM (x.accused N S) N)⟩] := by
  have hsp := spoke h hN hS
  have hfr : (accM N S).frm = 2 := rfl
  have htk : takesB x.c.self (bytesM (accM N S)) = true := by
    unfold takesB
    rw [hd, hr, hfr, h.self]; rfl
  have e : x.receive (bytesM (accM N S)) = (x.accused N S).takePing (accM N S) := by
    unfold Nd.receive
    rw [htk, hr]
    simp [accM, Nd.hears, Nd.deed, Nd.accused]
  have e2 : (x.accused N S).takePing (accM N S) = ([(x.accused N S).direct 2 2 77 1], (x.accused N S).along) := by
    simp [Nd.takePing, accM, hsp.self]
  refine ⟨htk, by rw [e, e2], ?_⟩
  rw [e, e2]
  show [Pk.mk 2 (bytesS ⟨2, _, _, 77, 1, _⟩)] = _
  rw [along_own hsp.ok, hsp.own]
  have := ans_whole hsp hN
  simp only [ansM] at this
  simp only [bytesS, this, if_true]; rfl
end Go.Proofs.YtnneljcbelgoeaaGreat.wire
