import Derived.Test.YtnneljcbelgoeaaGreatNSee
import Derived.Test.YtnneljcbelgoeaaGreatNNew
/- Several nodes in memory. -/
namespace Go.Proofs.YtnneljcbelgoeaaGreat.wire
open Go.RowKit Go.Maps

/-- A node, and where it lies. -/
structure Nn where
  nb : Nat
  mb : Nat
  cb : Dk
  pv : Value
  rv : Value
  x : Nd
def Nn.feet (n : Nn) : List Nat := wire.feet n.nb n.mb n.cb n.pv n.rv
def Nn.At (W : World) (n : Nn) : Prop := NAt W n.nb n.mb n.cb n.pv n.rv n.x
structure Nodes (W : World) (L : List Nn) : Prop where
  here : ∀ (i : Nat) (h : i < L.length), (L[i]).At W
  apart : ∀ (i j : Nat) (hi : i < L.length) (hj : j < L.length), i ≠ j → ∀ k ∈ (L[i]).feet, k ∉ (L[j]).feet
theorem Nodes.nil (W : World) : Nodes W [] := ⟨fun _ h => absurd h (by simp), fun _ _ h => absurd h (by simp)⟩
theorem Nodes.below {W W' : World} {L : List Nn} (h : Nodes W L) (hb : Below W.heap.size W W') : Nodes W' L := ⟨fun i hi => (h.here i hi).below hb, h.apart⟩
theorem Nodes.push {W W' : World} {L : List Nn} (h : Nodes W L) (hb : Below W.heap.size W W') {n : Nn} (hn : n.At W') (hf : ∀ k ∈ n.feet, W.heap.size ≤ k) : Nodes W' (L ++ [n]) := by
  have hlt : ∀ (i : Nat) (hi : i < L.length), ∀ k ∈ (L[i]).feet, k < W.heap.size := fun i hi => (h.here i hi).feet_lt
  refine ⟨fun i hi => ?_, fun i j hi hj hne k hk => ?_⟩
  · by_cases h1 : i < L.length
    · rw [List.getElem_append_left h1]; exact (h.here i h1).below hb
    · have : i = L.length := by simp at hi; omega
      subst this; simpa using hn
  · by_cases h1 : i < L.length
    · rw [List.getElem_append_left h1] at hk
      by_cases h2 : j < L.length
      · rw [List.getElem_append_left h2]; exact h.apart i j h1 h2 hne k hk
      · have : j = L.length := by simp at hj; omega
        subst this
        intro hk2
        have a := hlt i h1 k hk
        have b := hf k (by simpa using hk2)
        omega
    · have : i = L.length := by simp at hi; omega
      subst this
      have h2 : j < L.length := by simp at hj; omega
      rw [List.getElem_append_left h2]
      intro hk2
      have a := hlt j h2 k hk2
      have b := hf k (by simpa using hk)
      omega
/-- A call on one of them. -/
theorem Nodes.step {W W' : World} {L : List Nn} (h : Nodes W L) (i : Nat) (hi : i < L.length) {x' : Nd} (ht : NTo W W' (L[i]).nb (L[i]).mb (L[i]).cb (L[i]).pv (L[i]).rv x') :
    ∃ pv rv, Nodes W' (L.set i ⟨(L[i]).nb, (L[i]).mb, (L[i]).cb, pv, rv, x'⟩) ∧ ∀ k ∈ wire.feet (L[i]).nb (L[i]).mb (L[i]).cb pv rv, k ∈ (L[i]).feet ∨ W.heap.size ≤ k := by
  obtain ⟨pv, rv, hn, hf, hs⟩ := ht
  refine ⟨pv, rv, ⟨fun j hj => ?_, fun j k hj hk hne q hq => ?_⟩, hs⟩
  · have hj' : j < L.length := by simpa using hj
    by_cases e : i = j
    · subst e; rw [List.getElem_set_self]; exact hn
    · rw [List.getElem_set_ne e]
      exact (h.here j hj').frm hf (fun k hk hk' => h.apart i j hi hj' e k hk' hk)
  · have hj' : j < L.length := by simpa using hj
    have hk' : k < L.length := by simpa using hk
    by_cases e : i = j
    · subst e
      rw [List.getElem_set_self] at hq
      rw [List.getElem_set_ne hne]
      intro hq2
      rcases hs q hq with h1 | h1
      · exact h.apart i k hi hk' hne q h1 hq2
      · have := (h.here k hk').feet_lt q hq2; omega
    · rw [List.getElem_set_ne e] at hq
      by_cases e2 : i = k
      · subst e2
        rw [List.getElem_set_self]
        intro hq2
        rcases hs q hq2 with h1 | h1
        · exact h.apart j i hj' hi (Ne.symm e) q hq h1
        · have := (h.here j hj').feet_lt q hq; omega
      · rw [List.getElem_set_ne e2]
        exact h.apart j k hj' hk' hne q hq
end Go.Proofs.YtnneljcbelgoeaaGreat.wire
