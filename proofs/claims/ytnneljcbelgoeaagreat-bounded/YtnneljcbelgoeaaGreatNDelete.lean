import Derived.Test.YtnneljcbelgoeaaGreatNTick5
import Derived.Test.YtnneljcbelgoeaaGreatShelf
/- slices.Delete of one number. -/
namespace Go.Proofs.YtnneljcbelgoeaaGreat.wire
open Go.RowKit Go.Maps Go.Sort

theorem IntsAt.holds {w : World} {g n : Nat} {l : List Int} (h : IntsAt w g n l) : Holds (Value.int .i64) w g 0 l.toArray := by
  obtain ⟨cur, hg, hs, hc⟩ := h.ex
  intro i hi
  have hi' : i < l.length := by simpa using hi
  refine ⟨?_, free_at hg _⟩
  rw [cell_at hg, Nat.zero_add, hc i hi', getElem!_pos l.toArray i hi]
  simp
theorem IntsAt.put {w : World} {g n : Nat} {l : List Int} (h : IntsAt w g n l) (d : List Int) (hd : d.length = l.length) (q : Nat) : IntsAt (putRow (Value.int .i64) (Sort.ahead w q) g 0 d.toArray) g n d ∧ Frm [g] w (putRow (Value.int .i64) (Sort.ahead w q) g 0 d.toArray) := by
  obtain ⟨cur, hg, hs, hc⟩ := h.ex
  have hlt : g < w.heap.size := lt_blk hg
  refine ⟨⟨putCells (Value.int .i64) 0 d.toArray cur, ?_, by simp [putCells, hs], fun i hi => ?_⟩, ⟨rfl, rfl, rfl, ?_, fun k hk hn => ?_⟩⟩
  · simp only [putRow, mapBlock, Sort.ahead]
    rw [Array.getElem?_modify, if_pos rfl, hg]
    rfl
  · have hcs : i < cur.size := (Array.getElem?_eq_some_iff.1 (hc i (by omega))).1
    simp only [putCells]
    rw [Array.getElem?_mapIdx, Array.getElem?_eq_getElem hcs, Option.map_some, if_pos (by simp; omega), Nat.sub_zero, getElem!_pos d.toArray i (by simpa using hi)]
    simp
  · simp [putRow, mapBlock, Sort.ahead]
  · simp only [putRow, mapBlock, Sort.ahead]
    rw [Array.getElem?_modify, if_neg (fun e => hn (by simp [e]))]
theorem delete_any {w : World} {g n cap : Nat} {l : List Int} (h : IntsAt w g n l) (hcap : l.length ≤ cap) (hm : cap ≤ maxLen) (j : Nat) (hj : j < l.length) :
    Calls Tryz.prog 89 #[.slice (some ⟨g, 0, none⟩) l.length cap, .int .i64 j, .int .i64 ((j : Int) + 1)] w fun e w' => e = .returned (.slice (some ⟨g, 0, none⟩) (l.length - 1) cap) ∧ IntsAt w' g n (l.eraseIdx j) ∧ Frm [g] w w' := by
  have hD := AnyG.slices_Delete_int Tryz.delA g 0 cap j (j + 1) l w h.holds hcap (by unfold maxLen at hm; omega) (by omega) (by omega)
  rw [show ((j + 1 : Nat) : Int) = (j : Int) + 1 by simp] at hD
  refine hD.mono ?_
  rintro e w' ⟨rfl, q, rfl⟩
  rw [show j + 1 - j = 1 by omega]
  have hlen : (l.take j ++ l.drop (j + 1) ++ List.replicate 1 (0 : Int)).length = l.length := by simp; omega
  obtain ⟨hi, hf⟩ := h.put (l.take j ++ l.drop (j + 1) ++ List.replicate 1 0) hlen q
  refine ⟨rfl, ?_, hf⟩
  obtain ⟨cur, hg, hs, hc⟩ := hi.ex
  refine ⟨cur, hg, hs, fun i hi => ?_⟩
  have hel : l.eraseIdx j = l.take j ++ l.drop (j + 1) := List.eraseIdx_eq_take_drop_succ l j
  have hi2 : i < (l.take j ++ l.drop (j + 1)).length := by rw [← hel]; exact hi
  have := hc i (by simp at hi2 ⊢; omega)
  rw [this, List.getElem_append_left hi2]
  simp only [hel]
end Go.Proofs.YtnneljcbelgoeaaGreat.wire
