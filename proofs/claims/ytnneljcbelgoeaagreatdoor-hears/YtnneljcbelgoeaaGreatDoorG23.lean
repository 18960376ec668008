import Derived.Test.YtnneljcbelgoeaaGreatDoorG21
import Derived.Test.YtnneljcbelgoeaaGreatDoorG22
/- What the document's node keeps to, out of what the program's does. -/
namespace Go.Proofs.YtnneljcbelgoeaaGreatDoor.wire
open Go.RowKit Go.Maps

/-- Its numbers are small. -/
structure RBs (r : Rn) : Prop extends RBd r where
  out : r.out.length ≤ 900
  qs : ∀ u ∈ r.queue, -1000000 ≤ u.sent ∧ u.sent ≤ 1000000
  rels : r.rels.length ≤ 4
  seq : 0 ≤ r.seq ∧ r.seq ≤ 1000000000000
  period : 4 ≤ r.c.period ∧ r.c.period ≤ 50
  wait : 1 ≤ r.c.wait ∧ r.c.wait ≤ 50
  prox : 0 ≤ r.c.proxies ∧ r.c.proxies ≤ 3
  dropped : 0 ≤ r.dropped ∧ r.dropped ≤ 1000000000000
  drawn : r.drawn ≤ 1000000000000
  dl : DlOk r.draws
  plen : r.pass.length ≤ 8
theorem RBs.of {x : Nd} {r : Rn} (hf : Rf x r) (hx : NdOk x) (hB : NdB Big x) (hdl : DlOk x.dl) (ho : r.out.length ≤ 900) : RBs r := by
  have hcf := hx.cfg
  simp only [cfgB, Bool.and_eq_true, decide_eq_true_eq] at hcf
  obtain ⟨_, p, w, s, px, sn⟩ := hcf
  have hql : r.queue.length ≤ 8 := by
    rw [hf.queue.length_eq, List.length_map]
    exact Nat.le_trans (List.length_filter_le _ _) hx.len
  unfold Big at hB
  refine ⟨⟨?_, by omega, ?_, ?_, ?_, ?_, ?_, ?_⟩, ho, fun u hu => ?_, ?_, ?_, ?_, ?_, ?_, ?_, ?_, ?_, ?_⟩
  · rw [hf.evs]; exact hx.evs
  · rw [hf.lost]; exact hB.lost
  · rw [hf.clock]; exact hB.clock
  · rw [hf.c]; omega
  · have := rest_len hx
    have := hx.len
    rw [hf.others, List.length_map]; omega
  · rw [hf.others]
    refine List.pairwise_map.2 ?_
    exact (hx.rise.filter _)
  · rw [hf.pass]; have := hx.pass.len; omega
  · obtain ⟨m, hm, rfl⟩ := List.mem_map.1 (hf.queue.mem_iff.1 hu)
    have := hx.sends m (List.mem_filter.1 hm).1
    show -1000000 ≤ x.c.sends - m.sends ∧ x.c.sends - m.sends ≤ 1000000
    omega
  · rw [hf.rels]; exact hx.rels
  · rw [hf.seq]; exact hB.num
  · rw [hf.c]; omega
  · rw [hf.c]; omega
  · rw [hf.c]; omega
  · rw [hf.dropped]; exact hB.dropped
  · rw [hf.drawn]; have := hB.tk.2; omega
  · rw [hf.draws]; exact hdl
  · rw [hf.pass]; exact hx.pass.len
theorem RBs.plain {r : Rn} (h : RBs r) : r.out.length ≤ 1000 ∧ r.queue.length ≤ 1000 := ⟨by have := h.out; omega, h.queue⟩
end Go.Proofs.YtnneljcbelgoeaaGreatDoor.wire
