import Derived.Conc.LoneSelect
import Derived.WalkKit
/- A FUNCTION WHOSE BODY HOLDS A SELECT: its other regions by the walk, the select by the machine's own step. -/
namespace Go.Proofs.YtnneljcbelgoeaaGreatDoor.wire
open Go.RowKit Go.Conc

section
variable {P : Program} {R : Goroutine → World → Prop} {b : Frame} {a : Act} {k : List Item} {cs : List Frame} {w : World}
/-- One part by the walk, the rest behind it. -/
theorem lone_seq {x y : Code} (h : x.wp P (fun e a' w' => e = .normal ∧ LoneTo P R (G (b.at a' (.code y :: k)) cs) w') a w) : LoneTo P R (G (b.at a (.code (.seq x y) :: k)) cs) w := by
  obtain ⟨e, a', w', ⟨rfl, g', w'', hs, hq⟩, harr⟩ := h b (.code y :: k) cs
  exact ⟨g', w'', (Steps.head step_seq harr).trans hs, hq⟩
theorem lone_split {x y : Code} (h : LoneTo P R (G (b.at a (.code x :: .code y :: k)) cs) w) : LoneTo P R (G (b.at a (.code (.seq x y) :: k)) cs) w := by
  obtain ⟨g', w', hs, hq⟩ := h
  exact ⟨g', w', Steps.head step_seq hs, hq⟩
/-- One part by the walk, what is still to do behind it. -/
theorem lone_part {x : Code} (h : x.wp P (fun e a' w' => e = .normal ∧ LoneTo P R (G (b.at a' k) cs) w') a w) : LoneTo P R (G (b.at a (.code x :: k)) cs) w := by
  obtain ⟨e, a', w', ⟨rfl, g', w'', hs, hq⟩, harr⟩ := h b k cs
  exact ⟨g', w'', Steps.trans harr hs, hq⟩
/-- The last part: it ends as a body does. -/
theorem lone_last {fn : Func} {f : FuncId} {x : Code} {R : Ending → World → Prop} (hf : P.funcs[f]? = some fn) (hbf : b.fn = f) (hbk : b.kind = .normal) (hno : ∀ w', ¬ R .outgrown w') (h : x.wp P (bodyPost P fn R) a w) :
    LoneTo P (fun g' w' => ∃ e fr, g' = G fr cs ∧ R e w' ∧ fr.fn = f ∧ fr.leaving P w' e) (G (b.at a [.code x]) cs) w := by
  obtain ⟨e, a', w', hq, harr⟩ := h b [] cs
  cases e with
  | normal =>
    obtain ⟨hd, v, hr, hR⟩ := hq
    exact ⟨_, w', Steps.trans harr (.one step_end), .returned v, _, rfl, hR, hbf, rfl, hd, hbk, fn, by subst hbf; exact hf, hr⟩
  | ret =>
    obtain ⟨hd, v, hr, hR⟩ := hq
    obtain ⟨todo, hs⟩ := harr
    exact ⟨_, w', hs, .returned v, _, rfl, hR, hbf, rfl, hd, hbk, fn, hbf ▸ hf, hr⟩
  | panic chain =>
    obtain ⟨hd, hR⟩ := hq
    obtain ⟨todo, hs⟩ := harr
    exact ⟨_, w', hs, .panicked chain, _, rfl, hR, hbf, rfl, hd, fn, hbf ▸ hf⟩
  | exit id => exact hq.elim
  | goto l => exact hq.elim
  | outgrown => exact absurd hq (hno _)
theorem calls_lone {f : FuncId} {fn : Func} {c : Code} {args : Array Value} {R : Ending → World → Prop} (hf : P.funcs[f]? = some fn) (hb : fn.body = some c) (hno : ∀ w', ¬ R .outgrown w')
    (h : ∀ (cs : List Frame) (b : Frame), b.fn = f → b.kind = .normal → LoneTo P (fun g' w' => ∃ e fr, g' = G fr cs ∧ R e w' ∧ fr.fn = f ∧ fr.leaving P w' e) (G (b.at { tmps := args ++ Array.replicate (fn.ntmps - args.size) undef, defers := [] } [.code c]) cs) w) : Calls P f args w R := by
  refine calls_of_loneTo (fun cs => ?_) hno
  have henter : Frame.enter P f args .normal = ({ (default : Frame) with fn := f, kind := .normal } : Frame).at { tmps := args ++ Array.replicate (fn.ntmps - args.size) undef, defers := [] } [.code c] := by
    simp [Frame.enter, Frame.at, hf, hb]
  rw [henter]
  exact h cs _ rfl rfl
/-- A region whose first operation is a communication that the machine takes in one step. -/
theorem lone_comm0 {id : Nat} {ops : Array Oper} {o : Oper} {res : Value} {w1 : World} (ho : ops[0]? = some o)
    (hst : step P (solo (G (b.at a (.inRegion ops (0 :: (List.range ops.size).drop 1) :: k)) cs) w) = .next (solo (G ((b.at a (.inRegion ops (0 :: (List.range ops.size).drop 1) :: k)).finish res) cs) w1))
    (h : wpOps P ops (fun e a' w' => e = .normal ∧ LoneTo P R (G (b.at a' k) cs) w') ((List.range ops.size).drop 1) (a.put o.dst res) w1) :
    LoneTo P R (G (b.at a (.code (.region id ops false) :: k)) cs) w := by
  obtain ⟨e, a', w', ⟨rfl, g', w'', hs, hq⟩, harr⟩ := wp_ops _ _ _ h b k cs
  have hn : 0 < ops.size := by
    rcases Nat.eq_zero_or_pos ops.size with h | h
    · rw [Array.getElem?_eq_none (by omega)] at ho; cases ho
    · exact h
  have e1 : List.range ops.size = 0 :: (List.range ops.size).drop 1 := by
    obtain ⟨n, hn'⟩ : ∃ n, ops.size = n + 1 := ⟨ops.size - 1, by omega⟩
    rw [hn', List.range_succ_eq_map]; rfl
  rw [Frame.finish_at, ho] at hst
  refine ⟨g', w'', (Steps.head step_region ?_).trans (Steps.trans harr hs), hq⟩
  rw [e1]
  exact .one hst
theorem lone_comm {id : Nat} {ops : Array Oper} {o : Oper} {l : List Oper} {res : Value} {w1 : World} (hol : ops.toList = o :: l)
    (hst : step P (solo (G (b.at a (.inRegion ops (0 :: (List.range ops.size).drop 1) :: k)) cs) w) = .next (solo (G ((b.at a (.inRegion ops (0 :: (List.range ops.size).drop 1) :: k)).finish res) cs) w1))
    (h : wpList P ops (fun e a' w' => e = .normal ∧ LoneTo P R (G (b.at a' k) cs) w') l (a.put o.dst res) w1) :
    LoneTo P R (G (b.at a (.code (.region id ops false) :: k)) cs) w := by
  have ho : ops[0]? = some o := by rw [← Array.getElem?_toList, hol]; rfl
  have hsz : ops.size = l.length + 1 := by rw [← Array.length_toList, hol]; rfl
  refine lone_comm0 ho hst ?_
  have e1 : (List.range ops.size).drop 1 = List.range' 1 l.length := by
    rw [hsz, List.range_eq_range', List.drop_range']; simp
  rw [e1, wpOps_eq_wpList l 1 (fun j => by rw [← Array.getElem?_toList, hol, Nat.add_comm, List.getElem?_cons_succ])]
  exact h
variable {id : Nat} {ops : Array Oper} {o : Oper} {l : List Oper} {cb cap s r : Nat} {buf : Array Value} {tm : Bool} {val z : Value}
/-- A select of one send with a default; there is room. -/
theorem lone_send_room (hkind : b.kind ≠ .early) (hol : ops.toList = o :: l) (hw : Region.wanted o (yielded ops a.tmps) = true) (hr : (execOp a.eval o).run P w = .ok (.comm #[scase cb val z] false .select) w)
    (hc : w.heap[cb]? = some (.chan cap buf false s r tm)) (hroom : buf.size < cap)
    (h : wpList P ops (fun e a' w' => e = .normal ∧ LoneTo P R (G (b.at a' k) cs) w') l (a.put o.dst (.tuple #[goInt 0, .bool false])) (w.setChan cb cap (buf.push val) false (s + 1) r tm)) :
    LoneTo P R (G (b.at a (.code (.region id ops false) :: k)) cs) w :=
  lone_comm hol (step_lone_select_send_room (stepG_comm (by rw [← Array.getElem?_toList, hol]; rfl) hw hkind hr) hc hroom) h
/-- .. there is none. -/
theorem lone_send_full (hkind : b.kind ≠ .early) (hol : ops.toList = o :: l) (hw : Region.wanted o (yielded ops a.tmps) = true) (hr : (execOp a.eval o).run P w = .ok (.comm #[scase cb val z] false .select) w)
    (hc : w.heap[cb]? = some (.chan cap buf false s r tm)) (hfull : cap ≤ buf.size)
    (h : wpList P ops (fun e a' w' => e = .normal ∧ LoneTo P R (G (b.at a' k) cs) w') l (a.put o.dst (.tuple #[goInt (-1), .bool false])) w) :
    LoneTo P R (G (b.at a (.code (.region id ops false) :: k)) cs) w :=
  lone_comm hol (step_lone_select_send_full (stepG_comm (by rw [← Array.getElem?_toList, hol]; rfl) hw hkind hr) hc hfull) h
/-- A select of one receive with a default; there is something. -/
theorem lone_recv_some (hkind : b.kind ≠ .early) (hol : ops.toList = o :: l) (hw : Region.wanted o (yielded ops a.tmps) = true) (hr : (execOp a.eval o).run P w = .ok (.comm #[rcase cb z] false .select) w)
    (hc : w.heap[cb]? = some (.chan cap buf false s r tm)) (hsome : 0 < buf.size)
    (h : wpList P ops (fun e a' w' => e = .normal ∧ LoneTo P R (G (b.at a' k) cs) w') l (a.put o.dst (.tuple #[goInt 0, .bool true, buf.getD 0 undef])) (w.setChan cb cap (buf.extract 1 buf.size) false s (r + 1) tm)) :
    LoneTo P R (G (b.at a (.code (.region id ops false) :: k)) cs) w :=
  lone_comm hol (step_lone_select_recv_buf (stepG_comm (by rw [← Array.getElem?_toList, hol]; rfl) hw hkind hr) hc hsome) h
/-- .. there is nothing. -/
theorem lone_recv_none (hkind : b.kind ≠ .early) (hol : ops.toList = o :: l) (hw : Region.wanted o (yielded ops a.tmps) = true) (hr : (execOp a.eval o).run P w = .ok (.comm #[rcase cb z] false .select) w)
    (hc : w.heap[cb]? = some (.chan cap #[] false s r tm))
    (h : wpList P ops (fun e a' w' => e = .normal ∧ LoneTo P R (G (b.at a' k) cs) w') l (a.put o.dst (.tuple #[goInt (-1), .bool false, z])) w) :
    LoneTo P R (G (b.at a (.code (.region id ops false) :: k)) cs) w :=
  lone_comm hol (step_lone_select_default (stepG_comm (by rw [← Array.getElem?_toList, hol]; rfl) hw hkind hr) hc) h
end
end Go.Proofs.YtnneljcbelgoeaaGreatDoor.wire
