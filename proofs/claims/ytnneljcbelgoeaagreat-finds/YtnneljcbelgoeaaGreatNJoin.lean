import Derived.Test.YtnneljcbelgoeaaGreatNReceive2
/- Join and Leave (P8). -/
namespace Go.Proofs.YtnneljcbelgoeaaGreat.wire
open Go.RowKit Go.Maps

theorem num_ok {x : Nd} (h : NdOk x) (n : Int) : NdOk { x with num := n } := ⟨h.cfg, h.rise, h.len, h.keys, h.sends, h.self, h.evs, h.rels, h.pass⟩
set_option maxHeartbeats 1000000 in
set_option maxRecDepth 100000 in
theorem joins_no {x : Nd} (hx : NdOk x) {nb mb : Nat} {cb : Dk} {pv rv : Value} {W : World} (hn : NAt W nb mb cb pv rv x) (i : Int) (he : x.joinErr i ≠ 0) :
    Calls Tryz.prog 20 #[.pointer (some ⟨nb, 0, none⟩), .int .i64 i] W fun e w' => e = .returned (.tuple #[.slice none 0 0, .iface 86 (.int .i64 (x.joinErr i))]) ∧ Below W.heap.size W w' := by
  have HL := hide (left_any hx hn)
  have c0 := fun w' (hb : Below W.heap.size W w') => (hn.below hb).c_self
  cases hL : x.left
  · have he3 : x.joinErr i = 3 ∧ (isIdB i = false ∨ (isIdB i = true ∧ i = x.c.self)) := by
      simp only [Nd.joinErr, hL] at he ⊢
      cases h : isIdB i
      · simp
      · by_cases h2 : i = x.c.self
        · simp [h2]
        · simp [h, h2] at he
    rw [he3.1]
    have HLL := hide hL
    have hc := he3.2
    clear hn hx hL he he3
    rcases hc with h | ⟨h, h2⟩
    · go_enter Tryz.func20, Tryz.ntmps20
      go_wp2_with fail
      refine (unhide HL).mono ?_
      rw [unhide HLL]
      rintro e w1 ⟨rfl, hb1⟩
      have d0 := c0 w1 hb1
      have HB1 := hide hb1
      clear hb1 c0
      go_wp2_with (go_at_call 37; refine (isId_any _ _).mono ?_; rintro e w' ⟨rfl, rfl⟩)
      go_ret2
      exact ⟨rfl, unhide HB1⟩
    · have h2' : (i == x.c.self) = true := by simp [h2]
      clear h2
      go_enter Tryz.func20, Tryz.ntmps20
      go_wp2_with fail
      refine (unhide HL).mono ?_
      rw [unhide HLL]
      rintro e w1 ⟨rfl, hb1⟩
      have d0 := c0 w1 hb1
      have HB1 := hide hb1
      clear hb1 c0
      go_wp2_with (go_at_call 37; refine (isId_any _ _).mono ?_; rintro e w' ⟨rfl, rfl⟩)
      go_ret2
      exact ⟨rfl, unhide HB1⟩
  · have he4 : x.joinErr i = 4 := by simp [Nd.joinErr, hL]
    rw [he4]
    have HLL := hide hL
    clear hn hx hL he he4 c0
    go_enter Tryz.func20, Tryz.ntmps20
    go_wp2_with fail
    refine (unhide HL).mono ?_
    rw [unhide HLL]
    rintro e w1 ⟨rfl, hb1⟩
    have HB1 := hide hb1
    clear hb1
    go_wp2
    go_ret2
    exact ⟨rfl, unhide HB1⟩
set_option maxHeartbeats 1000000 in
set_option maxRecDepth 100000 in
theorem joins_yes {x : Nd} (hx : NdOk x) (hB : NdB Big x) {nb mb : Nat} {cb : Dk} {pv rv : Value} {W : World} (hn : NAt W nb mb cb pv rv x) (i : Int) (he : x.joinErr i = 0) :
    Calls Tryz.prog 20 #[.pointer (some ⟨nb, 0, none⟩), .int .i64 i] W fun e w' => ∃ o, e = .returned (.tuple #[o, .nilIface]) ∧ Outs W w' o (x.join i).1 ∧ NAt w' nb mb cb pv rv (x.join i).2 ∧ Frm [nb] W w' := by
  have HL := hide (left_any hx hn)
  have c0 := fun w' (hb : Below W.heap.size W w') => (hn.below hb).c_self
  have hc : x.left = false ∧ isIdB i = true ∧ ¬ i = x.c.self := by
    unfold Nd.joinErr at he
    split at he
    · cases he
    · rename_i h
      split at he
      · rename_i h2; simp at h2; exact ⟨by simpa using h, h2.1, h2.2⟩
      · cases he
  obtain ⟨hL, h1, h2⟩ := hc
  have h2' : (i == x.c.self) = false := by simp [h2]
  have HLL := hide hL
  have HX := hide hx
  have HB := hide hB
  have HN := hide hn
  clear hn hx hL he hB
  go_enter Tryz.func20, Tryz.ntmps20
  go_wp2_with fail
  refine (unhide HL).mono ?_
  rw [unhide HLL]
  rintro e w1 ⟨rfl, hb1⟩
  have d0 := c0 w1 hb1
  have HNX := hide (next_any (unhide HB) ((unhide HN).below hb1))
  have HB1 := hide hb1
  clear hb1 c0 HL
  go_wp2_with (go_at_call 37; refine (isId_any _ _).mono ?_; rintro e w' ⟨rfl, rfl⟩)
  refine (unhide HNX).mono ?_
  rintro e w2 ⟨rfl, hn2, hf2⟩
  have HP := hide (packet_any (num_ok (unhide HX) (x.num + 1)) hn2 i 4 (x.num + 1) 0 [] (.slice none 0 0) (.inl ⟨rfl, rfl⟩) (by simp))
  have HN2 := hide hn2
  have HF2 := hide ((Frm.of_below (S := [nb]) (unhide HB1) (Nat.le_refl _)).trans hf2 (fun j hj => .inl hj))
  clear hn2 hf2 HNX d0
  go_wp2_with fail
  refine (unhide HP).mono ?_
  generalize hPK : Nd.packet _ i 4 (x.num + 1) 0 [] = PK
  have HPK := hide hPK
  clear hPK HP
  rintro e w3 ⟨rfl, hb3⟩
  have HN3 := hide ((unhide HN2).below hb3)
  have HF3 := hide ((unhide HF2).step hb3)
  clear hb3
  go_wp2
  go_ret2
  refine ⟨_, rfl, ?_, (unhide HN3).alloc _, (unhide HF3).alloc _⟩
  have e1 : (x.join i).1 = [PK] := by rw [← unhide HPK]; rfl
  rw [e1]
  exact outs_one PK (unhide HF3).size
end Go.Proofs.YtnneljcbelgoeaaGreat.wire
