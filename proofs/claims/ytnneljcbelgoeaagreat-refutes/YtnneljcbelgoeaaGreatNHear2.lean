import Derived.Test.YtnneljcbelgoeaaGreatNHear
/- To hear a key of another one (P5). -/
namespace Go.Proofs.YtnneljcbelgoeaaGreat.wire
open Go.RowKit Go.Maps

theorem notId_any (g : Int) {p : Nat} {W : World} (hp : W.heap[p]? = some (.cells #[.int .i64 g] 3 (0, 0))) (i : Int) :
    Calls Tryz.prog 96 #[.int .i64 i, .pointer (some ⟨p, 0, none⟩)] W fun e w' => e = .returned (.bool (i == g)) ∧ Below W.heap.size W w' := by
  have c0 := cell_at hp 0
  simp only [List.getElem?_toArray, List.getElem?_cons_zero] at c0
  clear hp
  go_enter Tryz.func96, Tryz.ntmps96
  go_wp2
  go_ret
  exact ⟨rfl, Below.refl _ _⟩
set_option maxHeartbeats 1000000 in
theorem without_any {l : List Int} (hl : l.length ≤ 1000) (g : Int) {v : Value} {W : World} (hv : PassAt W v l) :
    Calls Tryz.prog 79 #[v, .int .i64 g] W fun e w' => ∃ v', e = .returned v' ∧ w'.ownsRow W.heap.size 3 1 v' (l.filter (fun i => !(i == g))).length ((l.filter (fun i => !(i == g))).flatMap intC) ∧ Below W.heap.size W w' := by
  have HD := hide (dropI_any l (fun i => i == g) 96 #[] #[.pointer (some ⟨W.heap.size, 0, none⟩)] (hv.alloc (.cells #[.int .i64 g] 3)) hl (enters_of Tryz.func96 (by kernel_rfl) rfl) (fun i W' hW' => notId_any g ((hW'.block W.heap.size (by simp)).trans (heap_alloc_new W _)) i))
  clear hv
  go_enter Tryz.func79, Tryz.ntmps79
  go_wp2_with fail
  refine (unhide HD).mono ?_
  rintro e w1 ⟨v', rfl, ho, hb1⟩
  have HO := hide ho
  have HB1 := hide hb1
  clear ho hb1 HD
  go_wp2
  go_ret
  exact ⟨v', rfl, own_mono (unhide HO) (by simp), ((Below.refl _ _).alloc (Nat.le_refl _) _).trans ((unhide HB1).mono (by simp))⟩
set_option maxHeartbeats 2000000 in
set_option maxRecDepth 100000 in
theorem hearOther_any {x : Nd} (hx : NdOk x) (hB : NdB Big x) {nb mb : Nat} {cb : Dk} {pv rv : Value} {W : World} (hn : NAt W nb mb cb pv rv x) (k : K3) (hk : isKeyB k = true) :
    Calls Tryz.prog 45 #[.pointer (some ⟨nb, 0, none⟩), .agg #[.int .i64 k.id, .int .i64 k.inc, .int .i64 k.st]] W fun e w' => e = .returned (.tuple #[]) ∧ NTo W w' nb mb cb pv rv (x.hearOther k) := by
  obtain ⟨⟨k1, k2⟩, ⟨k3, k4⟩, ⟨k5, k6⟩⟩ := key_bounds hk
  have hlen := hx.len
  have hps := hx.pass.len
  have HX := hide hx
  have HN := hide hn
  have HL := hide hB
  have HK := hide hk
  have c7 := hn.c_map
  have hlt := hn.lt
  have hl1 := fun o => look_ok_at (hn.alloc o).map.drew (i := k.id) (by omega) (by omega)
  have hl2 := fun o o' => look_ok_at ((hn.alloc o).alloc o').map.drew (i := k.id) (by omega) (by omega)
  simp only [memv] at hl1 hl2
  have hat : ∀ m, findM k.id x.tab = some m → atM k.id x.tab = m := fun m h => by simp [atM, h]
  have HAT := hide hat
  clear hx hB hk hat hn
  obtain ⟨F, hF⟩ : ∃ F, F = (findM k.id x.tab).isSome := ⟨_, rfl⟩
  obtain ⟨M, hM⟩ : ∃ M, M = atM k.id x.tab := ⟨_, rfl⟩
  rw [← hF, ← hM] at hl1 hl2
  have HF := hide hF
  have HM := hide hM
  clear hF hM
  go_enter Tryz.func45, Tryz.ntmps45
  go_wp2
  go_region
  generalize hw : ((W.alloc (Obj.cells #[Value.int IntKind.i64 k.id, Value.int IntKind.i64 k.inc, Value.int IntKind.i64 k.st] 31)).alloc (Obj.cells #[Value.int IntKind.i64 M.k.id, Value.int IntKind.i64 M.k.inc, Value.int IntKind.i64 M.k.st, Value.int IntKind.i64 M.due, Value.int IntKind.i64 M.sends] 80)).drew = w1
  have hb1 : Below W.heap.size W w1 := by rw [← hw]; exact (((Below.refl _ _).alloc (Nat.le_refl _) _).alloc (by simp) _).drew
  have bk : w1.heap[W.heap.size]? = some (.cells #[.int .i64 k.id, .int .i64 k.inc, .int .i64 k.st] 31 (0, 0)) := by
    rw [← hw]; exact (Below.heap_alloc _ _ _ (by simp)).trans (heap_alloc_new W _)
  have bo : w1.heap[W.heap.size + 1]? = some (.cells #[.int .i64 M.k.id, .int .i64 M.k.inc, .int .i64 M.k.st, .int .i64 M.due, .int .i64 M.sends] 80 (0, 0)) := by
    rw [← hw]
    have := heap_alloc_new (W.alloc (Obj.cells #[Value.int IntKind.i64 k.id, Value.int IntKind.i64 k.inc, Value.int IntKind.i64 k.st] 31)) (Obj.cells #[Value.int IntKind.i64 M.k.id, Value.int IntKind.i64 M.k.inc, Value.int IntKind.i64 M.k.st, Value.int IntKind.i64 M.due, Value.int IntKind.i64 M.sends] 80)
    rw [World.size_alloc] at this
    exact this
  have a0 := cell_at bk 0
  have a1 := cell_at bk 1
  have a2 := cell_at bk 2
  have d0 := cell_at bo 0
  have d1 := cell_at bo 1
  have d2 := cell_at bo 2
  simp only [List.getElem?_toArray, List.getElem?_cons_zero, List.getElem?_cons_succ] at a0 a1 a2 d0 d1 d2
  have HB1 := hide hb1
  have HBK := hide bk
  have hz1 := hb1.size
  have hszk := lt_blk bk
  clear hw bo bk hl1 hl2 c7 hb1
  have hgoes : (x.hearOther k = x ∧ ((F = true ∧ greaterB k M.k = false) ∨ (F = false ∧ 8 ≤ x.tab.length))) ∨ (x.hearOther k = x.heard k ∧ ((F = true ∧ greaterB k M.k = true) ∨ (F = false ∧ ¬ 8 ≤ x.tab.length))) := by
    have h1 := unhide HF
    have h2 := unhide HM
    have h3 := unhide HAT
    unfold Nd.hearOther
    rcases hf : findM k.id x.tab with _ | m
    · rw [hf] at h1
      by_cases h8 : 8 ≤ x.tab.length
      · exact .inl ⟨by simp [h8], .inr ⟨by simpa using h1, h8⟩⟩
      · exact .inr ⟨by simp [h8], .inr ⟨by simpa using h1, h8⟩⟩
    · rw [hf] at h1
      have e := h3 m hf
      rw [e] at h2
      subst h2
      cases hg : greaterB k M.k
      · exact .inl ⟨by simp [hg], .inl ⟨by simpa using h1, rfl⟩⟩
      · exact .inr ⟨by simp [hg], .inl ⟨by simpa using h1, rfl⟩⟩
  clear HF HM HAT
  rcases hgoes with ⟨he, ⟨rfl, hg⟩ | ⟨rfl, h8⟩⟩ | ⟨he, hgo⟩
  · have HE := hide he
    have HG := hide hg
    clear hg he
    go_wp2_with fail
    refine (greater_any k M.k _).mono ?_
    rw [unhide HG]
    rintro e w2 ⟨rfl, hb2⟩
    have HB2 := hide ((unhide HB1).trans (hb2.mono hz1))
    clear hb2
    go_wp2
    refine bodyPost_ret (results_none rfl _ _ _) rfl ?_
    rw [unhide HE]
    exact ⟨rfl, NTo.here (unhide HN) (unhide HB2)⟩
  · have HE := hide he
    clear he
    have b7 := ((unhide HN).below (unhide HB1)).c_map
    have hlm := fun ty => ((unhide HN).below (unhide HB1)).map.len Tryz.underlying64 ty
    rw [tabD_size] at hlm
    have h8' : (8 : Int) ≤ (x.tab.length : Int) := by omega
    go_wp2
    refine bodyPost_ret (results_none rfl _ _ _) rfl ?_
    rw [unhide HE]
    exact ⟨rfl, NTo.here (unhide HN) (unhide HB1)⟩
  · have HE := hide he
    clear he
    rcases hgo with ⟨rfl, hg⟩ | ⟨rfl, h8⟩
    case' inl =>
      have HG := hide hg
      clear hg
      go_wp2_with fail
      refine (greater_any k M.k _).mono ?_
      rw [unhide HG]
      rintro e wq ⟨rfl, hb2⟩
      have HBq := hide ((unhide HB1).trans (hb2.mono hz1))
      have bq := (hb2.block W.heap.size hszk).trans (unhide HBK)
      clear hb2 a0 a1 a2 d0 d1 d2 HG
      have a0 := cell_at bq 0
      have a1 := cell_at bq 1
      have a2 := cell_at bq 2
      simp only [List.getElem?_toArray, List.getElem?_cons_zero, List.getElem?_cons_succ] at a0 a1 a2
      have hzq := lt_blk bq
      have HKq := hide bq
      clear bq hszk HB1 HBK
      go_wp2_with fail
    case' inr =>
      have HBq := HB1
      have HKq := HBK
      have hzq := hszk
      have b7 := ((unhide HN).below (unhide HB1)).c_map
      have hlm := fun ty => ((unhide HN).below (unhide HB1)).map.len Tryz.underlying64 ty
      rw [tabD_size] at hlm
      have h8' : ¬ (8 : Int) ≤ (x.tab.length : Int) := by omega
      clear HB1 HBK hszk
      go_wp2_with fail
      clear b7 hlm h8' h8 d0 d1 d2
    all_goals
      refine (change_any (unhide HX) ((unhide HN).below (unhide HBq)) k (unhide HK) (unhide HL).clock.1 (unhide HL).clock.2 (unhide HL).lost.1 (unhide HL).lost.2).mono ?_
      rintro e w3 ⟨rfl, hn3, hf3⟩
      have hm1 := (unhide HN).lt_mb
      have hm2 := (unhide HN).lt_cb
      have bk3 := (hf3.block W.heap.size hzq (by simp only [List.mem_cons, List.not_mem_nil, or_false]; omega)).trans (unhide HKq)
      have hF3 := (Frm.of_below (S := [nb, mb, cb]) (unhide HBq) (Nat.le_refl _)).trans hf3 (fun j hj => .inl hj)
      clear a0 a1 a2 hf3 HKq
      have a0 := cell_at bk3 0
      have a1 := cell_at bk3 1
      have a2 := cell_at bk3 2
      simp only [List.getElem?_toArray, List.getElem?_cons_zero, List.getElem?_cons_succ] at a0 a1 a2
      have HN3 := hide hn3
      have HF3 := hide hF3
      have hz3 := lt_blk bk3
      have HK3 := hide bk3
      clear hn3 hF3 bk3 hzq
      go_wp2_with fail
      refine (there_any k _).mono ?_
      cases ht : thereB k
      case true =>
        have HT := hide ht
        clear ht
        rintro e w4 ⟨rfl, hb4⟩
        have HB4 := hide hb4
        clear hb4
        go_wp2
        go_end0
        have e1 : x.heard k = x.change k := by simp [Nd.heard, unhide HT]
        rw [unhide HE, e1]
        exact ⟨rfl, NTo.of ((unhide HN3).below (unhide HB4)) ((unhide HF3).step (unhide HB4))⟩
      case false =>
        have HT := hide ht
        clear ht
        rintro e w4 ⟨rfl, hb4⟩
        have HB4 := hide hb4
        clear hb4
        have bk4 := ((unhide HB4).block W.heap.size hz3).trans (unhide HK3)
        have a4 := cell_at bk4 0
        simp only [List.getElem?_toArray, List.getElem?_cons_zero] at a4
        have hn4 := (unhide HN3).below (unhide HB4)
        have hf4 := (unhide HF3).step (unhide HB4)
        have c8 := hn4.c_pass
        have f84 := free_at hn4.blk 9
        have HD := hide (without_any (l := x.pass) (by omega) k.id hn4.drew.pass)
        have HN4 := hide hn4
        have HF4 := hide hf4
        have l4 := lt_blk bk4
        have l5 := hn4.lt
        clear bk4 hn4 hf4 HK3 HN3 HF3 HB4 a0 a1 a2
        go_wp2_with fail
        go_region_with
          (refine (unhide HD).mono ?_; rintro e w5 ⟨v', rfl, ho5, hb50⟩; obtain ⟨ao, cap, rfl⟩ := own_form ho5; have hb5 : Below w4.heap.size w4 w5 := ⟨hb50.os, hb50.tape, hb50.output, hb50.size, hb50.block⟩; have a5 := (hb5.cell (p := ⟨W.heap.size, 0, none⟩) l4).trans a4; have e8 := (hb5.cell (p := ⟨nb, 9, none⟩) l5).trans c8; have f8 := (hb5.frozen (p := ⟨nb, 9, none⟩) l5).trans f84; clear hb50)
        all_goals
         have hn5 := (unhide HN4).below (W' := w5) hb5
         have HN5 := hide hn5
         have HF5 := hide ((unhide HF4).step hb5)
         have HO5 := hide ho5
         have HS5 := hide (unhide HF4).size
         have HAB := hide (heap_lt (unhide HN4).draw.ab)
         clear hn5 ho5 hb5 HD HN4 HF4
         go_wp2
         go_end0
         have e1 : x.heard k = { x.change k with pass := x.pass.filter (fun i => !(i == k.id)) } := by simp [Nd.heard, unhide HT]
         rw [unhide HE, e1]
         obtain ⟨g1, g2⟩ := (unhide HN5).setPass (PassAt.of_own (unhide HO5)) (fun e => by have h1 := (own_lt (unhide HO5) e).1; have h2 := unhide HAB; simp only [World.size_drew] at h1; omega)
         refine ⟨rfl, _, rv, g1, ((Frm.refl _ W).trans (unhide HF5) (by simp [feet])).trans g2 (by simp [feet]), fun j hj => ?_⟩
         simp only [feet, List.mem_cons, List.mem_append, Option.mem_toList] at hj ⊢
         rcases hj with h | h | h | h | h | h
         · exact .inl (.inl h)
         · exact .inl (.inr (.inl h))
         · exact .inl (.inr (.inr (.inl h)))
         · exact .inr (Nat.le_trans (unhide HS5) (own_lt (unhide HO5) h).1)
         · exact .inl (.inr (.inr (.inr (.inr (.inl h)))))
         · exact .inl (.inr (.inr (.inr (.inr (.inr h)))))
end Go.Proofs.YtnneljcbelgoeaaGreat.wire
