import Derived.Test.YtnneljcbelgoeaaGreatNDirect
/- What a node does for a message of each kind (P7), first part. -/
namespace Go.Proofs.YtnneljcbelgoeaaGreat.wire
open Go.RowKit Go.Maps

/-- The packets of a call, in new memory. -/
def Outs (W w' : World) (o : Value) (l : List Pk) : Prop := w'.ownsRow W.heap.size 39 2 o l.length (l.flatMap pkC)
theorem outs_nil (W w' : World) : Outs W w' (.slice none 0 0) [] := ⟨rfl, .inl ⟨rfl, rfl⟩⟩
theorem outs_one {W w1 : World} (p : Pk) (h : W.heap.size ≤ w1.heap.size) : Outs W (w1.alloc (.cells #[.int .i64 p.dest, .string (bs p.bytes)] 39)) (.slice (some ⟨w1.heap.size, 0, none⟩) 1 1) [p] :=
  ⟨rfl, .inr ⟨w1.heap.size, 1, _, rfl, h, heap_alloc_new w1 _, Nat.le_refl _, by decide, rfl, rfl⟩⟩
/-- What is asked of the function for a message. -/
def DeedOk (f : Nat) (x : Nd) (m : M6) : Prop := ∀ (nb mb : Nat) (cb : Dk) (pv rv v : Value) (W : World), NAt W nb mb cb pv rv x → KeysAt W v m.ups →
  Calls Tryz.prog f #[.pointer (some ⟨nb, 0, none⟩), .agg #[.int .i64 m.kind, .int .i64 m.frm, .int .i64 m.inc, .int .i64 m.seq, .int .i64 m.tgt, v]] W fun e w' => ∃ o, e = .returned o ∧ Outs W w' o (x.deed m).1 ∧ NTo W w' nb mb cb pv rv (x.deed m).2
set_option maxHeartbeats 1000000 in
theorem next_any {x : Nd} (hB : NdB Big x) {nb mb : Nat} {cb : Dk} {pv rv : Value} {W : World} (hn : NAt W nb mb cb pv rv x) :
    Calls Tryz.prog 39 #[.pointer (some ⟨nb, 0, none⟩)] W fun e w' => e = .returned (.int .i64 (x.num + 1)) ∧ NAt w' nb mb cb pv rv { x with num := x.num + 1 } ∧ Frm [nb] W w' := by
  obtain ⟨n0, n1⟩ := hB.num
  have c13 := hn.c_num
  have f13 := free_at hn.blk 15
  have hset := hn.set 15 (.int .i64 (x.num + 1)) (x' := { x with num := x.num + 1 }) rfl rfl rfl rfl rfl
  have HS := hide hset
  unfold Big at n1
  clear hn hB hset
  go_enter Tryz.func39, Tryz.ntmps39
  go_wp2
  go_ret
  exact ⟨rfl, unhide HS⟩
set_option maxHeartbeats 1000000 in
set_option maxRecDepth 100000 in
/-- A Ping, or what goes as one. -/
theorem ping_go {x : Nd} (hx : NdOk x) (m : M6) {nb mb : Nat} {cb : Dk} {pv rv v : Value} {W : World} (hn : NAt W nb mb cb pv rv x) (hv : KeysAt W v m.ups) :
    Calls Tryz.prog 46 #[.pointer (some ⟨nb, 0, none⟩), .agg #[.int .i64 m.kind, .int .i64 m.frm, .int .i64 m.inc, .int .i64 m.seq, .int .i64 m.tgt, v]] W fun e w' => ∃ o, e = .returned o ∧ Outs W w' o (x.takePing m).1 ∧ NAt w' nb mb cb pv rv (x.takePing m).2 ∧ Frm [mb] W w' := by
  obtain ⟨ao, cap, rfl⟩ := hv.form
  clear hv
  have c0 := hn.c_self
  have hlt := hn.lt
  have hn1 := fun q => (hn.alloc (.cells #[.int .i64 m.kind, .int .i64 m.frm, .int .i64 m.inc, .int .i64 m.seq, .int .i64 m.tgt, .slice ao m.ups.length cap] 29)).drewN q
  have hb1 : ∀ q, Below W.heap.size W ((W.alloc (.cells #[.int .i64 m.kind, .int .i64 m.frm, .int .i64 m.inc, .int .i64 m.seq, .int .i64 m.tgt, .slice ao m.ups.length cap] 29)).drewN q) := fun q => bdrewN ((Below.refl _ _).alloc (Nat.le_refl _) _) q
  by_cases ht : m.tgt = x.c.self
  · have he : x.takePing m = ([x.direct 2 m.frm m.seq m.tgt], x.along) := by simp only [Nd.takePing, ht, if_true]
    have HD := fun q => hide (direct_any hx (hn1 q) 2 m.frm m.seq m.tgt)
    have HB := hide hb1
    have HE := hide he
    have ht' : (m.tgt == x.c.self) = true := by simp [ht]
    clear hn hn1 hb1 he hx ht
    go_enter Tryz.func46, Tryz.ntmps46
    go_wp2
    go_quiet (fail)
    go_wp2_with fail
    refine (unhide (HD _)).mono ?_
    generalize hPK : x.direct 2 m.frm m.seq m.tgt = PK
    have HPK := hide hPK
    clear hPK HD
    rintro e w2 ⟨rfl, hn2, hf2⟩
    have HN2 := hide hn2
    have HF2 := hide ((Frm.of_below (S := [mb]) (unhide HB _) (Nat.le_refl _)).trans hf2 (fun j hj => .inl hj))
    clear hn2 hf2
    go_wp2
    go_ret
    rw [unhide HE, unhide HPK]
    exact ⟨_, rfl, outs_one PK (unhide HF2).size, (unhide HN2).alloc _, (unhide HF2).alloc _⟩
  · have he : x.takePing m = ([], x) := by simp only [Nd.takePing, ht, if_false]
    have HE := hide he
    have HN1 := hide hn1
    have HB := hide hb1
    have ht' : (m.tgt == x.c.self) = false := by simp [ht]
    clear hn hn1 hb1 he hx ht
    go_enter Tryz.func46, Tryz.ntmps46
    go_wp2
    go_quiet (fail)
    go_wp2
    go_ret
    rw [unhide HE]
    exact ⟨_, rfl, outs_nil _ _, unhide HN1 _, Frm.of_below (unhide HB _) (Nat.le_refl _)⟩
theorem NTo.of_mb {W W1 : World} {nb mb : Nat} {cb : Dk} {pv rv : Value} {x1 : Nd} (h : NAt W1 nb mb cb pv rv x1) (hf : Frm [mb] W W1) : NTo W W1 nb mb cb pv rv x1 :=
  ⟨pv, rv, h, (Frm.refl _ W).trans hf (by simp [feet]), fun _ hk => .inl hk⟩
theorem ping_any {x : Nd} (hx : NdOk x) (m : M6) (hk : m.kind = 1) : DeedOk 46 x m := by
  intro nb mb cb pv rv v W hn hv
  refine (ping_go hx m hn hv).mono ?_
  rintro e w' ⟨o, rfl, ho, hn', hf'⟩
  have e1 : x.deed m = x.takePing m := by simp [Nd.deed, hk]
  rw [e1]
  exact ⟨o, rfl, ho, NTo.of_mb hn' hf'⟩
theorem table_any {x : Nd} (m : M6) (hk : m.kind = 5) : DeedOk 50 x m := by
  intro nb mb cb pv rv v W hn hv
  obtain ⟨ao, cap, rfl⟩ := hv.form
  clear hv
  have e1 : x.deed m = ([], x) := by simp [Nd.deed, hk]
  rw [e1]
  have HN := hide hn
  clear hn e1
  go_enter Tryz.func50, Tryz.ntmps50
  go_wp2
  go_ret
  exact ⟨_, rfl, outs_nil _ _, NTo.here (unhide HN) ((Below.refl _ _).alloc (Nat.le_refl _) _)⟩
set_option maxHeartbeats 1000000 in
set_option maxRecDepth 100000 in
theorem join_any {x : Nd} (hx : NdOk x) (m : M6) (hk : m.kind = 4) : DeedOk 49 x m := by
  intro nb mb cb pv rv v W hn hv
  obtain ⟨ao, cap, rfl⟩ := hv.form
  clear hv
  have e1 : x.deed m = ([x.packet m.frm 5 m.seq 0 (x.tab.map Mem.k)], x) := by simp [Nd.deed, hk, Nd.takeJoin]
  rw [e1]
  have hlen := hx.len
  have hn1 := hn.alloc (.cells #[.int .i64 m.kind, .int .i64 m.frm, .int .i64 m.inc, .int .i64 m.seq, .int .i64 m.tgt, .slice ao m.ups.length cap] 29)
  have HM := hide (members_any hx hn1)
  have HN := hide hn
  have HN1 := hide hn1
  have HX := hide hx
  clear hn hn1 hx e1 hk
  go_enter Tryz.func49, Tryz.ntmps49
  go_wp2_with fail
  refine (unhide HM).mono ?_
  rintro e w1 ⟨v1, rfl, ho1, hb1⟩
  have HT := hide (turnMK_any x.tab Mem.k 54 #[] #[] ho1 (by omega) (enters_of Tryz.func54 (by kernel_rfl) rfl) (fun m _ W' _ => key_any m W'))
  have bm := (hb1.block W.heap.size (by simp)).trans (heap_alloc_new W (.cells #[.int .i64 m.kind, .int .i64 m.frm, .int .i64 m.inc, .int .i64 m.seq, .int .i64 m.tgt, .slice ao m.ups.length cap] 29))
  have hb01 : Below W.heap.size W w1 := ((Below.refl _ _).alloc (Nat.le_refl _) _).trans (hb1.mono (by simp))
  have hn1 := (unhide HN1).below hb1
  have HBM := hide bm
  have HB1 := hide hb01
  have HN2 := hide hn1
  clear ho1 hb1 bm hb01 hn1 HM
  go_wp2_with fail
  refine (unhide HT).mono ?_
  obtain ⟨L, hL⟩ : ∃ L, L = x.tab.map Mem.k := ⟨_, rfl⟩
  have hLl : L.length ≤ 8 := by rw [hL]; simpa using hlen
  rw [← hL]
  have HLL := hide hL
  clear hL HT
  rintro e w2 ⟨v2, rfl, ho2, hb2⟩
  obtain ⟨ao2, cap2, rfl⟩ := own_form ho2
  have bm2 := (hb2.block W.heap.size (lt_blk (unhide HBM))).trans (unhide HBM)
  have hb02 : Below W.heap.size W w2 := (unhide HB1).trans (hb2.mono (unhide HB1).size)
  have HP := hide (packet_any (unhide HX) ((unhide HN2).below hb2) m.frm 5 m.seq 0 L _ (keys_of_row ho2) (by omega))
  have m1 := cell_at bm2 1
  have m3 := cell_at bm2 3
  simp only [List.getElem?_toArray, List.getElem?_cons_zero, List.getElem?_cons_succ] at m1 m3
  have HB2 := hide hb02
  clear ho2 hb2 bm2 hb02 HB1 HBM HN2
  go_wp2_with fail
  refine (unhide HP).mono ?_
  generalize hPK : x.packet m.frm 5 m.seq 0 L = PK
  have HPK := hide hPK
  clear hPK HP
  rintro e w3 ⟨rfl, hb3⟩
  have HB3 := hide ((unhide HB2).trans (hb3.mono (unhide HB2).size))
  clear hb3 m1 m3
  go_wp2
  go_ret
  rw [← unhide HLL, unhide HPK]
  exact ⟨_, rfl, outs_one PK (unhide HB3).size, NTo.here (unhide HN) ((unhide HB3).alloc (unhide HB3).size _)⟩
end Go.Proofs.YtnneljcbelgoeaaGreat.wire
