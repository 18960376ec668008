import Derived.Test.YtnneljcbelgoeaaGreatDoorG06
import Derived.Shelf.Abstract
/- Package list: Turn, Drop. (Written by wip/gen/mklist.py.) -/
namespace Go.Proofs.YtnneljcbelgoeaaGreatDoor.wire
open Go.RowKit Go.Maps

theorem Tryz.infoKL : (Tryz.prog.info? 76).map (fun i => (i.zero, i.size, i.bytes)) = some (some (.agg #[.int .i64 0, .int .i64 0, .int .i64 0]), 3, 24) := by kernel_rfl
set_option maxHeartbeats 2000000 in
theorem turnMK_at (l : List Mem) (f : Mem → K3) (g : Nat) (pre lb : Array Value) (b off cap : Nat) (w : World) (hb : b < w.heap.size) (hl : l.length ≤ 1000) (hrow : rowsM w b off l) (eg : ∀ args w, (callFunc g args).run Tryz.prog w = .ok (.enter g args) w)
    (hp : ∀ m ∈ l, ∀ W, Below w.heap.size w W → Calls Tryz.prog g (pre ++ #[.agg #[.int .i64 m.k.id, .int .i64 m.k.inc, .int .i64 m.k.st, .int .i64 m.due, .int .i64 m.sends]] ++ lb) W fun e w' => e = .returned (.agg #[.int .i64 ((f m)).id, .int .i64 ((f m)).inc, .int .i64 ((f m)).st]) ∧ Below W.heap.size W w') :
    Calls Tryz.prog 140 #[.slice (some ⟨b, off, none⟩) l.length cap, .func (.func g) pre lb] w fun e w' => ∃ v', e = .returned v' ∧ w'.ownsRow w.heap.size 76 3 v' (l.map f).length ((l.map f).flatMap keyC) ∧ Below w.heap.size w w' := by
  obtain ⟨ti, hti, hz0, hz1, hz2⟩ := info_parts Tryz.infoKL
  have HP := hide hp
  clear hp
  go_enter Tryz.func140, Tryz.ntmps140
  go_wp2
  go_loopw [5, 10] (fun o i wr => ∃ k : Nat, k ≤ l.length ∧ i = .int .i64 k ∧ Hid (wr.ownsRow w.heap.size 76 3 o k (((l.take k).map f).flatMap keyC)) ∧ Below w.heap.size w wr) (fun _ i _ => l.length - (Go.RowKit.intOf i).toNat)
  case atStart => exact ⟨0, Nat.zero_le _, rfl, ⟨rfl, .inl ⟨rfl, rfl⟩⟩, Below.refl _ _⟩
  case round =>
    rename_i o i
    obtain ⟨k, hk, rfl, HO, hbel⟩ := hrel
    by_cases hlt : k < l.length
    · have hrk := hrow k hlt
      have hsz := hbel.size
      have hft : (l.take (k + 1)).map f = (l.take k).map f ++ [f l[k]] := by
        rw [List.take_succ_eq_append_getElem hlt, List.map_append]; rfl
      have HFT := hide hft
      have HC := hide ((unhide HP) l[k] (List.getElem_mem hlt))
      clear hft
      generalize l[k] = K at hrk HFT HC
      obtain ⟨c0, c1, c2, c3, c4⟩ := hrk
      have d0 := (hbel.cell (p := ⟨b, off + k * 5, none⟩) hb).trans c0
      have d1 := (hbel.cell (p := ⟨b, off + k * 5 + 1, none⟩) hb).trans c1
      have d2 := (hbel.cell (p := ⟨b, off + k * 5 + 2, none⟩) hb).trans c2
      have d3 := (hbel.cell (p := ⟨b, off + k * 5 + 3, none⟩) hb).trans c3
      have d4 := (hbel.cell (p := ⟨b, off + k * 5 + 4, none⟩) hb).trans c4
      clear c0 c1 c2 c3 c4
      go_wp2_with fail
      refine ((unhide HC) _ (hbel.alloc hsz _)).mono ?_
      rintro e w1 ⟨rfl, hb1⟩
      have hbel1 : Below w.heap.size w w1 := (hbel.alloc (by have := hbel.size; omega) _).trans (hb1.mono (by simp; omega))
      have HO1 := hide (own_below2 (HO.out.alloc _) hb1)
      have HB := hide hbel1
      have hs1 := hbel1.size
      clear hb1 hbel1 d0 d1 d2 d3 d4 HO HC
      go_wp2_with (at_builtin; refine wpList_append_own _ rfl _ _ 46 rfl w.heap.size 76 ti (.agg #[.int .i64 0, .int .i64 0, .int .i64 0]) 3 24 Tryz.underlying46 hti hz0 hz1 hz2 rfl (by decide) _ _ _ rfl ((unhide HO1).alloc _) ⟨w1.heap.size, 0, none⟩ 1 1 [.int .i64 ((f K)).id, .int .i64 ((f K)).inc, .int .i64 ((f K)).st] rfl rfl ?c1 ?c2 ?c3 ?c4 ?c5 ?_)
      case c1 => exact World.news_of_block (heap_alloc_new w1 _)
      case c2 => intro u hu; simp at hu; rcases hu with rfl | rfl | rfl <;> rfl
      case c3 => unfold maxLen; omega
      case c4 => omega
      case c5 => simp; omega
      intro v' w2 hown' hgrow _
      have hbel2 : Below w.heap.size w w2 := ((unhide HB).alloc hs1 _).grown hgrow (by simp; omega) (fun j hj => (own_lt (unhide HO1) hj).1)
      have HO2 := hide hown'
      have HB2 := hide hbel2
      clear hown' hgrow hbel2
      go_wp2
      go_roundw
      case rel =>
        refine ⟨k + 1, by omega, by go_num, ?_, unhide HB2⟩
        rw [unhide HFT]
        exact hide (by simpa [keyC] using unhide HO2)
      case measure => simp [Go.RowKit.intOf]; omega
    · have e : k = l.length := by omega
      rw [e, List.take_length] at HO
      go_wp2
      go_ret
      exact ⟨_, rfl, by simpa using HO.out, hbel⟩
theorem turnMK_nil (f : Mem → K3) (fv : Value) (w : World) : Calls Tryz.prog 140 #[.slice none 0 0, fv] w fun e w' => ∃ v', e = .returned v' ∧ w'.ownsRow w.heap.size 76 3 v' (([] : List Mem).map f).length ((([] : List Mem).map f).flatMap keyC) ∧ Below w.heap.size w w' := by
  go_enter Tryz.func140, Tryz.ntmps140
  go_wp2
  refine wp_loop_rounds 1 ?_
  rw [rounds_succ]
  go_wp2
  go_ret
  exact ⟨_, rfl, ⟨rfl, .inl ⟨rfl, rfl⟩⟩, Below.refl _ _⟩
theorem turnMK_any (l : List Mem) (f : Mem → K3) (g : Nat) (pre lb : Array Value) {v : Value} {w : World} {base : Nat} (hv : w.ownsRow base 150 5 v l.length (l.flatMap memC)) (hl : l.length ≤ 1000) (eg : ∀ args w, (callFunc g args).run Tryz.prog w = .ok (.enter g args) w)
    (hp : ∀ m ∈ l, ∀ W, Below w.heap.size w W → Calls Tryz.prog g (pre ++ #[.agg #[.int .i64 m.k.id, .int .i64 m.k.inc, .int .i64 m.k.st, .int .i64 m.due, .int .i64 m.sends]] ++ lb) W fun e w' => e = .returned (.agg #[.int .i64 ((f m)).id, .int .i64 ((f m)).inc, .int .i64 ((f m)).st]) ∧ Below W.heap.size W w') :
    Calls Tryz.prog 140 #[v, .func (.func g) pre lb] w fun e w' => ∃ v', e = .returned v' ∧ w'.ownsRow w.heap.size 76 3 v' (l.map f).length ((l.map f).flatMap keyC) ∧ Below w.heap.size w w' := by
  have hv0 := hv
  rcases hv.2 with ⟨rfl, h0⟩ | ⟨b, cap, cur, rfl, hb, hg, _⟩
  · obtain rfl : l = [] := List.length_eq_zero_iff.1 h0
    exact turnMK_nil f _ w
  · exact turnMK_at l f g pre lb b 0 cap w (lt_blk hg) hl (rowM hv0) eg hp
set_option maxHeartbeats 2000000 in
theorem turnIM_at (l : List Int) (f : Int → Mem) (g : Nat) (pre lb : Array Value) (b off cap : Nat) (w : World) (hb : b < w.heap.size) (hl : l.length ≤ 1000) (hrow : rowsI w b off l) (eg : ∀ args w, (callFunc g args).run Tryz.prog w = .ok (.enter g args) w)
    (hp : ∀ m ∈ l, ∀ W, Below w.heap.size w W → Calls Tryz.prog g (pre ++ #[.int .i64 m] ++ lb) W fun e w' => e = .returned (.agg #[.int .i64 ((f m)).k.id, .int .i64 ((f m)).k.inc, .int .i64 ((f m)).k.st, .int .i64 ((f m)).due, .int .i64 ((f m)).sends]) ∧ Below W.heap.size W w') :
    Calls Tryz.prog 131 #[.slice (some ⟨b, off, none⟩) l.length cap, .func (.func g) pre lb] w fun e w' => ∃ v', e = .returned v' ∧ w'.ownsRow w.heap.size 150 5 v' (l.map f).length ((l.map f).flatMap memC) ∧ Below w.heap.size w w' := by
  obtain ⟨ti, hti, hz0, hz1, hz2⟩ := info_parts Tryz.infoML
  have HP := hide hp
  clear hp
  go_enter Tryz.func131, Tryz.ntmps131
  go_wp2
  go_loopw [5, 10] (fun o i wr => ∃ k : Nat, k ≤ l.length ∧ i = .int .i64 k ∧ Hid (wr.ownsRow w.heap.size 150 5 o k (((l.take k).map f).flatMap memC)) ∧ Below w.heap.size w wr) (fun _ i _ => l.length - (Go.RowKit.intOf i).toNat)
  case atStart => exact ⟨0, Nat.zero_le _, rfl, ⟨rfl, .inl ⟨rfl, rfl⟩⟩, Below.refl _ _⟩
  case round =>
    rename_i o i
    obtain ⟨k, hk, rfl, HO, hbel⟩ := hrel
    by_cases hlt : k < l.length
    · have hrk := hrow k hlt
      have hsz := hbel.size
      have hft : (l.take (k + 1)).map f = (l.take k).map f ++ [f l[k]] := by
        rw [List.take_succ_eq_append_getElem hlt, List.map_append]; rfl
      have HFT := hide hft
      have HC := hide ((unhide HP) l[k] (List.getElem_mem hlt))
      clear hft
      generalize l[k] = K at hrk HFT HC
      have c0 := hrk
      clear hrk
      have d0 := (hbel.cell (p := ⟨b, off + k, none⟩) hb).trans c0
      clear c0
      go_wp2_with fail
      refine ((unhide HC) _ (hbel)).mono ?_
      rintro e w1 ⟨rfl, hb1⟩
      have hbel1 : Below w.heap.size w w1 := hbel.trans (hb1.mono hbel.size)
      have HO1 := hide (own_below2 HO.out hb1)
      have HB := hide hbel1
      have hs1 := hbel1.size
      clear hb1 hbel1 d0 HO HC
      go_wp2_with (at_builtin; refine wpList_append_own _ rfl _ _ 163 rfl w.heap.size 150 ti (.agg #[.int .i64 0, .int .i64 0, .int .i64 0, .int .i64 0, .int .i64 0]) 5 40 Tryz.underlying163 hti hz0 hz1 hz2 rfl (by decide) _ _ _ rfl ((unhide HO1).alloc _) ⟨w1.heap.size, 0, none⟩ 1 1 [.int .i64 ((f K)).k.id, .int .i64 ((f K)).k.inc, .int .i64 ((f K)).k.st, .int .i64 ((f K)).due, .int .i64 ((f K)).sends] rfl rfl ?c1 ?c2 ?c3 ?c4 ?c5 ?_)
      case c1 => exact World.news_of_block (heap_alloc_new w1 _)
      case c2 => intro u hu; simp at hu; rcases hu with rfl | rfl | rfl | rfl | rfl <;> rfl
      case c3 => unfold maxLen; omega
      case c4 => omega
      case c5 => simp; omega
      intro v' w2 hown' hgrow _
      have hbel2 : Below w.heap.size w w2 := ((unhide HB).alloc hs1 _).grown hgrow (by simp; omega) (fun j hj => (own_lt (unhide HO1) hj).1)
      have HO2 := hide hown'
      have HB2 := hide hbel2
      clear hown' hgrow hbel2
      go_wp2
      go_roundw
      case rel =>
        refine ⟨k + 1, by omega, by go_num, ?_, unhide HB2⟩
        rw [unhide HFT]
        exact hide (by simpa [memC] using unhide HO2)
      case measure => simp [Go.RowKit.intOf]; omega
    · have e : k = l.length := by omega
      rw [e, List.take_length] at HO
      go_wp2
      go_ret
      exact ⟨_, rfl, by simpa using HO.out, hbel⟩
theorem turnIM_nil (f : Int → Mem) (fv : Value) (w : World) : Calls Tryz.prog 131 #[.slice none 0 0, fv] w fun e w' => ∃ v', e = .returned v' ∧ w'.ownsRow w.heap.size 150 5 v' (([] : List Int).map f).length ((([] : List Int).map f).flatMap memC) ∧ Below w.heap.size w w' := by
  go_enter Tryz.func131, Tryz.ntmps131
  go_wp2
  refine wp_loop_rounds 1 ?_
  rw [rounds_succ]
  go_wp2
  go_ret
  exact ⟨_, rfl, ⟨rfl, .inl ⟨rfl, rfl⟩⟩, Below.refl _ _⟩
theorem turnIM_any (l : List Int) (f : Int → Mem) (g : Nat) (pre lb : Array Value) {v : Value} {w : World} {base : Nat} (hv : w.ownsRow base 3 1 v l.length (l.flatMap intC)) (hl : l.length ≤ 1000) (eg : ∀ args w, (callFunc g args).run Tryz.prog w = .ok (.enter g args) w)
    (hp : ∀ m ∈ l, ∀ W, Below w.heap.size w W → Calls Tryz.prog g (pre ++ #[.int .i64 m] ++ lb) W fun e w' => e = .returned (.agg #[.int .i64 ((f m)).k.id, .int .i64 ((f m)).k.inc, .int .i64 ((f m)).k.st, .int .i64 ((f m)).due, .int .i64 ((f m)).sends]) ∧ Below W.heap.size W w') :
    Calls Tryz.prog 131 #[v, .func (.func g) pre lb] w fun e w' => ∃ v', e = .returned v' ∧ w'.ownsRow w.heap.size 150 5 v' (l.map f).length ((l.map f).flatMap memC) ∧ Below w.heap.size w w' := by
  have hv0 := hv
  rcases hv.2 with ⟨rfl, h0⟩ | ⟨b, cap, cur, rfl, hb, hg, _⟩
  · obtain rfl : l = [] := List.length_eq_zero_iff.1 h0
    exact turnIM_nil f _ w
  · exact turnIM_at l f g pre lb b 0 cap w (lt_blk hg) hl (rowI hv0) eg hp
set_option maxHeartbeats 1000000 in
theorem dropM_any (l : List Mem) (p : Mem → Bool) (g : Nat) (pre lb : Array Value) {v : Value} {w : World} {base : Nat} (hv : w.ownsRow base 150 5 v l.length (l.flatMap memC)) (hl : l.length ≤ 1000) (eg : ∀ args w, (callFunc g args).run Tryz.prog w = .ok (.enter g args) w)
    (hp : ∀ m W, Below w.heap.size w W → Calls Tryz.prog g (pre ++ #[.agg #[.int .i64 m.k.id, .int .i64 m.k.inc, .int .i64 m.k.st, .int .i64 m.due, .int .i64 m.sends]] ++ lb) W fun e w' => e = .returned (.bool (p m)) ∧ Below W.heap.size W w') :
    Calls Tryz.prog 141 #[v, .func (.func g) pre lb] w fun e w' => ∃ v', e = .returned v' ∧ w'.ownsRow w.heap.size 150 5 v' (l.filter (fun m => !(p m))).length ((l.filter (fun m => !(p m))).flatMap memC) ∧ Below w.heap.size w w' := by
  have hclo : ∀ m W, Below (w.alloc (.cells #[.func (.func g) pre lb] 166)).heap.size (w.alloc (.cells #[.func (.func g) pre lb] 166)) W → Calls Tryz.prog 159 (#[] ++ #[.agg #[.int .i64 m.k.id, .int .i64 m.k.inc, .int .i64 m.k.st, .int .i64 m.due, .int .i64 m.sends]] ++ #[.pointer (some ⟨w.heap.size, 0, none⟩)]) W fun e w' => e = .returned (.bool (!(p m))) ∧ Below W.heap.size W w' := by
    intro m W hb
    have hcell : W.cell? ⟨w.heap.size, 0, none⟩ = some (.func (.func g) pre lb) := (hb.cell (p := ⟨w.heap.size, 0, none⟩) (by simp)).trans (by simp)
    have hsz : w.heap.size < W.heap.size := by have := hb.size; simp at this; omega
    have hB : Below w.heap.size w W := ((Below.refl _ _).alloc (Nat.le_refl _) _).trans (hb.mono (by simp))
    have HC := fun W' (hb' : Below W.heap.size W W') => hide (hp m W' (hB.trans (hb'.mono hB.size)))
    clear hb hB hp hv
    simp only [List.append_toArray, List.nil_append, List.cons_append]
    go_enter Tryz.func159, Tryz.ntmps159
    go_wp2_with fail
    refine (unhide (HC _ ((Below.refl _ _).alloc (Nat.le_refl _) _))).mono ?_
    rintro e w1 ⟨rfl, hb1⟩
    have HB1 := hide hb1
    clear hb1 HC
    go_wp2
    go_ret
    have hb1 := unhide HB1
    exact ⟨rfl, ((Below.refl _ _).alloc (Nat.le_refl _) _).trans (hb1.mono (by simp))⟩
  have HK := fun v' w' hb => hide (keepM_any l (fun m => !(p m)) 159 #[] #[.pointer (some ⟨w.heap.size, 0, none⟩)] (v := v') (w := w') (base := base) hb hl (enters_of Tryz.func159 (by kernel_rfl) rfl))
  have HV := hide (HK v _ (hv.alloc (.cells #[.func (.func g) pre lb] 166)) |> fun h => (unhide h) hclo)
  clear HK hv hp hclo
  go_enter Tryz.func141, Tryz.ntmps141
  go_wp2_with fail
  refine (unhide HV).mono ?_
  rintro e w1 ⟨v', rfl, ho, hb1⟩
  have HO := hide ho
  have HB1 := hide hb1
  clear ho hb1 HV
  go_wp2
  go_ret
  exact ⟨v', rfl, own_mono (unhide HO) (by simp), ((Below.refl _ _).alloc (Nat.le_refl _) _).trans ((unhide HB1).mono (by simp))⟩
set_option maxHeartbeats 1000000 in
theorem dropR_any (l : List Rel) (p : Rel → Bool) (g : Nat) (pre lb : Array Value) {v : Value} {w : World} {base : Nat} (hv : w.ownsRow base 161 5 v l.length (l.flatMap relC)) (hl : l.length ≤ 1000) (eg : ∀ args w, (callFunc g args).run Tryz.prog w = .ok (.enter g args) w)
    (hp : ∀ m W, Below w.heap.size w W → Calls Tryz.prog g (pre ++ #[.agg #[.int .i64 m.tgt, .int .i64 m.num, .int .i64 m.asker, .int .i64 m.under, .int .i64 m.till]] ++ lb) W fun e w' => e = .returned (.bool (p m)) ∧ Below W.heap.size W w') :
    Calls Tryz.prog 92 #[v, .func (.func g) pre lb] w fun e w' => ∃ v', e = .returned v' ∧ w'.ownsRow w.heap.size 161 5 v' (l.filter (fun m => !(p m))).length ((l.filter (fun m => !(p m))).flatMap relC) ∧ Below w.heap.size w w' := by
  have hclo : ∀ m W, Below (w.alloc (.cells #[.func (.func g) pre lb] 162)).heap.size (w.alloc (.cells #[.func (.func g) pre lb] 162)) W → Calls Tryz.prog 128 (#[] ++ #[.agg #[.int .i64 m.tgt, .int .i64 m.num, .int .i64 m.asker, .int .i64 m.under, .int .i64 m.till]] ++ #[.pointer (some ⟨w.heap.size, 0, none⟩)]) W fun e w' => e = .returned (.bool (!(p m))) ∧ Below W.heap.size W w' := by
    intro m W hb
    have hcell : W.cell? ⟨w.heap.size, 0, none⟩ = some (.func (.func g) pre lb) := (hb.cell (p := ⟨w.heap.size, 0, none⟩) (by simp)).trans (by simp)
    have hsz : w.heap.size < W.heap.size := by have := hb.size; simp at this; omega
    have hB : Below w.heap.size w W := ((Below.refl _ _).alloc (Nat.le_refl _) _).trans (hb.mono (by simp))
    have HC := fun W' (hb' : Below W.heap.size W W') => hide (hp m W' (hB.trans (hb'.mono hB.size)))
    clear hb hB hp hv
    simp only [List.append_toArray, List.nil_append, List.cons_append]
    go_enter Tryz.func128, Tryz.ntmps128
    go_wp2_with fail
    refine (unhide (HC _ ((Below.refl _ _).alloc (Nat.le_refl _) _))).mono ?_
    rintro e w1 ⟨rfl, hb1⟩
    have HB1 := hide hb1
    clear hb1 HC
    go_wp2
    go_ret
    have hb1 := unhide HB1
    exact ⟨rfl, ((Below.refl _ _).alloc (Nat.le_refl _) _).trans (hb1.mono (by simp))⟩
  have HK := fun v' w' hb => hide (keepR_any l (fun m => !(p m)) 128 #[] #[.pointer (some ⟨w.heap.size, 0, none⟩)] (v := v') (w := w') (base := base) hb hl (enters_of Tryz.func128 (by kernel_rfl) rfl))
  have HV := hide (HK v _ (hv.alloc (.cells #[.func (.func g) pre lb] 162)) |> fun h => (unhide h) hclo)
  clear HK hv hp hclo
  go_enter Tryz.func92, Tryz.ntmps92
  go_wp2_with fail
  refine (unhide HV).mono ?_
  rintro e w1 ⟨v', rfl, ho, hb1⟩
  have HO := hide ho
  have HB1 := hide hb1
  clear ho hb1 HV
  go_wp2
  go_ret
  exact ⟨v', rfl, own_mono (unhide HO) (by simp), ((Below.refl _ _).alloc (Nat.le_refl _) _).trans ((unhide HB1).mono (by simp))⟩
set_option maxHeartbeats 1000000 in
theorem dropI_any (l : List Int) (p : Int → Bool) (g : Nat) (pre lb : Array Value) {v : Value} {w : World} (hv : PassAt w v l) (hl : l.length ≤ 1000) (eg : ∀ args w, (callFunc g args).run Tryz.prog w = .ok (.enter g args) w)
    (hp : ∀ m W, Below w.heap.size w W → Calls Tryz.prog g (pre ++ #[.int .i64 m] ++ lb) W fun e w' => e = .returned (.bool (p m)) ∧ Below W.heap.size W w') :
    Calls Tryz.prog 155 #[v, .func (.func g) pre lb] w fun e w' => ∃ v', e = .returned v' ∧ w'.ownsRow w.heap.size 3 1 v' (l.filter (fun m => !(p m))).length ((l.filter (fun m => !(p m))).flatMap intC) ∧ Below w.heap.size w w' := by
  have hclo : ∀ m W, Below (w.alloc (.cells #[.func (.func g) pre lb] 107)).heap.size (w.alloc (.cells #[.func (.func g) pre lb] 107)) W → Calls Tryz.prog 165 (#[] ++ #[.int .i64 m] ++ #[.pointer (some ⟨w.heap.size, 0, none⟩)]) W fun e w' => e = .returned (.bool (!(p m))) ∧ Below W.heap.size W w' := by
    intro m W hb
    have hcell : W.cell? ⟨w.heap.size, 0, none⟩ = some (.func (.func g) pre lb) := (hb.cell (p := ⟨w.heap.size, 0, none⟩) (by simp)).trans (by simp)
    have hsz : w.heap.size < W.heap.size := by have := hb.size; simp at this; omega
    have hB : Below w.heap.size w W := ((Below.refl _ _).alloc (Nat.le_refl _) _).trans (hb.mono (by simp))
    have HC := fun W' (hb' : Below W.heap.size W W') => hide (hp m W' (hB.trans (hb'.mono hB.size)))
    clear hb hB hp hv
    simp only [List.append_toArray, List.nil_append, List.cons_append]
    go_enter Tryz.func165, Tryz.ntmps165
    go_wp2_with fail
    refine (unhide (HC _ (Below.refl _ _))).mono ?_
    rintro e w1 ⟨rfl, hb1⟩
    have HB1 := hide hb1
    clear hb1 HC
    go_wp2
    go_ret
    have hb1 := unhide HB1
    exact ⟨rfl, hb1⟩
  have HK := fun v' w' hb => hide (keepI_any l (fun m => !(p m)) 165 #[] #[.pointer (some ⟨w.heap.size, 0, none⟩)] (v := v') (w := w') hb hl (enters_of Tryz.func165 (by kernel_rfl) rfl))
  have HV := hide (HK v _ (hv.alloc (.cells #[.func (.func g) pre lb] 107)) |> fun h => (unhide h) hclo)
  clear HK hv hp hclo
  go_enter Tryz.func155, Tryz.ntmps155
  go_wp2_with fail
  refine (unhide HV).mono ?_
  rintro e w1 ⟨v', rfl, ho, hb1⟩
  have HO := hide ho
  have HB1 := hide hb1
  clear ho hb1 HV
  go_wp2
  go_ret
  exact ⟨v', rfl, own_mono (unhide HO) (by simp), ((Below.refl _ _).alloc (Nat.le_refl _) _).trans ((unhide HB1).mono (by simp))⟩
end Go.Proofs.YtnneljcbelgoeaaGreatDoor.wire
/- Package list: Keep of keys, Turn of keys into ids. (Written by wip/gen/mklist.py.) -/
namespace Go.Proofs.YtnneljcbelgoeaaGreatDoor.wire
open Go.RowKit Go.Maps

def rowsK (w : World) (b off : Nat) (l : List K3) : Prop := ∀ (i : Nat) (h : i < l.length), w.cell? ⟨b, off + i * 3, none⟩ = some (.int .i64 l[i].id) ∧ w.cell? ⟨b, off + i * 3 + 1, none⟩ = some (.int .i64 l[i].inc) ∧ w.cell? ⟨b, off + i * 3 + 2, none⟩ = some (.int .i64 l[i].st)
theorem lenK (l : List K3) : (l.flatMap keyC).length = l.length * 3 := by
  induction l with
  | nil => rfl
  | cons a r ih => simp only [List.flatMap_cons, List.length_append, ih, List.length_cons, keyC, List.length_nil]; omega
theorem getK : ∀ (l : List K3) (i : Nat) (h : i < l.length) (j : Nat), j < 3 → (l.flatMap keyC)[i * 3 + j]? = (keyC l[i])[j]?
  | a :: r, 0, _, j, hj => by
    rw [List.flatMap_cons, List.getElem?_append_left (by simp [keyC]; omega)]; simp
  | a :: r, i + 1, h, j, hj => by
    rw [List.flatMap_cons, List.getElem?_append_right (by simp [keyC]; omega)]
    have := getK r i (by simpa using h) j hj
    simp only [List.getElem_cons_succ]
    rw [← this]
    congr 1
    simp [keyC]; omega
theorem rowK {w : World} {base b cap n : Nat} {l : List K3} (h : w.ownsRow base 76 3 (.slice (some ⟨b, 0, none⟩) n cap) l.length (l.flatMap keyC)) : rowsK w b 0 l := by
  intro i hi
  rcases h.2 with ⟨e, _⟩ | ⟨g, cap', cur, e, hb, hg, h1, h2, h3, h4⟩
  · cases e
  · cases e
    have hc : ∀ j, j < 3 → w.cell? ⟨b, 0 + i * 3 + j, none⟩ = (keyC l[i])[j]? := fun j hj => by
      rw [cell_at hg, ← getK l i hi j hj, ← h4, List.getElem?_take, if_pos (by have : (i + 1) * 3 ≤ l.length * 3 := Nat.mul_le_mul_right _ hi; omega), Array.getElem?_toList, Nat.zero_add]
    exact ⟨hc 0 (by omega), hc 1 (by omega), hc 2 (by omega)⟩
set_option maxHeartbeats 2000000 in
theorem keepK_at (l : List K3) (p : K3 → Bool) (g : Nat) (pre lb : Array Value) (b off cap : Nat) (w : World) (hb : b < w.heap.size) (hl : l.length ≤ 1000) (hrow : rowsK w b off l) (eg : ∀ args w, (callFunc g args).run Tryz.prog w = .ok (.enter g args) w)
    (hp : ∀ m W, Below w.heap.size w W → Calls Tryz.prog g (pre ++ #[.agg #[.int .i64 m.id, .int .i64 m.inc, .int .i64 m.st]] ++ lb) W fun e w' => e = .returned (.bool (p m)) ∧ Below W.heap.size W w') :
    Calls Tryz.prog 136 #[.slice (some ⟨b, off, none⟩) l.length cap, .func (.func g) pre lb] w fun e w' => ∃ v', e = .returned v' ∧ w'.ownsRow w.heap.size 76 3 v' (l.filter p).length ((l.filter p).flatMap keyC) ∧ Below w.heap.size w w' := by
  obtain ⟨ti, hti, hz0, hz1, hz2⟩ := info_parts Tryz.infoKL
  have HP := hide hp
  clear hp
  go_enter Tryz.func136, Tryz.ntmps136
  go_wp2
  go_loopw [5, 10] (fun o i wr => ∃ k : Nat, k ≤ l.length ∧ i = .int .i64 k ∧ Hid (wr.ownsRow w.heap.size 76 3 o ((l.take k).filter p).length (((l.take k).filter p).flatMap keyC)) ∧ Below w.heap.size w wr) (fun _ i _ => l.length - (Go.RowKit.intOf i).toNat)
  case atStart => exact ⟨0, Nat.zero_le _, rfl, ⟨rfl, .inl ⟨rfl, rfl⟩⟩, Below.refl _ _⟩
  case round =>
    rename_i o i
    obtain ⟨k, hk, rfl, HO, hbel⟩ := hrel
    by_cases hlt : k < l.length
    · have hrk := hrow k hlt
      have hsz := hbel.size
      have hfl : ((l.take k).filter p).length ≤ 1000 := Nat.le_trans (List.length_filter_le _ _) (by simp; omega)
      have hft : (l.take (k + 1)).filter p = (l.take k).filter p ++ (if p l[k] then [l[k]] else []) := by
        rw [List.take_succ_eq_append_getElem hlt, List.filter_append]; cases h : p l[k] <;> simp [h]
      have HFT := hide hft
      clear hft
      generalize l[k] = K at hrk HFT
      obtain ⟨c0, c1, c2⟩ := hrk
      have d0 := (hbel.cell (p := ⟨b, off + k * 3, none⟩) hb).trans c0
      have d1 := (hbel.cell (p := ⟨b, off + k * 3 + 1, none⟩) hb).trans c1
      have d2 := (hbel.cell (p := ⟨b, off + k * 3 + 2, none⟩) hb).trans c2
      clear c0 c1 c2
      cases hq : p K
      all_goals
        have HQ := hide hq
        clear hq
        have hB0 := hide (heap_alloc_new wr (.cells #[.int .i64 K.id, .int .i64 K.inc, .int .i64 K.st] 76))
        go_wp2_with fail
        refine ((unhide HP) K _ (hbel.alloc hsz _)).mono ?_
        rw [unhide HQ]
        rintro e w1 ⟨rfl, hb1⟩
        have hbx := (hb1.block wr.heap.size (by simp)).trans (unhide hB0)
        clear hB0
        have e0 := cell_at hbx 0
        have e1 := cell_at hbx 1
        have e2 := cell_at hbx 2
        simp only [List.getElem?_toArray, List.getElem?_cons_zero, List.getElem?_cons_succ] at e0 e1 e2
        clear hbx
        have hbel1 : Below w.heap.size w w1 := (hbel.alloc (by have := hbel.size; omega) _).trans (hb1.mono (by simp; omega))
        have HO1 := hide (own_below2 (HO.out.alloc _) hb1)
        have HB := hide hbel1
        have hs1 := hbel1.size
        clear hb1 hbel1 d0 d1 d2 HO
      · go_wp2
        go_roundw
        case rel =>
          refine ⟨k + 1, by omega, by go_num, ?_, unhide HB⟩
          rw [unhide HFT, unhide HQ]
          exact hide (by simpa using unhide HO1)
        case measure => simp [Go.RowKit.intOf]; omega
      · go_wp2_with (at_builtin; refine wpList_append_own _ rfl _ _ 46 rfl w.heap.size 76 ti (.agg #[.int .i64 0, .int .i64 0, .int .i64 0]) 3 24 Tryz.underlying46 hti hz0 hz1 hz2 rfl (by decide) _ _ _ rfl ((unhide HO1).alloc _) ⟨w1.heap.size, 0, none⟩ 1 1 [.int .i64 K.id, .int .i64 K.inc, .int .i64 K.st] rfl rfl ?c1 ?c2 ?c3 ?c4 ?c5 ?_)
        case c1 => exact World.news_of_block (heap_alloc_new w1 _)
        case c2 => intro u hu; simp at hu; rcases hu with rfl | rfl | rfl <;> rfl
        case c3 => unfold maxLen; omega
        case c4 => omega
        case c5 => simp; omega
        intro v' w2 hown' hgrow _
        have hbel2 : Below w.heap.size w w2 := ((unhide HB).alloc hs1 _).grown hgrow (by simp; omega) (fun j hj => (own_lt (unhide HO1) hj).1)
        have HO2 := hide hown'
        have HB2 := hide hbel2
        clear hown' hgrow hbel2
        go_wp2
        go_roundw
        case rel =>
          refine ⟨k + 1, by omega, by go_num, ?_, unhide HB2⟩
          rw [unhide HFT, unhide HQ]
          exact hide (by simpa [keyC] using unhide HO2)
        case measure => simp [Go.RowKit.intOf]; omega
    · have e : k = l.length := by omega
      rw [e, List.take_length] at HO
      go_wp2
      go_ret
      exact ⟨_, rfl, HO.out, hbel⟩
theorem keepK_nil (p : K3 → Bool) (fv : Value) (w : World) : Calls Tryz.prog 136 #[.slice none 0 0, fv] w fun e w' => ∃ v', e = .returned v' ∧ w'.ownsRow w.heap.size 76 3 v' (([] : List K3).filter p).length ((([] : List K3).filter p).flatMap keyC) ∧ Below w.heap.size w w' := by
  go_enter Tryz.func136, Tryz.ntmps136
  go_wp2
  refine wp_loop_rounds 1 ?_
  rw [rounds_succ]
  go_wp2
  go_ret
  exact ⟨_, rfl, ⟨rfl, .inl ⟨rfl, rfl⟩⟩, Below.refl _ _⟩
theorem keepK_any (l : List K3) (p : K3 → Bool) (g : Nat) (pre lb : Array Value) {v : Value} {w : World} {base : Nat} (hv : w.ownsRow base 76 3 v l.length (l.flatMap keyC)) (hl : l.length ≤ 1000) (eg : ∀ args w, (callFunc g args).run Tryz.prog w = .ok (.enter g args) w)
    (hp : ∀ m W, Below w.heap.size w W → Calls Tryz.prog g (pre ++ #[.agg #[.int .i64 m.id, .int .i64 m.inc, .int .i64 m.st]] ++ lb) W fun e w' => e = .returned (.bool (p m)) ∧ Below W.heap.size W w') :
    Calls Tryz.prog 136 #[v, .func (.func g) pre lb] w fun e w' => ∃ v', e = .returned v' ∧ w'.ownsRow w.heap.size 76 3 v' (l.filter p).length ((l.filter p).flatMap keyC) ∧ Below w.heap.size w w' := by
  have hv0 := hv
  rcases hv.2 with ⟨rfl, h0⟩ | ⟨b, cap, cur, rfl, hb, hg, _⟩
  · obtain rfl : l = [] := List.length_eq_zero_iff.1 h0
    exact keepK_nil p _ w
  · exact keepK_at l p g pre lb b 0 cap w (lt_blk hg) hl (rowK hv0) eg hp
set_option maxHeartbeats 2000000 in
theorem turnKI_at (l : List K3) (f : K3 → Int) (g : Nat) (pre lb : Array Value) (b off cap : Nat) (w : World) (hb : b < w.heap.size) (hl : l.length ≤ 1000) (hrow : rowsK w b off l) (eg : ∀ args w, (callFunc g args).run Tryz.prog w = .ok (.enter g args) w)
    (hp : ∀ m ∈ l, ∀ W, Below w.heap.size w W → Calls Tryz.prog g (pre ++ #[.agg #[.int .i64 m.id, .int .i64 m.inc, .int .i64 m.st]] ++ lb) W fun e w' => e = .returned (.int .i64 (f m)) ∧ Below W.heap.size W w') :
    Calls Tryz.prog 135 #[.slice (some ⟨b, off, none⟩) l.length cap, .func (.func g) pre lb] w fun e w' => ∃ v', e = .returned v' ∧ w'.ownsRow w.heap.size 3 1 v' (l.map f).length ((l.map f).flatMap intC) ∧ Below w.heap.size w w' := by
  obtain ⟨ti, hti, hz0, hz1, hz2⟩ := info_parts Tryz.infoIL
  have HP := hide hp
  clear hp
  go_enter Tryz.func135, Tryz.ntmps135
  go_wp2
  go_loopw [5, 10] (fun o i wr => ∃ k : Nat, k ≤ l.length ∧ i = .int .i64 k ∧ Hid (wr.ownsRow w.heap.size 3 1 o k (((l.take k).map f).flatMap intC)) ∧ Below w.heap.size w wr) (fun _ i _ => l.length - (Go.RowKit.intOf i).toNat)
  case atStart => exact ⟨0, Nat.zero_le _, rfl, ⟨rfl, .inl ⟨rfl, rfl⟩⟩, Below.refl _ _⟩
  case round =>
    rename_i o i
    obtain ⟨k, hk, rfl, HO, hbel⟩ := hrel
    by_cases hlt : k < l.length
    · have hrk := hrow k hlt
      have hsz := hbel.size
      have hft : (l.take (k + 1)).map f = (l.take k).map f ++ [f l[k]] := by
        rw [List.take_succ_eq_append_getElem hlt, List.map_append]; rfl
      have HFT := hide hft
      have HC := hide ((unhide HP) l[k] (List.getElem_mem hlt))
      clear hft
      generalize l[k] = K at hrk HFT HC
      obtain ⟨c0, c1, c2⟩ := hrk
      have d0 := (hbel.cell (p := ⟨b, off + k * 3, none⟩) hb).trans c0
      have d1 := (hbel.cell (p := ⟨b, off + k * 3 + 1, none⟩) hb).trans c1
      have d2 := (hbel.cell (p := ⟨b, off + k * 3 + 2, none⟩) hb).trans c2
      clear c0 c1 c2
      go_wp2_with fail
      refine ((unhide HC) _ (hbel.alloc hsz _)).mono ?_
      rintro e w1 ⟨rfl, hb1⟩
      have hbel1 : Below w.heap.size w w1 := (hbel.alloc (by have := hbel.size; omega) _).trans (hb1.mono (by simp; omega))
      have HO1 := hide (own_below2 (HO.out.alloc _) hb1)
      have HB := hide hbel1
      have hs1 := hbel1.size
      clear hb1 hbel1 d0 d1 d2 HO HC
      go_wp2_with (at_builtin; refine wpList_append_own _ rfl _ _ 24 rfl w.heap.size 3 ti (.int .i64 0) 1 8 Tryz.underlying24 hti hz0 hz1 hz2 rfl (by decide) _ _ _ rfl ((unhide HO1).alloc _) ⟨w1.heap.size, 0, none⟩ 1 1 [.int .i64 (f K)] rfl rfl ?c1 ?c2 ?c3 ?c4 ?c5 ?_)
      case c1 => exact World.news_of_block (heap_alloc_new w1 _)
      case c2 => intro u hu; simp at hu; subst hu; rfl
      case c3 => unfold maxLen; omega
      case c4 => omega
      case c5 => simp; omega
      intro v' w2 hown' hgrow _
      have hbel2 : Below w.heap.size w w2 := ((unhide HB).alloc hs1 _).grown hgrow (by simp; omega) (fun j hj => (own_lt (unhide HO1) hj).1)
      have HO2 := hide hown'
      have HB2 := hide hbel2
      clear hown' hgrow hbel2
      go_wp2
      go_roundw
      case rel =>
        refine ⟨k + 1, by omega, by go_num, ?_, unhide HB2⟩
        rw [unhide HFT]
        exact hide (by simpa [intC] using unhide HO2)
      case measure => simp [Go.RowKit.intOf]; omega
    · have e : k = l.length := by omega
      rw [e, List.take_length] at HO
      go_wp2
      go_ret
      exact ⟨_, rfl, by simpa using HO.out, hbel⟩
theorem turnKI_nil (f : K3 → Int) (fv : Value) (w : World) : Calls Tryz.prog 135 #[.slice none 0 0, fv] w fun e w' => ∃ v', e = .returned v' ∧ w'.ownsRow w.heap.size 3 1 v' (([] : List K3).map f).length ((([] : List K3).map f).flatMap intC) ∧ Below w.heap.size w w' := by
  go_enter Tryz.func135, Tryz.ntmps135
  go_wp2
  refine wp_loop_rounds 1 ?_
  rw [rounds_succ]
  go_wp2
  go_ret
  exact ⟨_, rfl, ⟨rfl, .inl ⟨rfl, rfl⟩⟩, Below.refl _ _⟩
theorem turnKI_any (l : List K3) (f : K3 → Int) (g : Nat) (pre lb : Array Value) {v : Value} {w : World} {base : Nat} (hv : w.ownsRow base 76 3 v l.length (l.flatMap keyC)) (hl : l.length ≤ 1000) (eg : ∀ args w, (callFunc g args).run Tryz.prog w = .ok (.enter g args) w)
    (hp : ∀ m ∈ l, ∀ W, Below w.heap.size w W → Calls Tryz.prog g (pre ++ #[.agg #[.int .i64 m.id, .int .i64 m.inc, .int .i64 m.st]] ++ lb) W fun e w' => e = .returned (.int .i64 (f m)) ∧ Below W.heap.size W w') :
    Calls Tryz.prog 135 #[v, .func (.func g) pre lb] w fun e w' => ∃ v', e = .returned v' ∧ w'.ownsRow w.heap.size 3 1 v' (l.map f).length ((l.map f).flatMap intC) ∧ Below w.heap.size w w' := by
  have hv0 := hv
  rcases hv.2 with ⟨rfl, h0⟩ | ⟨b, cap, cur, rfl, hb, hg, _⟩
  · obtain rfl : l = [] := List.length_eq_zero_iff.1 h0
    exact turnKI_nil f _ w
  · exact turnKI_at l f g pre lb b 0 cap w (lt_blk hg) hl (rowK hv0) eg hp
end Go.Proofs.YtnneljcbelgoeaaGreatDoor.wire
