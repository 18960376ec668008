import Derived.Test.YtnneljcbelgoeaaGreatDoorProg
import Derived.WalkKit
import Derived.Deep.QuietTactic
import Derived.BigQuiet
import Derived.Deep.AppendLies
import Derived.WalkSpells
import Derived.StillTactics
import Derived.Deep.RegionLaw
import Derived.Deep.DrawnRows
/- THE PLAIN MATHEMATICS OF THE MESSAGES (P3): keys, messages, which are whole, their bytes. No Go here. -/
namespace Go.Proofs.YtnneljcbelgoeaaGreatDoor.wire
structure K3 where
  id : Int
  inc : Int
  st : Int
structure M6 where
  kind : Int
  frm : Int
  inc : Int
  seq : Int
  tgt : Int
  ups : List K3
def isIdB (n : Int) : Bool := decide (1 ≤ n) && decide (n ≤ 250)
def isIncB (n : Int) : Bool := decide (1 ≤ n) && decide (n ≤ 1073741824)
def isSeqB (n : Int) : Bool := decide (0 ≤ n) && decide (n ≤ 4294967295)
def isStB (n : Int) : Bool := decide (1 ≤ n) && decide (n ≤ 4)
def isKeyB (k : K3) : Bool := isIdB k.id && (isIncB k.inc && isStB k.st)
def lowB (n : Int) : Bool := decide (1 ≤ n) && decide (n ≤ 3)
def highB (n : Int) : Bool := decide (4 ≤ n) && decide (n ≤ 5)
def suitsB (kind tgt : Int) (len : Nat) : Bool := if lowB kind then isIdB tgt && decide (len ≤ 4) else if highB kind then decide (tgt = 0) && decide (len ≤ 8) else false
def allB (l : List K3) : Bool := l.all isKeyB
def wholeB (m : M6) : Bool := isIdB m.frm && (isIncB m.inc && (isSeqB m.seq && (suitsB m.kind m.tgt m.ups.length && allB m.ups)))
theorem isId_mk {n : Int} (a : 1 ≤ n) (b : n ≤ 250) : isIdB n = true := by simp [isIdB, a, b]
theorem isInc_mk {n : Int} (a : 1 ≤ n) (b : n ≤ 1073741824) : isIncB n = true := by simp [isIncB, a, b]
theorem isSeq_mk {n : Int} (a : 0 ≤ n) (b : n ≤ 4294967295) : isSeqB n = true := by simp [isSeqB, a, b]
theorem isSt_mk {n : Int} (a : 1 ≤ n) (b : n ≤ 4) : isStB n = true := by simp [isStB, a, b]
theorem isId_of {n : Int} (h : isIdB n = true) : 1 ≤ n ∧ n ≤ 250 := by simpa [isIdB] using h
theorem isInc_of {n : Int} (h : isIncB n = true) : 1 ≤ n ∧ n ≤ 1073741824 := by simpa [isIncB] using h
theorem isSeq_of {n : Int} (h : isSeqB n = true) : 0 ≤ n ∧ n ≤ 4294967295 := by simpa [isSeqB] using h
theorem isSt_of {n : Int} (h : isStB n = true) : 1 ≤ n ∧ n ≤ 4 := by simpa [isStB] using h
end Go.Proofs.YtnneljcbelgoeaaGreatDoor.wire
namespace Go.Proofs.YtnneljcbelgoeaaGreatDoor.wire
open Go.RowKit

theorem hide {p : Prop} (h : p) : Hid p := h
theorem unhide {p : Prop} (h : Hid p) : p := h
theorem ret_bool {a b : Bool} (h : a = b) : Ending.returned (.bool a) = .returned (.bool b) := by rw [h]
theorem ret_int {k : IntKind} {a b : Int} (h : a = b) : Ending.returned (.int k a) = .returned (.int k b) := by rw [h]

theorem within_any (n a b : Int) (w : World) : Calls Tryz.prog 89 #[.int .i64 n, .int .i64 a, .int .i64 b] w fun e w' => e = .returned (.bool (decide (a ≤ n) && decide (n ≤ b))) ∧ w' = w := by
  by_cases h1 : a ≤ n
  · go_enter Tryz.func89, Tryz.ntmps89
    go_wp2
    all_goals go_ret
    all_goals exact ⟨by simp [h1], rfl⟩
  · go_enter Tryz.func89, Tryz.ntmps89
    go_wp2
    all_goals go_ret
    all_goals exact ⟨by simp; omega, rfl⟩
theorem isId_any (n : Int) (w : World) : Calls Tryz.prog 58 #[.int .i64 n] w fun e w' => e = .returned (.bool (isIdB n)) ∧ w' = w := by
  go_enter Tryz.func58, Tryz.ntmps58
  go_wp2_with (go_at_call 89; refine (within_any _ _ _ _).mono ?_; rintro e w' ⟨rfl, rfl⟩)
  go_ret
  exact ⟨rfl, rfl⟩
theorem isInc_any (n : Int) (w : World) : Calls Tryz.prog 111 #[.int .i64 n] w fun e w' => e = .returned (.bool (isIncB n)) ∧ w' = w := by
  go_enter Tryz.func111, Tryz.ntmps111
  go_wp2_with (go_at_call 89; refine (within_any _ _ _ _).mono ?_; rintro e w' ⟨rfl, rfl⟩)
  go_ret
  exact ⟨rfl, rfl⟩
theorem isSeq_any (n : Int) (w : World) : Calls Tryz.prog 112 #[.int .i64 n] w fun e w' => e = .returned (.bool (isSeqB n)) ∧ w' = w := by
  go_enter Tryz.func112, Tryz.ntmps112
  go_wp2_with (go_at_call 89; refine (within_any _ _ _ _).mono ?_; rintro e w' ⟨rfl, rfl⟩)
  go_ret
  exact ⟨rfl, rfl⟩
theorem isState_any (n : Int) (w : World) : Calls Tryz.prog 160 #[.int .i64 n] w fun e w' => e = .returned (.bool (isStB n)) ∧ w' = w := by
  go_enter Tryz.func160, Tryz.ntmps160
  go_wp2
  all_goals go_ret
  all_goals exact ⟨by simp_all [isStB]; try omega, rfl⟩
end Go.Proofs.YtnneljcbelgoeaaGreatDoor.wire
namespace Go.Proofs.YtnneljcbelgoeaaGreatDoor.wire
open Go.RowKit

/-- rightLength: a string of at least 12 bytes, its 12th says how many updates follow. -/
def rightB (l : List UInt8) : Bool := decide (12 ≤ l.length) && decide (l.length = 12 + (l.getD 11 0).toNat * 6)
theorem getD_at (s : ByteArray) (k : Nat) (h : k < s.size) : s.data.toList.getD k 0 = s[k] := by
  rw [List.getD_eq_getElem?_getD, List.getElem?_eq_getElem (by simpa using h)]; rfl
theorem right_yes (s : ByteArray) (h : 12 ≤ s.size) : ((s.size : Int) == 12 + (s[11].toNat : Int) * 6) = rightB s.data.toList := by
  unfold rightB
  rw [getD_at s 11 (by omega), Bool.eq_iff_iff]
  have e : s.data.toList.length = s.size := by simp
  rw [e]
  simp [h]
  omega
set_option maxHeartbeats 1000000 in
theorem right_any (s : ByteArray) (w : World) (hs : s.size ≤ maxLen) : Calls Tryz.prog 80 #[.string s] w fun e w' => e = .returned (.bool (rightB s.data.toList)) ∧ w' = w := by
  unfold maxLen at hs
  by_cases h : 12 ≤ s.size
  · have hb : s[11].toNat < 256 := s[11].toNat_lt
    go_enter Tryz.func80, Tryz.ntmps80
    go_wp2
    go_ret
    exact ⟨ret_bool (right_yes s h), rfl⟩
  · go_enter Tryz.func80, Tryz.ntmps80
    go_wp2
    go_ret
    exact ⟨ret_bool (by simp [rightB]; intro h'; exact absurd h' h), rfl⟩
/-- The number that bytes hold, the high one first. -/
def numB (l : List UInt8) : Int := l.foldl (fun n c => n * 256 + (c.toNat : Int)) 0
theorem numB_snoc (l : List UInt8) (c : UInt8) : numB (l ++ [c]) = numB l * 256 + (c.toNat : Int) := by simp [numB]
theorem numB_fold (l : List UInt8) : ∀ (a : Int) (m : Nat), 0 ≤ a → a < 256 ^ m → 0 ≤ l.foldl (fun n c => n * 256 + (c.toNat : Int)) a ∧ l.foldl (fun n c => n * 256 + (c.toNat : Int)) a < 256 ^ (m + l.length) := by
  induction l with
  | nil => intro a m h0 h1; exact ⟨h0, h1⟩
  | cons c l ih =>
    intro a m h0 h1
    have hc := c.toNat_lt
    have := ih (a * 256 + (c.toNat : Int)) (m + 1) (by omega) (by rw [Int.pow_succ]; omega)
    simp only [List.foldl_cons, List.length_cons]
    rw [show m + (l.length + 1) = m + 1 + l.length from by omega]
    exact this
theorem numB_bd (l : List UInt8) (h : l.length ≤ 4) : 0 ≤ numB l ∧ numB l < 4294967296 := by
  have := numB_fold l 0 0 (by omega) (by decide)
  rw [Nat.zero_add] at this
  have hp : (256 : Int) ^ l.length ≤ 4294967296 := by
    match l.length, h with
    | 0, _ => decide
    | 1, _ => decide
    | 2, _ => decide
    | 3, _ => decide
    | 4, _ => decide
  exact ⟨this.1, Int.lt_of_lt_of_le this.2 hp⟩
theorem wraps_i64 (n : Int) (h₀ : 0 ≤ n) (h₁ : n < 2 ^ 63) : IntKind.i64.wrap n = n := by rw [IntKind.wrap_i64]; omega
theorem or8 (n b : Int) (h0 : 0 ≤ n) (h1 : n < 4294967296) (h2 : 0 ≤ b) (h3 : b < 256) : bits .or .i64 (wrap64 (n * 256)) (wrap64 b) = n * 256 + b := by
  rw [IntWalk.wrap64_in _ (by omega), IntWalk.wrap64_in _ (by omega)]
  exact bits_join .i64 63 (by decide) wraps_i64 8 (n * 256) b (by omega) (by omega) (by omega) h2 (by omega) (by omega)
theorem take_snoc (s : ByteArray) (k : Nat) (h : k < s.size) : s.data.toList.take (k + 1) = s.data.toList.take k ++ [s[k]] := by
  rw [List.take_succ_eq_append_getElem (by simpa using h)]; rfl
set_option maxHeartbeats 1000000 in
theorem take_any (s : ByteArray) (b : Nat) (width : Nat) (w : World) (hw : width ≤ s.size) (h4 : width ≤ 4) (hs : s.size ≤ maxLen) (hc : w.cell? ⟨b, 0, none⟩ = some (.string s)) (hf : w.frozen? ⟨b, 0, none⟩ = false) :
    Calls Tryz.prog 119 #[.pointer (some ⟨b, 0, none⟩), .int .i64 width] w fun e w' => e = .returned (.int .i64 (numB (s.data.toList.take width))) ∧ w' = w.setCell ⟨b, 0, none⟩ (.string (s.extract width s.size)) := by
  unfold maxLen at hs
  go_enter Tryz.func119, Tryz.ntmps119
  go_wp2
  go_loop [5, 8] (fun n i => ∃ k : Nat, k ≤ width ∧ i = .int .i64 k ∧ n = .int .i64 (numB (s.data.toList.take k))) (fun _ i => width - (intOf i).toNat)
  case atStart => exact ⟨0, Nat.zero_le _, rfl, rfl⟩
  case round =>
    obtain ⟨k, hk, rfl, rfl⟩ := hrel
    have HB : Hid (0 ≤ numB (s.data.toList.take k) ∧ numB (s.data.toList.take k) < 4294967296) := numB_bd _ (by simp; omega)
    by_cases hlt : k < width
    · go_wp2
      go_round
      case rel =>
        refine ⟨k + 1, by omega, by go_num, ?_⟩
        have hb : s[k].toNat < 256 := s[k].toNat_lt
        rw [take_snoc s k (by omega), numB_snoc, or8 _ _ HB.out.1 HB.out.2 (by omega) (by omega)]
      case measure => simp [intOf]; omega
    · have e : k = width := by omega
      go_wp2
      go_ret
      exact ⟨rfl, rfl⟩
end Go.Proofs.YtnneljcbelgoeaaGreatDoor.wire
namespace Go.Proofs.YtnneljcbelgoeaaGreatDoor.wire
open Go.RowKit

/-- Bytes as a string. -/
def bs (l : List UInt8) : ByteArray := ⟨l.toArray⟩
theorem bs_list (l : List UInt8) : (bs l).data.toList = l := by simp [bs]
theorem bs_size (l : List UInt8) : (bs l).size = l.length := by simp [bs, ByteArray.size]
theorem bs_of (s : ByteArray) : s = bs s.data.toList := by simp [bs]
theorem bs_extract (l : List UInt8) (k : Nat) : (bs l).extract k (bs l).size = bs (l.drop k) := by
  apply ByteArray.ext
  rw [ByteArray.data_extract, bs_size]
  apply Array.ext'
  rw [Array.toList_extract]
  simp [bs, List.extract_eq_take_drop]
  rw [List.take_of_length_le (by simp)]
def n4 (c0 c1 c2 c3 : UInt8) : Int := (((c0.toNat : Int) * 256 + (c1.toNat : Int)) * 256 + (c2.toNat : Int)) * 256 + (c3.toNat : Int)
theorem take_one (c : UInt8) (l : List UInt8) (b : Nat) (w : World) (hl : l.length < 1000000) (hc : w.cell? ⟨b, 0, none⟩ = some (.string (bs (c :: l)))) (hf : w.frozen? ⟨b, 0, none⟩ = false) :
    Calls Tryz.prog 119 #[.pointer (some ⟨b, 0, none⟩), .int .i64 1] w fun e w' => e = .returned (.int .i64 (c.toNat : Int)) ∧ w' = w.setCell ⟨b, 0, none⟩ (.string (bs l)) := by
  have h := take_any (bs (c :: l)) b 1 w (by rw [bs_size]; simp) (by omega) (by rw [bs_size]; simp [maxLen]; omega) hc hf
  rw [bs_extract, bs_list] at h
  simpa [numB] using h
theorem take_four (c0 c1 c2 c3 : UInt8) (l : List UInt8) (b : Nat) (w : World) (hl : l.length < 1000000) (hc : w.cell? ⟨b, 0, none⟩ = some (.string (bs (c0 :: c1 :: c2 :: c3 :: l)))) (hf : w.frozen? ⟨b, 0, none⟩ = false) :
    Calls Tryz.prog 119 #[.pointer (some ⟨b, 0, none⟩), .int .i64 4] w fun e w' => e = .returned (.int .i64 (n4 c0 c1 c2 c3)) ∧ w' = w.setCell ⟨b, 0, none⟩ (.string (bs l)) := by
  have h := take_any (bs (c0 :: c1 :: c2 :: c3 :: l)) b 4 w (by rw [bs_size]; simp) (by omega) (by rw [bs_size]; simp [maxLen]; omega) hc hf
  rw [bs_extract, bs_list] at h
  simpa [numB, n4] using h
end Go.Proofs.YtnneljcbelgoeaaGreatDoor.wire
namespace Go.Proofs.YtnneljcbelgoeaaGreatDoor.wire
open Go.RowKit

/-- A key as a value, and the cells of a list of keys. -/
abbrev kval (k : K3) : Value := .agg #[.int .i64 k.id, .int .i64 k.inc, .int .i64 k.st]
def kcells : List K3 → List Value
  | [] => []
  | k :: r => .int .i64 k.id :: .int .i64 k.inc :: .int .i64 k.st :: kcells r

theorem isKey_any (k : K3) (w : World) : Calls Tryz.prog 144 #[kval k] w fun e w' => e = .returned (.bool (isKeyB k)) ∧ Below w.heap.size w w' := by
  obtain ⟨a, b, c⟩ := k
  cases h1 : isIdB a <;> cases h2 : isIncB b
  all_goals
    go_enter Tryz.func144, Tryz.ntmps144
    go_wp2_with (first
      | (go_at_call 58; refine (isId_any _ _).mono ?_; rintro e w' ⟨rfl, rfl⟩)
      | (go_at_call 111; refine (isInc_any _ _).mono ?_; rintro e w' ⟨rfl, rfl⟩)
      | (go_at_call 160; refine (isState_any _ _).mono ?_; rintro e w' ⟨rfl, rfl⟩))
    all_goals go_ret
    all_goals exact ⟨by simp [isKeyB, h1, h2], (Below.refl _ _).alloc (Nat.le_refl _) _⟩
end Go.Proofs.YtnneljcbelgoeaaGreatDoor.wire
namespace Go.Proofs.YtnneljcbelgoeaaGreatDoor.wire
open Go.RowKit

/-- The keys l lie from address a on, three cells each. -/
def keysFrom (w : World) (b off : Nat) (l : List K3) : Prop := ∀ (i : Nat) (h : i < l.length),
  w.cell? ⟨b, off + i * 3, none⟩ = some (.int .i64 l[i].id) ∧ w.cell? ⟨b, off + i * 3 + 1, none⟩ = some (.int .i64 l[i].inc) ∧ w.cell? ⟨b, off + i * 3 + 2, none⟩ = some (.int .i64 l[i].st)
theorem allB_snoc (l : List K3) (k : Nat) (h : k < l.length) : allB (l.take (k + 1)) = (allB (l.take k) && isKeyB l[k]) := by
  unfold allB; rw [List.take_succ_eq_append_getElem h, List.all_append]; simp
theorem allB_take_false (l : List K3) (k : Nat) (h : k < l.length) (hf : isKeyB l[k] = false) : allB l = false := by
  unfold allB; rw [List.all_eq_false]; exact ⟨l[k], List.getElem_mem h, by simp [hf]⟩
set_option maxHeartbeats 1000000 in
theorem allKeys_at (l : List K3) (b off cap : Nat) (w : World) (hb : b < w.heap.size) (hl : l.length ≤ 1000000) (hc : keysFrom w b off l) :
    Calls Tryz.prog 114 #[.slice (some ⟨b, off, none⟩) l.length cap] w fun e w' => e = .returned (.bool (allB l)) ∧ Below w.heap.size w w' := by
  go_enter Tryz.func114, Tryz.ntmps114
  go_wp2
  go_loopw [7] (fun i wr => ∃ k : Nat, k ≤ l.length ∧ i = .int .i64 k ∧ allB (l.take k) = true ∧ Below w.heap.size w wr) (fun i _ => l.length - (intOf i).toNat)
  case atStart => exact ⟨0, Nat.zero_le _, rfl, rfl, Below.refl _ _⟩
  case round =>
    obtain ⟨k, hk, rfl, ha, hbel⟩ := hrel
    have HA : Hid (allB (l.take k) = true) := ha
    clear ha
    by_cases hlt : k < l.length
    · obtain ⟨c0, c1, c2⟩ := hc k hlt
      have d0 := (hbel.cell (p := ⟨b, off + k * 3, none⟩) hb).trans c0
      have d1 := (hbel.cell (p := ⟨b, off + k * 3 + 1, none⟩) hb).trans c1
      have d2 := (hbel.cell (p := ⟨b, off + k * 3 + 2, none⟩) hb).trans c2
      clear c0 c1 c2
      have hsz := hbel.size
      cases hq : isKeyB l[k]
      all_goals
        have HQ : Hid (isKeyB l[k] = _) := hq
        go_wp2_with fail
        refine (isKey_any l[k] _).mono ?_
        rw [HQ.out]
        clear hq
        rintro e w1 ⟨rfl, hb1⟩
        have hw1 : Below w.heap.size w w1 := (hbel.alloc hsz _).trans (hb1.mono (by simp; omega))
        clear hb1 d0 d1 d2
        go_wp2
      · go_ret
        exact ⟨ret_bool (allB_take_false l k hlt HQ.out).symm, hw1⟩
      · go_roundw
        case rel => exact ⟨k + 1, by omega, by go_num, by rw [allB_snoc l k hlt, HA.out, HQ.out]; rfl, hw1⟩
        case measure => simp [intOf]; omega
    · go_wp2
      go_ret
      have e : k = l.length := by omega
      have h2 := HA.out
      rw [e, List.take_length] at h2
      exact ⟨ret_bool h2.symm, hbel⟩
set_option maxHeartbeats 1000000 in
theorem allKeys_nil (w : World) : Calls Tryz.prog 114 #[.slice none 0 0] w fun e w' => e = .returned (.bool true) ∧ Below w.heap.size w w' := by
  go_enter Tryz.func114, Tryz.ntmps114
  go_wp2
  refine wp_loop_rounds 1 ?_
  rw [rounds_succ]
  go_wp2
  go_ret
  exact ⟨rfl, Below.refl _ _⟩

/-- A slice value whose elements are the keys l. -/
def KeysAt (w : World) (v : Value) (l : List K3) : Prop :=
  (v = .slice none 0 0 ∧ l = []) ∨ ∃ b off cap, v = .slice (some ⟨b, off, none⟩) l.length cap ∧ b < w.heap.size ∧ keysFrom w b off l
theorem KeysAt.below {w w' : World} {v : Value} {l : List K3} (h : KeysAt w v l) (hb : Below w.heap.size w w') : KeysAt w' v l := by
  rcases h with h | ⟨b, off, cap, hv, hlt, hc⟩
  · exact .inl h
  · refine .inr ⟨b, off, cap, hv, Nat.lt_of_lt_of_le hlt hb.size, fun i h => ?_⟩
    obtain ⟨a0, a1, a2⟩ := hc i h
    exact ⟨(hb.cell (p := ⟨b, _, none⟩) hlt).trans a0, (hb.cell (p := ⟨b, _, none⟩) hlt).trans a1, (hb.cell (p := ⟨b, _, none⟩) hlt).trans a2⟩
theorem allKeys_any {l : List K3} {v : Value} {w : World} (hv : KeysAt w v l) (hl : l.length ≤ 1000000) :
    Calls Tryz.prog 114 #[v] w fun e w' => e = .returned (.bool (allB l)) ∧ Below w.heap.size w w' := by
  rcases hv with ⟨rfl, rfl⟩ | ⟨b, off, cap, rfl, hlt, hc⟩
  · exact allKeys_nil w
  · exact allKeys_at l b off cap w hlt hl hc
end Go.Proofs.YtnneljcbelgoeaaGreatDoor.wire
namespace Go.Proofs.YtnneljcbelgoeaaGreatDoor.wire
open Go.RowKit

theorem suits_low {k t : Int} {n : Nat} (h : lowB k = true) : suitsB k t n = (isIdB t && decide (n ≤ 4)) := by simp [suitsB, h]
theorem suits_high {k t : Int} {n : Nat} (h : highB k = true) : suitsB k t n = (decide (t = 0) && decide (n ≤ 8)) := by
  have h' : lowB k = false := by simp [highB] at h; simp [lowB]; omega
  simp [suitsB, h, h']
theorem suits_no {k t : Int} {n : Nat} (h : lowB k = false) (h' : highB k = false) : suitsB k t n = false := by simp [suitsB, h, h']

set_option maxHeartbeats 1000000 in
theorem suits_any (kind frm inc seq tgt : Int) (ao : Option Addr) (n cap : Nat) (w : World) (hn : n ≤ 1000000) :
    Calls Tryz.prog 113 #[.agg #[.int .i64 kind, .int .i64 frm, .int .i64 inc, .int .i64 seq, .int .i64 tgt, .slice ao n cap]] w fun e w' => e = .returned (.bool (suitsB kind tgt n)) ∧ Below w.heap.size w w' := by
  have hk : kind = 1 ∨ kind = 2 ∨ kind = 3 ∨ kind = 4 ∨ kind = 5 ∨ (lowB kind = false ∧ highB kind = false ∧ (kind == 1) = false ∧ (kind == 2) = false ∧ (kind == 3) = false ∧ (kind == 4) = false ∧ (kind == 5) = false) := by
    by_cases h : 1 ≤ kind ∧ kind ≤ 5
    · omega
    · right; right; right; right; right; simp [lowB, highB]; omega
  rcases hk with rfl | rfl | rfl | rfl | rfl | ⟨h1, h2, k1, k2, k3, k4, k5⟩
  case inr.inr.inr.inr.inr =>
    go_enter Tryz.func113, Tryz.ntmps113
    go_wp2
    go_ret
    exact ⟨ret_bool (suits_no h1 h2).symm, (Below.refl _ _).alloc (Nat.le_refl _) _⟩
  case inr.inr.inr.inl | inr.inr.inr.inr.inl =>
    by_cases ht : tgt = 0
    · subst ht
      go_enter Tryz.func113, Tryz.ntmps113
      go_wp2
      go_ret
      exact ⟨by rw [suits_high rfl]; simp; try omega, (Below.refl _ _).alloc (Nat.le_refl _) _⟩
    · have ht' : (tgt == 0) = false := by simp [ht]
      go_enter Tryz.func113, Tryz.ntmps113
      go_wp2
      go_ret
      exact ⟨by rw [suits_high rfl]; simp [ht], (Below.refl _ _).alloc (Nat.le_refl _) _⟩
  all_goals
    cases ht : isIdB tgt
    all_goals
      go_enter Tryz.func113, Tryz.ntmps113
      go_wp2_with (go_at_call 58; refine (isId_any _ _).mono ?_; rintro e w' ⟨rfl, rfl⟩)
      go_ret
      exact ⟨by rw [suits_low rfl]; simp [ht]; try omega, (Below.refl _ _).alloc (Nat.le_refl _) _⟩
end Go.Proofs.YtnneljcbelgoeaaGreatDoor.wire
namespace Go.Proofs.YtnneljcbelgoeaaGreatDoor.wire
open Go.RowKit

/-- A message as a value, its list given as one. -/
abbrev mval (m : M6) (v : Value) : Value := .agg #[.int .i64 m.kind, .int .i64 m.frm, .int .i64 m.inc, .int .i64 m.seq, .int .i64 m.tgt, v]
theorem KeysAt.form {w : World} {v : Value} {l : List K3} (h : KeysAt w v l) : ∃ ao cap, v = .slice ao l.length cap := by
  rcases h with ⟨rfl, rfl⟩ | ⟨b, off, cap, rfl, _⟩
  · exact ⟨none, 0, rfl⟩
  · exact ⟨_, cap, rfl⟩
set_option maxHeartbeats 2000000 in
theorem whole_any (m : M6) (v : Value) (w : World) (hv : KeysAt w v m.ups) (hl : m.ups.length ≤ 1000000) :
    Calls Tryz.prog 77 #[mval m v] w fun e w' => e = .returned (.bool (wholeB m)) ∧ Below w.heap.size w w' := by
  obtain ⟨ao, cap, rfl⟩ := hv.form
  have HV := hide hv
  clear hv
  cases h1 : isIdB m.frm
  · go_enter Tryz.func77, Tryz.ntmps77
    go_wp2_with (go_at_call 58; refine (isId_any _ _).mono ?_; rintro e w' ⟨rfl, rfl⟩)
    go_ret
    exact ⟨ret_bool (by simp [wholeB, h1]), (Below.refl _ _).alloc (Nat.le_refl _) _⟩
  cases h2 : isIncB m.inc
  · go_enter Tryz.func77, Tryz.ntmps77
    go_wp2_with (first
      | (go_at_call 58; refine (isId_any _ _).mono ?_; rintro e w' ⟨rfl, rfl⟩)
      | (go_at_call 111; refine (isInc_any _ _).mono ?_; rintro e w' ⟨rfl, rfl⟩))
    go_ret
    exact ⟨ret_bool (by simp [wholeB, h2]), (Below.refl _ _).alloc (Nat.le_refl _) _⟩
  cases h3 : isSeqB m.seq
  · go_enter Tryz.func77, Tryz.ntmps77
    go_wp2_with (first
      | (go_at_call 58; refine (isId_any _ _).mono ?_; rintro e w' ⟨rfl, rfl⟩)
      | (go_at_call 111; refine (isInc_any _ _).mono ?_; rintro e w' ⟨rfl, rfl⟩)
      | (go_at_call 112; refine (isSeq_any _ _).mono ?_; rintro e w' ⟨rfl, rfl⟩))
    go_ret
    exact ⟨ret_bool (by simp [wholeB, h3]), (Below.refl _ _).alloc (Nat.le_refl _) _⟩
  cases h4 : suitsB m.kind m.tgt m.ups.length
  all_goals
    have H4 := hide h4
    clear h4
    go_enter Tryz.func77, Tryz.ntmps77
    go_wp2_with (first
      | (go_at_call 58; refine (isId_any _ _).mono ?_; rintro e w' ⟨rfl, rfl⟩)
      | (go_at_call 111; refine (isInc_any _ _).mono ?_; rintro e w' ⟨rfl, rfl⟩)
      | (go_at_call 112; refine (isSeq_any _ _).mono ?_; rintro e w' ⟨rfl, rfl⟩)
      | fail)
    refine (suits_any _ _ _ _ _ _ _ _ _ hl).mono ?_
    rw [unhide H4]
    rintro e w1 ⟨rfl, hb1⟩
    have hz := hb1.size
    have hc5 : w1.cell? ⟨w.heap.size, 5, none⟩ = some (.slice ao m.ups.length cap) := (hb1.cell (p := ⟨w.heap.size, 5, none⟩) (by simp)).trans (by simp)
    have hB1 : Below w.heap.size w w1 := ((Below.refl _ _).alloc (Nat.le_refl _) _).trans (hb1.mono (by simp))
    clear hb1
    go_wp2_with fail
  · go_ret
    exact ⟨ret_bool (by simp [wholeB, unhide H4]), hB1⟩
  · refine (allKeys_any ((unhide HV).below hB1) hl).mono ?_
    rintro e w2 ⟨rfl, hb2⟩
    go_wp2
    go_ret
    exact ⟨ret_bool (by simp [wholeB, unhide H4, h1, h2, h3]), hB1.trans (hb2.mono hB1.size)⟩
end Go.Proofs.YtnneljcbelgoeaaGreatDoor.wire
namespace Go.Proofs.YtnneljcbelgoeaaGreatDoor.wire
open Go.RowKit
/-- The keys that bytes hold. -/
def readKs : Nat → List UInt8 → List K3
  | 0, _ => []
  | n + 1, a :: b0 :: b1 :: b2 :: b3 :: c :: r => ⟨(a.toNat : Int), n4 b0 b1 b2 b3, (c.toNat : Int)⟩ :: readKs n r
  | _ + 1, _ => []
theorem kcells_len (l : List K3) : (kcells l).length = l.length * 3 := by
  induction l with
  | nil => rfl
  | cons k r ih => simp [kcells, ih]; omega
theorem kcells_append (a b : List K3) : kcells (a ++ b) = kcells a ++ kcells b := by
  induction a with
  | nil => rfl
  | cons k r ih => simp [kcells, ih]
theorem kcells_get : ∀ (l : List K3) (i : Nat) (h : i < l.length), (kcells l)[i * 3]? = some (.int .i64 l[i].id) ∧ (kcells l)[i * 3 + 1]? = some (.int .i64 l[i].inc) ∧ (kcells l)[i * 3 + 2]? = some (.int .i64 l[i].st)
  | k :: r, 0, _ => ⟨rfl, rfl, rfl⟩
  | k :: r, i + 1, h => by
    have := kcells_get r i (by simpa using h)
    rw [show (i + 1) * 3 = i * 3 + 3 from by omega]
    exact this
theorem readKs_len : ∀ (n : Nat) (l : List UInt8), l.length = n * 6 → (readKs n l).length = n
  | 0, _, _ => rfl
  | n + 1, a :: b0 :: b1 :: b2 :: b3 :: c :: r, h => by
    simp only [readKs, List.length_cons] at h ⊢
    rw [readKs_len n r (by omega)]
  | n + 1, [], h => by simp at h
  | n + 1, [_], h => by simp at h; omega
  | n + 1, [_, _], h => by simp at h; omega
  | n + 1, [_, _, _], h => by simp at h; omega
  | n + 1, [_, _, _, _], h => by simp at h; omega
  | n + 1, [_, _, _, _, _], h => by simp at h; omega
theorem drop_six : ∀ (n k : Nat) (l : List UInt8), l.length = n * 6 → k < n → ∃ a b0 b1 b2 b3 c r, l.drop (6 * k) = a :: b0 :: b1 :: b2 :: b3 :: c :: r ∧ l.drop (6 * (k + 1)) = r ∧ (readKs n l).take (k + 1) = (readKs n l).take k ++ [⟨(a.toNat : Int), n4 b0 b1 b2 b3, (c.toNat : Int)⟩]
  | 0, k, _, _, hk => by omega
  | n + 1, k, a :: b0 :: b1 :: b2 :: b3 :: c :: r, h, hk => by
    cases k with
    | zero => exact ⟨a, b0, b1, b2, b3, c, r, rfl, rfl, by simp [readKs]⟩
    | succ k =>
      obtain ⟨a', b0', b1', b2', b3', c', r', h1, h2, h3⟩ := drop_six n k r (by simp at h; omega) (by omega)
      refine ⟨a', b0', b1', b2', b3', c', r', ?_, ?_, ?_⟩
      · rw [show 6 * (k + 1) = 6 * k + 6 from by omega]; simpa using h1
      · rw [show 6 * (k + 1 + 1) = 6 * (k + 1) + 6 from by omega]; simpa using h2
      · simp only [readKs, List.take_succ_cons, List.cons_append]; rw [h3]
  | n + 1, _, [], h, _ => by simp at h
  | n + 1, _, [_], h, _ => by simp at h; omega
  | n + 1, _, [_, _], h, _ => by simp at h; omega
  | n + 1, _, [_, _, _], h, _ => by simp at h; omega
  | n + 1, _, [_, _, _, _], h, _ => by simp at h; omega
  | n + 1, _, [_, _, _, _, _], h, _ => by simp at h; omega
/-- What stands while the keys are read. -/
structure RI (H : Nat) (x0 x1 x2 x3 x4 : Value) (w wr : World) (v : Value) (rest : List UInt8) (l : List K3) : Prop where
  b0 : wr.heap[H]? = some (.cells #[.int .i64 0, .int .i64 0, .int .i64 0, .int .i64 0, .int .i64 0, .slice none 0 0] 68 (0, 0))
  b1 : wr.heap[H + 1]? = some (.cells #[.string (bs rest)] 191 (0, 0))
  b2 : wr.heap[H + 1 + 1]? = some (.cells #[x0, x1, x2, x3, x4, v] 68 (0, 0))
  size : H + 3 ≤ wr.heap.size
  below : Below H w wr
  own : wr.ownsRow (H + 3) 76 3 v l.length (kcells l)
theorem cell_at {w : World} {b : Nat} {cs : Array Value} {t : TypeId} (h : w.heap[b]? = some (.cells cs t (0, 0))) (j : Nat) : w.cell? ⟨b, j, none⟩ = cs[j]? := cell_of_row w b j cs t (0, 0) h
theorem free_at {w : World} {b : Nat} {cs : Array Value} {t : TypeId} (h : w.heap[b]? = some (.cells cs t (0, 0))) (j : Nat) : w.frozen? ⟨b, j, none⟩ = false := by simp [World.frozen?, h]
theorem Tryz.infoKey : (Tryz.prog.info? 76).map (fun i => (i.zero, i.size, i.bytes)) = some (some (.agg #[.int .i64 0, .int .i64 0, .int .i64 0]), 3, 24) := by kernel_rfl
/-- The same with a key's variable, in block nk. -/
structure SK (H nk : Nat) (x0 x1 x2 x3 x4 : Value) (w W : World) (v : Value) (rest : List UInt8) (l : List K3) (p q r : Value) : Prop where
  ri : RI H x0 x1 x2 x3 x4 w W v rest l
  bk : W.heap[nk]? = some (.cells #[p, q, r] 76 (0, 0))
  lo : H + 3 ≤ nk
  ne : v.ownBlock ≠ some nk
theorem own_lt {w : World} {base : Nat} {e : TypeId} {size : Nat} {v : Value} {n : Nat} {xs : List Value} (h : w.ownsRow base e size v n xs) {k : Nat} (hk : v.ownBlock = some k) : base ≤ k ∧ k < w.heap.size := by
  rcases h.2 with ⟨rfl, _⟩ | ⟨g, cap, cur, rfl, hb, hg, _⟩
  · simp [Value.ownBlock] at hk
  · simp [Value.ownBlock] at hk; subst hk; exact ⟨hb, lt_of_block hg⟩
section
variable {H nk : Nat} {x0 x1 x2 x3 x4 : Value} {w W : World} {v : Value} {rest : List UInt8} {l : List K3} {p q r : Value}
theorem RI.var (h : RI H x0 x1 x2 x3 x4 w W v rest l) (p q r : Value) : SK H W.heap.size x0 x1 x2 x3 x4 w (W.alloc (.cells #[p, q, r] 76)) v rest l p q r := by
  have hs := h.size
  refine ⟨⟨?_, ?_, ?_, ?_, h.below.alloc (by omega) _, h.own.alloc _⟩, heap_alloc_new _ _, by omega, fun e => ?_⟩
  · rw [Below.heap_alloc _ _ _ (by omega)]; exact h.b0
  · rw [Below.heap_alloc _ _ _ (by omega)]; exact h.b1
  · rw [Below.heap_alloc _ _ _ (by omega)]; exact h.b2
  · simp; omega
  · have := own_lt h.own e; omega
theorem SK.read (h : SK H nk x0 x1 x2 x3 x4 w W v rest l p q r) (rest' : List UInt8) : SK H nk x0 x1 x2 x3 x4 w (W.setCell ⟨H + 1, 0, none⟩ (.string (bs rest'))) v rest' l p q r := by
  have hs := h.ri.size
  have hl := h.lo
  refine ⟨⟨?_, ?_, ?_, by simpa using hs, h.ri.below.setCell (by simp) _, ownsRow_setCell_below h.ri.own (by simp) _⟩, ?_, hl, h.ne⟩
  · rw [heap_setCell_other _ _ _ _ (by simp)]; exact h.ri.b0
  · exact one_setCell h.ri.b1
  · rw [heap_setCell_other _ _ _ _ (by simp)]; exact h.ri.b2
  · rw [heap_setCell_other _ _ _ _ (by simp; omega)]; exact h.bk
theorem SK.put (h : SK H nk x0 x1 x2 x3 x4 w W v rest l p q r) (i : Nat) (u p' q' r' : Value) (e : #[p, q, r].setIfInBounds i u = #[p', q', r']) : SK H nk x0 x1 x2 x3 x4 w (W.setCell ⟨nk, i, none⟩ u) v rest l p' q' r' := by
  have hs := h.ri.size
  have hl := h.lo
  refine ⟨⟨?_, ?_, ?_, by simpa using hs, h.ri.below.setCell (by simp; omega) _, ownsRow_setCell_other h.ri.own (by simpa using h.ne) _⟩, ?_, hl, h.ne⟩
  · rw [heap_setCell_other _ _ _ _ (by simp; omega)]; exact h.ri.b0
  · rw [heap_setCell_other _ _ _ _ (by simp; omega)]; exact h.ri.b1
  · rw [heap_setCell_other _ _ _ _ (by simp; omega)]; exact h.ri.b2
  · rw [heap_setCell_same _ _ _ _ _ _ h.bk, e]
theorem SK.grown (h : SK H nk x0 x1 x2 x3 x4 w W v rest l p q r) {W1 W2 : World} (o : Obj) (he : W1 = W.alloc o) (hg : W1.grownBy W2 v.ownBlock) (v' : Value) (l' : List K3) (hown : W2.ownsRow (H + 3) 76 3 v' l'.length (kcells l')) :
    RI H x0 x1 x2 x3 x4 w (W2.setCell ⟨H + 1 + 1, 5, none⟩ v') v' rest l' := by
  subst he
  have hs := h.ri.size
  have hz := hg.size
  have hne : ∀ k, k < H + 3 → some k ≠ v.ownBlock := fun k hk e => by have := own_lt h.ri.own e.symm; omega
  have hblk : ∀ k, k < H + 3 → W2.heap[k]? = W.heap[k]? := fun k hk => (hg.block k (by simp; omega) (hne k hk)).trans (Below.heap_alloc _ _ _ (by omega))
  refine ⟨?_, ?_, ?_, by simp at hz ⊢; omega, (((h.ri.below.alloc (by omega) o).grown hg (by simp; omega) (fun k e => by have := own_lt h.ri.own e; omega))).setCell (by simp; omega) _, ownsRow_setCell_below hown (by simp) _⟩
  · rw [heap_setCell_other _ _ _ _ (by simp; omega), hblk _ (by omega)]; exact h.ri.b0
  · rw [heap_setCell_other _ _ _ _ (by simp), hblk _ (by omega)]; exact h.ri.b1
  · rw [heap_setCell_same _ _ _ _ _ _ ((hblk _ (by omega)).trans h.ri.b2)]; rfl
end
theorem SK.grown_at {H nk : Nat} {x0 x1 x2 x3 x4 : Value} {w W : World} {v : Value} {rest : List UInt8} {l : List K3} {p q r : Value} (h : SK H nk x0 x1 x2 x3 x4 w W v rest l p q r) {W1 W2 : World} (o : Obj) (he : W1 = W.alloc o) (hg : W1.grownBy W2 v.ownBlock) :
    W2.heap[H + 1 + 1]? = some (.cells #[x0, x1, x2, x3, x4, v] 68 (0, 0)) := by
  subst he
  have hs := h.ri.size
  have hne : some (H + 1 + 1) ≠ v.ownBlock := fun e => by have := own_lt h.ri.own e.symm; omega
  exact ((hg.block _ (by simp; omega) hne).trans (Below.heap_alloc _ _ _ (by omega))).trans h.ri.b2
theorem keysAt_of_own {W : World} {base : Nat} {v : Value} {l : List K3} (h : W.ownsRow base 76 3 v l.length (kcells l)) : KeysAt W v l := by
  rcases h.2 with ⟨rfl, h0⟩ | ⟨g, cap, cur, rfl, hb, hg, h1, h2, h3, h4⟩
  · exact .inl ⟨rfl, List.length_eq_zero_iff.1 h0⟩
  · refine .inr ⟨g, 0, cap, rfl, lt_of_block hg, fun i hi => ?_⟩
    have hc : ∀ j, j < l.length * 3 → W.cell? ⟨g, j, none⟩ = (kcells l)[j]? := fun j hj => h.cellAt j hj
    have hk := kcells_get l i hi
    rw [Nat.zero_add, hc _ (by omega), hc _ (by omega), hc _ (by omega)]
    exact hk
theorem own_mono {w : World} {base base' : Nat} {e : TypeId} {size : Nat} {v : Value} {n : Nat} {xs : List Value} (h : w.ownsRow base e size v n xs) (hb : base' ≤ base) : w.ownsRow base' e size v n xs := by
  obtain ⟨hl, h⟩ := h
  refine ⟨hl, ?_⟩
  rcases h with h | ⟨g, cap, cur, hv, hg, h⟩
  · exact .inl h
  · exact .inr ⟨g, cap, cur, hv, Nat.le_trans hb hg, h⟩
theorem own_below {w w' : World} {base : Nat} {e : TypeId} {size : Nat} {v : Value} {n : Nat} {xs : List Value} (h : w.ownsRow base e size v n xs) (hb : Below w.heap.size w w') : w'.ownsRow base e size v n xs := by
  obtain ⟨hl, h⟩ := h
  refine ⟨hl, ?_⟩
  rcases h with h | ⟨g, cap, cur, hv, hg, hh, h⟩
  · exact .inl h
  · exact .inr ⟨g, cap, cur, hv, hg, (hb.block g (lt_of_block hh)).trans hh, h⟩
theorem own_form {w : World} {base : Nat} {e : TypeId} {size : Nat} {v : Value} {n : Nat} {xs : List Value} (h : w.ownsRow base e size v n xs) : ∃ ao cap, v = .slice ao n cap := by
  rcases h.2 with ⟨rfl, rfl⟩ | ⟨g, cap, cur, rfl, _⟩
  · exact ⟨none, 0, rfl⟩
  · exact ⟨_, cap, rfl⟩
set_option maxHeartbeats 4000000 in
theorem read_any (c0 c1 i0 i1 i2 i3 s0 s1 s2 s3 t n : UInt8) (l : List UInt8) (w : World) (hl : l.length = n.toNat * 6) :
    Calls Tryz.prog 81 #[.string (bs (c0 :: c1 :: i0 :: i1 :: i2 :: i3 :: s0 :: s1 :: s2 :: s3 :: t :: n :: l))] w fun e w' => ∃ v, e = .returned (mval ⟨(c0.toNat : Int), (c1.toNat : Int), n4 i0 i1 i2 i3, n4 s0 s1 s2 s3, (t.toNat : Int), readKs n.toNat l⟩ v) ∧ w'.ownsRow w.heap.size 76 3 v (readKs n.toNat l).length (kcells (readKs n.toNat l)) ∧ Below w.heap.size w w' := by
  have hn := n.toNat_lt
  have hll : l.length < 10000 := by omega
  go_enter Tryz.func81, Tryz.ntmps81
  go_wp2_with fail
  refine Calls.mono (take_one c0 (c1 :: i0 :: i1 :: i2 :: i3 :: s0 :: s1 :: s2 :: s3 :: t :: n :: l) _ _ (by first | omega | (simp; omega)) (by simp [go_sem]) (by simp [go_sem])) ?_
  rintro e w1 ⟨rfl, rfl⟩
  go_wp2_with fail
  refine Calls.mono (take_one c1 (i0 :: i1 :: i2 :: i3 :: s0 :: s1 :: s2 :: s3 :: t :: n :: l) _ _ (by first | omega | (simp; omega)) (by simp [go_sem]) (by simp [go_sem])) ?_
  rintro e w1 ⟨rfl, rfl⟩
  go_wp2_with fail
  refine Calls.mono (take_four i0 i1 i2 i3 (s0 :: s1 :: s2 :: s3 :: t :: n :: l) _ _ (by first | omega | (simp; omega)) (by simp [go_sem]) (by simp [go_sem])) ?_
  rintro e w1 ⟨rfl, rfl⟩
  go_wp2_with fail
  refine Calls.mono (take_four s0 s1 s2 s3 (t :: n :: l) _ _ (by first | omega | (simp; omega)) (by simp [go_sem]) (by simp [go_sem])) ?_
  rintro e w1 ⟨rfl, rfl⟩
  go_wp2_with fail
  refine Calls.mono (take_one t (n :: l) _ _ (by first | omega | (simp; omega)) (by simp [go_sem]) (by simp [go_sem])) ?_
  rintro e w1 ⟨rfl, rfl⟩
  go_wp2_with fail
  refine Calls.mono (take_one n l _ _ (by first | omega | (simp; omega)) (by simp [go_sem]) (by simp [go_sem])) ?_
  rintro e w1 ⟨rfl, rfl⟩
  go_wp2_with fail
  go_loopw [19] (fun i wr => ∃ (k : Nat) (v : Value), k ≤ n.toNat ∧ i = .int .i64 k ∧ RI w.heap.size (.int .i64 (c0.toNat : Int)) (.int .i64 (c1.toNat : Int)) (.int .i64 (n4 i0 i1 i2 i3)) (.int .i64 (n4 s0 s1 s2 s3)) (.int .i64 (t.toNat : Int)) w wr v (l.drop (6 * k)) ((readKs n.toNat l).take k)) (fun i _ => n.toNat - (intOf i).toNat)
  case atStart =>
    refine ⟨0, .slice none 0 0, Nat.zero_le _, rfl, ?_⟩
    refine ⟨?_, ?_, ?_, by simp, (((Below.refl _ _).alloc (Nat.le_refl _) _).alloc (by simp) _).alloc (by simp; omega) _, World.ownsRow_nil _ _ _ _⟩
    · rw [Below.heap_alloc _ _ _ (by simp; omega), Below.heap_alloc _ _ _ (by simp)]; exact heap_alloc_new _ _
    · rw [Below.heap_alloc _ _ _ (by simp)]
      have := heap_alloc_new (w.alloc (.cells #[.int .i64 0, .int .i64 0, .int .i64 0, .int .i64 0, .int .i64 0, .slice none 0 0] 68)) (.cells #[.string (bs l)] 191)
      simpa using this
    · have := heap_alloc_new ((w.alloc (.cells #[.int .i64 0, .int .i64 0, .int .i64 0, .int .i64 0, .int .i64 0, .slice none 0 0] 68)).alloc (.cells #[.string (bs l)] 191)) (.cells #[.int .i64 (c0.toNat : Int), .int .i64 (c1.toNat : Int), .int .i64 (n4 i0 i1 i2 i3), .int .i64 (n4 s0 s1 s2 s3), .int .i64 (t.toNat : Int), .slice none 0 0] 68)
      simpa using this
  case round =>
    obtain ⟨k, v, hk, rfl, R⟩ := hrel
    have hkl : ((readKs n.toNat l).take k).length = k := by rw [List.length_take, readKs_len _ _ hl]; omega
    by_cases hlt : k < n.toNat
    · obtain ⟨a, b0, b1, b2, b3, c, r, h1, h2, h3⟩ := drop_six n.toNat k l hl hlt
      have hrl : r.length < 10000 := by rw [← h2]; simp; omega
      rw [h1] at R
      have H2 := hide h2
      have H3 := hide h3
      have HK := hide hkl
      clear h1 h2 h3 hkl
      have S0 := R.var (.int .i64 0) (.int .i64 0) (.int .i64 0)
      clear R
      go_wp2_with fail
      generalize hW1 : wr.alloc _ = W1 at S0 ⊢
      generalize wr.heap.size = nk at S0 ⊢
      clear hW1
      refine Calls.mono (take_one a (b0 :: b1 :: b2 :: b3 :: c :: r) _ _ (by simp; omega) (cell_of_one S0.ri.b1) (free_of_one S0.ri.b1)) ?_
      rintro e w1 ⟨rfl, rfl⟩
      have S1 := S0.read (b0 :: b1 :: b2 :: b3 :: c :: r)
      clear S0
      generalize W1.setCell _ _ = W2 at S1 ⊢
      have k0 : W2.cell? ⟨nk, 0, none⟩ = some (.int .i64 0) := cell_at S1.bk 0
      have kf := free_at S1.bk
      go_wp2_with fail
      clear k0 kf
      have S2 := S1.put 0 (.int .i64 (a.toNat : Int)) _ _ _ rfl
      clear S1
      generalize W2.setCell _ _ = W3 at S2 ⊢
      refine Calls.mono (take_four b0 b1 b2 b3 (c :: r) _ _ (by simp; omega) (cell_of_one S2.ri.b1) (free_of_one S2.ri.b1)) ?_
      rintro e w1 ⟨rfl, rfl⟩
      have S3 := S2.read (c :: r)
      clear S2
      generalize W3.setCell _ _ = W4 at S3 ⊢
      have k0 : W4.cell? ⟨nk, 1, none⟩ = some (.int .i64 0) := cell_at S3.bk 1
      have kf := free_at S3.bk
      go_wp2_with fail
      clear k0 kf
      have S4 := S3.put 1 (.int .i64 (n4 b0 b1 b2 b3)) _ _ _ rfl
      clear S3
      generalize W4.setCell _ _ = W5 at S4 ⊢
      refine Calls.mono (take_one c r _ _ (by omega) (cell_of_one S4.ri.b1) (free_of_one S4.ri.b1)) ?_
      rintro e w1 ⟨rfl, rfl⟩
      have S5 := S4.read r
      clear S4
      generalize W5.setCell _ _ = W6 at S5 ⊢
      have S6 := S5.put 2 (.int .i64 (c.toNat : Int)) _ _ _ rfl
      have k2 : W6.cell? ⟨nk, 2, none⟩ = some (.int .i64 0) := cell_at S5.bk 2
      have k2f : W6.frozen? ⟨nk, 2, none⟩ = false := free_at S5.bk 2
      have k0 : (W6.setCell ⟨nk, 2, none⟩ (.int .i64 (c.toNat : Int))).cell? ⟨nk, 0, none⟩ = some (.int .i64 (a.toNat : Int)) := cell_at S6.bk 0
      have k1 : (W6.setCell ⟨nk, 2, none⟩ (.int .i64 (c.toNat : Int))).cell? ⟨nk, 1, none⟩ = some (.int .i64 (n4 b0 b1 b2 b3)) := cell_at S6.bk 1
      have k3 : (W6.setCell ⟨nk, 2, none⟩ (.int .i64 (c.toNat : Int))).cell? ⟨nk, 2, none⟩ = some (.int .i64 (c.toNat : Int)) := cell_at S6.bk 2
      have m5 : (W6.setCell ⟨nk, 2, none⟩ (.int .i64 (c.toNat : Int))).cell? ⟨w.heap.size + 1 + 1, 5, none⟩ = some v := cell_at S6.ri.b2 5
      have HS6 := hide S6
      clear S5 S6
      obtain ⟨ti, hi, hz0, hz1, hz2⟩ := info_parts Tryz.infoKey
      have hb6 := (unhide HS6).ri.size
      simp only [World.size_setCell] at hb6
      go_wp2_with (at_builtin; refine wpList_append_own _ rfl _ _ 46 rfl (w.heap.size + 3) 76 ti (.agg #[.int .i64 0, .int .i64 0, .int .i64 0]) 3 24 Tryz.underlying46 hi hz0 hz1 hz2 rfl (by decide) v _ _ rfl ((unhide HS6).ri.own.alloc _) ⟨W6.heap.size, 0, none⟩ 1 1 [.int .i64 (a.toNat : Int), .int .i64 (n4 b0 b1 b2 b3), .int .i64 (c.toNat : Int)] rfl rfl ?c1 ?c2 ?c3 ?c4 ?c5 ?_)
      case c1 =>
        have hh := heap_alloc_new (W6.setCell ⟨nk, 2, none⟩ (.int .i64 (c.toNat : Int))) (.cells #[.int .i64 (a.toNat : Int), .int .i64 (n4 b0 b1 b2 b3), .int .i64 (c.toNat : Int)] 76)
        rw [World.size_setCell] at hh
        exact World.news_of_block hh
      case c2 => intro u hu; simp at hu; rcases hu with rfl | rfl | rfl <;> rfl
      case c3 => rw [unhide HK]; unfold maxLen; omega
      case c4 => rw [unhide HK]; omega
      case c5 => simp; omega
      intro v' w1 hown' hgrow _
      have hl' : min k (readKs n.toNat l).length + 1 = (List.take (k + 1) (readKs n.toNat l)).length := by rw [unhide H3]; simp
      rw [hl', show kcells (List.take k (readKs n.toNat l)) ++ [Value.int .i64 (a.toNat : Int), .int .i64 (n4 b0 b1 b2 b3), .int .i64 (c.toNat : Int)] = kcells (List.take (k + 1) (readKs n.toNat l)) from by rw [unhide H3, kcells_append]; rfl] at hown'
      have S7 := (unhide HS6).grown _ rfl hgrow v' _ hown'
      have hbm := (unhide HS6).grown_at _ rfl hgrow
      have hm5 : w1.cell? ⟨w.heap.size + 1 + 1, 5, none⟩ = some v := cell_at hbm 5
      have hm5f : w1.frozen? ⟨w.heap.size + 1 + 1, 5, none⟩ = false := free_at hbm 5
      have hL : (List.take (k + 1) (readKs n.toNat l)).length = k + 1 := by rw [List.length_take, readKs_len _ _ hl]; omega
      obtain ⟨ao', cap', hv'⟩ := own_form hown'
      rw [hL] at hv'
      subst hv'
      clear hL
      have HS7 := hide S7
      clear S7 hbm HS6 hown' hgrow k0 k1 k2 k3 k2f m5 hl'
      go_wp2
      go_roundw
      case rel =>
        refine ⟨k + 1, .slice ao' (k + 1) cap', by omega, by go_num, ?_⟩
        rw [unhide H2]
        exact unhide HS7
      case measure => simp [intOf]; omega
    · have e : k = n.toNat := by omega
      have hR := R
      rw [e, List.take_of_length_le (by rw [readKs_len _ _ hl]; omega)] at hR
      have m0 := cell_at R.b2 0
      have m1 := cell_at R.b2 1
      have m2 := cell_at R.b2 2
      have m3 := cell_at R.b2 3
      have m4 := cell_at R.b2 4
      have m5 := cell_at R.b2 5
      have f0 := cell_at R.b0 0
      have f1 := cell_at R.b0 1
      have f2 := cell_at R.b0 2
      have f3 := cell_at R.b0 3
      have f4 := cell_at R.b0 4
      have f5 := cell_at R.b0 5
      have fz := free_at R.b0
      simp at m0 m1 m2 m3 m4 m5 f0 f1 f2 f3 f4 f5
      have HR := hide hR
      clear R hR e
      obtain ⟨ao', cap', rfl⟩ := own_form (unhide HR).own
      go_wp2
      have hbel := (unhide HR).below
      have hsz := (unhide HR).size
      refine bodyPost_ret (v := mval ⟨(c0.toNat : Int), (c1.toNat : Int), n4 i0 i1 i2 i3, n4 s0 s1 s2 s3, (t.toNat : Int), readKs n.toNat l⟩ (.slice ao' (readKs n.toNat l).length cap')) (by simp [results, Tryz.results81, go_sem, f0, f1, f2, f3, f4, f5]) rfl ⟨_, rfl, ?_, ?_⟩
      · have hown := ((((((unhide HR).own |> (ownsRow_setCell_below · (a := ⟨w.heap.size, 0, none⟩) (by simp) (.int .i64 (c0.toNat : Int)))) |> (ownsRow_setCell_below · (a := ⟨w.heap.size, 1, none⟩) (by simp) (.int .i64 (c1.toNat : Int)))) |> (ownsRow_setCell_below · (a := ⟨w.heap.size, 2, none⟩) (by simp) (.int .i64 (n4 i0 i1 i2 i3)))) |> (ownsRow_setCell_below · (a := ⟨w.heap.size, 3, none⟩) (by simp) (.int .i64 (n4 s0 s1 s2 s3)))) |> (ownsRow_setCell_below · (a := ⟨w.heap.size, 4, none⟩) (by simp) (.int .i64 (t.toNat : Int)))) |> (ownsRow_setCell_below · (a := ⟨w.heap.size, 5, none⟩) (by simp) (.slice ao' (readKs n.toNat l).length cap'))
        exact own_mono hown (by omega)
      · exact (((((hbel.setCell (Nat.le_refl _) _).setCell (Nat.le_refl _) _).setCell (Nat.le_refl _) _).setCell (Nat.le_refl _) _).setCell (Nat.le_refl _) _).setCell (Nat.le_refl _) _
end Go.Proofs.YtnneljcbelgoeaaGreatDoor.wire
namespace Go.Proofs.YtnneljcbelgoeaaGreatDoor.wire
open Go.RowKit

def M6.zero : M6 := ⟨0, 0, 0, 0, 0, []⟩
/-- The message that bytes of the right length hold. -/
def readM : List UInt8 → M6
  | c0 :: c1 :: i0 :: i1 :: i2 :: i3 :: s0 :: s1 :: s2 :: s3 :: t :: n :: l => ⟨(c0.toNat : Int), (c1.toNat : Int), n4 i0 i1 i2 i3, n4 s0 s1 s2 s3, (t.toNat : Int), readKs n.toNat l⟩
  | _ => M6.zero
/-- Decode's answer. -/
def decB (l : List UInt8) : Bool := rightB l && wholeB (readM l)
theorem right_form {l : List UInt8} (h : rightB l = true) : ∃ c0 c1 i0 i1 i2 i3 s0 s1 s2 s3 t n r, l = c0 :: c1 :: i0 :: i1 :: i2 :: i3 :: s0 :: s1 :: s2 :: s3 :: t :: n :: r ∧ r.length = n.toNat * 6 := by
  simp [rightB] at h
  obtain ⟨h12, he⟩ := h
  match l, h12, he with
  | c0 :: c1 :: i0 :: i1 :: i2 :: i3 :: s0 :: s1 :: s2 :: s3 :: t :: n :: r, _, he =>
    refine ⟨c0, c1, i0, i1, i2, i3, s0, s1, s2, s3, t, n, r, rfl, ?_⟩
    simp at he
    omega
theorem right_anyL (l : List UInt8) (w : World) (hl : l.length ≤ maxLen) : Calls Tryz.prog 80 #[.string (bs l)] w fun e w' => e = .returned (.bool (rightB l)) ∧ w' = w := by
  have := right_any (bs l) w (by rw [bs_size]; exact hl)
  rwa [bs_list] at this
theorem read_anyL (l : List UInt8) (w : World) (h : rightB l = true) :
    Calls Tryz.prog 81 #[.string (bs l)] w fun e w' => ∃ v, e = .returned (mval (readM l) v) ∧ w'.ownsRow w.heap.size 76 3 v (readM l).ups.length (kcells (readM l).ups) ∧ (readM l).ups.length ≤ 1000000 ∧ Below w.heap.size w w' := by
  obtain ⟨c0, c1, i0, i1, i2, i3, s0, s1, s2, s3, t, n, r, rfl, hr⟩ := right_form h
  refine (read_any c0 c1 i0 i1 i2 i3 s0 s1 s2 s3 t n r w hr).mono ?_
  rintro e w' ⟨v, he, hk, hb⟩
  have := n.toNat_lt
  exact ⟨v, he, hk, by show (readKs n.toNat r).length ≤ _; rw [readKs_len _ _ hr]; omega, hb⟩
set_option maxHeartbeats 2000000 in
theorem decode_no (l : List UInt8) (w : World) (hl : l.length ≤ maxLen) (hd : decB l = false) :
    Calls Tryz.prog 51 #[.string (bs l)] w fun e w' => e = .returned (.tuple #[mval M6.zero (.slice none 0 0), .iface 108 (.int .i64 2)]) ∧ Below w.heap.size w w' := by
  cases hr : rightB l
  · have HR := hide hr
    clear hr hd
    go_enter Tryz.func51, Tryz.ntmps51
    go_wp2_with fail
    refine (right_anyL l _ hl).mono ?_
    rw [unhide HR]
    rintro e w1 ⟨rfl, rfl⟩
    go_wp2
    exact bodyPost_ret (v := .tuple #[mval M6.zero (.slice none 0 0), .iface 108 (.int .i64 2)]) (by simp [results, Tryz.results51, go_sem, mval, M6.zero]) rfl ⟨rfl, (Below.refl _ _).alloc (Nat.le_refl _) _⟩
  · have hw : wholeB (readM l) = false := by simpa [decB, hr] using hd
    have HR := hide hr
    have HW := hide hw
    clear hr hd hw
    go_enter Tryz.func51, Tryz.ntmps51
    go_wp2_with fail
    refine (right_anyL l _ hl).mono ?_
    rw [unhide HR]
    rintro e w1 ⟨rfl, rfl⟩
    go_wp2_with fail
    refine (read_anyL l _ (unhide HR)).mono ?_
    generalize readM l = m at HW ⊢
    rintro e w1 ⟨v, rfl, hk, hlen, hb⟩
    obtain ⟨ao, cap, rfl⟩ := own_form hk
    have HK := hide hk
    have HB := hide hb
    clear hk hb
    go_wp2_with fail
    refine (whole_any m _ _ ((keysAt_of_own (unhide HK)).below ((Below.refl _ _).alloc (Nat.le_refl _) _)) hlen).mono ?_
    rw [unhide HW]
    rintro e w2 ⟨rfl, hb2⟩
    have hz1 := (unhide HB).size
    have hz2 := hb2.size
    simp at hz1 hz2
    have hblk : w2.heap[w.heap.size]? = some (.cells #[.int .i64 0, .int .i64 0, .int .i64 0, .int .i64 0, .int .i64 0, .slice none 0 0] 68 (0, 0)) := by
      rw [hb2.block _ (by simp; omega), Below.heap_alloc _ _ _ (by omega), (unhide HB).block _ (by simp)]
      exact heap_alloc_new _ _
    have hblm : w2.heap[w1.heap.size]? = some (.cells #[.int .i64 m.kind, .int .i64 m.frm, .int .i64 m.inc, .int .i64 m.seq, .int .i64 m.tgt, .slice ao m.ups.length cap] 68 (0, 0)) := by
      rw [hb2.block _ (by simp)]
      exact heap_alloc_new _ _
    have hbel : Below w.heap.size w w2 := (((Below.refl w.heap.size w).alloc (Nat.le_refl _) _).trans ((unhide HB).mono (by simp))).trans (((Below.refl w.heap.size w1).alloc (by omega) _).trans (hb2.mono (by simp; omega)))
    have hkeys := own_below (own_below (unhide HK) ((Below.refl _ _).alloc (Nat.le_refl _) _)) hb2
    rw [World.size_alloc] at hkeys
    have f0 : w2.cell? ⟨w.heap.size, 0, none⟩ = some (.int .i64 0) := cell_at hblk 0
    have f1 : w2.cell? ⟨w.heap.size, 1, none⟩ = some (.int .i64 0) := cell_at hblk 1
    have f2 : w2.cell? ⟨w.heap.size, 2, none⟩ = some (.int .i64 0) := cell_at hblk 2
    have f3 : w2.cell? ⟨w.heap.size, 3, none⟩ = some (.int .i64 0) := cell_at hblk 3
    have f4 : w2.cell? ⟨w.heap.size, 4, none⟩ = some (.int .i64 0) := cell_at hblk 4
    have f5 : w2.cell? ⟨w.heap.size, 5, none⟩ = some (.slice none 0 0) := cell_at hblk 5
    have fz : ∀ j, w2.frozen? ⟨w.heap.size, j, none⟩ = false := free_at hblk
    have m0 : w2.cell? ⟨w1.heap.size, 0, none⟩ = some (.int .i64 m.kind) := cell_at hblm 0
    have m1 : w2.cell? ⟨w1.heap.size, 1, none⟩ = some (.int .i64 m.frm) := cell_at hblm 1
    have m2 : w2.cell? ⟨w1.heap.size, 2, none⟩ = some (.int .i64 m.inc) := cell_at hblm 2
    have m3 : w2.cell? ⟨w1.heap.size, 3, none⟩ = some (.int .i64 m.seq) := cell_at hblm 3
    have m4 : w2.cell? ⟨w1.heap.size, 4, none⟩ = some (.int .i64 m.tgt) := cell_at hblm 4
    have m5 : w2.cell? ⟨w1.heap.size, 5, none⟩ = some (.slice ao m.ups.length cap) := cell_at hblm 5
    have HBEL := hide hbel
    have HKEY := hide hkeys
    clear hblk hblm hb2 hbel hkeys HB HK HW
    go_wp2
    refine bodyPost_ret (v := .tuple #[mval M6.zero (.slice none 0 0), .iface 108 (.int .i64 2)]) (by simp [results, Tryz.results51, go_sem, f0, f1, f2, f3, f4, f5, mval, M6.zero]) rfl ⟨rfl, ?_⟩
    exact ((((((unhide HBEL).setCell (Nat.le_refl _) _).setCell (Nat.le_refl _) _).setCell (Nat.le_refl _) _).setCell (Nat.le_refl _) _).setCell (Nat.le_refl _) _).setCell (Nat.le_refl _) _
set_option maxHeartbeats 2000000 in
theorem decode_yes (l : List UInt8) (w : World) (hl : l.length ≤ maxLen) (hd : decB l = true) :
    Calls Tryz.prog 51 #[.string (bs l)] w fun e w' => ∃ v, e = .returned (.tuple #[mval (readM l) v, .nilIface]) ∧ w'.ownsRow w.heap.size 76 3 v (readM l).ups.length (kcells (readM l).ups) ∧ Below w.heap.size w w' := by
    have hr : rightB l = true := by simp [decB] at hd; exact hd.1
    have hw : wholeB (readM l) = true := by simp [decB] at hd; exact hd.2
    have HR := hide hr
    have HW := hide hw
    clear hr hd hw
    go_enter Tryz.func51, Tryz.ntmps51
    go_wp2_with fail
    refine (right_anyL l _ hl).mono ?_
    rw [unhide HR]
    rintro e w1 ⟨rfl, rfl⟩
    go_wp2_with fail
    refine (read_anyL l _ (unhide HR)).mono ?_
    generalize hm : readM l = m at HW ⊢
    have HM := hide hm
    clear hm
    rintro e w1 ⟨v, rfl, hk, hlen, hb⟩
    obtain ⟨ao, cap, rfl⟩ := own_form hk
    have HK := hide hk
    have HB := hide hb
    clear hk hb
    go_wp2_with fail
    refine (whole_any m _ _ ((keysAt_of_own (unhide HK)).below ((Below.refl _ _).alloc (Nat.le_refl _) _)) hlen).mono ?_
    rw [unhide HW]
    rintro e w2 ⟨rfl, hb2⟩
    have hz1 := (unhide HB).size
    have hz2 := hb2.size
    simp at hz1 hz2
    have hblk : w2.heap[w.heap.size]? = some (.cells #[.int .i64 0, .int .i64 0, .int .i64 0, .int .i64 0, .int .i64 0, .slice none 0 0] 68 (0, 0)) := by
      rw [hb2.block _ (by simp; omega), Below.heap_alloc _ _ _ (by omega), (unhide HB).block _ (by simp)]
      exact heap_alloc_new _ _
    have hblm : w2.heap[w1.heap.size]? = some (.cells #[.int .i64 m.kind, .int .i64 m.frm, .int .i64 m.inc, .int .i64 m.seq, .int .i64 m.tgt, .slice ao m.ups.length cap] 68 (0, 0)) := by
      rw [hb2.block _ (by simp)]
      exact heap_alloc_new _ _
    have hbel : Below w.heap.size w w2 := (((Below.refl w.heap.size w).alloc (Nat.le_refl _) _).trans ((unhide HB).mono (by simp))).trans (((Below.refl w.heap.size w1).alloc (by omega) _).trans (hb2.mono (by simp; omega)))
    have hkeys := own_below (own_below (unhide HK) ((Below.refl _ _).alloc (Nat.le_refl _) _)) hb2
    rw [World.size_alloc] at hkeys
    have f0 : w2.cell? ⟨w.heap.size, 0, none⟩ = some (.int .i64 0) := cell_at hblk 0
    have f1 : w2.cell? ⟨w.heap.size, 1, none⟩ = some (.int .i64 0) := cell_at hblk 1
    have f2 : w2.cell? ⟨w.heap.size, 2, none⟩ = some (.int .i64 0) := cell_at hblk 2
    have f3 : w2.cell? ⟨w.heap.size, 3, none⟩ = some (.int .i64 0) := cell_at hblk 3
    have f4 : w2.cell? ⟨w.heap.size, 4, none⟩ = some (.int .i64 0) := cell_at hblk 4
    have f5 : w2.cell? ⟨w.heap.size, 5, none⟩ = some (.slice none 0 0) := cell_at hblk 5
    have fz : ∀ j, w2.frozen? ⟨w.heap.size, j, none⟩ = false := free_at hblk
    have m0 : w2.cell? ⟨w1.heap.size, 0, none⟩ = some (.int .i64 m.kind) := cell_at hblm 0
    have m1 : w2.cell? ⟨w1.heap.size, 1, none⟩ = some (.int .i64 m.frm) := cell_at hblm 1
    have m2 : w2.cell? ⟨w1.heap.size, 2, none⟩ = some (.int .i64 m.inc) := cell_at hblm 2
    have m3 : w2.cell? ⟨w1.heap.size, 3, none⟩ = some (.int .i64 m.seq) := cell_at hblm 3
    have m4 : w2.cell? ⟨w1.heap.size, 4, none⟩ = some (.int .i64 m.tgt) := cell_at hblm 4
    have m5 : w2.cell? ⟨w1.heap.size, 5, none⟩ = some (.slice ao m.ups.length cap) := cell_at hblm 5
    have HBEL := hide hbel
    have HKEY := hide hkeys
    clear hblk hblm hb2 hbel hkeys HB HK HW
    go_wp2
    refine bodyPost_ret (v := .tuple #[mval m (.slice ao m.ups.length cap), .nilIface]) (by simp [results, Tryz.results51, go_sem, f0, f1, f2, f3, f4, f5, mval]) rfl ⟨.slice ao m.ups.length cap, by rw [unhide HM], ?_, ?_⟩
    · rw [unhide HM]
      exact own_mono (ownsRow_setCell_below (ownsRow_setCell_below (ownsRow_setCell_below (ownsRow_setCell_below (ownsRow_setCell_below (ownsRow_setCell_below (unhide HKEY) (by simp) _) (by simp) _) (by simp) _) (by simp) _) (by simp) _) (by simp) _) (by omega)
    · exact ((((((unhide HBEL).setCell (Nat.le_refl _) _).setCell (Nat.le_refl _) _).setCell (Nat.le_refl _) _).setCell (Nat.le_refl _) _).setCell (Nat.le_refl _) _).setCell (Nat.le_refl _) _
end Go.Proofs.YtnneljcbelgoeaaGreatDoor.wire
namespace Go.Proofs.YtnneljcbelgoeaaGreatDoor.wire
open Go.RowKit
attribute [local go_sem ↓] Go.wp_at_zero Go.wp_at_succ

/-- Byte i of a number. -/
def byteAt (n : Int) (i : Nat) : UInt8 := UInt8.ofNat ((n / 2 ^ (8 * i)) % 256).toNat
/-- The bytes of a number from place width - 1 down to place j. -/
def hiB (n : Int) : Nat → Nat → List UInt8
  | 0, _ => []
  | w + 1, j => if w + 1 ≤ j then [] else byteAt n w :: hiB n w j
def putB (width : Nat) (n : Int) : List UInt8 := hiB n width 0
def ucells (l : List UInt8) : List Value := l.map fun c => .int .u8 (c.toNat : Int)
theorem Tryz.infoU8 : (Tryz.prog.info? 5).map (fun i => (i.zero, i.size, i.bytes)) = some (some (.int .u8 0), 1, 1) := by kernel_rfl
theorem byteAt_int (n : Int) (i : Nat) : ((byteAt n i).toNat : Int) = (n / 2 ^ (8 * i)) % 256 := by
  unfold byteAt
  have h0 : 0 ≤ (n / 2 ^ (8 * i)) % 256 := Int.emod_nonneg _ (by omega)
  have h1 : (n / 2 ^ (8 * i)) % 256 < 256 := Int.emod_lt_of_pos _ (by omega)
  generalize (n / 2 ^ (8 * i)) % 256 = y at h0 h1
  obtain ⟨k, rfl⟩ := Int.eq_ofNat_of_zero_le h0
  simp
  omega
theorem wrap8q (q : Nat) (h : (q : Int) < 4) : IntKind.i64.wrap (8 * (q : Int)) = 8 * (q : Int) := by rw [IntKind.wrap_i64]; omega
theorem low8 (x : Int) (q : Nat) : IntKind.u8.wrap (x / 2 ^ (8 * (q : Int)).toNat) = ((byteAt x q).toNat : Int) := by
  rw [IntKind.wrap_u8, byteAt_int, show (8 * (q : Int)).toNat = 8 * q from by omega]
/-- What a writer's put leaves. -/
structure Puts (b : Nat) (v v' : Value) (W W' : World) : Prop where
  os : W'.os = W.os
  tape : W'.tape = W.tape
  output : W'.output = W.output
  size : W.heap.size ≤ W'.heap.size
  block : ∀ k, k < W.heap.size → k ≠ b → some k ≠ v.ownBlock → W'.heap[k]? = W.heap[k]?
  lies : v'.ownBlock = v.ownBlock ∨ ∃ g, v'.ownBlock = some g ∧ W.heap.size ≤ g
theorem Puts.refl (b : Nat) (v : Value) (W : World) : Puts b v v W W := ⟨rfl, rfl, rfl, Nat.le_refl _, fun _ _ _ _ => rfl, .inl rfl⟩
theorem Puts.trans {b : Nat} {v v' v'' : Value} {W W' W'' : World} (h : Puts b v v' W W') (k : Puts b v' v'' W' W'') : Puts b v v'' W W'' := by
  refine ⟨k.os.trans h.os, k.tape.trans h.tape, k.output.trans h.output, Nat.le_trans h.size k.size, fun j hj hb hv => ?_, ?_⟩
  · rw [k.block j (Nat.lt_of_lt_of_le hj h.size) hb ?_, h.block j hj hb hv]
    rcases h.lies with e | ⟨g, e, hg⟩
    · rw [e]; exact hv
    · rw [e]; intro e'; simp at e'; omega
  · rcases k.lies with e | ⟨g, e, hg⟩
    · rw [e]; exact h.lies
    · exact .inr ⟨g, e, Nat.le_trans h.size hg⟩
/-- A writer in block b, whose row owns the bytes l. -/
structure WI (b base : Nat) (W : World) (v : Value) (l : List UInt8) : Prop where
  blk : W.heap[b]? = some (.cells #[v] 141 (0, 0))
  own : W.ownsRow base 5 1 v l.length (ucells l)
  lt : b < base
  le : base ≤ W.heap.size
theorem hiB_len (n : Int) : ∀ (w j : Nat), j ≤ w → (hiB n w j).length = w - j
  | 0, j, h => by simp [hiB]
  | w + 1, j, h => by
    by_cases e : w + 1 ≤ j
    · simp [hiB, e]
    · simp only [hiB, if_neg e, List.length_cons]; rw [hiB_len n w j (by omega)]; omega
theorem hiB_self (n : Int) (w : Nat) : hiB n w w = [] := by cases w <;> simp [hiB]
theorem hiB_snoc (n : Int) : ∀ (w j : Nat), j < w → hiB n w j = hiB n w (j + 1) ++ [byteAt n j]
  | 0, j, h => by omega
  | w + 1, j, h => by
    by_cases e : w = j
    · subst e
      rw [hiB_self, hiB, if_neg (by omega), hiB_self]; rfl
    · rw [hiB, if_neg (by omega), hiB, if_neg (by omega), hiB_snoc n w j (by omega)]; rfl
theorem putB_len (w : Nat) (n : Int) : (putB w n).length = w := by unfold putB; rw [hiB_len n w 0 (by omega)]; rfl
theorem ucells_len (l : List UInt8) : (ucells l).length = l.length := by simp [ucells]
theorem ucells_append (a b : List UInt8) : ucells (a ++ b) = ucells a ++ ucells b := by simp [ucells]
theorem flat_len (w : Nat) (l : List Int) : (l.flatMap (putB w)).length = l.length * w := by
  induction l with
  | nil => simp
  | cons a r ih => simp [putB_len, ih, Nat.add_mul]; omega
theorem flat_snoc (w : Nat) (l : List Int) (k : Nat) (h : k < l.length) : (l.take (k + 1)).flatMap (putB w) = (l.take k).flatMap (putB w) ++ putB w l[k] := by
  rw [List.take_succ_eq_append_getElem h, List.flatMap_append]; simp
theorem WI.step {b base : Nat} {W W0 W1 : World} {v v' : Value} {l : List UInt8} {c : UInt8} {o : Obj} (h : WI b base W v l) (e0 : W0 = (W.alloc o).drew) (hg : W0.grownBy W1 v.ownBlock) (hown : W1.ownsRow base 5 1 v' (l.length + 1) (ucells l ++ [.int .u8 (c.toNat : Int)])) (hat : v'.ownBlock = v.ownBlock ∨ v'.ownBlock = some (W.heap.size + 1)) :
    WI b base (W1.setCell ⟨b, 0, none⟩ v') v' (l ++ [c]) ∧ Puts b v v' W (W1.setCell ⟨b, 0, none⟩ v') := by
  subst e0
  have hle := h.le
  have hlt := h.lt
  have hz : W.heap.size + 1 ≤ W1.heap.size := by have := hg.size; simpa [heap_drew] using this
  have hnb : some b ≠ v.ownBlock := fun e => by have := own_lt h.own e.symm; omega
  have hblk : ∀ k, k < W.heap.size → some k ≠ v.ownBlock → W1.heap[k]? = W.heap[k]? := fun k hk hv => (hg.block k (by simp [heap_drew]; omega) hv).trans (by rw [heap_drew]; exact Below.heap_alloc _ _ _ hk)
  have hb1 := (hblk b (by omega) hnb).trans h.blk
  refine ⟨⟨one_setCell hb1, ?_, hlt, by simp; omega⟩, ⟨?_, ?_, ?_, by simp; omega, ?_, ?_⟩⟩
  · have := ownsRow_setCell_below hown (a := ⟨b, 0, none⟩) hlt v'
    rw [ucells_append, List.length_append]
    exact this
  · exact hg.os
  · exact hg.tape
  · exact hg.output
  · intro k hk hkb hv
    rw [heap_setCell_other _ _ _ _ (by simpa using hkb)]
    exact hblk k hk hv
  · rcases hat with e | e
    · exact .inl e
    · exact .inr ⟨_, e, by omega⟩
set_option maxRecDepth 100000 in
set_option maxHeartbeats 4000000 in
theorem put_any (b base g c width : Nat) (nums : List Int) (l : List UInt8) (v : Value) (w : World) (hI : WI b base w v l) (hw : width ≤ 4) (hn : nums.length ≤ 2) (hl : l.length ≤ 100000)
    (hg : g < w.heap.size) (hgb : g ≠ b) (hgv : some g ≠ v.ownBlock) (hc : ∀ (i : Nat) (h : i < nums.length), w.cell? ⟨g, i, none⟩ = some (.int .i64 nums[i])) :
    Calls Tryz.prog 78 #[.pointer (some ⟨b, 0, none⟩), .int .i64 width, .slice (some ⟨g, 0, none⟩) nums.length c] w fun e w' => e = .returned (.tuple #[]) ∧ ∃ v', WI b base w' v' (l ++ nums.flatMap (putB width)) ∧ Puts b v v' w w' := by
  obtain ⟨ti, hi, hz0, hz1, hz2⟩ := info_parts Tryz.infoU8
  go_enter Tryz.func78, Tryz.ntmps78
  go_wp2
  go_loopw [11] (fun i wr => ∃ (k : Nat) (v' : Value), k ≤ nums.length ∧ i = .int .i64 k ∧ WI b base wr v' (l ++ (nums.take k).flatMap (putB width)) ∧ Puts b v v' w wr) (fun i _ => nums.length - (intOf i).toNat)
  case atStart => exact ⟨0, v, Nat.zero_le _, rfl, by simpa using hI, Puts.refl _ _ _⟩
  case round =>
    obtain ⟨k, v1, hk, rfl, I1, P1⟩ := hrel
    by_cases hlt : k < nums.length
    · have hcell : wr.cell? ⟨g, k, none⟩ = some (.int .i64 nums[k]) := (World.cell?_of_block (a := ⟨g, k, none⟩) (P1.block g hg hgb hgv)).trans (hc k hlt)
      generalize hx : nums[k] = x at hcell
      have HX := hide hx
      clear hx
      go_wp2
      go_loopw [8] (fun i wq => ∃ (z : Int) (v' : Value), -1 ≤ z ∧ z < width ∧ i = .int .i64 z ∧ WI b base wq v' (l ++ (nums.take k).flatMap (putB width) ++ hiB x width (z + 1).toNat) ∧ Puts b v v' w wq) (fun i _ => (intOf i + 1).toNat)
      case atStart => exact ⟨(width : Int) - 1, v1, by omega, by omega, rfl, by rw [show ((width : Int) - 1 + 1).toNat = width from by omega, hiB_self]; simpa using I1, P1⟩
      case round =>
        obtain ⟨z, v2, hz, hzw, rfl, I2, P2⟩ := hrel
        by_cases hj0 : 0 ≤ z
        · obtain ⟨q, rfl⟩ := Int.eq_ofNat_of_zero_le hj0
          have hq4 : (q : Int) < 4 := by omega
          have cb : wr.cell? ⟨b, 0, none⟩ = some v2 := cell_of_one I2.blk
          have fb : wr.frozen? ⟨b, 0, none⟩ = false := free_of_one I2.blk
          have hbl : b < wr.heap.size := Nat.lt_of_lt_of_le I2.lt I2.le
          have hnb : v2.ownBlock ≠ some b := fun e => by have := own_lt I2.own e; have := I2.lt; omega
          generalize hL : l ++ (nums.take k).flatMap (putB width) ++ hiB x width ((q : Int) + 1).toNat = L at I2
          have HL := hide hL
          have hLl : L.length ≤ 200000 := by rw [← hL, List.length_append, List.length_append, flat_len, hiB_len x width _ (by omega)]; have := Nat.mul_le_mul (show (nums.take k).length ≤ 2 by simp; omega) hw; omega
          clear hL
          obtain ⟨ao2, cap2, rfl⟩ := own_form I2.own
          have HI := hide I2
          have HP := hide P2
          have HP1 := hide P1
          have HI1 := hide I1
          clear I2 P2 P1 I1 hcell
          have h8a := wrap8q q hq4
          have h8c := low8 x q
          go_wp2_with fail
          go_region_law
            ((refine step_append_lies _ (by rfl) _ _ _ (by rfl) base 5 ti (.int .u8 0) 1 1 Tryz.underlying56 hi hz0 hz1 hz2 rfl (by omega) _ _ _ (by rfl) (((unhide HI).own.alloc _).drew) ⟨wr.heap.size, 0, none⟩ 1 1 [.int .u8 ((byteAt x q).toNat : Int)] (by rfl) (by rfl) (World.news_of_block (cs := #[.int .u8 ((byteAt x q).toNat : Int)]) (t := 5) (fr := (0, 0)) (heap_alloc_new wr _)) (by simp [Value.oneCell']) (by omega) (by unfold maxLen; omega) (by omega) (by have := (unhide HI).le; simp; omega) (wr.heap.size + 1) (by simp) ?_; intro gg cap w1 hown1 hgrow hat hlt; have hfz1 : w1.frozen? ⟨b, 0, none⟩ = false := (hgrow.frozen_far _ (by simp; omega) (Ne.symm hnb)).trans ((World.frozen?_of_block (a := ⟨b, 0, none⟩) (Below.heap_alloc wr _ b hbl)).trans fb); have hc1 : w1.cell? ⟨b, 0, none⟩ = some (.slice ao2 L.length cap2) := (hgrow.cell_far _ (by simp; omega) (Ne.symm hnb)).trans ((World.cell?_of_block (a := ⟨b, 0, none⟩) (Below.heap_alloc wr _ b hbl)).trans cb)))
          all_goals
            have hst := (unhide HI).step rfl hgrow hown1 (hat.imp (fun e => by rw [e]; rfl) (fun e => by rw [e]; rfl))
            have HST := hide hst
            clear hst hgrow hown1 hat hfz1 hc1 h8a h8c cb fb
            go_wp2
            go_roundw
            case rel =>
              refine ⟨(q : Int) - 1, .slice (some ⟨gg, 0, none⟩) (L.length + 1) cap, by omega, by omega, by go_num, ?_, (unhide HP).trans (unhide HST).2⟩
              have h1 := (unhide HST).1
              have hl2 : L ++ [byteAt x q] = l ++ (nums.take k).flatMap (putB width) ++ hiB x width q := by rw [← unhide HL, show ((q : Int) + 1).toNat = q + 1 from by omega, List.append_assoc, ← hiB_snoc x width q (by omega)]
              rw [hl2] at h1
              rw [show ((q : Int) - 1 + 1).toNat = q from by omega]
              exact h1
            case measure => simp [intOf]
        · have hz' : z = -1 := by omega
          subst hz'
          have hI2 : WI b base wr v2 (l ++ (nums.take (k + 1)).flatMap (putB width)) := by
            rw [flat_snoc width nums k hlt, unhide HX]
            simpa [putB] using I2
          have HI := hide hI2
          have HP := hide P2
          have HP1 := hide P1
          have HI1 := hide I1
          clear I2 P2 P1 I1 hcell hI2
          go_wp2
          go_roundw
          case rel => exact ⟨k + 1, v2, by omega, by go_num, unhide HI, unhide HP⟩
          case measure => simp [intOf]; omega
    · have e : k = nums.length := by omega
      have hI1 := I1
      rw [e, List.take_length] at hI1
      have HI := hide hI1
      have HP := hide P1
      clear I1 P1 hI1 e
      go_wp2
      go_end0
      exact ⟨rfl, v1, unhide HI, unhide HP⟩
end Go.Proofs.YtnneljcbelgoeaaGreatDoor.wire
namespace Go.Proofs.YtnneljcbelgoeaaGreatDoor.wire
open Go.RowKit

def keyBs (k : K3) : List UInt8 := [k.id].flatMap (putB 1) ++ ([k.inc].flatMap (putB 4) ++ [k.st].flatMap (putB 1))
/-- The bytes of a message. -/
def bytesM (m : M6) : List UInt8 := [m.kind, m.frm].flatMap (putB 1) ++ [m.inc, m.seq].flatMap (putB 4) ++ [m.tgt, (m.ups.length : Int)].flatMap (putB 1) ++ m.ups.flatMap keyBs
theorem whole_len {m : M6} (h : wholeB m = true) : m.ups.length ≤ 8 := by
  simp only [wholeB, Bool.and_eq_true] at h
  have h2 := h.2.2.2.1
  unfold suitsB at h2
  split at h2
  · simp at h2; omega
  · split at h2
    · simp at h2; omega
    · simp at h2
theorem KeysAt.elem {w : World} {ao : Option Addr} {n cap : Nat} {l : List K3} (h : KeysAt w (.slice ao n cap) l) (hl : 0 < l.length) : ∃ b off, ao = some ⟨b, off, none⟩ ∧ b < w.heap.size ∧ keysFrom w b off l := by
  rcases h with ⟨_, rfl⟩ | ⟨b, off, cap', hv, hlt, hc⟩
  · simp at hl
  · simp at hv
    exact ⟨b, off, hv.1, hlt, hc⟩
theorem flatK_snoc (l : List K3) (k : Nat) (h : k < l.length) : (l.take (k + 1)).flatMap keyBs = (l.take k).flatMap keyBs ++ keyBs l[k] := by
  rw [List.take_succ_eq_append_getElem h, List.flatMap_append]; simp
theorem keyBs_len (k : K3) : (keyBs k).length = 6 := by simp [keyBs, putB_len]
theorem flatK_len (l : List K3) : (l.flatMap keyBs).length = l.length * 6 := by
  induction l with
  | nil => simp
  | cons a r ih => simp only [List.flatMap_cons, List.length_append, ih, keyBs_len, List.length_cons]; omega
theorem conv_own {W : World} {base : Nat} {bo : Option Addr} {n bcap : Nat} {l : List UInt8} (h : W.ownsRow base 5 1 (.slice bo n bcap) l.length (ucells l)) (h0 : 0 < l.length) :
    (convert 56 9 (.slice bo n bcap)).run Tryz.prog W = .ok (.string (bs l)) W := by
  obtain ⟨g, cap, e, _, _⟩ := h.form h0
  simp at e
  obtain ⟨rfl, rfl, rfl⟩ := e
  refine run_convert_bytes_back W 56 9 5 ⟨g, 0, none⟩ bcap l Tryz.underlying56 Tryz.underlying5 Tryz.underlying9 fun j hj => ?_
  have hadd : (⟨g, 0, none⟩ : Addr).add j = ⟨g, j, none⟩ := by unfold Addr.add; split <;> simp_all
  rw [hadd, h.cellAt j (by omega)]
  simp [ucells, List.getElem?_eq_getElem hj]
theorem WI.alloc {b base : Nat} {W : World} {v : Value} {l : List UInt8} (h : WI b base W v l) (o : Obj) : WI b base (W.alloc o) v l :=
  ⟨(Below.heap_alloc _ _ _ (Nat.lt_of_lt_of_le h.lt h.le)).trans h.blk, h.own.alloc _, h.lt, by have := h.le; simp; omega⟩
theorem WI.far {b base : Nat} {W : World} {v : Value} {l : List UInt8} (h : WI b base W v l) : some W.heap.size ≠ v.ownBlock := fun e => by have := own_lt h.own e.symm; omega
/-- What stands while a message is written: its box is block H. -/
structure EI (H b base : Nat) (m : M6) (sl : Value) (w W : World) (v : Value) (l : List UInt8) : Prop where
  blk : W.heap[H]? = some (.cells #[.int .i64 m.kind, .int .i64 m.frm, .int .i64 m.inc, .int .i64 m.seq, .int .i64 m.tgt, sl] 68 (0, 0))
  wi : WI b base W v l
  lt : H < b
  below : Below H w W
theorem EI.put {H b base : Nat} {m : M6} {sl : Value} {w W W' : World} {v v' : Value} {l l' : List UInt8} {o : Obj} (h : EI H b base m sl w W v l) (hp : Puts b v v' (W.alloc o) W') (hw : WI b base W' v' l') : EI H b base m sl w W' v' l' := by
  have h1 := h.lt
  have h2 := h.wi.lt
  have h3 := h.wi.le
  have hne : ∀ k, k ≤ H → some k ≠ v.ownBlock := fun k hk e => by have := own_lt h.wi.own e.symm; omega
  have hb : ∀ k, k ≤ H → W'.heap[k]? = W.heap[k]? := fun k hk => (hp.block k (by simp; omega) (by omega) (hne k hk)).trans (Below.heap_alloc _ _ _ (by omega))
  refine ⟨(hb H (Nat.le_refl _)).trans h.blk, hw, h1, ⟨hp.os.trans h.below.os, hp.tape.trans h.below.tape, hp.output.trans h.below.output, ?_, fun k hk => (hb k (by omega)).trans (h.below.block k hk)⟩⟩
  have := hp.size
  have := h.below.size
  simp at *
  omega
theorem EI.alloc {H b base : Nat} {m : M6} {sl : Value} {w W : World} {v : Value} {l : List UInt8} (h : EI H b base m sl w W v l) (o : Obj) : EI H b base m sl w (W.alloc o) v l := by
  have h1 := h.lt
  have h2 := h.wi.lt
  have h3 := h.wi.le
  exact ⟨(Below.heap_alloc _ _ _ (by omega)).trans h.blk, h.wi.alloc o, h1, h.below.alloc (by omega) o⟩
theorem EI.put2 {H b base : Nat} {m : M6} {sl : Value} {w W : World} {v : Value} {l : List UInt8} (h : EI H b base m sl w W v l) (width : Nat) (a0 a1 : Int) (g : Nat) (hg : W.heap.size = g) (hw : width ≤ 4) (hl : l.length ≤ 100000) :
    Calls Tryz.prog 78 #[.pointer (some ⟨b, 0, none⟩), .int .i64 width, .slice (some ⟨g, 0, none⟩) 2 2] (W.alloc (.cells #[.int .i64 a0, .int .i64 a1] 3)) fun e w' => e = .returned (.tuple #[]) ∧ ∃ v', EI H b base m sl w w' v' (l ++ [a0, a1].flatMap (putB width)) := by
  subst hg
  have h1 := h.wi.lt
  have h2 := h.wi.le
  refine (put_any b base W.heap.size 2 width [a0, a1] l v _ (h.wi.alloc _) hw (by simp) hl (by simp) (by omega) h.wi.far ?_).mono ?_
  · intro i hi
    rw [cell_at (heap_alloc_new _ _)]
    match i, hi with
    | 0, _ => rfl
    | 1, _ => rfl
  · rintro e w' ⟨rfl, v', hwi, hp⟩
    exact ⟨rfl, v', h.put hp hwi⟩
/-- The same with a key's variable, in block kv. -/
structure EK (H b base kv : Nat) (m : M6) (k : K3) (sl : Value) (w W : World) (v : Value) (l : List UInt8) : Prop where
  ei : EI H b base m sl w W v l
  bk : W.heap[kv]? = some (.cells #[.int .i64 k.id, .int .i64 k.inc, .int .i64 k.st] 76 (0, 0))
  ne : kv ≠ b
  far : some kv ≠ v.ownBlock
theorem EI.var {H b base : Nat} {m : M6} {sl : Value} {w W : World} {v : Value} {l : List UInt8} (h : EI H b base m sl w W v l) (k : K3) : EK H b base W.heap.size m k sl w (W.alloc (.cells #[.int .i64 k.id, .int .i64 k.inc, .int .i64 k.st] 76)) v l :=
  ⟨h.alloc _, heap_alloc_new _ _, by have := h.wi.lt; have := h.wi.le; omega, h.wi.far⟩
theorem EK.put1 {H b base kv : Nat} {m : M6} {k : K3} {sl : Value} {w W : World} {v : Value} {l : List UInt8} (h : EK H b base kv m k sl w W v l) (width : Nat) (a0 : Int) (g : Nat) (hg : W.heap.size = g) (hw : width ≤ 4) (hl : l.length ≤ 100000) :
    Calls Tryz.prog 78 #[.pointer (some ⟨b, 0, none⟩), .int .i64 width, .slice (some ⟨g, 0, none⟩) 1 1] (W.alloc (.cells #[.int .i64 a0] 3)) fun e w' => e = .returned (.tuple #[]) ∧ ∃ v', EK H b base kv m k sl w w' v' (l ++ [a0].flatMap (putB width)) := by
  subst hg
  have h1 := h.ei.wi.lt
  have h2 := h.ei.wi.le
  have h3 := lt_of_block h.bk
  refine (put_any b base W.heap.size 1 width [a0] l v _ (h.ei.wi.alloc _) hw (by simp) hl (by simp) (by omega) h.ei.wi.far ?_).mono ?_
  · intro i hi
    rw [cell_at (heap_alloc_new _ _)]
    match i, hi with
    | 0, _ => rfl
  · rintro e w' ⟨rfl, v', hwi, hp⟩
    refine ⟨rfl, v', h.ei.put hp hwi, ?_, h.ne, ?_⟩
    · rw [hp.block kv (by simp; omega) h.ne h.far, Below.heap_alloc _ _ _ h3]
      exact h.bk
    · rcases hp.lies with e | ⟨g, e, hg⟩
      · rw [e]; exact h.far
      · rw [e]; intro e'; simp at e' hg; omega
set_option maxRecDepth 100000 in
set_option maxHeartbeats 4000000 in
theorem encode_no (m : M6) (v : Value) (w : World) (hv : KeysAt w v m.ups) (hl : m.ups.length ≤ 1000000) (hm : wholeB m = false) :
    Calls Tryz.prog 45 #[mval m v] w fun e w' => e = .returned (.tuple #[.string ⟨#[]⟩, .iface 108 (.int .i64 2)]) ∧ Below w.heap.size w w' := by
  obtain ⟨ao, cap, rfl⟩ := hv.form
  have HM := hide hm
  have HV := hide hv
  clear hm hv
  go_enter Tryz.func45, Tryz.ntmps45
  go_wp2_with fail
  refine (whole_any m _ _ ((unhide HV).below ((Below.refl _ _).alloc (Nat.le_refl _) _)) hl).mono ?_
  rw [unhide HM]
  rintro e w1 ⟨rfl, hb⟩
  have HB := hide hb
  clear hb
  go_wp2
  go_ret2
  exact ⟨rfl, ((Below.refl _ _).alloc (Nat.le_refl _) _).trans ((unhide HB).mono (by simp))⟩
set_option maxRecDepth 100000 in
set_option maxHeartbeats 4000000 in
theorem encode_yes (m : M6) (v : Value) (w : World) (hv : KeysAt w v m.ups) (hm : wholeB m = true) :
    Calls Tryz.prog 45 #[mval m v] w fun e w' => e = .returned (.tuple #[.string (bs (bytesM m)), .nilIface]) ∧ Below w.heap.size w w' := by
  have hl : m.ups.length ≤ 8 := whole_len hm
  obtain ⟨ao, cap, rfl⟩ := hv.form
  have HM := hide hm
  have HV := hide hv
  clear hm hv
  go_enter Tryz.func45, Tryz.ntmps45
  go_wp2_with fail
  refine (whole_any m _ _ ((unhide HV).below ((Below.refl _ _).alloc (Nat.le_refl _) _)) (by omega)).mono ?_
  rw [unhide HM]
  rintro e w1 ⟨rfl, hb⟩
  have hz := hb.size
  simp at hz
  have E0 : EI w.heap.size w1.heap.size (w1.heap.size + 1) m (.slice ao m.ups.length cap) w (w1.alloc (.cells #[.slice none 0 0] 141)) (.slice none 0 0) [] := by
    refine ⟨?_, ⟨heap_alloc_new _ _, World.ownsRow_nil _ _ _ _, by omega, by simp⟩, by omega, ?_⟩
    · rw [Below.heap_alloc _ _ _ (by omega), hb.block _ (by simp)]
      exact heap_alloc_new _ _
    · exact (((Below.refl _ _).alloc (Nat.le_refl _) _).trans (hb.mono (by simp))).alloc (by omega) _
  have m0 : w1.cell? ⟨w.heap.size, 0, none⟩ = some (.int .i64 m.kind) := (hb.cell (p := ⟨w.heap.size, 0, none⟩) (by simp)).trans (by simp [go_sem])
  have m1 : w1.cell? ⟨w.heap.size, 1, none⟩ = some (.int .i64 m.frm) := (hb.cell (p := ⟨w.heap.size, 1, none⟩) (by simp)).trans (by simp [go_sem])
  have hz1 : w.heap.size < w1.heap.size := by omega
  clear hb
  go_wp2_with fail
  refine (E0.put2 1 m.kind m.frm _ (by simp) (by omega) (by simp)).mono ?_
  clear m0 m1
  rintro e W1 ⟨rfl, v1, E1⟩
  have c2 : W1.cell? ⟨w.heap.size, 2, none⟩ = some (.int .i64 m.inc) := cell_at E1.blk 2
  have c3 : W1.cell? ⟨w.heap.size, 3, none⟩ = some (.int .i64 m.seq) := cell_at E1.blk 3
  go_wp2_with fail
  clear c2 c3
  refine (E1.put2 4 m.inc m.seq _ rfl (by omega) (by simp [putB_len])).mono ?_
  rintro e W2 ⟨rfl, v2, E2⟩
  have c4 : W2.cell? ⟨w.heap.size, 4, none⟩ = some (.int .i64 m.tgt) := cell_at E2.blk 4
  have c5 : W2.cell? ⟨w.heap.size, 5, none⟩ = some (.slice ao m.ups.length cap) := cell_at E2.blk 5
  go_wp2_with fail
  clear c4 c5
  refine (E2.put2 1 m.tgt (m.ups.length : Int) _ rfl (by omega) (by simp [putB_len])).mono ?_
  rintro e W3 ⟨rfl, v3, E3⟩
  have c5 : W3.cell? ⟨w.heap.size, 5, none⟩ = some (.slice ao m.ups.length cap) := cell_at E3.blk 5
  go_wp2_with fail
  clear c5 E0 E1 E2
  generalize hL : [] ++ List.flatMap (putB 1) [m.kind, m.frm] ++ List.flatMap (putB 4) [m.inc, m.seq] ++ List.flatMap (putB 1) [m.tgt, (m.ups.length : Int)] = L at E3
  have hLl : L.length = 12 := by rw [← hL]; simp [putB_len]
  have HL := hide hL
  clear hL
  go_loopw [33] (fun i wr => ∃ (k : Nat) (v' : Value), k ≤ m.ups.length ∧ i = .int .i64 k ∧ EI w.heap.size w1.heap.size (w1.heap.size + 1) m (.slice ao m.ups.length cap) w wr v' (L ++ (m.ups.take k).flatMap keyBs)) (fun i _ => m.ups.length - (intOf i).toNat)
  case atStart => exact ⟨0, v3, Nat.zero_le _, rfl, by simpa using E3⟩
  case round =>
    obtain ⟨k, v', hk, rfl, E4⟩ := hrel
    clear E3
    by_cases hlt : k < m.ups.length
    · obtain ⟨kb, koff, rfl, hkb, hkf⟩ := (unhide HV).elem (by omega)
      obtain ⟨d0, d1, d2⟩ := hkf k hlt
      have c0 := (E4.below.cell (p := ⟨kb, koff + k * 3, none⟩) hkb).trans d0
      have c1 := (E4.below.cell (p := ⟨kb, koff + k * 3 + 1, none⟩) hkb).trans d1
      have c2 := (E4.below.cell (p := ⟨kb, koff + k * 3 + 2, none⟩) hkb).trans d2
      clear d0 d1 d2 hkf
      have hkl : ((m.ups.take k).flatMap keyBs).length ≤ 48 := by rw [flatK_len]; simp; omega
      generalize hK : m.ups[k] = K at c0 c1 c2
      have HK := hide hK
      clear hK
      have S0 := E4.var K
      have HE4 := hide E4
      clear E4
      go_wp2_with fail
      clear c0 c1 c2
      refine (S0.put1 1 K.id _ (by simp) (by omega) (by rw [List.length_append]; omega)).mono ?_
      rintro e W4 ⟨rfl, v4, S1⟩
      generalize wr.heap.size = kv at S1 ⊢
      clear S0
      have c1 : W4.cell? ⟨kv, 1, none⟩ = some (.int .i64 K.inc) := cell_at S1.bk 1
      go_wp2_with fail
      clear c1
      refine (S1.put1 4 K.inc _ rfl (by omega) (by simp only [List.length_append, flat_len, List.length_singleton]; omega)).mono ?_
      rintro e W5 ⟨rfl, v5, S2⟩
      clear S1
      have c2 : W5.cell? ⟨kv, 2, none⟩ = some (.int .i64 K.st) := cell_at S2.bk 2
      go_wp2_with fail
      clear c2
      refine (S2.put1 1 K.st _ rfl (by omega) (by simp only [List.length_append, flat_len, List.length_singleton]; omega)).mono ?_
      rintro e W6 ⟨rfl, v6, S3⟩
      clear S2
      have HS := hide S3.ei
      clear S3
      go_wp2
      go_roundw
      case rel =>
        refine ⟨k + 1, v6, by omega, by go_num, ?_⟩
        rw [flatK_snoc m.ups k hlt, unhide HK]
        have h := unhide HS
        simp only [keyBs, List.append_assoc] at h ⊢
        exact h
      case measure => simp [intOf]; omega
    · have e : k = m.ups.length := by omega
      have hE := E4
      rw [e, List.take_length] at hE
      have hc : wr.cell? ⟨w1.heap.size, 0, none⟩ = some v' := cell_of_one E4.wi.blk
      obtain ⟨bo, bcap, rfl⟩ := own_form hE.wi.own
      have hbM : bs (L ++ m.ups.flatMap keyBs) = bs (bytesM m) := by rw [← unhide HL]; simp [bytesM]
      have hconv : (convert 56 9 (.slice bo (L ++ m.ups.flatMap keyBs).length bcap)).run Tryz.prog wr = .ok (.string (bs (bytesM m))) wr := by rw [← hbM]; exact conv_own hE.wi.own (by rw [List.length_append]; omega)
      have hbel := hide hE.below
      have HBM := hide hbM
      clear hE E4 hbM e
      generalize hN : (L ++ m.ups.flatMap keyBs).length = N at hconv hc ⊢
      clear hN
      go_wp2
      go_ret2
      exact ⟨rfl, unhide hbel⟩
end Go.Proofs.YtnneljcbelgoeaaGreatDoor.wire
namespace Go.Proofs.YtnneljcbelgoeaaGreatDoor.wire

theorem putB_one (n : Int) : putB 1 n = [byteAt n 0] := rfl
theorem putB_four (n : Int) : putB 4 n = [byteAt n 3, byteAt n 2, byteAt n 1, byteAt n 0] := rfl
theorem byte_eq {c d : UInt8} (h : (c.toNat : Int) = (d.toNat : Int)) : c = d := by
  apply UInt8.toNat_inj.1; omega
theorem byteAt_self (c : UInt8) : byteAt (c.toNat : Int) 0 = c := by
  apply byte_eq; rw [byteAt_int]; have := c.toNat_lt; simp; omega
theorem put_n4 (c0 c1 c2 c3 : UInt8) : putB 4 (n4 c0 c1 c2 c3) = [c0, c1, c2, c3] := by
  have h0 := c0.toNat_lt
  have h1 := c1.toNat_lt
  have h2 := c2.toNat_lt
  have h3 := c3.toNat_lt
  rw [putB_four]
  congr 1
  · apply byte_eq; rw [byteAt_int]; unfold n4; simp only [Nat.reduceMul, Int.reducePow]; omega
  congr 1
  · apply byte_eq; rw [byteAt_int]; unfold n4; simp only [Nat.reduceMul, Int.reducePow]; omega
  congr 1
  · apply byte_eq; rw [byteAt_int]; unfold n4; simp only [Nat.reduceMul, Int.reducePow]; omega
  congr 1
  · apply byte_eq; rw [byteAt_int]; unfold n4; simp only [Nat.mul_zero, Int.pow_zero]; omega
theorem n4_put (n : Int) (h0 : 0 ≤ n) (h1 : n < 4294967296) : n4 (byteAt n 3) (byteAt n 2) (byteAt n 1) (byteAt n 0) = n := by
  unfold n4
  rw [byteAt_int, byteAt_int, byteAt_int, byteAt_int]
  simp only [Nat.reduceMul, Int.reducePow, Nat.mul_zero, Int.pow_zero]
  omega
theorem one_put (n : Int) (h0 : 0 ≤ n) (h1 : n < 256) : ((byteAt n 0).toNat : Int) = n := by
  rw [byteAt_int]; simp; omega
theorem keys_bytes : ∀ (n : Nat) (l : List UInt8), l.length = n * 6 → (readKs n l).flatMap keyBs = l
  | 0, l, h => by simp at h; simp [readKs, h]
  | n + 1, a :: b0 :: b1 :: b2 :: b3 :: c :: r, h => by
    have := keys_bytes n r (by simp at h; omega)
    simp only [readKs, List.flatMap_cons, this, keyBs, List.flatMap_nil, List.append_nil, put_n4, putB_one, byteAt_self]
    rfl
  | n + 1, [], h => by simp at h
  | n + 1, [_], h => by simp at h; omega
  | n + 1, [_, _], h => by simp at h; omega
  | n + 1, [_, _, _], h => by simp at h; omega
  | n + 1, [_, _, _, _], h => by simp at h; omega
  | n + 1, [_, _, _, _, _], h => by simp at h; omega
/-- What is decoded is encoded to the same bytes. -/
theorem bytes_read {l : List UInt8} (h : rightB l = true) : bytesM (readM l) = l := by
  obtain ⟨c0, c1, i0, i1, i2, i3, s0, s1, s2, s3, t, n, r, rfl, hr⟩ := right_form h
  simp only [readM, bytesM, keys_bytes _ _ hr, readKs_len _ _ hr, List.flatMap_cons, List.flatMap_nil, List.append_nil, put_n4, putB_one, byteAt_self]
  rfl
theorem keyB_of {k : K3} (h : isKeyB k = true) : (0 ≤ k.id ∧ k.id < 256) ∧ (0 ≤ k.inc ∧ k.inc < 4294967296) ∧ (0 ≤ k.st ∧ k.st < 256) := by
  simp only [isKeyB, Bool.and_eq_true] at h
  have h1 := isId_of h.1
  have h2 := isInc_of h.2.1
  have h3 := isSt_of h.2.2
  omega
theorem read_keys : ∀ (l : List K3), allB l = true → readKs l.length (l.flatMap keyBs) = l
  | [], _ => rfl
  | k :: r, h => by
    have hk : isKeyB k = true ∧ allB r = true := by simpa [allB] using h
    obtain ⟨h1, h2, h3⟩ := keyB_of hk.1
    have ih := read_keys r hk.2
    simp only [List.flatMap_cons, keyBs, List.flatMap_nil, List.append_nil, putB_one, putB_four, List.length_cons, List.cons_append, List.nil_append, readKs]
    rw [ih, one_put _ h1.1 h1.2, one_put _ h3.1 h3.2, n4_put _ h2.1 h2.2]
theorem suits_tgt {k t : Int} {n : Nat} (h : suitsB k t n = true) : (1 ≤ k ∧ k ≤ 5) ∧ (0 ≤ t ∧ t < 256) ∧ n ≤ 8 := by
  unfold suitsB at h
  split at h
  · rename_i hk
    simp [lowB] at hk
    simp at h
    have := isId_of h.1
    omega
  · split at h
    · rename_i _ hk
      simp [highB] at hk
      simp at h
      omega
    · simp at h
theorem bytesM_len (m : M6) : (bytesM m).length = 12 + m.ups.length * 6 := by
  simp only [bytesM, List.length_append, flatK_len, flat_len, List.length_cons, List.length_nil]
theorem bytesM_form (m : M6) (h : m.ups.length ≤ 8) : ∃ c0 c1 i0 i1 i2 i3 s0 s1 s2 s3 t n r, bytesM m = c0 :: c1 :: i0 :: i1 :: i2 :: i3 :: s0 :: s1 :: s2 :: s3 :: t :: n :: r ∧ n.toNat = m.ups.length ∧ r = m.ups.flatMap keyBs ∧ c0 = byteAt m.kind 0 ∧ c1 = byteAt m.frm 0 ∧ n4 i0 i1 i2 i3 = n4 (byteAt m.inc 3) (byteAt m.inc 2) (byteAt m.inc 1) (byteAt m.inc 0) ∧ n4 s0 s1 s2 s3 = n4 (byteAt m.seq 3) (byteAt m.seq 2) (byteAt m.seq 1) (byteAt m.seq 0) ∧ t = byteAt m.tgt 0 := by
  refine ⟨_, _, _, _, _, _, _, _, _, _, _, byteAt (m.ups.length : Int) 0, _, rfl, ?_, rfl, rfl, rfl, rfl, rfl, rfl⟩
  have := one_put (m.ups.length : Int) (by omega) (by omega)
  omega
/-- The bytes of a whole message are of the right length, and read as it. -/
theorem read_bytes {m : M6} (h : wholeB m = true) : rightB (bytesM m) = true ∧ readM (bytesM m) = m := by
  have h0 := h
  simp only [wholeB, Bool.and_eq_true] at h
  obtain ⟨hf, hi, hs, hk, ha⟩ := h
  have hf := isId_of hf
  have hi := isInc_of hi
  have hs := isSeq_of hs
  obtain ⟨hk, ht, hn⟩ := suits_tgt hk
  have hlen := bytesM_len m
  obtain ⟨c0, c1, i0, i1, i2, i3, s0, s1, s2, s3, t, n, r, e, en, er, e0, e1, ei, es, et⟩ := bytesM_form m hn
  constructor
  · rw [e] at hlen ⊢
    simp [rightB]
    simp at hlen
    omega
  · rw [e]
    simp only [readM]
    rw [er, en, read_keys _ ha, e0, e1, et, ei, es, n4_put _ (by omega) (by omega), n4_put _ (by omega) (by omega), one_put _ (by omega) (by omega), one_put _ (by omega) (by omega), one_put _ (by omega) (by omega)]
end Go.Proofs.YtnneljcbelgoeaaGreatDoor.wire
namespace Go.Proofs.YtnneljcbelgoeaaGreatDoor.wire
open Go.RowKit

set_option maxHeartbeats 2000000 in
theorem gdecode_no (l : List UInt8) (w : World) (hl : l.length ≤ maxLen) (hd : decB l = false) :
    Calls Tryz.prog 28 #[.string (bs l)] w fun e w' => e = .returned (.tuple #[mval M6.zero (.slice none 0 0), .iface 108 (.int .i64 2)]) ∧ Below w.heap.size w w' := by
  have HD := hide hd
  clear hd
  go_enter Tryz.func28, Tryz.ntmps28
  go_wp2_with fail
  refine (decode_no l _ hl (unhide HD)).mono ?_
  rintro e w1 ⟨rfl, hb⟩
  have hblk : w1.heap[w.heap.size]? = some (.cells #[.int .i64 0, .int .i64 0, .int .i64 0, .int .i64 0, .int .i64 0, .slice none 0 0] 68 (0, 0)) := by
    rw [hb.block _ (by simp)]; exact heap_alloc_new _ _
  have f0 : w1.cell? ⟨w.heap.size, 0, none⟩ = some (.int .i64 0) := cell_at hblk 0
  have f1 : w1.cell? ⟨w.heap.size, 1, none⟩ = some (.int .i64 0) := cell_at hblk 1
  have f2 : w1.cell? ⟨w.heap.size, 2, none⟩ = some (.int .i64 0) := cell_at hblk 2
  have f3 : w1.cell? ⟨w.heap.size, 3, none⟩ = some (.int .i64 0) := cell_at hblk 3
  have f4 : w1.cell? ⟨w.heap.size, 4, none⟩ = some (.int .i64 0) := cell_at hblk 4
  have f5 : w1.cell? ⟨w.heap.size, 5, none⟩ = some (.slice none 0 0) := cell_at hblk 5
  have fz : ∀ j, w1.frozen? ⟨w.heap.size, j, none⟩ = false := free_at hblk
  have HB := hide hb
  clear hb hblk
  simp only [mval, M6.zero]
  go_wp2
  refine bodyPost_ret (v := .tuple #[mval M6.zero (.slice none 0 0), .iface 108 (.int .i64 2)]) (by simp [results, Tryz.results28, go_sem, f0, f1, f2, f3, f4, f5, mval, M6.zero]) rfl ⟨rfl, ?_⟩
  exact (((((((((Below.refl _ _).alloc (Nat.le_refl _) _).trans ((unhide HB).mono (by simp))).setCell (Nat.le_refl _) _).setCell (Nat.le_refl _) _).setCell (Nat.le_refl _) _).setCell (Nat.le_refl _) _).setCell (Nat.le_refl _) _).setCell (Nat.le_refl _) _)
set_option maxHeartbeats 2000000 in
theorem gdecode_yes (l : List UInt8) (w : World) (hl : l.length ≤ maxLen) (hd : decB l = true) :
    Calls Tryz.prog 28 #[.string (bs l)] w fun e w' => ∃ v, e = .returned (.tuple #[mval (readM l) v, .nilIface]) ∧ w'.ownsRow w.heap.size 76 3 v (readM l).ups.length (kcells (readM l).ups) ∧ Below w.heap.size w w' := by
  have HD := hide hd
  clear hd
  go_enter Tryz.func28, Tryz.ntmps28
  go_wp2_with fail
  refine (decode_yes l _ hl (unhide HD)).mono ?_
  generalize hm : readM l = m
  have HM := hide hm
  clear hm
  rintro e w1 ⟨v, rfl, hown, hb⟩
  obtain ⟨ao, cap, rfl⟩ := own_form hown
  have hblk : w1.heap[w.heap.size]? = some (.cells #[.int .i64 0, .int .i64 0, .int .i64 0, .int .i64 0, .int .i64 0, .slice none 0 0] 68 (0, 0)) := by
    rw [hb.block _ (by simp)]; exact heap_alloc_new _ _
  have f0 : w1.cell? ⟨w.heap.size, 0, none⟩ = some (.int .i64 0) := cell_at hblk 0
  have f1 : w1.cell? ⟨w.heap.size, 1, none⟩ = some (.int .i64 0) := cell_at hblk 1
  have f2 : w1.cell? ⟨w.heap.size, 2, none⟩ = some (.int .i64 0) := cell_at hblk 2
  have f3 : w1.cell? ⟨w.heap.size, 3, none⟩ = some (.int .i64 0) := cell_at hblk 3
  have f4 : w1.cell? ⟨w.heap.size, 4, none⟩ = some (.int .i64 0) := cell_at hblk 4
  have f5 : w1.cell? ⟨w.heap.size, 5, none⟩ = some (.slice none 0 0) := cell_at hblk 5
  have fz : ∀ j, w1.frozen? ⟨w.heap.size, j, none⟩ = false := free_at hblk
  have HB := hide hb
  have HO := hide hown
  clear hb hblk hown
  simp only [mval]
  go_wp2
  refine bodyPost_ret (v := .tuple #[mval m (.slice ao m.ups.length cap), .nilIface]) (by simp [results, Tryz.results28, go_sem, f0, f1, f2, f3, f4, f5, mval]) rfl ⟨.slice ao m.ups.length cap, by rw [unhide HM], ?_, ?_⟩
  · rw [unhide HM]
    have h := unhide HO
    rw [World.size_alloc] at h
    exact own_mono (ownsRow_setCell_below (ownsRow_setCell_below (ownsRow_setCell_below (ownsRow_setCell_below (ownsRow_setCell_below (ownsRow_setCell_below h (by simp) _) (by simp) _) (by simp) _) (by simp) _) (by simp) _) (by simp) _) (by omega)
  · exact (((((((((Below.refl _ _).alloc (Nat.le_refl _) _).trans ((unhide HB).mono (by simp))).setCell (Nat.le_refl _) _).setCell (Nat.le_refl _) _).setCell (Nat.le_refl _) _).setCell (Nat.le_refl _) _).setCell (Nat.le_refl _) _).setCell (Nat.le_refl _) _)
set_option maxHeartbeats 2000000 in
theorem gencode_yes (m : M6) (v : Value) (w : World) (hv : KeysAt w v m.ups) (hm : wholeB m = true) :
    Calls Tryz.prog 23 #[mval m v] w fun e w' => e = .returned (.tuple #[.string (bs (bytesM m)), .nilIface]) ∧ Below w.heap.size w w' := by
  obtain ⟨ao, cap, rfl⟩ := hv.form
  have HM := hide hm
  have HV := hide hv
  clear hm hv
  go_enter Tryz.func23, Tryz.ntmps23
  go_wp2_with fail
  refine (encode_yes m _ _ ((unhide HV).below ((Below.refl _ _).alloc (Nat.le_refl _) _)) (unhide HM)).mono ?_
  rintro e w1 ⟨rfl, hb⟩
  have HB := hide hb
  clear hb
  go_wp2
  go_ret2
  exact ⟨rfl, ((Below.refl _ _).alloc (Nat.le_refl _) _).trans ((unhide HB).mono (by simp))⟩
set_option maxHeartbeats 2000000 in
theorem gencode_no (m : M6) (v : Value) (w : World) (hv : KeysAt w v m.ups) (hl : m.ups.length ≤ 1000000) (hm : wholeB m = false) :
    Calls Tryz.prog 23 #[mval m v] w fun e w' => e = .returned (.tuple #[.string ⟨#[]⟩, .iface 108 (.int .i64 2)]) ∧ Below w.heap.size w w' := by
  obtain ⟨ao, cap, rfl⟩ := hv.form
  have HM := hide hm
  have HV := hide hv
  clear hm hv
  go_enter Tryz.func23, Tryz.ntmps23
  go_wp2_with fail
  refine (encode_no m _ _ ((unhide HV).below ((Below.refl _ _).alloc (Nat.le_refl _) _)) hl (unhide HM)).mono ?_
  rintro e w1 ⟨rfl, hb⟩
  have HB := hide hb
  clear hb
  go_wp2
  go_ret2
  exact ⟨rfl, ((Below.refl _ _).alloc (Nat.le_refl _) _).trans ((unhide HB).mono (by simp))⟩
end Go.Proofs.YtnneljcbelgoeaaGreatDoor.wire
