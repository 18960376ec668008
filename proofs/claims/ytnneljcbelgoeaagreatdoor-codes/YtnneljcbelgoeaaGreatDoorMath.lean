/- THE PLAIN MATHEMATICS OF THE MESSAGES (P3): keys, messages, which are whole, their bytes. No Go here. -/
namespace Go.Proofs.YtnneljcbelgoeaaGreatDoor.wire
structure K3 where
  id : Int
  inc : Int
  st : Int
structure M6 where
  kind : Int
  frm : Int
  inc : Int
  seq : Int
  tgt : Int
  ups : List K3
def isIdB (n : Int) : Bool := decide (1 ≤ n) && decide (n ≤ 250)
def isIncB (n : Int) : Bool := decide (1 ≤ n) && decide (n ≤ 1073741824)
def isSeqB (n : Int) : Bool := decide (0 ≤ n) && decide (n ≤ 4294967295)
def isStB (n : Int) : Bool := decide (1 ≤ n) && decide (n ≤ 4)
def isKeyB (k : K3) : Bool := isIdB k.id && (isIncB k.inc && isStB k.st)
def lowB (n : Int) : Bool := decide (1 ≤ n) && decide (n ≤ 3)
def highB (n : Int) : Bool := decide (4 ≤ n) && decide (n ≤ 5)
def suitsB (kind tgt : Int) (len : Nat) : Bool := if lowB kind then isIdB tgt && decide (len ≤ 4) else if highB kind then decide (tgt = 0) && decide (len ≤ 8) else false
def allB (l : List K3) : Bool := l.all isKeyB
def wholeB (m : M6) : Bool := isIdB m.frm && (isIncB m.inc && (isSeqB m.seq && (suitsB m.kind m.tgt m.ups.length && allB m.ups)))
theorem isId_mk {n : Int} (a : 1 ≤ n) (b : n ≤ 250) : isIdB n = true := by simp [isIdB, a, b]
theorem isInc_mk {n : Int} (a : 1 ≤ n) (b : n ≤ 1073741824) : isIncB n = true := by simp [isIncB, a, b]
theorem isSeq_mk {n : Int} (a : 0 ≤ n) (b : n ≤ 4294967295) : isSeqB n = true := by simp [isSeqB, a, b]
theorem isSt_mk {n : Int} (a : 1 ≤ n) (b : n ≤ 4) : isStB n = true := by simp [isStB, a, b]
theorem isId_of {n : Int} (h : isIdB n = true) : 1 ≤ n ∧ n ≤ 250 := by simpa [isIdB] using h
theorem isInc_of {n : Int} (h : isIncB n = true) : 1 ≤ n ∧ n ≤ 1073741824 := by simpa [isIncB] using h
theorem isSeq_of {n : Int} (h : isSeqB n = true) : 0 ≤ n ∧ n ≤ 4294967295 := by simpa [isSeqB] using h
theorem isSt_of {n : Int} (h : isStB n = true) : 1 ≤ n ∧ n ≤ 4 := by simpa [isStB] using h
end Go.Proofs.YtnneljcbelgoeaaGreatDoor.wire
