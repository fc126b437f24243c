/- Commands in plain words: which may be, what they touch, which two clash; their bytes. No condition: nothing here speaks of a program. -/
import Derived.Test.YtigbplmfhnamkaaCm
import Derived.Test.YtigbplmfhnamkaaStr
namespace Go.Proofs.Ytigbplmfhnamkaa
open Go.RowKit
/-- No text. -/
def noT : ByteArray := ⟨#[]⟩
/-- The command that does nothing. -/
def zeroC : Cm := ⟨0, 0, 0, noT, noT, noT, noT⟩
/-- Are the commands the same. -/
def sameC (x y : Cm) : Bool := x.k == y.k && (x.c == y.c && (x.q == y.q && (eqB x.key y.key && (eqB x.en y.en && (eqB x.old y.old && eqB x.val y.val)))))
/-- What the kind names. -/
def namedC (x : Cm) : Cm :=
  if x.k = 1 ∨ x.k = 3 then ⟨x.k, x.c, x.q, x.key, noT, noT, noT⟩
  else if x.k = 2 then ⟨x.k, x.c, x.q, x.key, noT, noT, x.val⟩
  else if x.k = 4 then ⟨x.k, x.c, x.q, x.key, noT, x.old, x.val⟩
  else if x.k = 5 then ⟨x.k, x.c, x.q, x.key, x.en, noT, noT⟩
  else zeroC
/-- Within the limits. -/
def boundC (x : Cm) : Bool :=
  !(nilB x.key && decide (x.k ≠ 5)) && (decide (1 ≤ x.c) && (decide (x.c ≤ 8) && (decide (1 ≤ x.q) && (decide (x.q ≤ 1099511627776) &&
    (decide (x.key.size ≤ 16 ∧ x.en.size ≤ 16) && decide (x.old.size ≤ 64 ∧ x.val.size ≤ 64))))))
def rightC (x : Cm) : Bool := if x.k = 0 then sameC x zeroC else sameC x (namedC x) && boundC x
/-- Does it touch keys; from where; to where. -/
def hasC (k : Int) : Bool := decide (1 ≤ k) && decide (k ≤ 5)
def loC (x : Cm) : ByteArray := if hasC x.k then x.key else noT
def hiC (x : Cm) : ByteArray := if hasC x.k then (if x.k = 5 then x.en else nextT x.key) else noT
def writesC (k : Int) : Bool := decide (2 ≤ k) && decide (k ≤ 4)
def clashC (x y : Cm) : Bool := (hasC x.k && hasC y.k) && (x.c == y.c || ((writesC x.k || writesC y.k) && meetB (loC x) (hiC x) (loC y) (hiC y)))
theorem eqB_self (a : ByteArray) : eqB a a = true := by simp [eqB]
theorem eqB_iff {a b : ByteArray} : eqB a b = true ↔ a = b := by
  unfold eqB
  rw [beq_iff_eq]
  constructor
  · intro h
    rw [ByteArray.toList_eq, ByteArray.toList_eq] at h
    obtain ⟨⟨x⟩⟩ := a
    obtain ⟨⟨y⟩⟩ := b
    exact congrArg (fun l => (⟨⟨l⟩⟩ : ByteArray)) h
  · rintro rfl; rfl
theorem sameC_iff {x y : Cm} : sameC x y = true ↔ x = y := by
  obtain ⟨k, c, q, a, b, o, v⟩ := x
  obtain ⟨k', c', q', a', b', o', v'⟩ := y
  unfold sameC
  simp only [Bool.and_eq_true, beq_iff_eq, eqB_iff, Cm.mk.injEq]
theorem nilB_iff {a : ByteArray} : nilB a = true ↔ a = noT := by
  unfold nilB noT
  rw [List.isEmpty_iff, ByteArray.toList_eq]
  obtain ⟨⟨x⟩⟩ := a
  constructor
  · intro h; exact congrArg (fun l => (⟨⟨l⟩⟩ : ByteArray)) h
  · intro h; exact congrArg (fun l : ByteArray => l.data.toList) h
end Go.Proofs.Ytigbplmfhnamkaa
