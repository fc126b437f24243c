/- Where a key stands: the program's find, the document's at. Conditions: the list lies in memory, its length has room. -/
import Derived.Test.YtjadbppcjndmlaaProg
import Derived.Test.YtjadbppcjndmlaaPr
import Derived.WalkKit
import Derived.WalkSpells
import Derived.WalkLawsBesides
import Derived.LoopTactic
import Derived.BigQuiet
import Derived.Deep.QuietTactic
namespace Go.Proofs.Ytjadbppcjndmlaa
open Go.RowKit
/-- Ahead of place k all keys are below it. -/
def Ahead (l : List Pr) (key : ByteArray) (k : Nat) : Prop := ∀ j, j < k → ∃ p, l[j]? = some p ∧ ltB p.k key = true
theorem Ahead.none_ (l : List Pr) (key : ByteArray) : Ahead l key 0 := fun j hj => absurd hj (by omega)
theorem Ahead.next {l : List Pr} {key : ByteArray} {k : Nat} {p : Pr} (h : Ahead l key k) (hp : l[k]? = some p) (hx : ltB p.k key = true) : Ahead l key (k + 1) := fun j hj => by
  rcases Nat.lt_or_ge j k with h1 | h1
  · exact h j h1
  · obtain rfl : j = k := by omega
    exact ⟨p, hp, hx⟩
/-- What find answers. -/
def foundV (l : List Pr) (key : ByteArray) : Value := .tuple #[.int .i64 (st l key : Nat), .bool (isB l key)]
theorem Ahead.here {l : List Pr} {key : ByteArray} {k : Nat} {p : Pr} (h : Ahead l key k) (hp : l[k]? = some p) (hx : ltB p.k key = false) {t : Bool} (ht : eqB p.k key = t) : foundV l key = .tuple #[.int .i64 (k : Nat), .bool t] := by
  have e := st_is h (fun q hq => by rw [hp] at hq; cases hq; exact hx)
  unfold foundV isB
  rw [e, hp]
  simp only [ht]
theorem Ahead.end_ {l : List Pr} {key : ByteArray} (h : Ahead l key l.length) : foundV l key = .tuple #[.int .i64 (l.length : Nat), .bool false] := by
  have e := st_is h (fun q hq => by rw [List.getElem?_eq_none (Nat.le_refl _)] at hq; cases hq)
  unfold foundV isB
  rw [e, List.getElem?_eq_none (Nat.le_refl _)]
end Go.Proofs.Ytjadbppcjndmlaa
