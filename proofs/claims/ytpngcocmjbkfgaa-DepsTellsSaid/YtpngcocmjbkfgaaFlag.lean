/- What Flag comes to, package pack's and the document's own, and word's Put and Get of one byte. Conditions: the slice lies in memory and holds bytes, lengths have room. -/
import Derived.Test.YtpngcocmjbkfgaaNumb
namespace Go.Proofs.Ytpngcocmjbkfgaa
open Go.RowKit
theorem shl_zero (z : Int) (h0 : 0 ≤ z) (h1 : z ≤ 255) : bits .or .u64 0 z = z := by
  obtain ⟨Z, rfl⟩ := Int.eq_ofNat_of_zero_le h0
  have e := u64_or_nat 0 Z (by omega) (by omega)
  refine e.trans ?_
  rw [Nat.zero_or]
/-- The one byte that Get reads. -/
def get1V (zs : List Int) (i : Nat) : Int := if i < zs.length then ix zs i else 0
def get1E (zs : List Int) (i : Nat) : Int := if i < zs.length then 0 else 3
end Go.Proofs.Ytpngcocmjbkfgaa
