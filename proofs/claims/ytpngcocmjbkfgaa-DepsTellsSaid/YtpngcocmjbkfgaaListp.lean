/- What List of package deps tells, in plain words. No program is spoken of. -/
import Derived.Test.YtpngcocmjbkfgaaIts
namespace Go.Proofs.Ytpngcocmjbkfgaa
open Go.RowKit
/-- t instances of row k behind slot lo. -/
def rowT (k : Nat) (lo : Int) (t : Nat) : List (List Int) := (List.range t).map fun (j : Nat) => [(k : Int), lo + 1 + (j : Int)]
def rowN (lo hi : Int) (n : Nat) : Nat := min (hi - lo).toNat (1000 - n)
/-- The first k rows' instances. -/
def listTo (d f : List Int) : Nat → List (List Int)
  | 0 => []
  | k + 1 => listTo d f k ++ rowT k (max (ix f k) 0) (rowN (max (ix f k) 0) (ix d k) (listTo d f k).length)
def listD (d f : List Int) : List (List Int) := listTo d f 7
theorem rowT_len (k : Nat) (lo : Int) (t : Nat) : (rowT k lo t).length = t := by simp [rowT]
theorem rowT_zero (k : Nat) (lo : Int) : rowT k lo 0 = [] := rfl
theorem rowT_succ (k : Nat) (lo : Int) (t : Nat) : rowT k lo (t + 1) = rowT k lo t ++ [[(k : Int), lo + 1 + (t : Int)]] := by
  unfold rowT; rw [List.range_succ, List.map_append]; rfl
theorem rowT_all (k : Nat) (lo : Int) (t : Nat) : All 2 (rowT k lo t) := fun x hx => by
  unfold rowT at hx
  obtain ⟨j, _, rfl⟩ := List.mem_map.1 hx
  rfl
theorem listTo_all (d f : List Int) : ∀ k, All 2 (listTo d f k)
  | 0 => All.nil_
  | k + 1 => (listTo_all d f k).append (rowT_all _ _ _)
theorem listTo_len (d f : List Int) : ∀ k, (listTo d f k).length ≤ 1000
  | 0 => by simp [listTo]
  | k + 1 => by
    have := listTo_len d f k
    unfold listTo
    rw [List.length_append, rowT_len]
    unfold rowN
    omega
theorem cellsL_snoc (l : List (List Int)) (a b : Int) : cellsL (l ++ [[a, b]]) = cellsL l ++ [.int .i64 a, .int .i64 b] := by
  rw [cellsL_append]; rfl
theorem rowN_more {lo hi : Int} {n t : Nat} (h : t < rowN lo hi n) : lo + t < hi ∧ n + t < 1000 := by unfold rowN at h; omega
theorem rowN_less {lo hi : Int} {n t : Nat} (h : t = rowN lo hi n) (h1 : lo + t < hi) : ¬ n + t < 1000 := by unfold rowN at h; omega
end Go.Proofs.Ytpngcocmjbkfgaa
