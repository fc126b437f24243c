/- What Within comes to. Conditions: the bounds are no negative numbers and have room. -/
import Derived.Test.YtahfpncfkcfogaaRows
import Derived.Test.YtahfpncfkcfogaaGa
import Derived.WalkKit
import Derived.WalkSpells
import Derived.WalkLawsBesides
namespace Go.Proofs.Ytahfpncfkcfogaa
open Go.RowKit
def withinI (n lo hi : Int) : Int := lo + n % (hi - lo + 1)
theorem withinI_bounds (n lo hi : Int) (h : lo ≤ hi) : lo ≤ withinI n lo hi ∧ withinI n lo hi ≤ hi := by
  unfold withinI
  have h0 := Int.emod_nonneg n (show hi - lo + 1 ≠ 0 by omega)
  have h1 := Int.emod_lt_of_pos n (show 0 < hi - lo + 1 by omega)
  omega
/-! ### Within -/
theorem tmod_rest (n m : Int) : n % m = n.tmod m % m := by
  have h := Int.mul_tdiv_add_tmod n m
  have e : n % m = (n.tmod m + m * n.tdiv m) % m := by rw [Int.add_comm, h]
  rw [e, Int.add_mul_emod_self_left]
theorem tmod_bounds (n m : Int) (hm : 0 < m) : -m < n.tmod m ∧ n.tmod m < m := by
  refine ⟨?_, Int.tmod_lt_of_pos n hm⟩
  have h := Int.tmod_lt_of_pos (-n) hm
  rw [Int.neg_tmod] at h
  omega
theorem tmod_neg (n m : Int) (hm : 0 < m) (h : n.tmod m < 0) : n % m = n.tmod m + m := by
  have hb := tmod_bounds n m hm
  rw [tmod_rest n m, ← Int.add_emod_right, Int.emod_eq_of_lt (by omega) (by omega)]
theorem tmod_pos (n m : Int) (hm : 0 < m) (h : 0 ≤ n.tmod m) : n % m = n.tmod m := by
  have hb := tmod_bounds n m hm
  rw [tmod_rest n m, Int.emod_eq_of_lt (by omega) (by omega)]

set_option maxHeartbeats 400000 in
theorem within_any (n lo hi : Int) (w : World) (l0 : 0 ≤ lo) (l1 : lo ≤ hi) (l2 : hi ≤ 4611686018427387904) :
    Calls Try.prog 28 #[.int .i64 n, .int .i64 lo, .int .i64 hi] w fun e w' => e = .returned (.int .i64 (withinI n lo hi)) ∧ w = w' := by
  have hb := tmod_bounds n (hi - lo + 1) (by omega)
  by_cases c : n.tmod (hi - lo + 1) < 0
  · go_enter Try.func28, Try.ntmps28
    go_wp2
    go_ret
    exact ⟨ret_int (by unfold withinI; rw [tmod_neg n _ (by omega) c]; omega), rfl⟩
  · go_enter Try.func28, Try.ntmps28
    go_wp2
    go_ret
    exact ⟨ret_int (by unfold withinI; rw [tmod_pos n _ (by omega) (by omega)]), rfl⟩
end Go.Proofs.Ytahfpncfkcfogaa
