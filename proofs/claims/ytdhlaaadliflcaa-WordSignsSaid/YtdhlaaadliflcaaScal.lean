/- What each scalar function of package word, of the document's own answer and of the book comes to. Conditions: the bounds of the arguments' kinds. -/
import Derived.Test.YtdhlaaadliflcaaRows
import Derived.Test.YtdhlaaadliflcaaMem
import Derived.WalkKit
import Derived.WalkSpells
import Derived.WalkLawsBesides
namespace Go.Proofs.Ytdhlaaadliflcaa
open Go.RowKit
set_option maxHeartbeats 400000 in
theorem low_any (u b : Int) (w : World) (h0 : 0 ≤ u) (h1 : u ≤ 18446744073709551615) :
    Calls Try.prog 13 #[.int .u64 u, .int .i64 b] w fun e w' => e = .returned (.int .u64 (lowI u b)) ∧ w = w' := by
  by_cases b0 : b < 1
  · go_enter Try.func13, Try.ntmps13
    go_wp2
    go_ret
    exact ⟨ret_int (by unfold lowI; rw [if_pos (by omega)]), rfl⟩
  · by_cases b1 : 64 ≤ b
    · go_enter Try.func13, Try.ntmps13
      go_wp2
      go_ret
      exact ⟨ret_int (by unfold lowI; rw [if_neg (by omega), if_pos (by omega)]), rfl⟩
    · go_enter Try.func13, Try.ntmps13
      go_wp2
      go_ret
      exact ⟨ret_int (by unfold lowI; rw [if_neg (by omega), if_neg (by omega)]; exact and_mask u b.toNat h0 h1 (by omega)), rfl⟩
set_option maxHeartbeats 400000 in
theorem rlow_any (u b : Int) (w : World) (h0 : 0 ≤ u) (h1 : u ≤ 18446744073709551615) :
    Calls Try.prog 21 #[.int .u64 u, .int .i64 b] w fun e w' => e = .returned (.int .u64 (lowI u b)) ∧ w = w' := by
  by_cases b0 : b < 1
  · have b0' : b ≤ 0 := by omega
    go_enter Try.func21, Try.ntmps21
    go_wp2
    go_ret
    exact ⟨ret_int (by unfold lowI; rw [if_pos (by omega)]), rfl⟩
  · by_cases b1 : 64 ≤ b
    · go_enter Try.func21, Try.ntmps21
      go_wp2
      go_ret
      exact ⟨ret_int (by unfold lowI; rw [if_neg (by omega), if_pos (by omega)]), rfl⟩
    · go_enter Try.func21, Try.ntmps21
      go_wp2
      go_ret
      exact ⟨ret_int (by unfold lowI; rw [if_neg (by omega), if_neg (by omega)]; exact and_mask u b.toNat h0 h1 (by omega)), rfl⟩
set_option maxHeartbeats 400000 in
theorem sign_any (u b : Int) (w : World) (h0 : 0 ≤ u) (h1 : u ≤ 18446744073709551615) :
    Calls Try.prog 14 #[.int .u64 u, .int .i64 b] w fun e w' => e = .returned (.int .i64 (signI u b)) ∧ w = w' := by
  by_cases b0 : b < 1
  · go_enter Try.func14, Try.ntmps14
    go_wp2
    go_ret
    exact ⟨ret_int (by unfold signI; rw [if_pos (by omega)]), rfl⟩
  · by_cases b1 : 64 < b
    · go_enter Try.func14, Try.ntmps14
      go_wp2
      go_ret
      exact ⟨ret_int (by unfold signI; rw [if_neg (by omega), if_pos (by omega)]; exact (IntWalk.i64_left u).symm), rfl⟩
    · go_enter Try.func14, Try.ntmps14
      go_wp2
      go_ret
      exact ⟨ret_int (by rw [← IntWalk.i64_left]; exact sign_shift u b h0 h1 (by omega) (by omega)), rfl⟩
set_option maxHeartbeats 400000 in
theorem zig_any (n : Int) (w : World) (h0 : -9223372036854775808 ≤ n) (h1 : n ≤ 9223372036854775807) :
    Calls Try.prog 16 #[.int .i64 n] w fun e w' => e = .returned (.int .u64 (zigI n)) ∧ w = w' := by
  have hs : IntKind.i64.signed = true := rfl
  by_cases c : n < 0
  · go_enter Try.func16, Try.ntmps16
    go_wp2
    go_ret
    exact ⟨ret_int (by
      rw [i64_xor_neg n h0 h1, IntWalk.u64_in (-1 - n) ⟨by omega, by omega⟩, IntWalk.u64_in _ ⟨by omega, by omega⟩, or_one _ (by omega) (by omega)]
      unfold zigI; rw [if_pos (by omega)]; omega), rfl⟩
  · go_enter Try.func16, Try.ntmps16
    go_wp2
    go_ret
    exact ⟨ret_int (by unfold zigI; rw [if_neg (by omega)]; omega), rfl⟩
set_option maxHeartbeats 400000 in
theorem rzig_any (n : Int) (w : World) (h0 : -9223372036854775808 ≤ n) (h1 : n ≤ 9223372036854775807) :
    Calls Try.prog 24 #[.int .i64 n] w fun e w' => e = .returned (.int .u64 (zigI n)) ∧ w = w' := by
  have hs : IntKind.i64.signed = true := rfl
  by_cases c : n < 0
  · go_enter Try.func24, Try.ntmps24
    go_wp2
    go_ret
    exact ⟨ret_int (by
      rw [i64_xor_neg n h0 h1, IntWalk.u64_in (-1 - n) ⟨by omega, by omega⟩, IntWalk.u64_in _ ⟨by omega, by omega⟩, or_one _ (by omega) (by omega)]
      unfold zigI; rw [if_pos (by omega)]; omega), rfl⟩
  · go_enter Try.func24, Try.ntmps24
    go_wp2
    go_ret
    exact ⟨ret_int (by unfold zigI; rw [if_neg (by omega)]; omega), rfl⟩
set_option maxHeartbeats 400000 in
theorem zag_any (u : Int) (w : World) (h0 : 0 ≤ u) (h1 : u ≤ 18446744073709551615) :
    Calls Try.prog 17 #[.int .u64 u] w fun e w' => e = .returned (.int .i64 (zagI u)) ∧ w = w' := by
  have hs : IntKind.i64.signed = true := rfl
  have ha := and_one u h0 h1
  by_cases c : u % 2 = 1
  · have hb : ((bits .and .u64 u 1 : Int) == 1) = true := by rw [ha]; exact beq_iff_eq.2 c
    have H := hide ha; clear ha
    have C := hide c; clear c
    go_enter Try.func17, Try.ntmps17
    go_wp2
    go_ret
    exact ⟨ret_int (by rw [i64_xor_neg _ (by omega) (by omega)]; unfold zagI; rw [if_pos C.out]), rfl⟩
  · have hb : ((bits .and .u64 u 1 : Int) == 1) = false := by rw [ha]; exact beq_eq_false_iff_ne.2 c
    have H := hide ha; clear ha
    have C := hide c; clear c
    go_enter Try.func17, Try.ntmps17
    go_wp2
    go_ret
    exact ⟨ret_int (by unfold zagI; rw [if_neg C.out]), rfl⟩
set_option maxHeartbeats 400000 in
theorem rzag_any (u : Int) (w : World) (h0 : 0 ≤ u) (h1 : u ≤ 18446744073709551615) :
    Calls Try.prog 25 #[.int .u64 u] w fun e w' => e = .returned (.int .i64 (zagI u)) ∧ w = w' := by
  have hs : IntKind.i64.signed = true := rfl
  have ha := and_one u h0 h1
  by_cases c : u % 2 = 1
  · have hb : ((bits .and .u64 u 1 : Int) == 1) = true := by rw [ha]; exact beq_iff_eq.2 c
    have H := hide ha; clear ha
    have C := hide c; clear c
    go_enter Try.func25, Try.ntmps25
    go_wp2
    go_ret
    exact ⟨ret_int (by rw [i64_xor_neg _ (by omega) (by omega)]; unfold zagI; rw [if_pos C.out]), rfl⟩
  · have hb : ((bits .and .u64 u 1 : Int) == 1) = false := by rw [ha]; exact beq_eq_false_iff_ne.2 c
    have H := hide ha; clear ha
    have C := hide c; clear c
    go_enter Try.func25, Try.ntmps25
    go_wp2
    go_ret
    exact ⟨ret_int (by unfold zagI; rw [if_neg C.out]), rfl⟩
set_option maxHeartbeats 400000 in
theorem within_any (n lo hi : Int) (w : World) (l0 : 0 ≤ lo) (l1 : lo ≤ hi) (l2 : hi ≤ 4611686018427387904) :
    Calls Try.prog 30 #[.int .i64 n, .int .i64 lo, .int .i64 hi] w fun e w' => e = .returned (.int .i64 (withinI n lo hi)) ∧ w = w' := by
  have hb := tmod_bounds n (hi - lo + 1) (by omega)
  by_cases c : n.tmod (hi - lo + 1) < 0
  · go_enter Try.func30, Try.ntmps30
    go_wp2
    go_ret
    exact ⟨ret_int (by unfold withinI; rw [tmod_neg n _ (by omega) c]; omega), rfl⟩
  · go_enter Try.func30, Try.ntmps30
    go_wp2
    go_ret
    exact ⟨ret_int (by unfold withinI; rw [tmod_pos n _ (by omega) (by omega)]), rfl⟩
end Go.Proofs.Ytdhlaaadliflcaa
