/- What Turn and Sign come to, the document's own answers and the count of a number's bits among them. Conditions: the bounds of the arguments' kinds. -/
import Derived.Test.YtdhlaaadliflcaaScal
import Derived.LoopTactic
import Derived.BigQuiet
import Derived.Deep.QuietTactic
namespace Go.Proofs.Ytdhlaaadliflcaa
open Go.RowKit
set_option maxHeartbeats 400000 in
theorem turn_any (u k : Int) (w : World) (h0 : 0 ≤ u) (h1 : u ≤ 18446744073709551615) :
    Calls Try.prog 15 #[.int .u64 u, .int .i64 k] w fun e w' => e = .returned (.int .u64 (turnI u k)) ∧ ∃ n, w' = w.drewN n := by
  have hk := hide (and_63 k)
  have hk0 : 0 ≤ bits .and .i64 k 63 := by rw [hk.out]; omega
  have hk1 : bits .and .i64 k 63 ≤ 63 := by rw [hk.out]; omega
  go_enter Try.func15, Try.ntmps15
  go_wp2
  go_quiet (fail)
  go_wp2
  go_ret
  exact ⟨ret_int (by rw [hk.out]; exact turn_walk u k h0 h1), _, rfl⟩
set_option maxHeartbeats 400000 in
theorem rsign_any (u b : Int) (w : World) (h0 : 0 ≤ u) (h1 : u ≤ 18446744073709551615) :
    Calls Try.prog 22 #[.int .u64 u, .int .i64 b] w fun e w' => e = .returned (.int .i64 (signI u b)) ∧ ∃ n, w' = w.drewN n := by
  by_cases b0 : b < 1
  · have b0' : b ≤ 0 := by omega
    go_enter Try.func22, Try.ntmps22
    go_wp2
    go_ret
    exact ⟨ret_int (by unfold signI; rw [if_pos (by omega)]), 0, rfl⟩
  · by_cases b1 : 64 ≤ b
    · go_enter Try.func22, Try.ntmps22
      go_wp2
      go_ret
      exact ⟨ret_int (by unfold signI; rw [if_neg (by omega), if_pos (by omega)]; exact (IntWalk.i64_left u).symm), 0, rfl⟩
    · have hm0 := Int.emod_nonneg u (show (2 : Int) ^ b.toNat ≠ 0 from Int.ne_of_gt (pow_pos _))
      have hm1 := Int.emod_lt_of_pos u (pow_pos b.toNat)
      have hd := pow_step (b := b) (by omega)
      have hp := pow_pos (b.toNat - 1)
      have hp2 := pow_le_63 (b := b.toNat) (by omega)
      have hb1 : (b - 1).toNat = b.toNat - 1 := by omega
      rw [hb1] at hd
      have hl : lowI u b = u % 2 ^ b.toNat := by unfold lowI; rw [if_neg (by omega), if_neg (by omega)]
      have l0 : 0 ≤ lowI u b := by rw [hl]; exact hm0
      have l1 : lowI u b < 2 * 2 ^ (b.toNat - 1) := by rw [hl, ← hd]; exact hm1
      have l2 : (2 : Int) ^ (b.toNat - 1) ≤ 4611686018427387904 := by omega
      have HL := hide hl
      have HD := hide hd
      have HB := hide hb1
      clear hl hd hm0 hm1 hp2 hb1
      by_cases c : (2 : Int) ^ (b.toNat - 1) ≤ lowI u b
      · have hc := half_yes _ _ hp l1 c
        go_enter Try.func22, Try.ntmps22
        go_wp2_with (go_at_call 21; refine (rlow_any _ _ _ h0 h1).mono ?_; rintro e w' ⟨rfl, rfl⟩)
        go_quiet (fail)
        go_wp2
        go_ret
        refine ⟨ret_int ?_, _, rfl⟩
        unfold signI
        rw [if_neg (by omega), if_neg (by omega), HB.out, ← HL.out, if_pos c, HD.out]
        omega
      · have hc := half_no (lowI u b) (2 ^ (b.toNat - 1)) l0 (by omega)
        go_enter Try.func22, Try.ntmps22
        go_wp2_with (go_at_call 21; refine (rlow_any _ _ _ h0 h1).mono ?_; rintro e w' ⟨rfl, rfl⟩)
        go_ret
        refine ⟨ret_int ?_, 0, rfl⟩
        unfold signI
        rw [if_neg (by omega), if_neg (by omega), HB.out, ← HL.out, if_neg (by omega)]
        try (unfold wrap64; omega)
set_option maxHeartbeats 400000 in
theorem rturn_any (u k : Int) (w : World) (h0 : 0 ≤ u) (h1 : u ≤ 18446744073709551615) :
    Calls Try.prog 23 #[.int .u64 u, .int .i64 k] w fun e w' => e = .returned (.int .u64 (turnI u k)) ∧ w = w' := by
  have hk0 : 0 ≤ bits .and .i64 k 63 := by rw [and_63]; omega
  have hk1 : bits .and .i64 k 63 ≤ 63 := by rw [and_63]; omega
  have hk := hide (and_63 k)
  go_enter Try.func23, Try.ntmps23
  go_wp2
  go_loop [0, 5] (fun x i => ∃ j : Nat, (j : Int) ≤ bits .and .i64 k 63 ∧ i = .int .i64 j ∧ x = .int .u64 (turnI u j)) (fun _ i => (bits .and .i64 k 63 - intOf i).toNat)
  case atStart => exact ⟨0, by omega, rfl, by rw [turnI_zero u _ h0 h1 rfl]⟩
  case round =>
    obtain ⟨j, hj, rfl, rfl⟩ := hrel
    have hb := turnI_bounds u j h0 h1
    have hs := hide (turn_step (turnI u j) hb.1 hb.2)
    obtain ⟨hb0, hb1⟩ := hb
    by_cases hlt : (j : Int) < bits .and .i64 k 63
    · go_wp2
      go_round
      case rel => exact ⟨j + 1, by omega, by go_num, by rw [hs.out, turnI_turnI u _ _ h0 h1]; rfl⟩
      case measure => simp [intOf]; omega
    · go_wp2
      go_ret
      exact ⟨ret_int (turnI_mod u _ _ (by have := hk.out; omega)), rfl⟩
set_option maxHeartbeats 400000 in
theorem count_any (v : Int) (w : World) (h0 : 0 ≤ v) (h1 : v ≤ 18446744073709551615) :
    Calls Try.prog 32 #[.int .u64 v] w fun e w' => e = .returned (.int .i64 ((cnt 64 v.toNat : Nat) : Int)) ∧ w = w' := by
  go_enter Try.func32, Try.ntmps32
  go_wp2
  go_loop [0, 3] (fun x c => ∃ k m n : Nat, k ≤ 64 ∧ m < 2 ^ k ∧ x = .int .u64 m ∧ c = .int .i64 n ∧ n + k ≤ 64 ∧ n + cnt k m = cnt 64 v.toNat) (fun x _ => (intOf x).toNat)
  case atStart => exact ⟨64, v.toNat, 0, by omega, by omega, by rw [Int.toNat_of_nonneg h0], rfl, by omega, by omega⟩
  case round =>
    obtain ⟨k, m, n, hk, hm, rfl, rfl, hn, hc⟩ := hrel
    have hc := hide hc
    have hm2 : (m : Int) ≤ 18446744073709551615 := by
      have : m < 2 ^ 64 := Nat.lt_of_lt_of_le hm (Nat.pow_le_pow_right (by omega) hk)
      omega
    have hm := hide hm
    by_cases hlt : 0 < m
    · have ha := and_one m (by omega) hm2
      have a0 : 0 ≤ bits .and .u64 (m : Int) 1 := by rw [ha]; omega
      have a1 : bits .and .u64 (m : Int) 1 ≤ 1 := by rw [ha]; omega
      have HA := hide ha
      clear ha
      go_wp2
      go_round
      case rel =>
        rcases k with _ | k
        · have := hm.out; omega
        · have e1 := hm.out
          have e2 := hc.out
          rw [cnt_succ] at e2
          rw [Nat.pow_succ] at e1
          exact ⟨k, m / 2, n + m % 2, by omega, by omega, by congr 1, by rw [HA.out]; congr 1, by omega, by omega⟩
      case measure => simp [intOf]; omega
    · obtain rfl : m = 0 := by omega
      go_wp2
      go_ret
      exact ⟨ret_int (by have := hc.out; rw [cnt_zero] at this; omega), rfl⟩
end Go.Proofs.Ytdhlaaadliflcaa
