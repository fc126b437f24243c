/- What Get comes to, package word's and the document's own. Conditions: the slice lies in memory and holds bytes, its length has room. -/
import Derived.Test.YtdmfblobmahfbaaRows
import Derived.Test.YtdmfblobmahfbaaLe
import Derived.LoopTactic
namespace Go.Proofs.Ytdmfblobmahfbaa
open Go.RowKit
set_option maxHeartbeats 1000000 in
theorem get_any (A : Option Addr) (n c : Nat) (zs : List Int) (i m : Int) (w : World) (hn : zs.length = n) (hz : Lies w A zs) (ho : Octets zs) (ln : n ≤ 4611686018427387904) :
    Calls Try.prog 23 #[.slice A n c, .int .i64 i, .int .i64 m] w fun e w' => e = .returned (.tuple #[.int .u64 (getV zs i m), .int .i64 (getE zs i m)]) ∧ w = w' := by
  subst hn
  by_cases hbad : GetBad zs i m
  · have e1 : getV zs i m = 0 := by unfold getV; rw [if_pos hbad]
    have e2 : getE zs i m = 1 := by unfold getE; rw [if_pos hbad]
    rw [e1, e2]
    clear e1 e2
    unfold GetBad at hbad
    by_cases b1 : m < 1
    · go_enter Try.func23, Try.ntmps23
      go_wp2
      go_ret2
      exact ⟨rfl, rfl⟩
    by_cases b2 : 8 < m
    · go_enter Try.func23, Try.ntmps23
      go_wp2
      go_ret2
      exact ⟨rfl, rfl⟩
    by_cases b3 : i < 0
    · go_enter Try.func23, Try.ntmps23
      go_wp2
      go_ret2
      exact ⟨rfl, rfl⟩
    · have b4 : (zs.length : Int) < i := by omega
      clear hbad
      go_enter Try.func23, Try.ntmps23
      go_wp2
      go_ret2
      exact ⟨rfl, rfl⟩
  · have hg : 1 ≤ m ∧ m ≤ 8 ∧ 0 ≤ i ∧ i ≤ (zs.length : Int) := by unfold GetBad at hbad; omega
    obtain ⟨m1, m8, i0, i1⟩ := hg
    by_cases hs : (zs.length : Int) - i < m
    · have e1 : getV zs i m = 0 := by unfold getV; rw [if_neg hbad, if_pos hs]
      have e2 : getE zs i m = 3 := by unfold getE; rw [if_neg hbad, if_pos hs]
      rw [e1, e2]
      clear e1 e2 hbad
      go_enter Try.func23, Try.ntmps23
      go_wp2
      go_ret2
      exact ⟨rfl, rfl⟩
    · have e1 : getV zs i m = le zs i.toNat m.toNat := by unfold getV; rw [if_neg hbad, if_neg hs]
      have e2 : getE zs i m = 0 := by unfold getE; rw [if_neg hbad, if_neg hs]
      rw [e1, e2]
      clear e1 e2 hbad
      obtain ⟨I, rfl⟩ := Int.eq_ofNat_of_zero_le i0
      obtain ⟨M, rfl⟩ := Int.eq_ofNat_of_zero_le (show 0 ≤ m by omega)
      rw [Int.toNat_natCast, Int.toNat_natCast]
      go_enter Try.func23, Try.ntmps23
      go_wp2
      go_loop [8, 33] (fun u j => ∃ k : Nat, k ≤ M ∧ j = .int .i64 k ∧ u = .int .u64 (le zs I k)) (fun _ j => M - (intOf j).toNat)
      case atStart => exact ⟨0, by omega, rfl, rfl⟩
      case round =>
        obtain ⟨k, hk, rfl, rfl⟩ := hrel
        have hb := le_bounds ho I k
        have o := ho.ix (I + k)
        by_cases hlt : k < M
        · obtain ⟨b1, o1, rfl, _, hc1⟩ := hz.at_ (k := I + k) (by omega)
          have HZ := hide hz; have HO := hide ho; clear hz ho
          have HB := hide hb; clear hb
          obtain ⟨o1, o2⟩ := o
          have hstep := hide (or_high (le zs I k) (ix zs (I + k)) k (by omega) HB.out.1 HB.out.2 o1 o2)
          have hsum : IntKind.i64.wrap ((I : Int) + (k : Int)) = (I : Int) + (k : Int) := IntWalk.i64_in _ ⟨by omega, by omega⟩
          go_wp2
          go_round
          case rel => exact ⟨k + 1, by omega, by go_num, by rw [le_succ, ← hstep.out, Nat.mul_comm 8 k]⟩
          case measure => simp [intOf]; omega
        · obtain rfl : k = M := by omega
          go_wp2
          go_ret2
          exact ⟨rfl, rfl⟩
set_option maxHeartbeats 1000000 in
theorem rget_any (A : Option Addr) (n c : Nat) (zs : List Int) (i m : Int) (w : World) (hn : zs.length = n) (hz : Lies w A zs) (ho : Octets zs) (ln : n ≤ 4611686018427387904) :
    Calls Try.prog 24 #[.slice A n c, .int .i64 i, .int .i64 m] w fun e w' => e = .returned (.tuple #[.int .u64 (getV zs i m), .int .i64 (getE zs i m)]) ∧ w = w' := by
  subst hn
  by_cases hbad : GetBad zs i m
  · have e1 : getV zs i m = 0 := by unfold getV; rw [if_pos hbad]
    have e2 : getE zs i m = 1 := by unfold getE; rw [if_pos hbad]
    rw [e1, e2]
    clear e1 e2
    unfold GetBad at hbad
    by_cases b1 : m < 1
    · go_enter Try.func24, Try.ntmps24
      go_wp2
      go_ret2
      exact ⟨rfl, rfl⟩
    by_cases b2 : 8 < m
    · go_enter Try.func24, Try.ntmps24
      go_wp2
      go_ret2
      exact ⟨rfl, rfl⟩
    by_cases b3 : i < 0
    · go_enter Try.func24, Try.ntmps24
      go_wp2
      go_ret2
      exact ⟨rfl, rfl⟩
    · have b4 : (zs.length : Int) < i := by omega
      clear hbad
      go_enter Try.func24, Try.ntmps24
      go_wp2
      go_ret2
      exact ⟨rfl, rfl⟩
  · have hg : 1 ≤ m ∧ m ≤ 8 ∧ 0 ≤ i ∧ i ≤ (zs.length : Int) := by unfold GetBad at hbad; omega
    obtain ⟨m1, m8, i0, i1⟩ := hg
    by_cases hs : (zs.length : Int) - i < m
    · have e1 : getV zs i m = 0 := by unfold getV; rw [if_neg hbad, if_pos hs]
      have e2 : getE zs i m = 3 := by unfold getE; rw [if_neg hbad, if_pos hs]
      rw [e1, e2]
      clear e1 e2 hbad
      go_enter Try.func24, Try.ntmps24
      go_wp2
      go_ret2
      exact ⟨rfl, rfl⟩
    · have e1 : getV zs i m = le zs i.toNat m.toNat := by unfold getV; rw [if_neg hbad, if_neg hs]
      have e2 : getE zs i m = 0 := by unfold getE; rw [if_neg hbad, if_neg hs]
      rw [e1, e2]
      clear e1 e2 hbad
      obtain ⟨I, rfl⟩ := Int.eq_ofNat_of_zero_le i0
      obtain ⟨M, rfl⟩ := Int.eq_ofNat_of_zero_le (show 0 ≤ m by omega)
      rw [Int.toNat_natCast, Int.toNat_natCast]
      go_enter Try.func24, Try.ntmps24
      go_wp2
      go_loop [8, 9] (fun u j => ∃ k : Nat, k ≤ M ∧ j = .int .i64 ((k : Int) - 1) ∧ u = .int .u64 (le zs (I + k) (M - k))) (fun _ j => (intOf j + 1).toNat)
      case atStart => exact ⟨M, by omega, rfl, by rw [Nat.sub_self]; rfl⟩
      case round =>
        obtain ⟨k, hk, rfl, rfl⟩ := hrel
        have hb := le_bounds ho (I + k) (M - k)
        by_cases hlt : 0 < k
        · obtain ⟨k, rfl⟩ : ∃ j, k = j + 1 := ⟨k - 1, by omega⟩
          have o := ho.ix (I + k)
          obtain ⟨b1, o1, rfl, _, hc1⟩ := hz.at_ (k := I + k) (by omega)
          have HZ := hide hz; have HO := hide ho; clear hz ho
          have HB := hide hb; clear hb
          obtain ⟨o1, o2⟩ := o
          have hlow := hide (le_low zs (I + k) (M - (k + 1)))
          have h7 : (256 : Int) ^ (M - (k + 1)) ≤ 72057594037927936 := by
            rcases (show M - (k + 1) = 0 ∨ M - (k + 1) = 1 ∨ M - (k + 1) = 2 ∨ M - (k + 1) = 3 ∨ M - (k + 1) = 4 ∨ M - (k + 1) = 5 ∨ M - (k + 1) = 6 ∨ M - (k + 1) = 7 by omega) with h | h | h | h | h | h | h | h <;> rw [h] <;> decide
          have hstep := hide (or_low (le zs (I + (k + 1)) (M - (k + 1))) (ix zs (I + k)) HB.out.1 (Int.lt_of_lt_of_le HB.out.2 h7) o1 o2)
          clear h7
          have hsum : IntKind.i64.wrap ((I : Int) + (k : Int)) = (I : Int) + (k : Int) := IntWalk.i64_in _ ⟨by omega, by omega⟩
          go_wp2
          go_round
          case rel => exact ⟨k, by omega, by go_num, by
            have e : M - k = M - (k + 1) + 1 := by omega
            rw [e, hlow.out]
            exact congrArg _ hstep.out⟩
          case measure => simp [intOf]
        · obtain rfl : k = 0 := by omega
          go_wp2
          go_ret2
          exact ⟨rfl, rfl⟩
end Go.Proofs.Ytdmfblobmahfbaa
