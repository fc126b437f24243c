/- What the scalar functions that package pack and the document's own answer stand on come to. Conditions: the bounds of the arguments' kinds. -/
import Derived.Test.YtpngcocmjbkfgaaRows
import Derived.Test.YtpngcocmjbkfgaaSev
import Derived.WalkKit
import Derived.WalkSpells
import Derived.WalkLawsBesides
namespace Go.Proofs.Ytpngcocmjbkfgaa
open Go.RowKit
theorem i64_xor_neg (n : Int) (h0 : -9223372036854775808 ≤ n) (h1 : n ≤ 9223372036854775807) : bits .xor .i64 (-1) n = -1 - n := by
  show IntKind.i64.wrap ((BitVec.ofInt 64 (-1) ^^^ BitVec.ofInt 64 n).toNat : Int) = _
  have h2 : BitVec.ofInt 64 (-1) = BitVec.allOnes 64 := by decide
  rw [h2, BitVec.allOnes_xor, BitVec.toNat_not, BitVec.toNat_ofInt, IntKind.wrap_i64]
  omega
theorem or_one (x : Int) (h0 : 0 ≤ x) (h1 : x ≤ 9223372036854775807) : bits .or .u64 (x * 2) 1 = 2 * x + 1 := by
  obtain ⟨X, rfl⟩ := Int.eq_ofNat_of_zero_le h0
  have e : ((X : Int) * 2) = ((X * 2 : Nat) : Int) := by omega
  have h := u64_or_nat (X * 2) 1 (by omega) (by omega)
  rw [e]
  refine h.trans ?_
  rw [nat_join 1 (X * 2) 1 (by omega) (by omega)]
  omega
theorem and_one (u : Int) (h0 : 0 ≤ u) (h1 : u ≤ 18446744073709551615) : bits .and .u64 u 1 = u % 2 := by
  obtain ⟨U, rfl⟩ := Int.eq_ofNat_of_zero_le h0
  have h := u64_and_nat U 1 (by omega) (by omega)
  refine h.trans ?_
  rw [Nat.and_one_is_mod]; rfl
theorem and_127 (u : Nat) (h : u < 18446744073709551616) : bits .and .u64 (u : Int) 127 = (u % 128 : Nat) := by
  have e := u64_and_nat u 127 h (by omega)
  refine e.trans ?_
  exact congrArg _ (Nat.and_two_pow_sub_one_eq_mod u 7)
theorem or_128 (u : Nat) (h : u < 128) : bits .or .u64 (u : Int) 128 = (u + 128 : Nat) := by
  have e := u64_or_nat u 128 (by omega) (by omega)
  refine e.trans ?_
  rw [Nat.or_comm, ← Nat.two_pow_add_eq_or_of_lt (i := 7) h 1]
  omega
theorem or8_128 (u : Nat) (h : u < 128) : bits .or .u8 (u : Int) 128 = (u + 128 : Nat) := by
  have e := u8_or_nat u 128 (by omega) (by omega)
  refine e.trans ?_
  rw [Nat.or_comm, ← Nat.two_pow_add_eq_or_of_lt (i := 7) h 1]
  omega
theorem and8_127 (u : Nat) (h : u < 256) : bits .and .u8 (u : Int) 127 = (u % 128 : Nat) := by
  have e := u8_and_nat u 127 h (by omega)
  refine e.trans ?_
  exact congrArg _ (Nat.and_two_pow_sub_one_eq_mod u 7)
set_option maxHeartbeats 400000 in
theorem low7_any (u : Nat) (w : World) (h : u < 18446744073709551616) :
    Calls Try.prog 42 #[.int .u64 u, .int .i64 7] w fun e w' => e = .returned (.int .u64 (u % 128 : Nat)) ∧ w = w' := by
  have ha := hide (and_127 u h)
  go_enter Try.func42, Try.ntmps42
  go_wp2
  go_ret
  exact ⟨ret_int ha.out, rfl⟩
set_option maxHeartbeats 400000 in
theorem zig_any (n : Int) (w : World) (h0 : -9223372036854775808 ≤ n) (h1 : n ≤ 9223372036854775807) :
    Calls Try.prog 41 #[.int .i64 n] w fun e w' => e = .returned (.int .u64 (zigN n : Nat)) ∧ w = w' := by
  have hs : IntKind.i64.signed = true := rfl
  have hc := hide (zigN_cast n h0 h1)
  by_cases c : n < 0
  · go_enter Try.func41, Try.ntmps41
    go_wp2
    go_ret
    exact ⟨ret_int (by
      rw [hc.out, i64_xor_neg n h0 h1, IntWalk.u64_in (-1 - n) ⟨by omega, by omega⟩, IntWalk.u64_in _ ⟨by omega, by omega⟩, or_one _ (by omega) (by omega)]
      unfold zigI; rw [if_pos (by omega)]; omega), rfl⟩
  · go_enter Try.func41, Try.ntmps41
    go_wp2
    go_ret
    exact ⟨ret_int (by rw [hc.out]; unfold zigI; rw [if_neg (by omega)]; omega), rfl⟩
set_option maxHeartbeats 400000 in
theorem zag_any (u : Nat) (w : World) (h : u < 18446744073709551616) :
    Calls Try.prog 46 #[.int .u64 u] w fun e w' => e = .returned (.int .i64 (zagI u)) ∧ w = w' := by
  have hs : IntKind.i64.signed = true := rfl
  have ha := and_one u (by omega) (by omega)
  by_cases c : (u : Int) % 2 = 1
  · have hb : ((bits .and .u64 (u : Int) 1 : Int) == 1) = true := by rw [ha]; exact beq_iff_eq.2 c
    have H := hide ha; clear ha
    have C := hide c; clear c
    go_enter Try.func46, Try.ntmps46
    go_wp2
    go_ret
    exact ⟨ret_int (by rw [i64_xor_neg _ (by omega) (by omega)]; unfold zagI; rw [if_pos C.out]), rfl⟩
  · have hb : ((bits .and .u64 (u : Int) 1 : Int) == 1) = false := by rw [ha]; exact beq_eq_false_iff_ne.2 c
    have H := hide ha; clear ha
    have C := hide c; clear c
    go_enter Try.func46, Try.ntmps46
    go_wp2
    go_ret
    exact ⟨ret_int (by unfold zagI; rw [if_neg C.out]), rfl⟩
end Go.Proofs.Ytpngcocmjbkfgaa
