/- Plain arithmetic of package word's scalar functions: what bits come to as numbers. No condition: nothing here speaks of a program. -/
import Derived.Laws.BitsAllLaws
import Derived.IntWalk
namespace Go.Proofs.Ytdhlaaadliflcaa
theorem ret_int {k : IntKind} {a b : Int} (h : a = b) : Ending.returned (.int k a) = .returned (.int k b) := by rw [h]
theorem ret_bool {a b : Bool} (h : a = b) : Ending.returned (.bool a) = .returned (.bool b) := by rw [h]

/-! ### What the functions come to -/
def lowI (u b : Int) : Int := if b < 1 then 0 else if 64 ≤ b then u else u % 2 ^ b.toNat
def signI (u b : Int) : Int := if b < 1 then 0 else if 64 ≤ b then IntKind.i64.wrap u else if 2 ^ (b - 1).toNat ≤ u % 2 ^ b.toNat then u % 2 ^ b.toNat - 2 ^ b.toNat else u % 2 ^ b.toNat
def zigI (n : Int) : Int := if n < 0 then -2 * n - 1 else 2 * n
def zagI (u : Int) : Int := if u % 2 = 1 then -1 - u / 2 else u / 2
def turnN (u k : Nat) : Nat := u * 2 ^ k % 2 ^ 64 ||| u / 2 ^ (64 - k)
def turnI (u k : Int) : Int := ((turnN u.toNat (k % 64).toNat : Nat) : Int)
def withinI (n lo hi : Int) : Int := lo + n % (hi - lo + 1)

/-! ### Powers of two -/
theorem pow_pos (b : Nat) : (0 : Int) < 2 ^ b := Int.pow_pos (by omega)
theorem pow_le_63 {b : Nat} (h : b ≤ 63) : (2 : Int) ^ b ≤ 9223372036854775808 := by
  have h1 : (2 : Nat) ^ b ≤ 2 ^ 63 := Nat.pow_le_pow_right (by omega) h
  have h2 : ((2 ^ b : Nat) : Int) ≤ ((2 ^ 63 : Nat) : Int) := by exact_mod_cast h1
  simpa using h2
theorem pow_cast (b : Nat) : ((2 ^ b : Nat) : Int) = (2 : Int) ^ b := by push_cast; rfl
theorem pow_step {b : Int} (h : 1 ≤ b) : (2 : Int) ^ b.toNat = 2 * 2 ^ (b - 1).toNat := by
  have e : b.toNat = (b - 1).toNat + 1 := by omega
  rw [e, Int.pow_succ]; omega
theorem pow_split {b : Int} (h : 1 ≤ b) (h' : b ≤ 64) : (2 : Int) ^ b.toNat * 2 ^ (64 - b).toNat = 18446744073709551616 := by
  rw [← Int.pow_add]
  have e : b.toNat + (64 - b).toNat = 64 := by omega
  rw [e]; rfl

/-! ### The bits -/
theorem and_mask (u : Int) (b : Nat) (h0 : 0 ≤ u) (h1 : u ≤ 18446744073709551615) (hb : b < 64) :
    bits .and .u64 u (IntKind.u64.wrap (IntKind.u64.wrap (2 ^ b) - 1)) = u % 2 ^ b := by
  obtain ⟨U, rfl⟩ := Int.eq_ofNat_of_zero_le h0
  have hp := pow_le_63 (b := b) (by omega)
  have hq := pow_pos b
  have e1 : IntKind.u64.wrap (IntKind.u64.wrap (2 ^ b) - 1) = ((2 ^ b - 1 : Nat) : Int) := by
    rw [IntWalk.u64_in (2 ^ b) ⟨by omega, by omega⟩, IntWalk.u64_in _ ⟨by omega, by omega⟩, ← pow_cast]
    have : 1 ≤ 2 ^ b := Nat.one_le_two_pow
    omega
  have hn : (2 : Nat) ^ b ≤ 2 ^ 63 := Nat.pow_le_pow_right (by omega) (by omega)
  rw [e1, u64_and_nat U _ (by omega) (by omega), Nat.and_two_pow_sub_one_eq_mod, ← pow_cast]
  rfl
theorem i64_xor_neg (n : Int) (h0 : -9223372036854775808 ≤ n) (h1 : n ≤ 9223372036854775807) : bits .xor .i64 (-1) n = -1 - n := by
  show IntKind.i64.wrap ((BitVec.ofInt 64 (-1) ^^^ BitVec.ofInt 64 n).toNat : Int) = _
  have h2 : BitVec.ofInt 64 (-1) = BitVec.allOnes 64 := by decide
  rw [h2, BitVec.allOnes_xor, BitVec.toNat_not, BitVec.toNat_ofInt, IntKind.wrap_i64]
  omega
theorem or_one (x : Int) (h0 : 0 ≤ x) (h1 : x ≤ 9223372036854775807) : bits .or .u64 (x * 2) 1 = 2 * x + 1 := by
  obtain ⟨X, rfl⟩ := Int.eq_ofNat_of_zero_le h0
  have e : ((X : Int) * 2) = ((X * 2 : Nat) : Int) := by omega
  have h := u64_or_nat (X * 2) 1 (by omega) (by omega)
  rw [e]
  refine h.trans ?_
  rw [nat_join 1 (X * 2) 1 (by omega) (by omega)]
  omega
theorem and_one (u : Int) (h0 : 0 ≤ u) (h1 : u ≤ 18446744073709551615) : bits .and .u64 u 1 = u % 2 := by
  obtain ⟨U, rfl⟩ := Int.eq_ofNat_of_zero_le h0
  have h := u64_and_nat U 1 (by omega) (by omega)
  refine h.trans ?_
  rw [Nat.and_one_is_mod]; rfl
theorem and_63 (k : Int) : bits .and .i64 k 63 = k % 64 := by
  show IntKind.i64.wrap ((BitVec.ofInt 64 k &&& BitVec.ofInt 64 63).toNat : Int) = _
  have h2 : (BitVec.ofInt 64 63).toNat = 2 ^ 6 - 1 := by decide
  rw [BitVec.toNat_and, h2, Nat.and_two_pow_sub_one_eq_mod, BitVec.toNat_ofInt, IntKind.wrap_i64]
  omega

/-! ### Within -/
theorem tmod_rest (n m : Int) : n % m = n.tmod m % m := by
  have h := Int.mul_tdiv_add_tmod n m
  have e : n % m = (n.tmod m + m * n.tdiv m) % m := by rw [Int.add_comm, h]
  rw [e, Int.add_mul_emod_self_left]
theorem tmod_bounds (n m : Int) (hm : 0 < m) : -m < n.tmod m ∧ n.tmod m < m := by
  refine ⟨?_, Int.tmod_lt_of_pos n hm⟩
  have h := Int.tmod_lt_of_pos (-n) hm
  rw [Int.neg_tmod] at h
  omega
theorem tmod_neg (n m : Int) (hm : 0 < m) (h : n.tmod m < 0) : n % m = n.tmod m + m := by
  have hb := tmod_bounds n m hm
  rw [tmod_rest n m, ← Int.add_emod_right, Int.emod_eq_of_lt (by omega) (by omega)]
theorem tmod_pos (n m : Int) (hm : 0 < m) (h : 0 ≤ n.tmod m) : n % m = n.tmod m := by
  have hb := tmod_bounds n m hm
  rw [tmod_rest n m, Int.emod_eq_of_lt (by omega) (by omega)]

/-! ### Sign -/
theorem sign_shift (u b : Int) (h0 : 0 ≤ u) (h1 : u ≤ 18446744073709551615) (b0 : 1 ≤ b) (b1 : b ≤ 64) :
    IntKind.i64.wrap (IntKind.u64.wrap (u * 2 ^ (64 - b).toNat)) / 2 ^ (64 - b).toNat = signI u b := by
  have hs := pow_split b0 b1
  have hd := pow_step b0
  have hp := pow_pos (b - 1).toNat
  have hq := pow_pos (64 - b).toNat
  have hw : IntKind.u64.wrap (u * 2 ^ (64 - b).toNat) = u % 2 ^ b.toNat * 2 ^ (64 - b).toNat := by
    rw [IntKind.wrap_u64, ← hs, Int.mul_comm u, Int.mul_comm (2 ^ b.toNat), Int.mul_emod_mul_of_pos _ _ hq, Int.mul_comm]
  have hm0 := Int.emod_nonneg u (show (2 : Int) ^ b.toNat ≠ 0 by omega)
  have hm1 := Int.emod_lt_of_pos u (show 0 < (2 : Int) ^ b.toNat by omega)
  unfold signI
  rw [if_neg (by omega), hw]
  have hhalf : (2 : Int) ^ (b - 1).toNat * 2 ^ (64 - b).toNat = 9223372036854775808 := by
    rw [hd, Int.mul_assoc] at hs; omega
  by_cases hb : 64 ≤ b
  · obtain rfl : b = 64 := by omega
    rw [if_pos (by omega)]
    have e : (64 - 64 : Int).toNat = 0 := rfl
    rw [e, Int.pow_zero, Int.mul_one, Int.ediv_one]
    have e2 : (2 : Int) ^ (64 : Int).toNat = 18446744073709551616 := rfl
    rw [e2, Int.emod_eq_of_lt h0 (by omega)]
  · rw [if_neg hb]
    generalize u % 2 ^ b.toNat = v at *
    generalize (2 : Int) ^ (b - 1).toNat = h at *
    generalize (2 : Int) ^ (64 - b).toNat = q at *
    generalize (2 : Int) ^ b.toNat = m at *
    by_cases hv : h ≤ v
    · rw [if_pos hv]
      have hge : h * q ≤ v * q := Int.mul_le_mul_of_nonneg_right hv (by omega)
      have hlt : v * q < m * q := Int.mul_lt_mul_of_pos_right hm1 hq
      have e : IntKind.i64.wrap (v * q) = (v - m) * q := by
        rw [IntKind.wrap_i64, Int.sub_mul]; omega
      rw [e, Int.mul_ediv_cancel _ (by omega)]
    · rw [if_neg hv]
      have hlt : v * q < h * q := Int.mul_lt_mul_of_pos_right (by omega) hq
      have hge : 0 ≤ v * q := Int.mul_nonneg hm0 (by omega)
      rw [IntWalk.i64_in _ ⟨by omega, by omega⟩, Int.mul_ediv_cancel _ (by omega)]
theorem half_yes (v p : Int) (hp : 0 < p) (h1 : v < 2 * p) (h : p ≤ v) : (v / p == 1) = true := by
  have e : v / p = 1 := by
    have h2 := Int.ediv_lt_of_lt_mul hp h1
    have h3 : 1 ≤ v / p := (Int.le_ediv_iff_mul_le hp).2 (by omega)
    omega
  rw [e]; rfl
theorem half_no (v p : Int) (h0 : 0 ≤ v) (h : v < p) : (v / p == 1) = false := by
  rw [Int.ediv_eq_zero_of_lt h0 h]; rfl

/-! ### Turn -/
theorem turn_walk (u k : Int) (h0 : 0 ≤ u) (h1 : u ≤ 18446744073709551615) :
    bits .or .u64 (IntKind.u64.wrap (u * 2 ^ (k % 64).toNat)) (u / 2 ^ (64 - k % 64).toNat) = turnI u k := by
  obtain ⟨U, rfl⟩ := Int.eq_ofNat_of_zero_le h0
  have e1 : IntKind.u64.wrap ((U : Int) * 2 ^ (k % 64).toNat) = ((U * 2 ^ (k % 64).toNat % 2 ^ 64 : Nat) : Int) := by
    rw [IntKind.wrap_u64, Int.natCast_emod, Int.natCast_mul, pow_cast]; rfl
  have e2 : (U : Int) / 2 ^ (64 - k % 64).toNat = ((U / 2 ^ (64 - (k % 64).toNat) : Nat) : Int) := by
    rw [Int.natCast_ediv, pow_cast]
    have e : (64 - k % 64).toNat = 64 - (k % 64).toNat := by omega
    rw [e]
  rw [e1, e2]
  have l1 : U * 2 ^ (k % 64).toNat % 2 ^ 64 < 18446744073709551616 := Nat.mod_lt _ (by omega)
  have l2 : U / 2 ^ (64 - (k % 64).toNat) < 18446744073709551616 := Nat.lt_of_le_of_lt (Nat.div_le_self _ _) (by omega)
  rw [u64_or_nat _ _ l1 l2]
  rfl
theorem turn_lt (u k : Nat) (h : u < 2 ^ 64) : turnN u k < 2 ^ 64 :=
  Nat.or_lt_two_pow (Nat.mod_lt _ (by omega)) (Nat.lt_of_le_of_lt (Nat.div_le_self _ _) h)
theorem turnI_bounds (u k : Int) (h0 : 0 ≤ u) (h1 : u ≤ 18446744073709551615) : 0 ≤ turnI u k ∧ turnI u k ≤ 18446744073709551615 := by
  have := turn_lt u.toNat (k % 64).toNat (by omega)
  unfold turnI; omega
/-- Each bit goes up by k, round the end. -/
theorem turn_bit (u k i : Nat) (h : u < 2 ^ 64) (hk : k < 64) : (turnN u k).testBit i = (decide (i < 64) && u.testBit ((i + 64 - k) % 64)) := by
  unfold turnN
  rw [Nat.testBit_or, Nat.testBit_mod_two_pow, Nat.mul_comm, Nat.testBit_two_pow_mul, Nat.testBit_div_two_pow]
  by_cases hi : i < 64
  · by_cases hki : k ≤ i
    · have e : (i + 64 - k) % 64 = i - k := by omega
      have h2 : u.testBit (i + (64 - k)) = false := Nat.testBit_lt_two_pow (Nat.lt_of_lt_of_le h (Nat.pow_le_pow_right (by omega) (by omega)))
      simp [hi, hki, e, h2]
    · have e : (i + 64 - k) % 64 = i + (64 - k) := by omega
      simp [hi, hki, e]
  · have h2 : u.testBit (i + (64 - k)) = false := Nat.testBit_lt_two_pow (Nat.lt_of_lt_of_le h (Nat.pow_le_pow_right (by omega) (by omega)))
    simp [hi, h2]
theorem turn_turn (u a b : Nat) (h : u < 2 ^ 64) (ha : a < 64) (hb : b < 64) : turnN (turnN u a) b = turnN u ((a + b) % 64) := by
  apply Nat.eq_of_testBit_eq
  intro i
  rw [turn_bit _ b i (turn_lt u a h) hb, turn_bit _ a _ h ha, turn_bit u _ i h (by omega)]
  by_cases hi : i < 64
  · have e1 : (i + 64 - b) % 64 < 64 := by omega
    have e2 : ((i + 64 - b) % 64 + 64 - a) % 64 = (i + 64 - (a + b) % 64) % 64 := by omega
    simp [hi, e1, e2]
  · simp [hi]
theorem turn_zero (u : Nat) (h : u < 2 ^ 64) : turnN u 0 = u := by
  unfold turnN
  rw [Nat.pow_zero, Nat.mul_one, Nat.mod_eq_of_lt h, Nat.sub_zero, Nat.div_eq_of_lt h, Nat.or_zero]
theorem turnI_turnI (u a b : Int) (h0 : 0 ≤ u) (h1 : u ≤ 18446744073709551615) : turnI (turnI u a) b = turnI u (a + b) := by
  unfold turnI
  rw [Int.toNat_natCast, turn_turn _ _ _ (by omega) (by omega) (by omega)]
  have e : ((a % 64).toNat + (b % 64).toNat) % 64 = ((a + b) % 64).toNat := by omega
  rw [e]
theorem turnI_mod (u a b : Int) (h : a % 64 = b % 64) : turnI u a = turnI u b := by unfold turnI; rw [h]
theorem turnI_zero (u a : Int) (h0 : 0 ≤ u) (h1 : u ≤ 18446744073709551615) (h : a % 64 = 0) : turnI u a = u := by
  unfold turnI
  rw [h, show (0 : Int).toNat = 0 from rfl, turn_zero _ (by omega)]; omega
/-- One step of the document's own answer. -/
theorem turn_step (u : Int) (h0 : 0 ≤ u) (h1 : u ≤ 18446744073709551615) : bits .or .u64 (IntKind.u64.wrap (u * 2)) (u / 9223372036854775808) = turnI u 1 := by
  have h := turn_walk u 1 h0 h1
  exact h

/-! ### The number of bits -/
def cnt : Nat → Nat → Nat
  | 0, _ => 0
  | k + 1, v => v % 2 + cnt k (v / 2)
theorem cnt_succ (k v : Nat) : cnt (k + 1) v = v % 2 + cnt k (v / 2) := rfl
theorem cnt_zero : ∀ k, cnt k 0 = 0
  | 0 => rfl
  | k + 1 => by unfold cnt; rw [Nat.zero_div, cnt_zero k]
theorem cnt_split : ∀ (k j t y : Nat), y < 2 ^ k → cnt (k + j) (2 ^ k * t + y) = cnt j t + cnt k y
  | 0, j, t, y, h => by
    have : y = 0 := by omega
    subst this; simp [cnt]
  | k + 1, j, t, y, h => by
    have hp : 2 ^ (k + 1) = 2 * 2 ^ k := by rw [Nat.pow_succ]; omega
    have e : k + 1 + j = (k + j) + 1 := by omega
    have h' : y < 2 * 2 ^ k := by rw [← hp]; exact h
    rw [e, cnt_succ, cnt_succ k y]
    have hm : 2 ^ (k + 1) * t = 2 * (2 ^ k * t) := by rw [hp, Nat.mul_assoc]
    have e1 : (2 ^ (k + 1) * t + y) % 2 = y % 2 := by rw [hm]; omega
    have e2 : (2 ^ (k + 1) * t + y) / 2 = 2 ^ k * t + y / 2 := by rw [hm]; omega
    rw [e1, e2, cnt_split k j t (y / 2) (by omega)]
    omega
theorem cnt_turn (u k : Nat) (h : u < 2 ^ 64) (hk : k < 64) : cnt 64 (turnN u k) = cnt 64 u := by
  have hp : 2 ^ 64 = 2 ^ (64 - k) * 2 ^ k := by rw [← Nat.pow_add]; congr 1; omega
  have hq : u / 2 ^ (64 - k) < 2 ^ k := by rw [Nat.div_lt_iff_lt_mul (Nat.two_pow_pos _), Nat.mul_comm, ← hp]; exact h
  have hu : u = 2 ^ (64 - k) * (u / 2 ^ (64 - k)) + u % 2 ^ (64 - k) := (Nat.div_add_mod _ _).symm
  have ht : turnN u k = 2 ^ k * (u % 2 ^ (64 - k)) + u / 2 ^ (64 - k) := by
    unfold turnN
    rw [hp, Nat.mul_mod_mul_right]
    rw [Nat.mul_comm (u % 2 ^ (64 - k)), ← Nat.two_pow_add_eq_or_of_lt hq]
  have e1 := cnt_split k (64 - k) (u % 2 ^ (64 - k)) (u / 2 ^ (64 - k)) hq
  have e2 := cnt_split (64 - k) k (u / 2 ^ (64 - k)) (u % 2 ^ (64 - k)) (Nat.mod_lt _ (Nat.two_pow_pos _))
  have c1 : k + (64 - k) = 64 := by omega
  have c2 : 64 - k + k = 64 := by omega
  rw [c1] at e1
  rw [c2, ← hu] at e2
  rw [ht, e1, e2, Nat.add_comm]
end Go.Proofs.Ytdhlaaadliflcaa
