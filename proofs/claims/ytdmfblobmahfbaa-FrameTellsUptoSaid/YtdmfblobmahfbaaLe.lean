/- Numbers out of bytes and bytes out of numbers, the lowest first: plain arithmetic. No condition. -/
import Derived.Test.YtdmfblobmahfbaaMem
namespace Go.Proofs.Ytdmfblobmahfbaa
open Go.RowKit
theorem ret_two {k l : IntKind} {a b c d : Int} (h : a = b) (g : c = d) : Ending.returned (.tuple #[.int k a, .int l c]) = .returned (.tuple #[.int k b, .int l d]) := by rw [h, g]

/-- The number of the k bytes from place i on, the lowest first. -/
def le (zs : List Int) (i : Nat) : Nat → Int
  | 0 => 0
  | k + 1 => le zs i k + ix zs (i + k) * 256 ^ k
theorem le_zero (zs : List Int) (i : Nat) : le zs i 0 = 0 := rfl
theorem le_succ (zs : List Int) (i k : Nat) : le zs i (k + 1) = le zs i k + ix zs (i + k) * 256 ^ k := rfl
theorem pow256 (k : Nat) : (256 : Int) ^ k = 2 ^ (8 * k) := by
  rw [Int.pow_mul]; rfl
theorem pow256_pos (k : Nat) : (0 : Int) < 256 ^ k := Int.pow_pos (by omega)
theorem le_bounds {zs : List Int} (ho : Octets zs) (i : Nat) : ∀ k, 0 ≤ le zs i k ∧ le zs i k < 256 ^ k
  | 0 => ⟨by rw [le_zero]; omega, by rw [le_zero]; exact pow256_pos 0⟩
  | k + 1 => by
    have h := le_bounds ho i k
    have o := ho.ix (i + k)
    have hp := pow256_pos k
    rw [le_succ, Int.pow_succ]
    have h1 : ix zs (i + k) * 256 ^ k ≤ 255 * 256 ^ k := Int.mul_le_mul_of_nonneg_right o.2 (by omega)
    have h2 : 0 ≤ ix zs (i + k) * 256 ^ k := Int.mul_nonneg o.1 (by omega)
    omega
theorem le_low (zs : List Int) (i : Nat) : ∀ k, le zs i (k + 1) = ix zs i + 256 * le zs (i + 1) k
  | 0 => by rw [le_succ, le_zero, le_zero]; simp
  | k + 1 => by
    rw [le_succ, le_low zs i k, le_succ, Int.pow_succ]
    have e : i + (k + 1) = i + 1 + k := by omega
    rw [e, Int.mul_add, Int.mul_comm (256 ^ k) 256, ← Int.mul_assoc (ix zs (i + 1 + k)), Int.mul_comm (ix zs (i + 1 + k)) 256, Int.mul_assoc]
    omega
theorem pow256_le {k : Nat} (h : k ≤ 8) : (256 : Int) ^ k ≤ 18446744073709551616 := by
  rcases (show k = 0 ∨ k = 1 ∨ k = 2 ∨ k = 3 ∨ k = 4 ∨ k = 5 ∨ k = 6 ∨ k = 7 ∨ k = 8 by omega) with h | h | h | h | h | h | h | h | h <;> subst h <;> decide
theorem pow_cast (k : Nat) : ((2 ^ k : Nat) : Int) = 2 ^ k := by push_cast; rfl
theorem or_high (a b : Int) (k : Nat) (hk : k < 8) (a0 : 0 ≤ a) (a1 : a < 256 ^ k) (b0 : 0 ≤ b) (b1 : b ≤ 255) :
    bits .or .u64 a (IntKind.u64.wrap (b * 2 ^ (8 * k))) = a + b * 256 ^ k := by
  have hp := pow256_le (k := k + 1) (by omega)
  have hq := pow256_pos k
  rw [Int.pow_succ] at hp
  have h1 : b * 256 ^ k ≤ 255 * 256 ^ k := Int.mul_le_mul_of_nonneg_right b1 (by omega)
  have h2 : 0 ≤ b * 256 ^ k := Int.mul_nonneg b0 (by omega)
  rw [← pow256, IntWalk.u64_in _ ⟨h2, by omega⟩]
  obtain ⟨X, rfl⟩ := Int.eq_ofNat_of_zero_le a0
  obtain ⟨Y, rfl⟩ := Int.eq_ofNat_of_zero_le b0
  have e : (Y : Int) * 256 ^ k = ((2 ^ (8 * k) * Y : Nat) : Int) := by
    rw [pow256, Int.natCast_mul, pow_cast, Int.mul_comm]
  have hX : X < 2 ^ (8 * k) := by
    rw [pow256, ← pow_cast] at a1; omega
  rw [e] at h1 h2 ⊢
  rw [u64_or_nat X _ (by omega) (by omega), Nat.or_comm, ← Nat.two_pow_add_eq_or_of_lt hX]
  omega
theorem or_low (u b : Int) (u0 : 0 ≤ u) (u1 : u < 72057594037927936) (b0 : 0 ≤ b) (b1 : b ≤ 255) :
    bits .or .u64 (IntKind.u64.wrap (u * 256)) b = b + 256 * u := by
  rw [IntWalk.u64_in _ ⟨by omega, by omega⟩]
  obtain ⟨X, rfl⟩ := Int.eq_ofNat_of_zero_le u0
  obtain ⟨Y, rfl⟩ := Int.eq_ofNat_of_zero_le b0
  have e : (X : Int) * 256 = ((2 ^ 8 * X : Nat) : Int) := by omega
  rw [e, u64_or_nat _ _ (by omega) (by omega), ← Nat.two_pow_add_eq_or_of_lt (show Y < 2 ^ 8 by omega)]
  omega

/-- What Get answers: the number, the error. -/
def GetBad (zs : List Int) (i n : Int) : Prop := n < 1 ∨ 8 < n ∨ i < 0 ∨ (zs.length : Int) < i
instance (zs : List Int) (i n : Int) : Decidable (GetBad zs i n) := by unfold GetBad; infer_instance
def getV (zs : List Int) (i n : Int) : Int := if GetBad zs i n then 0 else if (zs.length : Int) - i < n then 0 else le zs i.toNat n.toNat
def getE (zs : List Int) (i n : Int) : Int := if GetBad zs i n then 1 else if (zs.length : Int) - i < n then 3 else 0
/-- The lowest k bytes of u, the lowest first. -/
def putL (u : Int) : Nat → List Int
  | 0 => []
  | k + 1 => putL u k ++ [u / 256 ^ k % 256]
theorem putL_succ (u : Int) (k : Nat) : putL u (k + 1) = putL u k ++ [u / 256 ^ k % 256] := rfl
theorem length_putL (u : Int) : ∀ k, (putL u k).length = k
  | 0 => rfl
  | k + 1 => by rw [putL_succ, List.length_append, length_putL u k]; rfl
theorem octets_putL (u : Int) : ∀ k, Octets (putL u k)
  | 0 => fun z hz => by cases hz
  | k + 1 => fun z hz => by
    rw [putL_succ, List.mem_append] at hz
    rcases hz with hz | hz
    · exact octets_putL u k z hz
    · obtain rfl := List.mem_singleton.1 hz
      omega
theorem Octets.append {zs ys : List Int} (h : Octets zs) (g : Octets ys) : Octets (zs ++ ys) := fun z hz => by
  rcases List.mem_append.1 hz with hz | hz
  · exact h z hz
  · exact g z hz
theorem putL_add (u : Int) (a : Nat) : ∀ b, putL u (a + b) = putL u a ++ putL (u / 256 ^ a) b
  | 0 => by simp [putL]
  | b + 1 => by
    have e : a + (b + 1) = (a + b) + 1 := by omega
    rw [e, putL_succ, putL_add u a b, putL_succ, List.append_assoc]
    have h : u / 256 ^ (a + b) = u / 256 ^ a / 256 ^ b := by
      rw [Int.pow_add, Int.ediv_ediv_of_nonneg (Int.le_of_lt (pow256_pos a))]
    rw [h]
theorem ix_putL (u : Int) (n : Nat) {k : Nat} (h : k < n) : ix (putL u n) k = u / 256 ^ k % 256 := by
  obtain ⟨j, rfl⟩ : ∃ j, n = k + (j + 1) := ⟨n - k - 1, by omega⟩
  have hl := length_putL u k
  rw [putL_add, ix_lt _ (by rw [List.length_append, length_putL, length_putL]; omega), List.getElem_append_right (by omega)]
  have h0 := putL_add (u / 256 ^ k) 1 j
  have e : j + 1 = 1 + j := by omega
  have h1 : putL (u / 256 ^ k) 1 = [u / 256 ^ k % 256] := by simp [putL]
  rw [h1] at h0
  simp only [hl, Nat.sub_self, e, h0]
  rfl
/-- What is read out of what was written. -/
theorem le_putL (u : Int) (n i : Nat) : ∀ k, i + k ≤ n → le (putL u n) i k = u / 256 ^ i % 256 ^ k
  | 0, _ => by rw [le_zero, Int.pow_zero, Int.emod_one]
  | k + 1, h => by
    rw [le_succ, le_putL u n i k (by omega), ix_putL u n (by omega), Int.pow_add, ← Int.ediv_ediv_of_nonneg (Int.le_of_lt (pow256_pos i))]
    generalize u / 256 ^ i = v
    have hp := pow256_pos k
    have h1 : v % 256 ^ (k + 1) = v % 256 ^ k + 256 ^ k * (v / 256 ^ k % 256) := by
      rw [Int.pow_succ]
      generalize (256 : Int) ^ k = p at *
      have e1 := Int.mul_ediv_add_emod v p
      have e2 := Int.mul_ediv_add_emod (v / p) 256
      have t0 := Int.emod_nonneg (v / p) (show (256 : Int) ≠ 0 by omega)
      have t1 := Int.emod_lt_of_pos (v / p) (show (0 : Int) < 256 by omega)
      have r0 := Int.emod_nonneg v (show p ≠ 0 by omega)
      have r1 := Int.emod_lt_of_pos v hp
      have h2 : p * (v / p % 256) ≤ p * 255 := Int.mul_le_mul_of_nonneg_left (by omega) (by omega)
      have h3 : 0 ≤ p * (v / p % 256) := Int.mul_nonneg (by omega) t0
      have e3 : v = (v % p + p * (v / p % 256)) + p * 256 * (v / p / 256) := by
        have h4 : p * (v / p) = p * (256 * (v / p / 256)) + p * (v / p % 256) := by rw [← Int.mul_add, e2]
        rw [Int.mul_assoc]; omega
      have e4 : v % (p * 256) = ((v % p + p * (v / p % 256)) + p * 256 * (v / p / 256)) % (p * 256) := by rw [← e3]
      rw [e4, Int.add_mul_emod_self_left, Int.emod_eq_of_lt (by omega) (by omega)]
    rw [h1, Int.mul_comm (256 ^ k)]
/-- How many bytes Put writes. -/
def putM (m : Int) : Nat := (min (max m 0) 8).toNat
theorem byte_of (u : Int) (k : Nat) : IntKind.u8.wrap (u / 2 ^ (8 * k)) = u / 256 ^ k % 256 := by
  rw [pow256, IntKind.wrap_u8']
end Go.Proofs.Ytdmfblobmahfbaa
