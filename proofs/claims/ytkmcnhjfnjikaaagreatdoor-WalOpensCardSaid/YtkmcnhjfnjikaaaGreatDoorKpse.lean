/- Numbers as pieces of seven bits, and back: plain arithmetic of package pack. No condition: nothing here speaks of a program. -/
import Derived.Test.YtkmcnhjfnjikaaaGreatDoorKbas
import Derived.Test.YtkmcnhjfnjikaaaGreatDoorRows
import Derived.WalkKit
import Derived.WalkSpells
import Derived.WalkLawsBesides
import Derived.LoopTactic
import Derived.Lib.AppendStr
import Derived.Deep.DeepCutAuto
namespace Go.Proofs.YtkmcnhjfnjikaaaGreatDoor
open Go.RowKit
def zigI (n : Int) : Int := if n < 0 then -2 * n - 1 else 2 * n
def zagI (u : Int) : Int := if u % 2 = 1 then -1 - u / 2 else u / 2
theorem zag_zig (n : Int) : zagI (zigI n) = n := by
  unfold zigI zagI; split <;> split <;> omega
theorem zig_zag (u : Int) (h : 0 ≤ u) : zigI (zagI u) = u := by
  unfold zigI zagI; split <;> split <;> omega
theorem zig_bounds (n : Int) (h0 : -9223372036854775808 ≤ n) (h1 : n ≤ 9223372036854775807) : 0 ≤ zigI n ∧ zigI n ≤ 18446744073709551615 := by
  unfold zigI; split <;> omega
theorem zag_bounds (u : Int) (h0 : 0 ≤ u) (h1 : u ≤ 18446744073709551615) : -9223372036854775808 ≤ zagI u ∧ zagI u ≤ 9223372036854775807 := by
  unfold zagI; split <;> omega
theorem zag_zero : zagI 0 = 0 := by decide
/-- The number of n that is turned into pieces. -/
def zigN (n : Int) : Nat := (zigI n).toNat
theorem zigN_lt (n : Int) (h0 : -9223372036854775808 ≤ n) (h1 : n ≤ 9223372036854775807) : zigN n < 18446744073709551616 := by
  have := zig_bounds n h0 h1; unfold zigN; omega
theorem zigN_cast (n : Int) (h0 : -9223372036854775808 ≤ n) (h1 : n ≤ 9223372036854775807) : ((zigN n : Nat) : Int) = zigI n := by
  have := zig_bounds n h0 h1; unfold zigN; omega
theorem zag_zigN (n : Int) : zagI (zigN n : Nat) = n := by
  have h : ((zigN n : Nat) : Int) = zigI n := by
    have : 0 ≤ zigI n := by unfold zigI; split <;> omega
    unfold zigN; omega
  rw [h, zag_zig]
theorem zigN_inj {a b : Int} (h : zigN a = zigN b) : a = b := by
  rw [← zag_zigN a, ← zag_zigN b, h]

/-- u in pieces of seven bits, the lowest first, 128 put to each but the last; at most f of them. -/
def sev : Nat → Nat → List Int
  | 0, _ => []
  | f + 1, u => if u < 128 then [(u : Int)] else ((u % 128 + 128 : Nat) : Int) :: sev f (u / 128)
theorem sev_last {f u : Nat} (h : u < 128) : sev (f + 1) u = [(u : Int)] := by unfold sev; rw [if_pos h]
theorem sev_more {f u : Nat} (h : 128 ≤ u) : sev (f + 1) u = ((u % 128 + 128 : Nat) : Int) :: sev f (u / 128) := by
  rw [sev, if_neg (by omega)]
theorem sev_le : ∀ f u, (sev f u).length ≤ f
  | 0, _ => Nat.le_refl _
  | f + 1, u => by
    by_cases h : u < 128
    · rw [sev_last h]; simp
    · rw [sev_more (by omega), List.length_cons]; have := sev_le f (u / 128); omega
theorem sev_pos (f u : Nat) : 1 ≤ (sev (f + 1) u).length := by
  by_cases h : u < 128
  · rw [sev_last h]; simp
  · rw [sev_more (by omega)]; simp
theorem octets_sev : ∀ f u, Octets (sev f u)
  | 0, _ => fun z hz => by cases hz
  | f + 1, u => fun z hz => by
    by_cases h : u < 128
    · rw [sev_last h] at hz; obtain rfl := List.mem_singleton.1 hz; omega
    · rw [sev_more (by omega)] at hz
      rcases List.mem_cons.1 hz with rfl | hz
      · omega
      · exact octets_sev f _ z hz
/-- A number's bytes. -/
def num7 (n : Int) : List Int := sev 10 (zigN n)
theorem num7_len (n : Int) : 1 ≤ (num7 n).length ∧ (num7 n).length ≤ 10 := ⟨sev_pos 9 _, sev_le 10 _⟩
theorem octets_num7 (n : Int) : Octets (num7 n) := octets_sev 10 _
theorem sev_mono : ∀ (f u v : Nat), u ≤ v → (sev f u).length ≤ (sev f v).length
  | 0, _, _, _ => Nat.le_refl _
  | f + 1, u, v, h => by
    by_cases hu : u < 128
    · rw [sev_last hu]; exact sev_pos f v
    · rw [sev_more (by omega), sev_more (by omega), List.length_cons, List.length_cons]
      have := sev_mono f (u / 128) (v / 128) (Nat.div_le_div_right h); omega

/-- What reading comes to, k pieces on, u behind them: the number, how many bytes it has, the error. -/
def rdN : Nat → Nat → List Int → Nat × Nat × Int
  | _, _, [] => (0, 0, 3)
  | k, u, p :: ps => if (0 < k ∧ p = 0) ∨ (k = 9 ∧ 1 < p) then (0, 0, 4) else if p < 128 then (u + (p % 128).toNat * 128 ^ k, k + 1, 0) else rdN (k + 1) (u + (p % 128).toNat * 128 ^ k) ps
def rdV (zs : List Int) : Int := zagI ((rdN 0 0 zs).1 : Nat)
def rdS (zs : List Int) : Nat := (rdN 0 0 zs).2.1
def rdE (zs : List Int) : Int := (rdN 0 0 zs).2.2
theorem rdN_nil (k u : Nat) : rdN k u [] = (0, 0, 3) := rfl
theorem rdN_form {k u : Nat} {p : Int} {ps : List Int} (h : (0 < k ∧ p = 0) ∨ (k = 9 ∧ 1 < p)) : rdN k u (p :: ps) = (0, 0, 4) := by
  rw [rdN, if_pos h]
theorem rdN_last {k u : Nat} {p : Int} {ps : List Int} (h : ¬ ((0 < k ∧ p = 0) ∨ (k = 9 ∧ 1 < p))) (hp : p < 128) : rdN k u (p :: ps) = (u + (p % 128).toNat * 128 ^ k, k + 1, 0) := by
  rw [rdN, if_neg h, if_pos hp]
theorem rdN_more {k u : Nat} {p : Int} {ps : List Int} (h : ¬ ((0 < k ∧ p = 0) ∨ (k = 9 ∧ 1 < p))) (hp : ¬ p < 128) : rdN k u (p :: ps) = rdN (k + 1) (u + (p % 128).toNat * 128 ^ k) ps := by
  rw [rdN, if_neg h, if_neg hp]
theorem pow128_9 : (128 : Nat) ^ 9 = 9223372036854775808 := by decide
theorem pow128_pos (k : Nat) : 0 < 128 ^ k := Nat.pow_pos (by omega)
theorem pow128_le {k : Nat} (h : k ≤ 9) : (128 : Nat) ^ k ≤ 9223372036854775808 := by
  rw [← pow128_9]; exact Nat.pow_le_pow_right (by omega) h
theorem pow128_two (k : Nat) : (128 : Nat) ^ k = 2 ^ (7 * k) := by rw [Nat.pow_mul]
/-- One step's number has room. -/
theorem step_lt {k u : Nat} {p : Int} (hk : k ≤ 9) (hu : u < 128 ^ k) (h0 : 0 ≤ p) (h1 : p ≤ 255) (h : ¬ ((0 < k ∧ p = 0) ∨ (k = 9 ∧ 1 < p))) :
    u + (p % 128).toNat * 128 ^ k < 18446744073709551616 ∧ (k < 9 → u + (p % 128).toNat * 128 ^ k < 128 ^ (k + 1)) := by
  have hq : (p % 128).toNat ≤ 127 := by omega
  have hm : (p % 128).toNat * 128 ^ k ≤ 127 * 128 ^ k := Nat.mul_le_mul_right _ hq
  have hs : (128 : Nat) ^ (k + 1) = 128 ^ k * 128 := Nat.pow_succ _ _
  refine ⟨?_, fun _ => by omega⟩
  by_cases h9 : k = 9
  · subst h9
    have hp : p ≤ 1 := by omega
    have hq1 : (p % 128).toNat ≤ 1 := by omega
    have hm1 : (p % 128).toNat * 128 ^ 9 ≤ 1 * 128 ^ 9 := Nat.mul_le_mul_right _ hq1
    rw [pow128_9] at *
    omega
  · have h8 : (128 : Nat) ^ (k + 1) ≤ 128 ^ 9 := Nat.pow_le_pow_right (by omega) (by omega)
    rw [pow128_9] at h8
    omega
theorem rdN_bounds : ∀ (zs : List Int) (k u : Nat), k ≤ 9 → u < 128 ^ k → Octets zs → (rdN k u zs).1 < 18446744073709551616 ∧ 0 ≤ (rdN k u zs).2.2 ∧ (rdN k u zs).2.2 ≤ 4 ∧ (rdN k u zs).2.1 ≤ 10 ∧ ((rdN k u zs).2.2 = 0 → k < (rdN k u zs).2.1 ∧ (rdN k u zs).2.1 ≤ k + zs.length) ∧ ((rdN k u zs).2.2 ≠ 0 → (rdN k u zs).1 = 0 ∧ (rdN k u zs).2.1 = 0)
  | [], k, u, _, _, _ => by rw [rdN_nil]; simp
  | p :: ps, k, u, hk, hu, ho => by
    have hp := ho p (List.mem_cons_self ..)
    by_cases hf : (0 < k ∧ p = 0) ∨ (k = 9 ∧ 1 < p)
    · rw [rdN_form hf]; simp
    · have hs := step_lt hk hu hp.1 hp.2 hf
      by_cases hl : p < 128
      · rw [rdN_last hf hl]
        refine ⟨hs.1, by simp, by simp, by simp; omega, fun _ => by simp, fun h => absurd rfl h⟩
      · rw [rdN_more hf hl]
        have hk9 : k < 9 := by omega
        have := rdN_bounds ps (k + 1) _ (by omega) (hs.2 hk9) (fun z hz => ho z (List.mem_cons_of_mem _ hz))
        rw [List.length_cons]
        refine ⟨this.1, this.2.1, this.2.2.1, this.2.2.2.1, fun h => ?_, this.2.2.2.2.2⟩
        have h5 := this.2.2.2.2.1 h
        omega
theorem rd_bounds {zs : List Int} (ho : Octets zs) : -9223372036854775808 ≤ rdV zs ∧ rdV zs ≤ 9223372036854775807 ∧ 0 ≤ rdE zs ∧ rdE zs ≤ 4 ∧ rdS zs ≤ 10 ∧ rdS zs ≤ zs.length ∧ (rdE zs ≠ 0 → rdV zs = 0 ∧ rdS zs = 0) := by
  have h := rdN_bounds zs 0 0 (by omega) (by simp) ho
  have hz := zag_bounds ((rdN 0 0 zs).1 : Nat) (by omega) (by omega)
  unfold rdV rdE rdS
  refine ⟨hz.1, hz.2, h.2.1, h.2.2.1, h.2.2.2.1, ?_, fun he => ?_⟩
  · by_cases he : (rdN 0 0 zs).2.2 = 0
    · have := h.2.2.2.2.1 he; omega
    · have := h.2.2.2.2.2 he; omega
  · have := h.2.2.2.2.2 he
    rw [this.1, this.2]
    exact ⟨zag_zero, rfl⟩
/-- Reading what was written, whatever lies behind. -/
theorem rdN_sev : ∀ (f k u v : Nat) (ys : List Int), k + f = 9 → v * 128 ^ k < 18446744073709551616 → (0 < k → 0 < v) → rdN k u (sev (f + 1) v ++ ys) = (u + v * 128 ^ k, k + (sev (f + 1) v).length, 0)
  | f, k, u, v, ys, hk, hv, h0 => by
    by_cases hl : v < 128
    · rw [sev_last hl, List.singleton_append]
      have hf : ¬ ((0 < k ∧ (v : Int) = 0) ∨ (k = 9 ∧ 1 < (v : Int))) := by
        rintro (⟨a, b⟩ | ⟨a, b⟩)
        · have := h0 a; omega
        · subst a
          rw [pow128_9] at hv; omega
      rw [rdN_last hf (by omega)]
      have e : ((v : Int) % 128).toNat = v := by omega
      rw [e]; rfl
    · match f with
      | 0 =>
        have : k = 9 := by omega
        subst this
        rw [pow128_9] at hv; omega
      | f + 1 =>
        rw [sev_more (by omega), List.cons_append]
        have hf : ¬ ((0 < k ∧ ((v % 128 + 128 : Nat) : Int) = 0) ∨ (k = 9 ∧ 1 < ((v % 128 + 128 : Nat) : Int))) := by omega
        rw [rdN_more hf (by omega)]
        have e : (((v % 128 + 128 : Nat) : Int) % 128).toNat = v % 128 := by omega
        have hs : (128 : Nat) ^ (k + 1) = 128 * 128 ^ k := by rw [Nat.pow_succ, Nat.mul_comm]
        have hm : v / 128 * 128 ^ (k + 1) + v % 128 * 128 ^ k = v * 128 ^ k := by
          rw [hs, ← Nat.mul_assoc, ← Nat.add_mul]; congr 1; omega
        rw [e, rdN_sev f (k + 1) _ (v / 128) ys (by omega) (by omega) (by omega), List.length_cons]
        refine Prod.ext ?_ (Prod.ext ?_ rfl)
        · show u + v % 128 * 128 ^ k + v / 128 * 128 ^ (k + 1) = _
          omega
        · show k + 1 + _ = k + (_ + 1)
          omega
theorem rd_num7 (n : Int) (ys : List Int) (h0 : -9223372036854775808 ≤ n) (h1 : n ≤ 9223372036854775807) : rdV (num7 n ++ ys) = n ∧ rdS (num7 n ++ ys) = (num7 n).length ∧ rdE (num7 n ++ ys) = 0 := by
  have h := rdN_sev 9 0 0 (zigN n) ys (by omega) (by have := zigN_lt n h0 h1; omega) (by omega)
  unfold rdV rdS rdE num7
  rw [h]
  refine ⟨?_, ?_, rfl⟩
  · show zagI ((0 + zigN n * 128 ^ 0 : Nat) : Int) = n
    rw [Nat.pow_zero, Nat.mul_one, Nat.zero_add, zag_zigN]
  · exact Nat.zero_add _
/-- What was written, cut off, is short. -/
theorem rdN_cut : ∀ (f k u v j : Nat), k + f ≤ 9 → j < (sev (f + 1) v).length → rdN k u ((sev (f + 1) v).take j) = (0, 0, 3)
  | f, k, u, v, 0, _, _ => by rw [List.take_zero]; rfl
  | f, k, u, v, j + 1, hk, hj => by
    by_cases hl : v < 128
    · rw [sev_last hl] at hj; simp at hj
    · match f with
      | 0 =>
        rw [sev_more (by omega)] at hj
        simp [sev] at hj
      | f + 1 =>
        rw [sev_more (by omega)] at hj ⊢
        rw [List.length_cons] at hj
        rw [List.take_succ_cons]
        have hf : ¬ ((0 < k ∧ ((v % 128 + 128 : Nat) : Int) = 0) ∨ (k = 9 ∧ 1 < ((v % 128 + 128 : Nat) : Int))) := by omega
        rw [rdN_more hf (by omega)]
        exact rdN_cut f (k + 1) _ (v / 128) j (by omega) (by omega)
theorem rd_cut (n : Int) (j : Nat) (hj : j < (num7 n).length) : rdE ((num7 n).take j) = 3 := by
  unfold rdE num7
  rw [rdN_cut 9 0 0 (zigN n) j (by omega) hj]
/-- What is taken as a number, whole, are that number's bytes. -/
theorem rdN_back : ∀ (zs : List Int) (k u v s : Nat), k ≤ 9 → u < 128 ^ k → Octets zs → rdN k u zs = (v, s, 0) → ∃ x, v = u + x * 128 ^ k ∧ (0 < k → 0 < x) ∧ k < s ∧ sev (10 - k) x = zs.take (s - k)
  | [], k, u, v, s, _, _, _, h => by rw [rdN_nil] at h; simp at h
  | p :: ps, k, u, v, s, hk, hu, ho, h => by
    have hp := ho p (List.mem_cons_self ..)
    by_cases hf : (0 < k ∧ p = 0) ∨ (k = 9 ∧ 1 < p)
    · rw [rdN_form hf] at h; simp at h
    · have hs := step_lt hk hu hp.1 hp.2 hf
      obtain ⟨P, rfl⟩ := Int.eq_ofNat_of_zero_le hp.1
      obtain ⟨f, hfk⟩ : ∃ f, 10 - k = f + 1 := ⟨9 - k, by omega⟩
      rw [hfk]
      by_cases hl : (P : Int) < 128
      · rw [rdN_last hf hl] at h
        injection h with h1 h2
        injection h2 with h2 _
        have e : ((P : Int) % 128).toNat = P := by omega
        refine ⟨P, by rw [← h1, e], by omega, by omega, ?_⟩
        have e2 : s - k = 1 := by omega
        rw [sev_last (by omega), e2]; rfl
      · rw [rdN_more hf hl] at h
        have hk9 : k < 9 := by omega
        obtain ⟨x, hx, hx0, hks, hsev⟩ := rdN_back ps (k + 1) _ v s (by omega) (hs.2 hk9) (fun z hz => ho z (List.mem_cons_of_mem _ hz)) h
        have e : ((P : Int) % 128).toNat = P - 128 := by omega
        have hxp := hx0 (by omega)
        refine ⟨P - 128 + 128 * x, ?_, by omega, by omega, ?_⟩
        · rw [hx, e]
          have hs : (128 : Nat) ^ (k + 1) = 128 * 128 ^ k := by rw [Nat.pow_succ, Nat.mul_comm]
          rw [hs, Nat.add_mul, Nat.mul_comm 128 x, Nat.mul_assoc]; omega
        · rw [sev_more (by omega)]
          have e1 : (P - 128 + 128 * x) % 128 + 128 = P := by omega
          have e2 : (P - 128 + 128 * x) / 128 = x := by omega
          have e3 : 10 - (k + 1) = f := by omega
          obtain ⟨j, hj⟩ : ∃ j, s - k = j + 1 := ⟨s - k - 1, by omega⟩
          have e4 : s - (k + 1) = j := by omega
          rw [e3, e4] at hsev
          rw [e1, e2, hsev, hj, List.take_succ_cons]
theorem rd_back {zs : List Int} (ho : Octets zs) (h : rdE zs = 0) : num7 (rdV zs) = zs.take (rdS zs) := by
  obtain ⟨x, hx, _, _, hs⟩ := rdN_back zs 0 0 (rdN 0 0 zs).1 (rdN 0 0 zs).2.1 (by omega) (by simp) ho (Prod.ext rfl (Prod.ext rfl h))
  have hx' : (rdN 0 0 zs).1 = x := by rw [hx, Nat.pow_zero]; omega
  have hv : zigN (rdV zs) = x := by
    unfold zigN rdV
    rw [zig_zag _ (by omega), hx']; rfl
  unfold num7 rdS
  rw [hv, hs, Nat.sub_zero]
/-- Two numbers of the same bytes are the same. -/
theorem num7_inj {a b : Int} (a0 : -9223372036854775808 ≤ a) (a1 : a ≤ 9223372036854775807) (b0 : -9223372036854775808 ≤ b) (b1 : b ≤ 9223372036854775807) (h : num7 a = num7 b) : a = b := by
  have h1 := (rd_num7 a [] a0 a1).1
  have h2 := (rd_num7 b [] b0 b1).1
  rw [← h1, ← h2, h]
theorem num7_mono {a b : Int} (h0 : 0 ≤ a) (h : a ≤ b) : (num7 a).length ≤ (num7 b).length := by
  refine sev_mono 10 _ _ ?_
  unfold zigN zigI
  rw [if_neg (by omega), if_neg (by omega)]; omega
end Go.Proofs.YtkmcnhjfnjikaaaGreatDoor
/- What the scalar functions that package pack and the document's own answer stand on come to. Conditions: the bounds of the arguments' kinds. -/
namespace Go.Proofs.YtkmcnhjfnjikaaaGreatDoor
open Go.RowKit
theorem i64_xor_neg (n : Int) (h0 : -9223372036854775808 ≤ n) (h1 : n ≤ 9223372036854775807) : bits .xor .i64 (-1) n = -1 - n := by
  show IntKind.i64.wrap ((BitVec.ofInt 64 (-1) ^^^ BitVec.ofInt 64 n).toNat : Int) = _
  have h2 : BitVec.ofInt 64 (-1) = BitVec.allOnes 64 := by decide
  rw [h2, BitVec.allOnes_xor, BitVec.toNat_not, BitVec.toNat_ofInt, IntKind.wrap_i64]
  omega
theorem or_one (x : Int) (h0 : 0 ≤ x) (h1 : x ≤ 9223372036854775807) : bits .or .u64 (x * 2) 1 = 2 * x + 1 := by
  obtain ⟨X, rfl⟩ := Int.eq_ofNat_of_zero_le h0
  have e : ((X : Int) * 2) = ((X * 2 : Nat) : Int) := by omega
  have h := u64_or_nat (X * 2) 1 (by omega) (by omega)
  rw [e]
  refine h.trans ?_
  rw [nat_join 1 (X * 2) 1 (by omega) (by omega)]
  omega
theorem and_one (u : Int) (h0 : 0 ≤ u) (h1 : u ≤ 18446744073709551615) : bits .and .u64 u 1 = u % 2 := by
  obtain ⟨U, rfl⟩ := Int.eq_ofNat_of_zero_le h0
  have h := u64_and_nat U 1 (by omega) (by omega)
  refine h.trans ?_
  rw [Nat.and_one_is_mod]; rfl
theorem and_127 (u : Nat) (h : u < 18446744073709551616) : bits .and .u64 (u : Int) 127 = (u % 128 : Nat) := by
  have e := u64_and_nat u 127 h (by omega)
  refine e.trans ?_
  exact congrArg _ (Nat.and_two_pow_sub_one_eq_mod u 7)
theorem or_128 (u : Nat) (h : u < 128) : bits .or .u64 (u : Int) 128 = (u + 128 : Nat) := by
  have e := u64_or_nat u 128 (by omega) (by omega)
  refine e.trans ?_
  rw [Nat.or_comm, ← Nat.two_pow_add_eq_or_of_lt (i := 7) h 1]
  omega
theorem or8_128 (u : Nat) (h : u < 128) : bits .or .u8 (u : Int) 128 = (u + 128 : Nat) := by
  have e := u8_or_nat u 128 (by omega) (by omega)
  refine e.trans ?_
  rw [Nat.or_comm, ← Nat.two_pow_add_eq_or_of_lt (i := 7) h 1]
  omega
theorem and8_127 (u : Nat) (h : u < 256) : bits .and .u8 (u : Int) 127 = (u % 128 : Nat) := by
  have e := u8_and_nat u 127 h (by omega)
  refine e.trans ?_
  exact congrArg _ (Nat.and_two_pow_sub_one_eq_mod u 7)
set_option maxHeartbeats 400000 in
theorem low7_any (u : Nat) (w : World) (h : u < 18446744073709551616) :
    Calls Tryz.prog 88 #[.int .u64 u, .int .i64 7] w fun e w' => e = .returned (.int .u64 (u % 128 : Nat)) ∧ w = w' := by
  have ha := hide (and_127 u h)
  go_enter Tryz.func88, Tryz.ntmps88
  go_wp2
  go_ret
  exact ⟨ret_int ha.out, rfl⟩
set_option maxHeartbeats 400000 in
theorem zig_any (n : Int) (w : World) (h0 : -9223372036854775808 ≤ n) (h1 : n ≤ 9223372036854775807) :
    Calls Tryz.prog 87 #[.int .i64 n] w fun e w' => e = .returned (.int .u64 (zigN n : Nat)) ∧ w = w' := by
  have hs : IntKind.i64.signed = true := rfl
  have hc := hide (zigN_cast n h0 h1)
  by_cases c : n < 0
  · go_enter Tryz.func87, Tryz.ntmps87
    go_wp2
    go_ret
    exact ⟨ret_int (by
      rw [hc.out, i64_xor_neg n h0 h1, IntWalk.u64_in (-1 - n) ⟨by omega, by omega⟩, IntWalk.u64_in _ ⟨by omega, by omega⟩, or_one _ (by omega) (by omega)]
      unfold zigI; rw [if_pos (by omega)]; omega), rfl⟩
  · go_enter Tryz.func87, Tryz.ntmps87
    go_wp2
    go_ret
    exact ⟨ret_int (by rw [hc.out]; unfold zigI; rw [if_neg (by omega)]; omega), rfl⟩
set_option maxHeartbeats 400000 in
theorem rzig_any (n : Int) (w : World) (h0 : -9223372036854775808 ≤ n) (h1 : n ≤ 9223372036854775807) :
    Calls Tryz.prog 62 #[.int .i64 n] w fun e w' => e = .returned (.int .u64 (zigN n : Nat)) ∧ w = w' := by
  have hs : IntKind.i64.signed = true := rfl
  have hc := hide (zigN_cast n h0 h1)
  by_cases c : n < 0
  · go_enter Tryz.func62, Tryz.ntmps62
    go_wp2
    go_ret
    exact ⟨ret_int (by
      rw [hc.out, i64_xor_neg n h0 h1, IntWalk.u64_in (-1 - n) ⟨by omega, by omega⟩, IntWalk.u64_in _ ⟨by omega, by omega⟩, or_one _ (by omega) (by omega)]
      unfold zigI; rw [if_pos (by omega)]; omega), rfl⟩
  · go_enter Tryz.func62, Tryz.ntmps62
    go_wp2
    go_ret
    exact ⟨ret_int (by rw [hc.out]; unfold zigI; rw [if_neg (by omega)]; omega), rfl⟩
set_option maxHeartbeats 400000 in
theorem zag_any (u : Nat) (w : World) (h : u < 18446744073709551616) :
    Calls Tryz.prog 173 #[.int .u64 u] w fun e w' => e = .returned (.int .i64 (zagI u)) ∧ w = w' := by
  have hs : IntKind.i64.signed = true := rfl
  have ha := and_one u (by omega) (by omega)
  by_cases c : (u : Int) % 2 = 1
  · have hb : ((bits .and .u64 (u : Int) 1 : Int) == 1) = true := by rw [ha]; exact beq_iff_eq.2 c
    have H := hide ha; clear ha
    have C := hide c; clear c
    go_enter Tryz.func173, Tryz.ntmps173
    go_wp2
    go_ret
    exact ⟨ret_int (by rw [i64_xor_neg _ (by omega) (by omega)]; unfold zagI; rw [if_pos C.out]), rfl⟩
  · have hb : ((bits .and .u64 (u : Int) 1 : Int) == 1) = false := by rw [ha]; exact beq_eq_false_iff_ne.2 c
    have H := hide ha; clear ha
    have C := hide c; clear c
    go_enter Tryz.func173, Tryz.ntmps173
    go_wp2
    go_ret
    exact ⟨ret_int (by unfold zagI; rw [if_neg C.out]), rfl⟩
set_option maxHeartbeats 400000 in
theorem rzag_any (u : Nat) (w : World) (h : u < 18446744073709551616) :
    Calls Tryz.prog 111 #[.int .u64 u] w fun e w' => e = .returned (.int .i64 (zagI u)) ∧ w = w' := by
  have hs : IntKind.i64.signed = true := rfl
  have ha := and_one u (by omega) (by omega)
  by_cases c : (u : Int) % 2 = 1
  · have hb : ((bits .and .u64 (u : Int) 1 : Int) == 1) = true := by rw [ha]; exact beq_iff_eq.2 c
    have H := hide ha; clear ha
    have C := hide c; clear c
    go_enter Tryz.func111, Tryz.ntmps111
    go_wp2
    go_ret
    exact ⟨ret_int (by rw [i64_xor_neg _ (by omega) (by omega)]; unfold zagI; rw [if_pos C.out]), rfl⟩
  · have hb : ((bits .and .u64 (u : Int) 1 : Int) == 1) = false := by rw [ha]; exact beq_eq_false_iff_ne.2 c
    have H := hide ha; clear ha
    have C := hide c; clear c
    go_enter Tryz.func111, Tryz.ntmps111
    go_wp2
    go_ret
    exact ⟨ret_int (by unfold zagI; rw [if_neg C.out]), rfl⟩
end Go.Proofs.YtkmcnhjfnjikaaaGreatDoor
/- What Num, Text and Flag come to, package pack's and the document's own. Conditions: the slice lies in memory and holds bytes, lengths have room. -/
namespace Go.Proofs.YtkmcnhjfnjikaaaGreatDoor
open Go.RowKit
/-- append of a slice that lies anywhere onto a row that has room for it. -/
theorem lies_fits {w : World} {A : Option Addr} {zs : List Int} (h : Lies w A zs) : ∀ ad : Addr, A = some ad → ∀ j u, (cellsOf zs)[j]? = some u → w.cell? (ad.add j) = some u := by
  rintro ad rfl j u hj
  obtain ⟨hk, _⟩ := cellsOf_some hj
  obtain ⟨b, off, e, _⟩ := h (by omega)
  injection e with e
  subst e
  exact Lies.cells h j u hj
theorem low7_to {v q : Nat} (w : World) (h : v < 18446744073709551616) (hq : v % 128 = q) :
    Calls Tryz.prog 88 #[.int .u64 v, .int .i64 7] w fun e w' => e = .returned (.int .u64 (q : Nat)) ∧ w = w' := by
  subst hq; exact low7_any v w h
theorem room_of {f v : Nat} (hf : f ≤ 9) (h : v < 2 * 128 ^ f) : v < 18446744073709551616 := by
  have := pow128_le hf; omega
theorem room_start {m : Int} (h0 : -9223372036854775808 ≤ m) (h1 : m ≤ 9223372036854775807) : zigN m < 2 * 128 ^ 9 := by
  have := zigN_lt m h0 h1; rw [pow128_9]; omega
theorem room_step {f v : Nat} (h : v < 2 * 128 ^ f) (hv : 128 ≤ v) : ∃ g, f = g + 1 ∧ v / 128 < 2 * 128 ^ g := by
  match f with
  | 0 => simp at h; omega
  | g + 1 => exact ⟨g, rfl, by rw [Nat.pow_succ] at h; omega⟩
set_option maxHeartbeats 1000000 in
theorem num_any (A : Option Addr) (n c : Nat) (zs : List Int) (m : Int) (w : World) (hn : zs.length = n) (hz : Lies w A zs) (hc : A = none → c = 0) (ln : n ≤ 140737488355310) (m0 : -9223372036854775808 ≤ m) (m1 : m ≤ 9223372036854775807) :
    Calls Tryz.prog 46 #[.slice A n c, .int .i64 m] w fun e w' =>
      ∃ v, e = .returned v ∧ w'.ownsRow w.heap.size 5 1 v (n + (num7 m).length) (cellsOf (zs ++ num7 m)) ∧ Below w.heap.size w w' := by
  subst hn
  obtain ⟨i0, hi, hz0, hz1, hz2⟩ := info_parts Tryz.info5
  have hc' := hide hc
  clear hc
  go_enter Tryz.func46, Tryz.ntmps46
  go_wp2_with (at_make; refine wpList_make_own _ rfl _ _ 31 rfl w.heap.size 5 i0 (.int .u8 0) 1 Tryz.underlying31 hi hz0 hz1 _ _ _ (zs.length + 10) rfl rfl (by omega) ?b2 ?b3 (Nat.le_refl _) ?_)
  case b2 => rw [hz2]; omega
  case b3 => unfold maxLen; omega
  intro w0 hown0 hgrow0
  have hb0 : Below w.heap.size w w0 := (Below.refl _ _).grown hgrow0 (Nat.le_refl _) (fun k h => by cases h)
  have hz0' := hide (hz.below hb0)
  go_wp2_with (at_builtin; refine wpList_append_fits_any _ rfl (.tmp 11) (.tmp 12) 31 rfl w.heap.size 5 i0 1 Tryz.underlying31 hi hz1 w.heap.size 0 (zs.length + 10) [] rfl hown0 A zs.length c (cellsOf zs) rfl ?d1 ?d2 ?d3 cellsOf_one (by omega) ?_)
  case d1 => rw [length_cellsOf]; omega
  case d2 => intro h; exact ⟨Lies.nil_ hz0'.out h, hc'.out h⟩
  case d3 => exact lies_fits hz0'.out
  intro w1 hown1 hgrow1
  have hb1 : Below w.heap.size w w1 := hb0.grown hgrow1 hb0.size (fun k h => by cases h; exact Nat.le_refl _)
  clear hz0' hown0 hgrow0 hgrow1 hb0 hz hc'
  go_wp2_with (go_at_call 87; (with_reducible refine (zig_any m _ m0 m1).mono ?_); rintro e w2 ⟨rfl, rfl⟩)
  go_loopw [5, 6] (fun s u wr => ∃ (f v : Nat) (p : List Int), u = .int .u64 v ∧ s = .slice (some ⟨w.heap.size, 0, none⟩) (zs.length + p.length) (zs.length + 10) ∧ p.length + f = 9 ∧ Hid (v < 2 * 128 ^ f) ∧ Hid (num7 m = p ++ sev (f + 1) v) ∧
      wr.ownsRow w.heap.size 5 1 (.slice (some ⟨w.heap.size, 0, none⟩) (zs.length + p.length) (zs.length + 10)) (zs.length + p.length) (cellsOf (zs ++ p)) ∧ Below w.heap.size w wr) (fun _ u _ => (intOf u).toNat)
  case atStart => exact ⟨9, zigN m, [], rfl, rfl, rfl, hide (room_start m0 m1), hide rfl, by simpa using hown1, hb1⟩
  case round =>
    clear hown1 hb1
    obtain ⟨f, v, p, rfl, rfl, hf, hv, hs, hown, hb⟩ := hrel
    have hvl := hide (room_of (by omega) hv.out)
    have hp9 : p.length ≤ 9 := by omega
    by_cases hlt : 128 ≤ v
    · obtain ⟨g, rfl, hg⟩ := room_step hv.out hlt
      have hg' := hide hg
      clear hg hv
      obtain ⟨q, hq⟩ : ∃ q, v % 128 = q := ⟨_, rfl⟩
      have hq1 : q ≤ 127 := by omega
      have hor : bits .or .u64 (q : Int) 128 = (q : Int) + 128 := by rw [or_128 q (by omega)]; rfl
      have hs' : Hid (num7 m = (p ++ [(q : Int) + 128]) ++ sev (g + 1) (v / 128)) := hide (by rw [hs.out, sev_more hlt, hq]; simp)
      have hq' := hide hq
      have hf' := hide hf
      have ht : decide ((128 : Int) ≤ (v : Int)) = true := by rw [decide_eq_true_iff]; omega
      have hlt' := hide hlt
      clear hq hs hf hlt
      go_wp2_with (first
        | (go_at_call 88; (with_reducible refine (low7_to _ hvl.out hq'.out).mono ?_); rintro e w3 ⟨rfl, rfl⟩)
        | (at_builtin; refine wpList_append_fits _ rfl (.tmp 20) (.tmp 25) 31 rfl w.heap.size 5 i0 1 Tryz.underlying31 hi hz1 w.heap.size (zs.length + p.length) (zs.length + 10) _ rfl (hown.alloc _) ⟨wr.heap.size, 0, none⟩ 1 1 [.int .u8 ((q : Int) + 128)] rfl rfl (by exact cell_one_new _ _ _) (by intro v hv; simp at hv; subst hv; rfl) (by omega) ?_; intro w2 hown2 hgrow2; have hb2 : Below w.heap.size w w2 := (hb.alloc hb.size _).grown hgrow2 (by simp; have := hb.size; omega) (fun k hk => by cases hk; exact Nat.le_refl _); clear hgrow2 hb hown))
      go_roundw
      case rel => exact ⟨g, v / 128, p ++ [(q : Int) + 128], by go_num, by simp [Nat.add_assoc], by have := hf'.out; simp; omega, hg', hs', by simpa [cellsOf, Nat.add_assoc] using hown2, hb2⟩
      case measure => have := hlt'.out; simp [intOf]; omega
    · have hf' := hide hf
      have ht : decide ((128 : Int) ≤ (v : Int)) = false := by rw [decide_eq_false_iff_not]; omega
      have hvv : (v : Int) ≤ 127 := by omega
      have hs' := hide (show num7 m = p ++ [(v : Int)] by rw [hs.out, sev_last (by omega)])
      clear hf hlt hs hv
      go_wp2_with (first
        | (at_builtin; refine wpList_append_fits _ rfl (.tmp 27) (.tmp 30) 31 rfl w.heap.size 5 i0 1 Tryz.underlying31 hi hz1 w.heap.size (zs.length + p.length) (zs.length + 10) _ rfl (hown.alloc _) ⟨wr.heap.size, 0, none⟩ 1 1 [.int .u8 (v : Int)] rfl rfl (by exact cell_one_new _ _ _) (by intro v hv; simp at hv; subst hv; rfl) (by omega) ?_; intro w2 hown2 hgrow2; have hb2 : Below w.heap.size w w2 := (hb.alloc hb.size _).grown hgrow2 (by simp; have := hb.size; omega) (fun k hk => by cases hk; exact Nat.le_refl _); clear hgrow2 hb hown))
      go_ret
      refine ⟨_, rfl, ?_, hb2⟩
      rw [hs'.out]
      simpa [cellsOf, Nat.add_assoc] using hown2
set_option maxHeartbeats 1000000 in
theorem rnum_any (A : Option Addr) (n c : Nat) (zs : List Int) (m : Int) (w : World) (hn : zs.length = n) (hz : Lies w A zs) (hc : A = none → c = 0) (ln : n ≤ 140737488355310) (m0 : -9223372036854775808 ≤ m) (m1 : m ≤ 9223372036854775807) :
    Calls Tryz.prog 29 #[.slice A n c, .int .i64 m] w fun e w' =>
      ∃ v, e = .returned v ∧ w'.ownsRow w.heap.size 5 1 v (n + (num7 m).length) (cellsOf (zs ++ num7 m)) ∧ Below w.heap.size w w' := by
  subst hn
  obtain ⟨i0, hi, hz0, hz1, hz2⟩ := info_parts Tryz.info5
  have hc' := hide hc
  clear hc
  have hown0 := World.ownsRow_lit (base := w.heap.size) (e := 5) (size := 1) w #[] 0 (Nat.le_refl _) (by unfold maxLen; omega) rfl
  have hz' := hide (hz.alloc (.cells #[] 5))
  go_enter Tryz.func29, Tryz.ntmps29
  go_wp2_with (first
    | (at_builtin; refine wpList_append_lies rfl (.tmp 7) (.tmp 8) 31 rfl w.heap.size 5 i0 _ Tryz.underlying31 hi hz0 hz1 hz2 rfl _ 0 [] rfl hown0 A zs.length c zs rfl rfl hc'.out hz'.out (by omega) (by simp) ?_; intro v1 w1 hown1 hb1; have hb1' : Below w.heap.size w w1 := ((Below.refl _ _).alloc (Nat.le_refl _) _).trans hb1; clear hb1 hown0 hz' hz hc')
    | (go_at_call 62; (with_reducible refine (rzig_any m _ m0 m1).mono ?_); rintro e w2 ⟨rfl, rfl⟩))
  go_loopw [5, 6] (fun s u wr => ∃ (f v : Nat) (p : List Int), u = .int .u64 v ∧ p.length + f = 9 ∧ Hid (v < 2 * 128 ^ f) ∧ Hid (num7 m = p ++ sev (f + 1) v) ∧
      wr.ownsRow w.heap.size 5 1 s (zs.length + p.length) (cellsOf (zs ++ p)) ∧ Below w.heap.size w wr) (fun _ u _ => (intOf u).toNat)
  case atStart => exact ⟨9, zigN m, [], rfl, rfl, hide (room_start m0 m1), hide rfl, by simpa using hown1, hb1'⟩
  case round =>
    clear hown1 hb1'
    obtain ⟨f, v, p, rfl, hf, hv, hs, hown, hb⟩ := hrel
    have hvl := hide (room_of (by omega) hv.out)
    have hp9 : p.length ≤ 9 := by omega
    by_cases hlt : 128 ≤ v
    · obtain ⟨g, rfl, hg⟩ := room_step hv.out hlt
      have hg' := hide hg
      clear hg hv
      obtain ⟨q, hq⟩ : ∃ q, v % 128 = q := ⟨_, rfl⟩
      have hq1 : q ≤ 127 := by omega
      have han : bits .and .u64 (v : Int) 127 = (q : Int) := by rw [and_127 v hvl.out, hq]
      have hor : bits .or .u8 (q : Int) 128 = (q : Int) + 128 := by rw [or8_128 q (by omega)]; rfl
      have hs' : Hid (num7 m = (p ++ [(q : Int) + 128]) ++ sev (g + 1) (v / 128)) := hide (by rw [hs.out, sev_more hlt, hq]; simp)
      have hf' := hide hf
      have ht : decide ((128 : Int) ≤ (v : Int)) = true := by rw [decide_eq_true_iff]; omega
      have hlt' := hide hlt
      clear hq hs hf hlt
      go_wp2_with (first
        | (at_builtin; refine wpList_append_lies rfl (.tmp 14) (.tmp 19) 31 rfl w.heap.size 5 i0 _ Tryz.underlying31 hi hz0 hz1 hz2 rfl _ (zs.length + p.length) (zs ++ p) rfl (hown.alloc _) (some ⟨wr.heap.size, 0, none⟩) 1 1 [(q : Int) + 128] rfl rfl (by intro h; cases h) (by exact lies_one _ _ _) (by omega) (by have := hb.size; simp; omega) ?_; intro v2 w2 hown2 hb2; have hb2' : Below w.heap.size w w2 := (hb.alloc hb.size _).trans hb2; clear hb2 hb hown))
      go_roundw
      case rel => exact ⟨g, v / 128, p ++ [(q : Int) + 128], by go_num, by have := hf'.out; simp; omega, hg', hs', by simpa [Nat.add_assoc] using hown2, hb2'⟩
      case measure => have := hlt'.out; simp [intOf]; omega
    · have hf' := hide hf
      have ht : decide ((128 : Int) ≤ (v : Int)) = false := by rw [decide_eq_false_iff_not]; omega
      have hvv : (v : Int) ≤ 127 := by omega
      have hs' := hide (show num7 m = p ++ [(v : Int)] by rw [hs.out, sev_last (by omega)])
      clear hf hlt hs hv
      go_wp2_with (first
        | (at_builtin; refine wpList_append_lies rfl (.tmp 23) (.tmp 26) 31 rfl w.heap.size 5 i0 _ Tryz.underlying31 hi hz0 hz1 hz2 rfl _ (zs.length + p.length) (zs ++ p) rfl (hown.alloc _) (some ⟨wr.heap.size, 0, none⟩) 1 1 [(v : Int)] rfl rfl (by intro h; cases h) (by exact lies_one _ _ _) (by omega) (by have := hb.size; simp; omega) ?_; intro v2 w2 hown2 hb2; have hb2' : Below w.heap.size w w2 := (hb.alloc hb.size _).trans hb2; clear hb2 hb hown))
      go_ret
      refine ⟨_, rfl, ?_, hb2'⟩
      rw [hs'.out]
      simpa [Nat.add_assoc] using hown2
/-- A string's bytes. -/
def strL (s : ByteArray) : List Int := s.data.toList.map fun b => (b.toNat : Int)
theorem length_strL (s : ByteArray) : (strL s).length = s.size := by unfold strL; rw [List.length_map]; rfl
theorem octets_strL (s : ByteArray) : Octets (strL s) := fun z hz => by
  unfold strL at hz
  obtain ⟨b, _, rfl⟩ := List.mem_map.1 hz
  have := b.toNat_lt
  omega
theorem cells_strL (s : ByteArray) : cellsOf (strL s) = Go.Lib.strCells s := by
  unfold cellsOf strL Go.Lib.strCells; rw [List.map_map]; rfl
/-- A text's bytes. -/
def text7 (s : ByteArray) : List Int := num7 s.size ++ strL s
theorem text7_len (s : ByteArray) : (text7 s).length = (num7 s.size).length + s.size := by unfold text7; rw [List.length_append, length_strL]
end Go.Proofs.YtkmcnhjfnjikaaaGreatDoor
/- What Flag comes to, package pack's and the document's own, and word's Put and Get of one byte. Conditions: the slice lies in memory and holds bytes, lengths have room. -/
namespace Go.Proofs.YtkmcnhjfnjikaaaGreatDoor
open Go.RowKit
theorem shl_zero (z : Int) (h0 : 0 ≤ z) (h1 : z ≤ 255) : bits .or .u64 0 z = z := by
  obtain ⟨Z, rfl⟩ := Int.eq_ofNat_of_zero_le h0
  have e := u64_or_nat 0 Z (by omega) (by omega)
  refine e.trans ?_
  rw [Nat.zero_or]
set_option maxHeartbeats 1000000 in
theorem put1_any (A : Option Addr) (n c : Nat) (zs : List Int) (u : Int) (w : World) (hn : zs.length = n) (hz : Lies w A zs) (hc : A = none → c = 0) (ln : n ≤ 140737488355310) (u0 : 0 ≤ u) (u1 : u ≤ 255) :
    Calls Tryz.prog 85 #[.slice A n c, .int .i64 1, .int .u64 u] w fun e w' =>
      ∃ v, e = .returned v ∧ w'.ownsRow w.heap.size 5 1 v (n + 1) (cellsOf (zs ++ [u])) ∧ Below w.heap.size w w' := by
  subst hn
  obtain ⟨i0, hi, hz0, hz1, hz2⟩ := info_parts Tryz.info5
  have hc' := hide hc
  clear hc
  go_enter Tryz.func85, Tryz.ntmps85
  go_wp2_with (at_make; refine wpList_make_own _ rfl _ _ 31 rfl w.heap.size 5 i0 (.int .u8 0) 1 Tryz.underlying31 hi hz0 hz1 _ _ _ (zs.length + 1) rfl rfl (by omega) ?b2 ?b3 (Nat.le_refl _) ?_)
  case b2 => rw [hz2]; omega
  case b3 => unfold maxLen; omega
  intro w0 hown0 hgrow0
  have hb0 : Below w.heap.size w w0 := (Below.refl _ _).grown hgrow0 (Nat.le_refl _) (fun k h => by cases h)
  have hz0' := hide (hz.below hb0)
  go_wp2_with (at_builtin; refine wpList_append_fits_any _ rfl (.tmp 17) (.tmp 18) 31 rfl w.heap.size 5 i0 1 Tryz.underlying31 hi hz1 w.heap.size 0 (zs.length + 1) [] rfl hown0 A zs.length c (cellsOf zs) rfl ?d1 ?d2 ?d3 cellsOf_one (by omega) ?_)
  case d1 => rw [length_cellsOf]; omega
  case d2 => intro h; exact ⟨Lies.nil_ hz0'.out h, hc'.out h⟩
  case d3 => exact lies_fits hz0'.out
  intro w1 hown1 hgrow1
  have hb1 : Below w.heap.size w w1 := hb0.grown hgrow1 hb0.size (fun k h => by cases h; exact Nat.le_refl _)
  clear hz0' hown0 hgrow0 hgrow1 hb0 hz hc'
  go_wp2
  go_loopw [7, 21] (fun s i wr => ∃ k : Nat, k ≤ 1 ∧ i = .int .i64 k ∧ s = .slice (some ⟨w.heap.size, 0, none⟩) (zs.length + k) (zs.length + 1) ∧
      wr.ownsRow w.heap.size 5 1 (.slice (some ⟨w.heap.size, 0, none⟩) (zs.length + k) (zs.length + 1)) (zs.length + k) (cellsOf (zs ++ [u].take k)) ∧ Below w.heap.size w wr) (fun _ i _ => 1 - (intOf i).toNat)
  case atStart => exact ⟨0, by omega, rfl, rfl, by simpa using hown1, hb1⟩
  case round =>
    clear hown1 hb1
    obtain ⟨k, hk, rfl, rfl, hown, hb⟩ := hrel
    by_cases hlt : k < 1
    · obtain rfl : k = 0 := by omega
      go_wp2_with (first
        | (at_builtin; refine wpList_append_fits _ rfl (.tmp 24) (.tmp 30) 31 rfl w.heap.size 5 i0 1 Tryz.underlying31 hi hz1 w.heap.size zs.length (zs.length + 1) _ rfl (hown.alloc _) ⟨wr.heap.size, 0, none⟩ 1 1 [.int .u8 u] rfl rfl (by exact cell_one_new _ _ _) (by intro v hv; simp at hv; subst hv; rfl) (by omega) ?_; intro w2 hown2 hgrow2; have hb2 : Below w.heap.size w w2 := (hb.alloc hb.size _).grown hgrow2 (by simp; have := hb.size; omega) (fun k hk => by cases hk; exact Nat.le_refl _); clear hgrow2 hb hown))
      go_roundw
      case rel => exact ⟨1, by omega, rfl, rfl, by simpa [cellsOf] using hown2, hb2⟩
      case measure => simp [intOf]
    · obtain rfl : k = 1 := by omega
      go_wp2
      go_ret
      exact ⟨_, rfl, by simpa using hown, hb⟩
/-- The one byte that Get reads. -/
def get1V (zs : List Int) (i : Nat) : Int := if i < zs.length then ix zs i else 0
def get1E (zs : List Int) (i : Nat) : Int := if i < zs.length then 0 else 3
set_option maxHeartbeats 1000000 in
theorem get1_any (A : Option Addr) (n c : Nat) (zs : List Int) (i : Nat) (w : World) (hn : zs.length = n) (hz : Lies w A zs) (ho : Octets zs) (ln : n ≤ 4611686018427387904) (hi : i ≤ n) :
    Calls Tryz.prog 151 #[.slice A n c, .int .i64 i, .int .i64 1] w fun e w' => e = .returned (.tuple #[.int .u64 (get1V zs i), .int .i64 (get1E zs i)]) ∧ w = w' := by
  subst hn
  by_cases h : i < zs.length
  · have e1 : get1V zs i = ix zs i := by unfold get1V; rw [if_pos h]
    have e2 : get1E zs i = 0 := by unfold get1E; rw [if_pos h]
    rw [e1, e2]
    clear e1 e2
    obtain ⟨b1, o1, rfl, _, hc1⟩ := hz.at_ (k := i) h
    have o := ho.ix i
    obtain ⟨p0, p1⟩ := o
    have hor := hide (shl_zero (ix zs i) p0 p1)
    have HZ := hide hz; have HO := hide ho; clear hz ho
    have h2 : ¬ ((zs.length : Int) - (i : Int) < 1) := by omega
    have h3 : ¬ ((zs.length : Int) < (i : Int)) := by omega
    go_enter Tryz.func151, Tryz.ntmps151
    go_wp2
    go_loop [8, 33] (fun u j => ∃ k : Nat, k ≤ 1 ∧ j = .int .i64 k ∧ u = .int .u64 (if k = 0 then 0 else ix zs i)) (fun _ j => 1 - (intOf j).toNat)
    case atStart => exact ⟨0, by omega, rfl, rfl⟩
    case round =>
      obtain ⟨k, hk, rfl, rfl⟩ := hrel
      by_cases hlt : k < 1
      · obtain rfl : k = 0 := by omega
        have hcl := hide hc1
        go_wp2
        go_round
        case rel => exact ⟨1, by omega, rfl, by rw [if_neg (by omega)]; exact congrArg _ hor.out⟩
        case measure => simp [intOf]
      · obtain rfl : k = 1 := by omega
        go_wp2
        go_ret2
        exact ⟨rfl, rfl⟩
  · have e1 : get1V zs i = 0 := by unfold get1V; rw [if_neg h]
    have e2 : get1E zs i = 3 := by unfold get1E; rw [if_neg h]
    rw [e1, e2]
    clear e1 e2
    obtain rfl : i = zs.length := by omega
    have h2 : (zs.length : Int) - (zs.length : Int) < 1 := by omega
    go_enter Tryz.func151, Tryz.ntmps151
    go_wp2
    go_ret2
    exact ⟨rfl, rfl⟩
end Go.Proofs.YtkmcnhjfnjikaaaGreatDoor
