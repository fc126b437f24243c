/- Numbers as pieces of seven bits, and back: plain arithmetic of package pack. No condition: nothing here speaks of a program. -/
import Derived.Test.YtpngcocmjbkfgaaMem
namespace Go.Proofs.Ytpngcocmjbkfgaa
open Go.RowKit
def zigI (n : Int) : Int := if n < 0 then -2 * n - 1 else 2 * n
def zagI (u : Int) : Int := if u % 2 = 1 then -1 - u / 2 else u / 2
theorem zag_zig (n : Int) : zagI (zigI n) = n := by
  unfold zigI zagI; split <;> split <;> omega
theorem zig_zag (u : Int) (h : 0 ≤ u) : zigI (zagI u) = u := by
  unfold zigI zagI; split <;> split <;> omega
theorem zig_bounds (n : Int) (h0 : -9223372036854775808 ≤ n) (h1 : n ≤ 9223372036854775807) : 0 ≤ zigI n ∧ zigI n ≤ 18446744073709551615 := by
  unfold zigI; split <;> omega
theorem zag_bounds (u : Int) (h0 : 0 ≤ u) (h1 : u ≤ 18446744073709551615) : -9223372036854775808 ≤ zagI u ∧ zagI u ≤ 9223372036854775807 := by
  unfold zagI; split <;> omega
theorem zag_zero : zagI 0 = 0 := by decide
/-- The number of n that is turned into pieces. -/
def zigN (n : Int) : Nat := (zigI n).toNat
theorem zigN_lt (n : Int) (h0 : -9223372036854775808 ≤ n) (h1 : n ≤ 9223372036854775807) : zigN n < 18446744073709551616 := by
  have := zig_bounds n h0 h1; unfold zigN; omega
theorem zigN_cast (n : Int) (h0 : -9223372036854775808 ≤ n) (h1 : n ≤ 9223372036854775807) : ((zigN n : Nat) : Int) = zigI n := by
  have := zig_bounds n h0 h1; unfold zigN; omega
theorem zag_zigN (n : Int) : zagI (zigN n : Nat) = n := by
  have h : ((zigN n : Nat) : Int) = zigI n := by
    have : 0 ≤ zigI n := by unfold zigI; split <;> omega
    unfold zigN; omega
  rw [h, zag_zig]
theorem zigN_inj {a b : Int} (h : zigN a = zigN b) : a = b := by
  rw [← zag_zigN a, ← zag_zigN b, h]

/-- u in pieces of seven bits, the lowest first, 128 put to each but the last; at most f of them. -/
def sev : Nat → Nat → List Int
  | 0, _ => []
  | f + 1, u => if u < 128 then [(u : Int)] else ((u % 128 + 128 : Nat) : Int) :: sev f (u / 128)
theorem sev_last {f u : Nat} (h : u < 128) : sev (f + 1) u = [(u : Int)] := by unfold sev; rw [if_pos h]
theorem sev_more {f u : Nat} (h : 128 ≤ u) : sev (f + 1) u = ((u % 128 + 128 : Nat) : Int) :: sev f (u / 128) := by
  rw [sev, if_neg (by omega)]
theorem sev_le : ∀ f u, (sev f u).length ≤ f
  | 0, _ => Nat.le_refl _
  | f + 1, u => by
    by_cases h : u < 128
    · rw [sev_last h]; simp
    · rw [sev_more (by omega), List.length_cons]; have := sev_le f (u / 128); omega
theorem sev_pos (f u : Nat) : 1 ≤ (sev (f + 1) u).length := by
  by_cases h : u < 128
  · rw [sev_last h]; simp
  · rw [sev_more (by omega)]; simp
theorem octets_sev : ∀ f u, Octets (sev f u)
  | 0, _ => fun z hz => by cases hz
  | f + 1, u => fun z hz => by
    by_cases h : u < 128
    · rw [sev_last h] at hz; obtain rfl := List.mem_singleton.1 hz; omega
    · rw [sev_more (by omega)] at hz
      rcases List.mem_cons.1 hz with rfl | hz
      · omega
      · exact octets_sev f _ z hz
/-- A number's bytes. -/
def num7 (n : Int) : List Int := sev 10 (zigN n)
theorem num7_len (n : Int) : 1 ≤ (num7 n).length ∧ (num7 n).length ≤ 10 := ⟨sev_pos 9 _, sev_le 10 _⟩
theorem octets_num7 (n : Int) : Octets (num7 n) := octets_sev 10 _
theorem sev_mono : ∀ (f u v : Nat), u ≤ v → (sev f u).length ≤ (sev f v).length
  | 0, _, _, _ => Nat.le_refl _
  | f + 1, u, v, h => by
    by_cases hu : u < 128
    · rw [sev_last hu]; exact sev_pos f v
    · rw [sev_more (by omega), sev_more (by omega), List.length_cons, List.length_cons]
      have := sev_mono f (u / 128) (v / 128) (Nat.div_le_div_right h); omega

/-- What reading comes to, k pieces on, u behind them: the number, how many bytes it has, the error. -/
def rdN : Nat → Nat → List Int → Nat × Nat × Int
  | _, _, [] => (0, 0, 3)
  | k, u, p :: ps => if (0 < k ∧ p = 0) ∨ (k = 9 ∧ 1 < p) then (0, 0, 4) else if p < 128 then (u + (p % 128).toNat * 128 ^ k, k + 1, 0) else rdN (k + 1) (u + (p % 128).toNat * 128 ^ k) ps
def rdV (zs : List Int) : Int := zagI ((rdN 0 0 zs).1 : Nat)
def rdS (zs : List Int) : Nat := (rdN 0 0 zs).2.1
def rdE (zs : List Int) : Int := (rdN 0 0 zs).2.2
theorem rdN_nil (k u : Nat) : rdN k u [] = (0, 0, 3) := rfl
theorem rdN_form {k u : Nat} {p : Int} {ps : List Int} (h : (0 < k ∧ p = 0) ∨ (k = 9 ∧ 1 < p)) : rdN k u (p :: ps) = (0, 0, 4) := by
  rw [rdN, if_pos h]
theorem rdN_last {k u : Nat} {p : Int} {ps : List Int} (h : ¬ ((0 < k ∧ p = 0) ∨ (k = 9 ∧ 1 < p))) (hp : p < 128) : rdN k u (p :: ps) = (u + (p % 128).toNat * 128 ^ k, k + 1, 0) := by
  rw [rdN, if_neg h, if_pos hp]
theorem rdN_more {k u : Nat} {p : Int} {ps : List Int} (h : ¬ ((0 < k ∧ p = 0) ∨ (k = 9 ∧ 1 < p))) (hp : ¬ p < 128) : rdN k u (p :: ps) = rdN (k + 1) (u + (p % 128).toNat * 128 ^ k) ps := by
  rw [rdN, if_neg h, if_neg hp]
theorem pow128_9 : (128 : Nat) ^ 9 = 9223372036854775808 := by decide
theorem pow128_pos (k : Nat) : 0 < 128 ^ k := Nat.pow_pos (by omega)
theorem pow128_le {k : Nat} (h : k ≤ 9) : (128 : Nat) ^ k ≤ 9223372036854775808 := by
  rw [← pow128_9]; exact Nat.pow_le_pow_right (by omega) h
theorem pow128_two (k : Nat) : (128 : Nat) ^ k = 2 ^ (7 * k) := by rw [Nat.pow_mul]
/-- One step's number has room. -/
theorem step_lt {k u : Nat} {p : Int} (hk : k ≤ 9) (hu : u < 128 ^ k) (h0 : 0 ≤ p) (h1 : p ≤ 255) (h : ¬ ((0 < k ∧ p = 0) ∨ (k = 9 ∧ 1 < p))) :
    u + (p % 128).toNat * 128 ^ k < 18446744073709551616 ∧ (k < 9 → u + (p % 128).toNat * 128 ^ k < 128 ^ (k + 1)) := by
  have hq : (p % 128).toNat ≤ 127 := by omega
  have hm : (p % 128).toNat * 128 ^ k ≤ 127 * 128 ^ k := Nat.mul_le_mul_right _ hq
  have hs : (128 : Nat) ^ (k + 1) = 128 ^ k * 128 := Nat.pow_succ _ _
  refine ⟨?_, fun _ => by omega⟩
  by_cases h9 : k = 9
  · subst h9
    have hp : p ≤ 1 := by omega
    have hq1 : (p % 128).toNat ≤ 1 := by omega
    have hm1 : (p % 128).toNat * 128 ^ 9 ≤ 1 * 128 ^ 9 := Nat.mul_le_mul_right _ hq1
    rw [pow128_9] at *
    omega
  · have h8 : (128 : Nat) ^ (k + 1) ≤ 128 ^ 9 := Nat.pow_le_pow_right (by omega) (by omega)
    rw [pow128_9] at h8
    omega
theorem rdN_bounds : ∀ (zs : List Int) (k u : Nat), k ≤ 9 → u < 128 ^ k → Octets zs → (rdN k u zs).1 < 18446744073709551616 ∧ 0 ≤ (rdN k u zs).2.2 ∧ (rdN k u zs).2.2 ≤ 4 ∧ (rdN k u zs).2.1 ≤ 10 ∧ ((rdN k u zs).2.2 = 0 → k < (rdN k u zs).2.1 ∧ (rdN k u zs).2.1 ≤ k + zs.length) ∧ ((rdN k u zs).2.2 ≠ 0 → (rdN k u zs).1 = 0 ∧ (rdN k u zs).2.1 = 0)
  | [], k, u, _, _, _ => by rw [rdN_nil]; simp
  | p :: ps, k, u, hk, hu, ho => by
    have hp := ho p (List.mem_cons_self ..)
    by_cases hf : (0 < k ∧ p = 0) ∨ (k = 9 ∧ 1 < p)
    · rw [rdN_form hf]; simp
    · have hs := step_lt hk hu hp.1 hp.2 hf
      by_cases hl : p < 128
      · rw [rdN_last hf hl]
        refine ⟨hs.1, by simp, by simp, by simp; omega, fun _ => by simp, fun h => absurd rfl h⟩
      · rw [rdN_more hf hl]
        have hk9 : k < 9 := by omega
        have := rdN_bounds ps (k + 1) _ (by omega) (hs.2 hk9) (fun z hz => ho z (List.mem_cons_of_mem _ hz))
        rw [List.length_cons]
        refine ⟨this.1, this.2.1, this.2.2.1, this.2.2.2.1, fun h => ?_, this.2.2.2.2.2⟩
        have h5 := this.2.2.2.2.1 h
        omega
theorem rd_bounds {zs : List Int} (ho : Octets zs) : -9223372036854775808 ≤ rdV zs ∧ rdV zs ≤ 9223372036854775807 ∧ 0 ≤ rdE zs ∧ rdE zs ≤ 4 ∧ rdS zs ≤ 10 ∧ rdS zs ≤ zs.length ∧ (rdE zs ≠ 0 → rdV zs = 0 ∧ rdS zs = 0) := by
  have h := rdN_bounds zs 0 0 (by omega) (by simp) ho
  have hz := zag_bounds ((rdN 0 0 zs).1 : Nat) (by omega) (by omega)
  unfold rdV rdE rdS
  refine ⟨hz.1, hz.2, h.2.1, h.2.2.1, h.2.2.2.1, ?_, fun he => ?_⟩
  · by_cases he : (rdN 0 0 zs).2.2 = 0
    · have := h.2.2.2.2.1 he; omega
    · have := h.2.2.2.2.2 he; omega
  · have := h.2.2.2.2.2 he
    rw [this.1, this.2]
    exact ⟨zag_zero, rfl⟩
/-- Reading what was written, whatever lies behind. -/
theorem rdN_sev : ∀ (f k u v : Nat) (ys : List Int), k + f = 9 → v * 128 ^ k < 18446744073709551616 → (0 < k → 0 < v) → rdN k u (sev (f + 1) v ++ ys) = (u + v * 128 ^ k, k + (sev (f + 1) v).length, 0)
  | f, k, u, v, ys, hk, hv, h0 => by
    by_cases hl : v < 128
    · rw [sev_last hl, List.singleton_append]
      have hf : ¬ ((0 < k ∧ (v : Int) = 0) ∨ (k = 9 ∧ 1 < (v : Int))) := by
        rintro (⟨a, b⟩ | ⟨a, b⟩)
        · have := h0 a; omega
        · subst a
          rw [pow128_9] at hv; omega
      rw [rdN_last hf (by omega)]
      have e : ((v : Int) % 128).toNat = v := by omega
      rw [e]; rfl
    · match f with
      | 0 =>
        have : k = 9 := by omega
        subst this
        rw [pow128_9] at hv; omega
      | f + 1 =>
        rw [sev_more (by omega), List.cons_append]
        have hf : ¬ ((0 < k ∧ ((v % 128 + 128 : Nat) : Int) = 0) ∨ (k = 9 ∧ 1 < ((v % 128 + 128 : Nat) : Int))) := by omega
        rw [rdN_more hf (by omega)]
        have e : (((v % 128 + 128 : Nat) : Int) % 128).toNat = v % 128 := by omega
        have hs : (128 : Nat) ^ (k + 1) = 128 * 128 ^ k := by rw [Nat.pow_succ, Nat.mul_comm]
        have hm : v / 128 * 128 ^ (k + 1) + v % 128 * 128 ^ k = v * 128 ^ k := by
          rw [hs, ← Nat.mul_assoc, ← Nat.add_mul]; congr 1; omega
        rw [e, rdN_sev f (k + 1) _ (v / 128) ys (by omega) (by omega) (by omega), List.length_cons]
        refine Prod.ext ?_ (Prod.ext ?_ rfl)
        · show u + v % 128 * 128 ^ k + v / 128 * 128 ^ (k + 1) = _
          omega
        · show k + 1 + _ = k + (_ + 1)
          omega
theorem rd_num7 (n : Int) (ys : List Int) (h0 : -9223372036854775808 ≤ n) (h1 : n ≤ 9223372036854775807) : rdV (num7 n ++ ys) = n ∧ rdS (num7 n ++ ys) = (num7 n).length ∧ rdE (num7 n ++ ys) = 0 := by
  have h := rdN_sev 9 0 0 (zigN n) ys (by omega) (by have := zigN_lt n h0 h1; omega) (by omega)
  unfold rdV rdS rdE num7
  rw [h]
  refine ⟨?_, ?_, rfl⟩
  · show zagI ((0 + zigN n * 128 ^ 0 : Nat) : Int) = n
    rw [Nat.pow_zero, Nat.mul_one, Nat.zero_add, zag_zigN]
  · exact Nat.zero_add _
/-- What was written, cut off, is short. -/
theorem rdN_cut : ∀ (f k u v j : Nat), k + f ≤ 9 → j < (sev (f + 1) v).length → rdN k u ((sev (f + 1) v).take j) = (0, 0, 3)
  | f, k, u, v, 0, _, _ => by rw [List.take_zero]; rfl
  | f, k, u, v, j + 1, hk, hj => by
    by_cases hl : v < 128
    · rw [sev_last hl] at hj; simp at hj
    · match f with
      | 0 =>
        rw [sev_more (by omega)] at hj
        simp [sev] at hj
      | f + 1 =>
        rw [sev_more (by omega)] at hj ⊢
        rw [List.length_cons] at hj
        rw [List.take_succ_cons]
        have hf : ¬ ((0 < k ∧ ((v % 128 + 128 : Nat) : Int) = 0) ∨ (k = 9 ∧ 1 < ((v % 128 + 128 : Nat) : Int))) := by omega
        rw [rdN_more hf (by omega)]
        exact rdN_cut f (k + 1) _ (v / 128) j (by omega) (by omega)
theorem rd_cut (n : Int) (j : Nat) (hj : j < (num7 n).length) : rdE ((num7 n).take j) = 3 := by
  unfold rdE num7
  rw [rdN_cut 9 0 0 (zigN n) j (by omega) hj]
/-- What is taken as a number, whole, are that number's bytes. -/
theorem rdN_back : ∀ (zs : List Int) (k u v s : Nat), k ≤ 9 → u < 128 ^ k → Octets zs → rdN k u zs = (v, s, 0) → ∃ x, v = u + x * 128 ^ k ∧ (0 < k → 0 < x) ∧ k < s ∧ sev (10 - k) x = zs.take (s - k)
  | [], k, u, v, s, _, _, _, h => by rw [rdN_nil] at h; simp at h
  | p :: ps, k, u, v, s, hk, hu, ho, h => by
    have hp := ho p (List.mem_cons_self ..)
    by_cases hf : (0 < k ∧ p = 0) ∨ (k = 9 ∧ 1 < p)
    · rw [rdN_form hf] at h; simp at h
    · have hs := step_lt hk hu hp.1 hp.2 hf
      obtain ⟨P, rfl⟩ := Int.eq_ofNat_of_zero_le hp.1
      obtain ⟨f, hfk⟩ : ∃ f, 10 - k = f + 1 := ⟨9 - k, by omega⟩
      rw [hfk]
      by_cases hl : (P : Int) < 128
      · rw [rdN_last hf hl] at h
        injection h with h1 h2
        injection h2 with h2 _
        have e : ((P : Int) % 128).toNat = P := by omega
        refine ⟨P, by rw [← h1, e], by omega, by omega, ?_⟩
        have e2 : s - k = 1 := by omega
        rw [sev_last (by omega), e2]; rfl
      · rw [rdN_more hf hl] at h
        have hk9 : k < 9 := by omega
        obtain ⟨x, hx, hx0, hks, hsev⟩ := rdN_back ps (k + 1) _ v s (by omega) (hs.2 hk9) (fun z hz => ho z (List.mem_cons_of_mem _ hz)) h
        have e : ((P : Int) % 128).toNat = P - 128 := by omega
        have hxp := hx0 (by omega)
        refine ⟨P - 128 + 128 * x, ?_, by omega, by omega, ?_⟩
        · rw [hx, e]
          have hs : (128 : Nat) ^ (k + 1) = 128 * 128 ^ k := by rw [Nat.pow_succ, Nat.mul_comm]
          rw [hs, Nat.add_mul, Nat.mul_comm 128 x, Nat.mul_assoc]; omega
        · rw [sev_more (by omega)]
          have e1 : (P - 128 + 128 * x) % 128 + 128 = P := by omega
          have e2 : (P - 128 + 128 * x) / 128 = x := by omega
          have e3 : 10 - (k + 1) = f := by omega
          obtain ⟨j, hj⟩ : ∃ j, s - k = j + 1 := ⟨s - k - 1, by omega⟩
          have e4 : s - (k + 1) = j := by omega
          rw [e3, e4] at hsev
          rw [e1, e2, hsev, hj, List.take_succ_cons]
theorem rd_back {zs : List Int} (ho : Octets zs) (h : rdE zs = 0) : num7 (rdV zs) = zs.take (rdS zs) := by
  obtain ⟨x, hx, _, _, hs⟩ := rdN_back zs 0 0 (rdN 0 0 zs).1 (rdN 0 0 zs).2.1 (by omega) (by simp) ho (Prod.ext rfl (Prod.ext rfl h))
  have hx' : (rdN 0 0 zs).1 = x := by rw [hx, Nat.pow_zero]; omega
  have hv : zigN (rdV zs) = x := by
    unfold zigN rdV
    rw [zig_zag _ (by omega), hx']; rfl
  unfold num7 rdS
  rw [hv, hs, Nat.sub_zero]
/-- Two numbers of the same bytes are the same. -/
theorem num7_inj {a b : Int} (a0 : -9223372036854775808 ≤ a) (a1 : a ≤ 9223372036854775807) (b0 : -9223372036854775808 ≤ b) (b1 : b ≤ 9223372036854775807) (h : num7 a = num7 b) : a = b := by
  have h1 := (rd_num7 a [] a0 a1).1
  have h2 := (rd_num7 b [] b0 b1).1
  rw [← h1, ← h2, h]
theorem num7_mono {a b : Int} (h0 : 0 ≤ a) (h : a ≤ b) : (num7 a).length ≤ (num7 b).length := by
  refine sev_mono 10 _ _ ?_
  unfold zigN zigI
  rw [if_neg (by omega), if_neg (by omega)]; omega
end Go.Proofs.Ytpngcocmjbkfgaa
