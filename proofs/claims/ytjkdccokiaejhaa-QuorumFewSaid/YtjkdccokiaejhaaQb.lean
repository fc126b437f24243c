/- What Same comes to over two slices of bytes: are the lists the same. Conditions: each lies in memory, its length has room. -/
import Derived.Test.YtjkdccokiaejhaaRows
import Derived.Test.YtjkdccokiaejhaaQa
import Derived.LoopTactic
import Derived.BigQuiet
import Derived.Deep.QuietTactic
import Derived.WalkKit
import Derived.WalkSpells
import Derived.WalkLawsBesides
import Derived.Lib.AppendStr
import Derived.Deep.DeepCutAuto
import Derived.Laws.BytesArg
namespace Go.Proofs.Ytjkdccokiaejhaa
set_option maxRecDepth 100000
open Go.RowKit
theorem Try.info5 : (Try.prog.info? 5).map (fun i => (i.zero, i.size, i.bytes)) = some (some (.int .u8 0), 1, 1) := by kernel_rfl
end Go.Proofs.Ytjkdccokiaejhaa
/- Numbers as pieces of seven bits, and back: plain arithmetic of package pack. No condition: nothing here speaks of a program. -/
namespace Go.Proofs.Ytjkdccokiaejhaa
set_option maxRecDepth 100000
open Go.RowKit
def zigI (n : Int) : Int := if n < 0 then -2 * n - 1 else 2 * n
def zagI (u : Int) : Int := if u % 2 = 1 then -1 - u / 2 else u / 2
theorem zag_zig (n : Int) : zagI (zigI n) = n := by
  unfold zigI zagI; split <;> split <;> omega
theorem zig_zag (u : Int) (h : 0 ≤ u) : zigI (zagI u) = u := by
  unfold zigI zagI; split <;> split <;> omega
theorem zig_bounds (n : Int) (h0 : -9223372036854775808 ≤ n) (h1 : n ≤ 9223372036854775807) : 0 ≤ zigI n ∧ zigI n ≤ 18446744073709551615 := by
  unfold zigI; split <;> omega
theorem zag_bounds (u : Int) (h0 : 0 ≤ u) (h1 : u ≤ 18446744073709551615) : -9223372036854775808 ≤ zagI u ∧ zagI u ≤ 9223372036854775807 := by
  unfold zagI; split <;> omega
theorem zag_zero : zagI 0 = 0 := by decide
/-- The number of n that is turned into pieces. -/
def zigN (n : Int) : Nat := (zigI n).toNat
theorem zigN_lt (n : Int) (h0 : -9223372036854775808 ≤ n) (h1 : n ≤ 9223372036854775807) : zigN n < 18446744073709551616 := by
  have := zig_bounds n h0 h1; unfold zigN; omega
theorem zigN_cast (n : Int) (h0 : -9223372036854775808 ≤ n) (h1 : n ≤ 9223372036854775807) : ((zigN n : Nat) : Int) = zigI n := by
  have := zig_bounds n h0 h1; unfold zigN; omega
theorem zag_zigN (n : Int) : zagI (zigN n : Nat) = n := by
  have h : ((zigN n : Nat) : Int) = zigI n := by
    have : 0 ≤ zigI n := by unfold zigI; split <;> omega
    unfold zigN; omega
  rw [h, zag_zig]
theorem zigN_inj {a b : Int} (h : zigN a = zigN b) : a = b := by
  rw [← zag_zigN a, ← zag_zigN b, h]

/-- u in pieces of seven bits, the lowest first, 128 put to each but the last; at most f of them. -/
def sev : Nat → Nat → List Int
  | 0, _ => []
  | f + 1, u => if u < 128 then [(u : Int)] else ((u % 128 + 128 : Nat) : Int) :: sev f (u / 128)
theorem sev_last {f u : Nat} (h : u < 128) : sev (f + 1) u = [(u : Int)] := by unfold sev; rw [if_pos h]
theorem sev_more {f u : Nat} (h : 128 ≤ u) : sev (f + 1) u = ((u % 128 + 128 : Nat) : Int) :: sev f (u / 128) := by
  rw [sev, if_neg (by omega)]
theorem sev_le : ∀ f u, (sev f u).length ≤ f
  | 0, _ => Nat.le_refl _
  | f + 1, u => by
    by_cases h : u < 128
    · rw [sev_last h]; simp
    · rw [sev_more (by omega), List.length_cons]; have := sev_le f (u / 128); omega
theorem sev_pos (f u : Nat) : 1 ≤ (sev (f + 1) u).length := by
  by_cases h : u < 128
  · rw [sev_last h]; simp
  · rw [sev_more (by omega)]; simp
theorem octets_sev : ∀ f u, Octets (sev f u)
  | 0, _ => fun z hz => by cases hz
  | f + 1, u => fun z hz => by
    by_cases h : u < 128
    · rw [sev_last h] at hz; obtain rfl := List.mem_singleton.1 hz; omega
    · rw [sev_more (by omega)] at hz
      rcases List.mem_cons.1 hz with rfl | hz
      · omega
      · exact octets_sev f _ z hz
/-- A number's bytes. -/
def num7 (n : Int) : List Int := sev 10 (zigN n)
theorem num7_len (n : Int) : 1 ≤ (num7 n).length ∧ (num7 n).length ≤ 10 := ⟨sev_pos 9 _, sev_le 10 _⟩
theorem octets_num7 (n : Int) : Octets (num7 n) := octets_sev 10 _
theorem sev_mono : ∀ (f u v : Nat), u ≤ v → (sev f u).length ≤ (sev f v).length
  | 0, _, _, _ => Nat.le_refl _
  | f + 1, u, v, h => by
    by_cases hu : u < 128
    · rw [sev_last hu]; exact sev_pos f v
    · rw [sev_more (by omega), sev_more (by omega), List.length_cons, List.length_cons]
      have := sev_mono f (u / 128) (v / 128) (Nat.div_le_div_right h); omega

/-- What reading comes to, k pieces on, u behind them: the number, how many bytes it has, the error. -/
def rdN : Nat → Nat → List Int → Nat × Nat × Int
  | _, _, [] => (0, 0, 3)
  | k, u, p :: ps => if (0 < k ∧ p = 0) ∨ (k = 9 ∧ 1 < p) then (0, 0, 4) else if p < 128 then (u + (p % 128).toNat * 128 ^ k, k + 1, 0) else rdN (k + 1) (u + (p % 128).toNat * 128 ^ k) ps
def rdV (zs : List Int) : Int := zagI ((rdN 0 0 zs).1 : Nat)
def rdS (zs : List Int) : Nat := (rdN 0 0 zs).2.1
def rdE (zs : List Int) : Int := (rdN 0 0 zs).2.2
theorem rdN_nil (k u : Nat) : rdN k u [] = (0, 0, 3) := rfl
theorem rdN_form {k u : Nat} {p : Int} {ps : List Int} (h : (0 < k ∧ p = 0) ∨ (k = 9 ∧ 1 < p)) : rdN k u (p :: ps) = (0, 0, 4) := by
  rw [rdN, if_pos h]
theorem rdN_last {k u : Nat} {p : Int} {ps : List Int} (h : ¬ ((0 < k ∧ p = 0) ∨ (k = 9 ∧ 1 < p))) (hp : p < 128) : rdN k u (p :: ps) = (u + (p % 128).toNat * 128 ^ k, k + 1, 0) := by
  rw [rdN, if_neg h, if_pos hp]
theorem rdN_more {k u : Nat} {p : Int} {ps : List Int} (h : ¬ ((0 < k ∧ p = 0) ∨ (k = 9 ∧ 1 < p))) (hp : ¬ p < 128) : rdN k u (p :: ps) = rdN (k + 1) (u + (p % 128).toNat * 128 ^ k) ps := by
  rw [rdN, if_neg h, if_neg hp]
theorem pow128_9 : (128 : Nat) ^ 9 = 9223372036854775808 := by decide
theorem pow128_pos (k : Nat) : 0 < 128 ^ k := Nat.pow_pos (by omega)
theorem pow128_le {k : Nat} (h : k ≤ 9) : (128 : Nat) ^ k ≤ 9223372036854775808 := by
  rw [← pow128_9]; exact Nat.pow_le_pow_right (by omega) h
theorem pow128_two (k : Nat) : (128 : Nat) ^ k = 2 ^ (7 * k) := by rw [Nat.pow_mul]
/-- One step's number has room. -/
theorem step_lt {k u : Nat} {p : Int} (hk : k ≤ 9) (hu : u < 128 ^ k) (h0 : 0 ≤ p) (h1 : p ≤ 255) (h : ¬ ((0 < k ∧ p = 0) ∨ (k = 9 ∧ 1 < p))) :
    u + (p % 128).toNat * 128 ^ k < 18446744073709551616 ∧ (k < 9 → u + (p % 128).toNat * 128 ^ k < 128 ^ (k + 1)) := by
  have hq : (p % 128).toNat ≤ 127 := by omega
  have hm : (p % 128).toNat * 128 ^ k ≤ 127 * 128 ^ k := Nat.mul_le_mul_right _ hq
  have hs : (128 : Nat) ^ (k + 1) = 128 ^ k * 128 := Nat.pow_succ _ _
  refine ⟨?_, fun _ => by omega⟩
  by_cases h9 : k = 9
  · subst h9
    have hp : p ≤ 1 := by omega
    have hq1 : (p % 128).toNat ≤ 1 := by omega
    have hm1 : (p % 128).toNat * 128 ^ 9 ≤ 1 * 128 ^ 9 := Nat.mul_le_mul_right _ hq1
    rw [pow128_9] at *
    omega
  · have h8 : (128 : Nat) ^ (k + 1) ≤ 128 ^ 9 := Nat.pow_le_pow_right (by omega) (by omega)
    rw [pow128_9] at h8
    omega
theorem rdN_bounds : ∀ (zs : List Int) (k u : Nat), k ≤ 9 → u < 128 ^ k → Octets zs → (rdN k u zs).1 < 18446744073709551616 ∧ 0 ≤ (rdN k u zs).2.2 ∧ (rdN k u zs).2.2 ≤ 4 ∧ (rdN k u zs).2.1 ≤ 10 ∧ ((rdN k u zs).2.2 = 0 → k < (rdN k u zs).2.1 ∧ (rdN k u zs).2.1 ≤ k + zs.length) ∧ ((rdN k u zs).2.2 ≠ 0 → (rdN k u zs).1 = 0 ∧ (rdN k u zs).2.1 = 0)
  | [], k, u, _, _, _ => by rw [rdN_nil]; simp
  | p :: ps, k, u, hk, hu, ho => by
    have hp := ho p (List.mem_cons_self ..)
    by_cases hf : (0 < k ∧ p = 0) ∨ (k = 9 ∧ 1 < p)
    · rw [rdN_form hf]; simp
    · have hs := step_lt hk hu hp.1 hp.2 hf
      by_cases hl : p < 128
      · rw [rdN_last hf hl]
        refine ⟨hs.1, by simp, by simp, by simp; omega, fun _ => by simp, fun h => absurd rfl h⟩
      · rw [rdN_more hf hl]
        have hk9 : k < 9 := by omega
        have := rdN_bounds ps (k + 1) _ (by omega) (hs.2 hk9) (fun z hz => ho z (List.mem_cons_of_mem _ hz))
        rw [List.length_cons]
        refine ⟨this.1, this.2.1, this.2.2.1, this.2.2.2.1, fun h => ?_, this.2.2.2.2.2⟩
        have h5 := this.2.2.2.2.1 h
        omega
theorem rd_bounds {zs : List Int} (ho : Octets zs) : -9223372036854775808 ≤ rdV zs ∧ rdV zs ≤ 9223372036854775807 ∧ 0 ≤ rdE zs ∧ rdE zs ≤ 4 ∧ rdS zs ≤ 10 ∧ rdS zs ≤ zs.length ∧ (rdE zs ≠ 0 → rdV zs = 0 ∧ rdS zs = 0) := by
  have h := rdN_bounds zs 0 0 (by omega) (by simp) ho
  have hz := zag_bounds ((rdN 0 0 zs).1 : Nat) (by omega) (by omega)
  unfold rdV rdE rdS
  refine ⟨hz.1, hz.2, h.2.1, h.2.2.1, h.2.2.2.1, ?_, fun he => ?_⟩
  · by_cases he : (rdN 0 0 zs).2.2 = 0
    · have := h.2.2.2.2.1 he; omega
    · have := h.2.2.2.2.2 he; omega
  · have := h.2.2.2.2.2 he
    rw [this.1, this.2]
    exact ⟨zag_zero, rfl⟩
/-- Reading what was written, whatever lies behind. -/
theorem rdN_sev : ∀ (f k u v : Nat) (ys : List Int), k + f = 9 → v * 128 ^ k < 18446744073709551616 → (0 < k → 0 < v) → rdN k u (sev (f + 1) v ++ ys) = (u + v * 128 ^ k, k + (sev (f + 1) v).length, 0)
  | f, k, u, v, ys, hk, hv, h0 => by
    by_cases hl : v < 128
    · rw [sev_last hl, List.singleton_append]
      have hf : ¬ ((0 < k ∧ (v : Int) = 0) ∨ (k = 9 ∧ 1 < (v : Int))) := by
        rintro (⟨a, b⟩ | ⟨a, b⟩)
        · have := h0 a; omega
        · subst a
          rw [pow128_9] at hv; omega
      rw [rdN_last hf (by omega)]
      have e : ((v : Int) % 128).toNat = v := by omega
      rw [e]; rfl
    · match f with
      | 0 =>
        have : k = 9 := by omega
        subst this
        rw [pow128_9] at hv; omega
      | f + 1 =>
        rw [sev_more (by omega), List.cons_append]
        have hf : ¬ ((0 < k ∧ ((v % 128 + 128 : Nat) : Int) = 0) ∨ (k = 9 ∧ 1 < ((v % 128 + 128 : Nat) : Int))) := by omega
        rw [rdN_more hf (by omega)]
        have e : (((v % 128 + 128 : Nat) : Int) % 128).toNat = v % 128 := by omega
        have hs : (128 : Nat) ^ (k + 1) = 128 * 128 ^ k := by rw [Nat.pow_succ, Nat.mul_comm]
        have hm : v / 128 * 128 ^ (k + 1) + v % 128 * 128 ^ k = v * 128 ^ k := by
          rw [hs, ← Nat.mul_assoc, ← Nat.add_mul]; congr 1; omega
        rw [e, rdN_sev f (k + 1) _ (v / 128) ys (by omega) (by omega) (by omega), List.length_cons]
        refine Prod.ext ?_ (Prod.ext ?_ rfl)
        · show u + v % 128 * 128 ^ k + v / 128 * 128 ^ (k + 1) = _
          omega
        · show k + 1 + _ = k + (_ + 1)
          omega
theorem rd_num7 (n : Int) (ys : List Int) (h0 : -9223372036854775808 ≤ n) (h1 : n ≤ 9223372036854775807) : rdV (num7 n ++ ys) = n ∧ rdS (num7 n ++ ys) = (num7 n).length ∧ rdE (num7 n ++ ys) = 0 := by
  have h := rdN_sev 9 0 0 (zigN n) ys (by omega) (by have := zigN_lt n h0 h1; omega) (by omega)
  unfold rdV rdS rdE num7
  rw [h]
  refine ⟨?_, ?_, rfl⟩
  · show zagI ((0 + zigN n * 128 ^ 0 : Nat) : Int) = n
    rw [Nat.pow_zero, Nat.mul_one, Nat.zero_add, zag_zigN]
  · exact Nat.zero_add _
/-- What was written, cut off, is short. -/
theorem rdN_cut : ∀ (f k u v j : Nat), k + f ≤ 9 → j < (sev (f + 1) v).length → rdN k u ((sev (f + 1) v).take j) = (0, 0, 3)
  | f, k, u, v, 0, _, _ => by rw [List.take_zero]; rfl
  | f, k, u, v, j + 1, hk, hj => by
    by_cases hl : v < 128
    · rw [sev_last hl] at hj; simp at hj
    · match f with
      | 0 =>
        rw [sev_more (by omega)] at hj
        simp [sev] at hj
      | f + 1 =>
        rw [sev_more (by omega)] at hj ⊢
        rw [List.length_cons] at hj
        rw [List.take_succ_cons]
        have hf : ¬ ((0 < k ∧ ((v % 128 + 128 : Nat) : Int) = 0) ∨ (k = 9 ∧ 1 < ((v % 128 + 128 : Nat) : Int))) := by omega
        rw [rdN_more hf (by omega)]
        exact rdN_cut f (k + 1) _ (v / 128) j (by omega) (by omega)
theorem rd_cut (n : Int) (j : Nat) (hj : j < (num7 n).length) : rdE ((num7 n).take j) = 3 := by
  unfold rdE num7
  rw [rdN_cut 9 0 0 (zigN n) j (by omega) hj]
/-- What is taken as a number, whole, are that number's bytes. -/
theorem rdN_back : ∀ (zs : List Int) (k u v s : Nat), k ≤ 9 → u < 128 ^ k → Octets zs → rdN k u zs = (v, s, 0) → ∃ x, v = u + x * 128 ^ k ∧ (0 < k → 0 < x) ∧ k < s ∧ sev (10 - k) x = zs.take (s - k)
  | [], k, u, v, s, _, _, _, h => by rw [rdN_nil] at h; simp at h
  | p :: ps, k, u, v, s, hk, hu, ho, h => by
    have hp := ho p (List.mem_cons_self ..)
    by_cases hf : (0 < k ∧ p = 0) ∨ (k = 9 ∧ 1 < p)
    · rw [rdN_form hf] at h; simp at h
    · have hs := step_lt hk hu hp.1 hp.2 hf
      obtain ⟨P, rfl⟩ := Int.eq_ofNat_of_zero_le hp.1
      obtain ⟨f, hfk⟩ : ∃ f, 10 - k = f + 1 := ⟨9 - k, by omega⟩
      rw [hfk]
      by_cases hl : (P : Int) < 128
      · rw [rdN_last hf hl] at h
        injection h with h1 h2
        injection h2 with h2 _
        have e : ((P : Int) % 128).toNat = P := by omega
        refine ⟨P, by rw [← h1, e], by omega, by omega, ?_⟩
        have e2 : s - k = 1 := by omega
        rw [sev_last (by omega), e2]; rfl
      · rw [rdN_more hf hl] at h
        have hk9 : k < 9 := by omega
        obtain ⟨x, hx, hx0, hks, hsev⟩ := rdN_back ps (k + 1) _ v s (by omega) (hs.2 hk9) (fun z hz => ho z (List.mem_cons_of_mem _ hz)) h
        have e : ((P : Int) % 128).toNat = P - 128 := by omega
        have hxp := hx0 (by omega)
        refine ⟨P - 128 + 128 * x, ?_, by omega, by omega, ?_⟩
        · rw [hx, e]
          have hs : (128 : Nat) ^ (k + 1) = 128 * 128 ^ k := by rw [Nat.pow_succ, Nat.mul_comm]
          rw [hs, Nat.add_mul, Nat.mul_comm 128 x, Nat.mul_assoc]; omega
        · rw [sev_more (by omega)]
          have e1 : (P - 128 + 128 * x) % 128 + 128 = P := by omega
          have e2 : (P - 128 + 128 * x) / 128 = x := by omega
          have e3 : 10 - (k + 1) = f := by omega
          obtain ⟨j, hj⟩ : ∃ j, s - k = j + 1 := ⟨s - k - 1, by omega⟩
          have e4 : s - (k + 1) = j := by omega
          rw [e3, e4] at hsev
          rw [e1, e2, hsev, hj, List.take_succ_cons]
theorem rd_back {zs : List Int} (ho : Octets zs) (h : rdE zs = 0) : num7 (rdV zs) = zs.take (rdS zs) := by
  obtain ⟨x, hx, _, _, hs⟩ := rdN_back zs 0 0 (rdN 0 0 zs).1 (rdN 0 0 zs).2.1 (by omega) (by simp) ho (Prod.ext rfl (Prod.ext rfl h))
  have hx' : (rdN 0 0 zs).1 = x := by rw [hx, Nat.pow_zero]; omega
  have hv : zigN (rdV zs) = x := by
    unfold zigN rdV
    rw [zig_zag _ (by omega), hx']; rfl
  unfold num7 rdS
  rw [hv, hs, Nat.sub_zero]
/-- Two numbers of the same bytes are the same. -/
theorem num7_inj {a b : Int} (a0 : -9223372036854775808 ≤ a) (a1 : a ≤ 9223372036854775807) (b0 : -9223372036854775808 ≤ b) (b1 : b ≤ 9223372036854775807) (h : num7 a = num7 b) : a = b := by
  have h1 := (rd_num7 a [] a0 a1).1
  have h2 := (rd_num7 b [] b0 b1).1
  rw [← h1, ← h2, h]
theorem num7_mono {a b : Int} (h0 : 0 ≤ a) (h : a ≤ b) : (num7 a).length ≤ (num7 b).length := by
  refine sev_mono 10 _ _ ?_
  unfold zigN zigI
  rw [if_neg (by omega), if_neg (by omega)]; omega
end Go.Proofs.Ytjkdccokiaejhaa
/- What the scalar functions that package pack and the document's own answer stand on come to. Conditions: the bounds of the arguments' kinds. -/
namespace Go.Proofs.Ytjkdccokiaejhaa
set_option maxRecDepth 100000
open Go.RowKit
theorem i64_xor_neg (n : Int) (h0 : -9223372036854775808 ≤ n) (h1 : n ≤ 9223372036854775807) : bits .xor .i64 (-1) n = -1 - n := by
  show IntKind.i64.wrap ((BitVec.ofInt 64 (-1) ^^^ BitVec.ofInt 64 n).toNat : Int) = _
  have h2 : BitVec.ofInt 64 (-1) = BitVec.allOnes 64 := by decide
  rw [h2, BitVec.allOnes_xor, BitVec.toNat_not, BitVec.toNat_ofInt, IntKind.wrap_i64]
  omega
theorem or_one (x : Int) (h0 : 0 ≤ x) (h1 : x ≤ 9223372036854775807) : bits .or .u64 (x * 2) 1 = 2 * x + 1 := by
  obtain ⟨X, rfl⟩ := Int.eq_ofNat_of_zero_le h0
  have e : ((X : Int) * 2) = ((X * 2 : Nat) : Int) := by omega
  have h := u64_or_nat (X * 2) 1 (by omega) (by omega)
  rw [e]
  refine h.trans ?_
  rw [nat_join 1 (X * 2) 1 (by omega) (by omega)]
  omega
theorem and_one (u : Int) (h0 : 0 ≤ u) (h1 : u ≤ 18446744073709551615) : bits .and .u64 u 1 = u % 2 := by
  obtain ⟨U, rfl⟩ := Int.eq_ofNat_of_zero_le h0
  have h := u64_and_nat U 1 (by omega) (by omega)
  refine h.trans ?_
  rw [Nat.and_one_is_mod]; rfl
theorem and_127 (u : Nat) (h : u < 18446744073709551616) : bits .and .u64 (u : Int) 127 = (u % 128 : Nat) := by
  have e := u64_and_nat u 127 h (by omega)
  refine e.trans ?_
  exact congrArg _ (Nat.and_two_pow_sub_one_eq_mod u 7)
theorem or_128 (u : Nat) (h : u < 128) : bits .or .u64 (u : Int) 128 = (u + 128 : Nat) := by
  have e := u64_or_nat u 128 (by omega) (by omega)
  refine e.trans ?_
  rw [Nat.or_comm, ← Nat.two_pow_add_eq_or_of_lt (i := 7) h 1]
  omega
theorem or8_128 (u : Nat) (h : u < 128) : bits .or .u8 (u : Int) 128 = (u + 128 : Nat) := by
  have e := u8_or_nat u 128 (by omega) (by omega)
  refine e.trans ?_
  rw [Nat.or_comm, ← Nat.two_pow_add_eq_or_of_lt (i := 7) h 1]
  omega
theorem and8_127 (u : Nat) (h : u < 256) : bits .and .u8 (u : Int) 127 = (u % 128 : Nat) := by
  have e := u8_and_nat u 127 h (by omega)
  refine e.trans ?_
  exact congrArg _ (Nat.and_two_pow_sub_one_eq_mod u 7)
end Go.Proofs.Ytjkdccokiaejhaa
/- What Num, Text and Flag come to, package pack's and the document's own. Conditions: the slice lies in memory and holds bytes, lengths have room. -/
namespace Go.Proofs.Ytjkdccokiaejhaa
set_option maxRecDepth 100000
open Go.RowKit
/-- append of a slice that lies anywhere onto a row that has room for it. -/
theorem lies_fits {w : World} {A : Option Addr} {zs : List Int} (h : Lies w A zs) : ∀ ad : Addr, A = some ad → ∀ j u, (cellsOf zs)[j]? = some u → w.cell? (ad.add j) = some u := by
  rintro ad rfl j u hj
  obtain ⟨hk, _⟩ := cellsOf_some hj
  obtain ⟨b, off, e, _⟩ := h (by omega)
  injection e with e
  subst e
  exact Lies.cells h j u hj
theorem room_of {f v : Nat} (hf : f ≤ 9) (h : v < 2 * 128 ^ f) : v < 18446744073709551616 := by
  have := pow128_le hf; omega
theorem room_start {m : Int} (h0 : -9223372036854775808 ≤ m) (h1 : m ≤ 9223372036854775807) : zigN m < 2 * 128 ^ 9 := by
  have := zigN_lt m h0 h1; rw [pow128_9]; omega
theorem room_step {f v : Nat} (h : v < 2 * 128 ^ f) (hv : 128 ≤ v) : ∃ g, f = g + 1 ∧ v / 128 < 2 * 128 ^ g := by
  match f with
  | 0 => simp at h; omega
  | g + 1 => exact ⟨g, rfl, by rw [Nat.pow_succ] at h; omega⟩
/-- A string's bytes. -/
def strL (s : ByteArray) : List Int := s.data.toList.map fun b => (b.toNat : Int)
theorem length_strL (s : ByteArray) : (strL s).length = s.size := by unfold strL; rw [List.length_map]; rfl
theorem octets_strL (s : ByteArray) : Octets (strL s) := fun z hz => by
  unfold strL at hz
  obtain ⟨b, _, rfl⟩ := List.mem_map.1 hz
  have := b.toNat_lt
  omega
theorem cells_strL (s : ByteArray) : cellsOf (strL s) = Go.Lib.strCells s := by
  unfold cellsOf strL Go.Lib.strCells; rw [List.map_map]; rfl
/-- A text's bytes. -/
def text7 (s : ByteArray) : List Int := num7 s.size ++ strL s
theorem text7_len (s : ByteArray) : (text7 s).length = (num7 s.size).length + s.size := by unfold text7; rw [List.length_append, length_strL]
end Go.Proofs.Ytjkdccokiaejhaa
/- What Flag comes to, package pack's and the document's own, and word's Put and Get of one byte. Conditions: the slice lies in memory and holds bytes, lengths have room. -/
namespace Go.Proofs.Ytjkdccokiaejhaa
set_option maxRecDepth 100000
open Go.RowKit
theorem shl_zero (z : Int) (h0 : 0 ≤ z) (h1 : z ≤ 255) : bits .or .u64 0 z = z := by
  obtain ⟨Z, rfl⟩ := Int.eq_ofNat_of_zero_le h0
  have e := u64_or_nat 0 Z (by omega) (by omega)
  refine e.trans ?_
  rw [Nat.zero_or]
/-- The one byte that Get reads. -/
def get1V (zs : List Int) (i : Nat) : Int := if i < zs.length then ix zs i else 0
def get1E (zs : List Int) (i : Nat) : Int := if i < zs.length then 0 else 3
end Go.Proofs.Ytjkdccokiaejhaa
/- What number and count of package pack come to. Conditions: the slice lies in memory and holds bytes, its length has room. -/
namespace Go.Proofs.Ytjkdccokiaejhaa
set_option maxRecDepth 100000
open Go.RowKit
theorem or_step {v q k : Nat} (hv : v < 128 ^ k) (h : v + q * 128 ^ k < 18446744073709551616) :
    bits .or .u64 (v : Int) (IntKind.u64.wrap ((q : Int) * 2 ^ (k * 7))) = ((v + q * 128 ^ k : Nat) : Int) := by
  have e : (q : Int) * 2 ^ (k * 7) = ((q * 128 ^ k : Nat) : Int) := by
    rw [Int.natCast_mul, Int.natCast_pow, Nat.mul_comm k 7, Int.pow_mul]; rfl
  rw [e, IntWalk.u64_in _ ⟨by omega, by omega⟩, u64_or_nat v _ (by omega) (by omega)]
  rw [pow128_two] at *
  rw [Nat.mul_comm q, Nat.or_comm, ← Nat.two_pow_add_eq_or_of_lt hv, Nat.add_comm]
theorem drop_ix {zs : List Int} {k : Nat} (h : k < zs.length) : zs.drop k = ix zs k :: zs.drop (k + 1) := by
  rw [List.drop_eq_getElem_cons h, ix_lt zs h]
theorem ret_three {k l m : IntKind} {a b c d x y : Int} (h : a = b) (g : c = d) (i : x = y) : Ending.returned (.tuple #[.int k a, .int l c, .int m x]) = .returned (.tuple #[.int k b, .int l d, .int m y]) := by rw [h, g, i]
theorem rd_of {zs : List Int} {v s : Nat} {e : Int} (h : rdN 0 0 zs = (v, s, e)) : rdV zs = zagI v ∧ rdS zs = s ∧ rdE zs = e := by
  unfold rdV rdS rdE; rw [h]; exact ⟨rfl, rfl, rfl⟩
theorem rd_none {zs : List Int} {e : Int} (h : rdN 0 0 zs = (0, 0, e)) : rdV zs = 0 ∧ ((rdS zs : Nat) : Int) = 0 ∧ rdE zs = e := by
  obtain ⟨a, b, c⟩ := rd_of h
  exact ⟨a, by rw [b]; rfl, c⟩
/-- What the tests of a byte say. -/
theorem tests {k : Nat} {p : Int} (hk : k ≤ 9) (h : ¬ ((0 < k ∧ p = 0) ∨ (k = 9 ∧ 1 < p))) :
    (decide (0 < k) = false ∧ decide (0 < (k : Int)) = false ∧ ((k : Int) == 9) = false) ∨ (decide (0 < k) = true ∧ decide (0 < (k : Int)) = true ∧ (p == 0) = false ∧ ((k : Int) == 9) = false) ∨
    (decide (0 < k) = true ∧ decide (0 < (k : Int)) = true ∧ (p == 0) = false ∧ ((k : Int) == 9) = true ∧ decide (1 < p) = false) := by
  by_cases h0 : k = 0
  · left; subst h0; exact ⟨by decide, by decide, by decide⟩
  · right
    have a : decide (0 < (k : Int)) = true := by rw [decide_eq_true_iff]; omega
    have a' : decide (0 < k) = true := by rw [decide_eq_true_iff]; omega
    have b : (p == 0) = false := by rw [beq_eq_false_iff_ne]; omega
    by_cases h9 : k = 9
    · right; subst h9; exact ⟨a', a, b, by decide, by rw [decide_eq_false_iff_not]; omega⟩
    · left; exact ⟨a', a, b, by rw [beq_eq_false_iff_ne]; omega⟩
theorem tests_bad {k : Nat} {p : Int} (h : (0 < k ∧ p = 0) ∨ (k = 9 ∧ 1 < p)) :
    (decide (0 < k) = true ∧ decide (0 < (k : Int)) = true ∧ (p == 0) = true) ∨ (decide (0 < k) = true ∧ decide (0 < (k : Int)) = true ∧ (p == 0) = false ∧ ((k : Int) == 9) = true ∧ decide (1 < p) = true) := by
  by_cases hp : p = 0
  · left; exact ⟨by rw [decide_eq_true_iff]; omega, by rw [decide_eq_true_iff]; omega, by rw [hp]; rfl⟩
  · right
    obtain ⟨rfl, h1⟩ : k = 9 ∧ 1 < p := by omega
    exact ⟨by decide, by decide, by rw [beq_eq_false_iff_ne]; omega, by decide, by rw [decide_eq_true_iff]; omega⟩
end Go.Proofs.Ytjkdccokiaejhaa
/- A reader behind a pointer: its bytes, its place, its error; what becomes of it when other memory is written; what each call comes to, in plain words. No condition. -/
namespace Go.Proofs.Ytjkdccokiaejhaa
set_option maxRecDepth 100000
open Go.RowKit
/-- Bytes that lie below block B. -/
def Deep (w : World) (B : Nat) (A : Option Addr) (zs : List Int) : Prop :=
  0 < zs.length → ∃ b off, A = some ⟨b, off, none⟩ ∧ b < B ∧ ∀ k, k < zs.length → w.cell? ⟨b, off + k, none⟩ = some (.int .u8 (ix zs k))
theorem Deep.keep {w w' : World} {B : Nat} {A : Option Addr} {zs : List Int} (h : Deep w B A zs) (hb : ∀ k, k < B → w'.heap[k]? = w.heap[k]?) : Deep w' B A zs := fun hn => by
  obtain ⟨b, off, e, hlt, hc⟩ := h hn
  exact ⟨b, off, e, hlt, fun k hk => (World.cell?_of_block (w := w) (a := ⟨b, off + k, none⟩) (hb b hlt)).trans (hc k hk)⟩
theorem Deep.lies {w : World} {B : Nat} {A : Option Addr} {zs : List Int} (h : Deep w B A zs) (hB : B ≤ w.heap.size) : Lies w A zs := fun hn => by
  obtain ⟨b, off, e, hlt, hc⟩ := h hn
  exact ⟨b, off, e, by omega, hc⟩
theorem Lies.deep {w : World} {A : Option Addr} {zs : List Int} (h : Lies w A zs) : Deep w w.heap.size A zs := h


/-- The reader at block g (of type t): bytes zs that lie below block B, place i, error e. -/
structure Rdr (t : TypeId) (w : World) (B g : Nat) (zs : List Int) (i : Nat) (e : Int) : Prop where
  row : ∃ A n c, Row w g t #[.slice A n c, .int .i64 i, .int .i64 e] ∧ zs.length = n ∧ n ≤ c ∧ n ≤ 4611686018427387904 ∧ Deep w B A zs
  oct : Octets zs
  here : i ≤ zs.length
  low : B ≤ g
  err : 0 ≤ e ∧ e ≤ 9
section
variable {t : TypeId} {w w' : World} {B g i : Nat} {zs : List Int} {e : Int}
theorem Rdr.keep (h : Rdr t w B g zs i e) (hb : ∀ k, k < B → w'.heap[k]? = w.heap[k]?) (hg : w'.heap[g]? = w.heap[g]?) : Rdr t w' B g zs i e := by
  obtain ⟨⟨A, n, c, hr, h1, h2, h3, hd⟩, ho, hi, hl, he⟩ := h
  exact ⟨⟨A, n, c, hg.trans hr, h1, h2, h3, hd.keep hb⟩, ho, hi, hl, he⟩
theorem Rdr.lt (h : Rdr t w B g zs i e) : g < w.heap.size := by
  obtain ⟨⟨A, n, c, hr, _⟩, _⟩ := h
  exact hr.lt
theorem Rdr.drewN (h : Rdr t w B g zs i e) (n : Nat) : Rdr t (w.drewN n) B g zs i e := h.keep (fun _ _ => rfl) rfl
theorem Rdr.below (h : Rdr t w B g zs i e) (hb : Below w.heap.size w w') : Rdr t w' B g zs i e :=
  have hl := h.lt
  have hB := h.low
  h.keep (fun k hk => hb.block k (by omega)) (hb.block g hl)
theorem Rdr.alloc (h : Rdr t w B g zs i e) (o : Obj) : Rdr t (w.alloc o) B g zs i e := h.below ((Below.refl _ _).alloc (Nat.le_refl _) o)
theorem Rdr.far {k : Nat} (h : Rdr t w B g zs i e) (hg : w.grownBy w' (some k)) (hk : k ≠ g) (hB : B ≤ k) : Rdr t w' B g zs i e :=
  have hl := h.lt
  have hBg := h.low
  h.keep (fun j hj => hg.block j (by omega) (fun e => by injection e; omega)) (hg.block g hl (fun e => by injection e; omega))
theorem Rdr.place (h : Rdr t w B g zs i e) {j : Nat} (hj : j ≤ zs.length) : Rdr t (w.setCell ⟨g, 1, none⟩ (.int .i64 j)) B g zs j e := by
  obtain ⟨⟨A, n, c, hr, h1, h2, h3, hd⟩, ho, hi, hl, he⟩ := h
  exact ⟨⟨A, n, c, hr.put 1 _, h1, h2, h3, hd.keep fun k hk => Below.heap_setCell _ _ _ _ (by show k ≠ g; omega)⟩, ho, hj, hl, he⟩
theorem Rdr.wrong (h : Rdr t w B g zs i e) {y : Int} (hy : 0 ≤ y ∧ y ≤ 9) : Rdr t (w.setCell ⟨g, 2, none⟩ (.int .i64 y)) B g zs i y := by
  obtain ⟨⟨A, n, c, hr, h1, h2, h3, hd⟩, ho, hi, hl, he⟩ := h
  exact ⟨⟨A, n, c, hr.put 2 _, h1, h2, h3, hd.keep fun k hk => Below.heap_setCell _ _ _ _ (by show k ≠ g; omega)⟩, ho, hi, hl, hy⟩
/-- What a walk needs of a reader. -/
theorem Rdr.cells (h : Rdr t w B g zs i e) : ∃ A c, w.cell? ⟨g, 0, none⟩ = some (.slice A zs.length c) ∧ w.cell? ⟨g, 1, none⟩ = some (.int .i64 i) ∧ w.cell? ⟨g, 2, none⟩ = some (.int .i64 e) ∧
    w.frozen? ⟨g, 1, none⟩ = false ∧ w.frozen? ⟨g, 2, none⟩ = false ∧ zs.length ≤ c ∧ zs.length ≤ 4611686018427387904 ∧ Lies w A zs := by
  have hl := h.lt
  obtain ⟨⟨A, n, c, hr, rfl, h2, h3, hd⟩, ho, hi, hlo, he⟩ := h
  exact ⟨A, c, hr.cell 0, hr.cell 1, hr.cell 2, hr.free 1, hr.free 2, h2, h3, hd.lies (by omega)⟩
/-- The same, and where the bytes lie. -/
theorem Rdr.deeps (h : Rdr t w B g zs i e) : ∃ A c, w.cell? ⟨g, 0, none⟩ = some (.slice A zs.length c) ∧ w.cell? ⟨g, 1, none⟩ = some (.int .i64 i) ∧ w.cell? ⟨g, 2, none⟩ = some (.int .i64 e) ∧
    w.frozen? ⟨g, 1, none⟩ = false ∧ w.frozen? ⟨g, 2, none⟩ = false ∧ zs.length ≤ c ∧ zs.length ≤ 4611686018427387904 ∧ Deep w B A zs := by
  obtain ⟨⟨A, n, c, hr, rfl, h2, h3, hd⟩, ho, hi, hlo, he⟩ := h
  exact ⟨A, c, hr.cell 0, hr.cell 1, hr.cell 2, hr.free 1, hr.free 2, h2, h3, hd⟩
theorem Deep.far {A : Option Addr} {ys : List Int} (h : Deep w B A ys) (hg : w.grownBy w' (some g)) (hB : B ≤ g) (hl : g < w.heap.size) : Lies w' A ys :=
  (h.keep (w' := w') fun j hj => hg.block j (by omega) (fun e => by injection e; omega)).lies (by have := hg.size; omega)
end

/-! ### What each call comes to: the error, the answer, the place -/
def rNumE (zs : List Int) (i : Nat) (e : Int) : Int := if e = 0 then rdE (zs.drop i) else e
def rNumV (zs : List Int) (i : Nat) (e : Int) : Int := if rNumE zs i e = 0 then rdV (zs.drop i) else 0
def rNumA (zs : List Int) (i : Nat) (e : Int) : Nat := if rNumE zs i e = 0 then i + rdS (zs.drop i) else i
def cntE (ys : List Int) (m : Int) : Int := if rdE ys = 0 then (if rdV ys < 0 ∨ m < rdV ys then 2 else 0) else rdE ys
def cntV (ys : List Int) (m : Int) : Int := if cntE ys m = 0 then rdV ys else 0
def cntS (ys : List Int) (m : Int) : Nat := if cntE ys m = 0 then rdS ys else 0
/-- The first of two errors. -/
def erst (e y : Int) : Int := if e = 0 then y else e
theorem erst_zero (y : Int) : erst 0 y = y := by unfold erst; rw [if_pos rfl]
theorem erst_pos {e : Int} (h : e ≠ 0) (y : Int) : erst e y = e := by unfold erst; rw [if_neg h]
def rCntE (zs : List Int) (i : Nat) (e m : Int) : Int := if e = 0 then cntE (zs.drop i) m else e
def rCntV (zs : List Int) (i : Nat) (e m : Int) : Int := if rCntE zs i e m = 0 then rdV (zs.drop i) else 0
def rCntA (zs : List Int) (i : Nat) (e m : Int) : Nat := if rCntE zs i e m = 0 then i + rdS (zs.drop i) else i
def txtE (ys : List Int) (m : Int) : Int := if cntE ys m = 0 then (if (ys.length : Int) - (rdS ys : Nat) < rdV ys then 3 else 0) else cntE ys m
def rTxtE (zs : List Int) (i : Nat) (e m : Int) : Int := if e = 0 then txtE (zs.drop i) m else e
def rTxtV (zs : List Int) (i : Nat) (e m : Int) : List Int := if rTxtE zs i e m = 0 then ((zs.drop i).drop (rdS (zs.drop i))).take (rdV (zs.drop i)).toNat else []
def rTxtA (zs : List Int) (i : Nat) (e m : Int) : Nat := if rTxtE zs i e m = 0 then i + rdS (zs.drop i) + (rdV (zs.drop i)).toNat else i
def rFlgE (zs : List Int) (i : Nat) (e : Int) : Int := if e = 0 then (if i < zs.length then (if 1 < ix zs i then 4 else 0) else 3) else e
def rFlgV (zs : List Int) (i : Nat) (e : Int) : Bool := decide (rFlgE zs i e = 0 ∧ ix zs i = 1)
def rFlgA (zs : List Int) (i : Nat) (e : Int) : Nat := if rFlgE zs i e = 0 then i + 1 else i
def rEndE (zs : List Int) (i : Nat) (e : Int) : Int := if e = 0 then (if i < zs.length then 5 else 0) else e
def rFailE (e : Int) : Int := if e = 0 then 4 else e
/-- The bytes as a string. -/
def strOf (zs : List Int) : ByteArray := ⟨(zs.map fun z => UInt8.ofNat z.toNat).toArray⟩
theorem str_strL (s : ByteArray) : strOf (strL s) = s := by
  obtain ⟨l⟩ := s
  unfold strOf strL
  congr 1
  rw [List.map_map]
  apply Array.ext'
  rw [List.toList_toArray]
  have : ∀ bs : List UInt8, List.map ((fun z : Int => UInt8.ofNat z.toNat) ∘ fun b => (b.toNat : Int)) bs = bs := by
    intro bs
    induction bs with
    | nil => rfl
    | cons b bs ih => rw [List.map_cons, ih]; congr 1; simp
  exact this l.toList
theorem octets_drop {zs : List Int} (h : Octets zs) (k : Nat) : Octets (zs.drop k) := fun z hz => h z (List.mem_of_mem_drop hz)
theorem octets_take {zs : List Int} (h : Octets zs) (k : Nat) : Octets (zs.take k) := fun z hz => h z (List.mem_of_mem_take hz)
theorem cntE_bounds {ys : List Int} (ho : Octets ys) (m : Int) : 0 ≤ cntE ys m ∧ cntE ys m ≤ 4 := by
  have := rd_bounds ho
  unfold cntE; split
  · split <;> omega
  · omega
theorem txtE_bounds {ys : List Int} (ho : Octets ys) (m : Int) : 0 ≤ txtE ys m ∧ txtE ys m ≤ 4 := by
  have := cntE_bounds ho m
  unfold txtE; split
  · split <;> omega
  · omega
end Go.Proofs.Ytjkdccokiaejhaa
/- Attributes as bytes, and what is read of bytes, in plain words. No program is spoken of. -/
namespace Go.Proofs.Ytjkdccokiaejhaa
set_option maxRecDepth 100000
open Go.RowKit
/-- Numbers one behind the other. -/
def encN (l : List Int) : List Int := l.flatMap num7
/-- So many numbers are read one behind the other: the place, the error. -/
def stN (zs : List Int) : Nat → Int → Nat → Nat × Int
  | i, e, 0 => (i, e)
  | i, e, n + 1 => stN zs (rNumA zs i e) (rNumE zs i e) n
/-- The n-th of them. -/
def valN (zs : List Int) (i : Nat) (e : Int) (n : Nat) : Int := rNumV zs (stN zs i e n).1 (stN zs i e n).2
theorem stN_last (zs : List Int) : ∀ (n : Nat) (i : Nat) (e : Int), stN zs i e (n + 1) = (rNumA zs (stN zs i e n).1 (stN zs i e n).2, rNumE zs (stN zs i e n).1 (stN zs i e n).2)
  | 0, _, _ => rfl
  | n + 1, i, e => stN_last zs n (rNumA zs i e) (rNumE zs i e)
theorem valN_succ (zs : List Int) (i : Nat) (e : Int) (n : Nat) : valN zs i e (n + 1) = valN zs (rNumA zs i e) (rNumE zs i e) n := rfl
theorem encN_cons (x : Int) (l : List Int) : encN (x :: l) = num7 x ++ encN l := rfl
theorem encN_len : ∀ l : List Int, l.length ≤ (encN l).length ∧ (encN l).length ≤ 10 * l.length
  | [] => by simp [encN]
  | x :: r => by
    have := encN_len r
    have h7 := num7_len x
    rw [encN_cons, List.length_append, List.length_cons]
    omega
theorem octets_encN : ∀ l : List Int, Octets (encN l)
  | [] => fun _ h => by cases h
  | x :: r => fun z hz => by
    rw [encN_cons] at hz
    exact (List.mem_append.1 hz).elim (octets_num7 x z) (octets_encN r z)
/-- What is read of a number that stands there. -/
theorem num_there {zs : List Int} {i : Nat} {x : Int} {ys : List Int} (h : zs.drop i = num7 x ++ ys) (hx : I64 x) : rNumE zs i 0 = 0 ∧ rNumV zs i 0 = x ∧ rNumA zs i 0 = i + (num7 x).length := by
  obtain ⟨h1, h2, h3⟩ := rd_num7 x ys hx.1 hx.2
  have e : rNumE zs i 0 = 0 := by unfold rNumE; rw [if_pos rfl, h, h3]
  refine ⟨e, ?_, ?_⟩
  · unfold rNumV; rw [if_pos e, h, h1]
  · unfold rNumA; rw [if_pos e, h, h2]
theorem drop_more {zs a b : List Int} {i : Nat} (h : zs.drop i = a ++ b) : zs.drop (i + a.length) = b := by
  rw [← List.drop_drop, h, List.drop_left]
/-- All of them are there. -/
theorem read_there (zs : List Int) : ∀ (l : List Int) (i : Nat) (ys : List Int), zs.drop i = encN l ++ ys → (∀ x, x ∈ l → I64 x) → stN zs i 0 l.length = (i + (encN l).length, 0) ∧ ∀ k, k < l.length → valN zs i 0 k = ix l k
  | [], i, _, _, _ => ⟨rfl, fun k hk => absurd hk (by simp)⟩
  | x :: r, i, ys, h, hl => by
    rw [encN_cons, List.append_assoc] at h
    obtain ⟨h1, h2, h3⟩ := num_there h (hl x (by simp))
    obtain ⟨g1, g2⟩ := read_there zs r (i + (num7 x).length) ys (drop_more h) (fun y hy => hl y (by simp [hy]))
    refine ⟨?_, fun k hk => ?_⟩
    · show stN zs (rNumA zs i 0) (rNumE zs i 0) r.length = _
      rw [h1, h3, g1, encN_cons, List.length_append, Nat.add_assoc]
    · cases k with
      | zero => exact h2
      | succ k =>
        rw [valN_succ, h1, h3]
        exact g2 k (by simpa using hk)
theorem stN_wrong (zs : List Int) {e : Int} (he : e ≠ 0) : ∀ (n i : Nat), (stN zs i e n).2 = e
  | 0, _ => rfl
  | n + 1, i => by
    have h : rNumE zs i e = e := by unfold rNumE; rw [if_neg he]
    show (stN zs (rNumA zs i e) (rNumE zs i e) n).2 = e
    rw [h]
    exact stN_wrong zs he n _
/-- They are cut off somewhere. -/
theorem read_cut (zs : List Int) : ∀ (l : List Int) (i q : Nat), zs.drop i = (encN l).take q → q < (encN l).length → (∀ x, x ∈ l → I64 x) → (stN zs i 0 l.length).2 = 3
  | [], i, q, _, h, _ => by simp [encN] at h
  | x :: r, i, q, h, hq, hl => by
    rw [encN_cons] at h hq
    by_cases hc : q < (num7 x).length
    · rw [List.take_append_of_le_length (by omega)] at h
      have e : rNumE zs i 0 = 3 := by unfold rNumE; rw [if_pos rfl, h, rd_cut x q hc]
      show (stN zs (rNumA zs i 0) (rNumE zs i 0) r.length).2 = 3
      rw [e]
      exact stN_wrong zs (by omega) _ _
    · have h' : zs.drop i = num7 x ++ (encN r).take (q - (num7 x).length) := by rw [h, List.take_append, List.take_of_length_le (by omega)]
      obtain ⟨h1, _, h3⟩ := num_there h' (hl x (by simp))
      rw [List.length_append] at hq
      show (stN zs (rNumA zs i 0) (rNumE zs i 0) r.length).2 = 3
      rw [h1, h3]
      exact read_cut zs r _ _ (drop_more h') (by omega) (fun y hy => hl y (by simp [hy]))
/-- What Get reads: the numbers; the error; the answer. -/
def getL (zs : List Int) (i : Nat) (e : Int) : List Int := tab8 (valN zs i e)
def getOk (zs : List Int) (i : Nat) (e : Int) : Bool := rightA (ix (getL zs i e) 0) (getL zs i e).tail
def d_getE (zs : List Int) (i : Nat) (e : Int) : Int := if getOk zs i e then (stN zs i e 8).2 else rFailE (stN zs i e 8).2
def d_getV (zs : List Int) (i : Nat) (e : Int) : List Int := if d_getE zs i e = 0 then getL zs i e else zero8
theorem get_there {a : List Int} (h : Ok8 a) : getL (encN a) 0 0 = a ∧ stN (encN a) 0 0 8 = ((encN a).length, 0) := by
  obtain ⟨h1, h2⟩ := read_there (encN a) a 0 [] (by simp) h.ok
  rw [h.len] at h1 h2
  rw [Nat.zero_add] at h1
  exact ⟨(tab8_of h.len fun i hi => (h2 i hi).symm).symm, h1⟩
theorem get_cut {a : List Int} (h : Ok8 a) {q : Nat} (hq : q < (encN a).length) : d_getE ((encN a).take q) 0 0 = 3 ∧ d_getV ((encN a).take q) 0 0 = zero8 := by
  have h1 := read_cut ((encN a).take q) a 0 q (by simp) hq h.ok
  rw [h.len] at h1
  have e : d_getE ((encN a).take q) 0 0 = 3 := by
    unfold d_getE rFailE
    rw [h1]
    split
    · rfl
    · rfl
  refine ⟨e, ?_⟩
  unfold d_getV
  rw [e, if_neg (by omega)]
end Go.Proofs.Ytjkdccokiaejhaa
/- What the methods of package pack's reader come to. Conditions: the reader lies in memory as it must. -/
namespace Go.Proofs.Ytjkdccokiaejhaa
set_option maxRecDepth 100000
open Go.RowKit
section
variable {w : World} {B g i : Nat} {zs : List Int} {e : Int}
end
end Go.Proofs.Ytjkdccokiaejhaa
/- What Text, Flag, End and the small methods of package pack's reader come to. Conditions: the reader lies in memory as it must. -/
namespace Go.Proofs.Ytjkdccokiaejhaa
set_option maxRecDepth 100000
open Go.RowKit
section
variable {w : World} {B g i : Nat} {zs : List Int} {e : Int}
end
/-- A slice of bytes of the call's own, or nil. -/
theorem own_len {w : World} {base n : Nat} {A : Option Addr} {m c : Nat} {xs : List Value} (h : w.ownsRow base 5 1 (.slice A m c) n xs) : m = n ∧ n ≤ c := by
  rcases h.2 with ⟨hv, hx⟩ | ⟨g, cap, cur, hv, _, _, hnc, _⟩
  · injection hv with _ h2 h3
    subst h2 h3
    have := h.1
    rw [hx] at this
    simp at this
    omega
  · injection hv with _ h2 h3
    subst h2 h3
    exact ⟨rfl, hnc⟩
/-- A slice of these bytes, in new memory or nowhere. -/
def Cloned (w : World) (n : Nat) (zs : List Int) (e : Ending) (w' : World) : Prop := ∃ A' c', e = .returned (.slice A' n c') ∧ n ≤ c' ∧ Lies w' A' zs ∧ Below w.heap.size w w'
end Go.Proofs.Ytjkdccokiaejhaa
/- What is read of bytes, in an error monad: numbers, counts, texts, flags; there and back. No condition: nothing here speaks of a program. -/
namespace Go.Proofs.Ytjkdccokiaejhaa
open Go.RowKit
def flg7 (f : Bool) : List Int := [if f then 1 else 0]
/-- What is read: an error, or a thing and the place behind it. -/
abbrev Rdm (α : Type) := Except Int (α × Nat)
def bnd {α β : Type} (x : Rdm α) (f : α → Nat → Rdm β) : Rdm β := match x with
  | .ok (a, j) => f a j
  | .error e => .error e
def dNum (zs : List Int) (i : Nat) : Rdm Int := if rdE (zs.drop i) = 0 then .ok (rdV (zs.drop i), i + rdS (zs.drop i)) else .error (rdE (zs.drop i))
def dCnt (zs : List Int) (m : Int) (i : Nat) : Rdm Int := if cntE (zs.drop i) m = 0 then .ok (rdV (zs.drop i), i + rdS (zs.drop i)) else .error (cntE (zs.drop i) m)
def dTxt (zs : List Int) (m : Int) (i : Nat) : Rdm ByteArray := if txtE (zs.drop i) m = 0 then .ok (strOf (((zs.drop i).drop (rdS (zs.drop i))).take (rdV (zs.drop i)).toNat), i + rdS (zs.drop i) + (rdV (zs.drop i)).toNat) else .error (txtE (zs.drop i) m)
def flgE (zs : List Int) (i : Nat) : Int := if i < zs.length then (if 1 < ix zs i then 4 else 0) else 3
def dFlg (zs : List Int) (i : Nat) : Rdm Bool := if flgE zs i = 0 then .ok (decide (ix zs i = 1), i + 1) else .error (flgE zs i)
/-! ### There -/
section
variable {zs ys : List Int} {i : Nat}
theorem drop_next {e : List Int} (hd : zs.drop i = e ++ ys) : zs.drop (i + e.length) = ys := by rw [← List.drop_drop, hd, List.drop_left]
theorem mnum_there (n : Int) (hd : zs.drop i = num7 n ++ ys) (h0 : -9223372036854775808 ≤ n) (h1 : n ≤ 9223372036854775807) : dNum zs i = .ok (n, i + (num7 n).length) := by
  obtain ⟨e1, e2, e3⟩ := rd_num7 n ys h0 h1
  unfold dNum
  rw [hd, if_pos e3, e1, e2]
theorem mcnt_there (n : Nat) (m : Int) (hd : zs.drop i = num7 n ++ ys) (h : (n : Int) ≤ m) (hm : m ≤ 9223372036854775807) : dCnt zs m i = .ok ((n : Int), i + (num7 n).length) := by
  obtain ⟨e1, e2, e3⟩ := rd_num7 n ys (by omega) (by omega)
  have ec : cntE (zs.drop i) m = 0 := by unfold cntE; rw [hd, e3, if_pos rfl, e1, if_neg (by omega)]
  unfold dCnt
  rw [if_pos ec, hd, e1, e2]
theorem mtxt_there (s : ByteArray) (m : Int) (hd : zs.drop i = text7 s ++ ys) (hs : (s.size : Int) ≤ m) (hm : m ≤ 9223372036854775807) : dTxt zs m i = .ok (s, i + (text7 s).length) := by
  have hd' : zs.drop i = num7 (s.size : Int) ++ (strL s ++ ys) := by rw [hd]; unfold text7; rw [List.append_assoc]
  obtain ⟨e1, e2, e3⟩ := rd_num7 (s.size : Int) (strL s ++ ys) (by omega) (by omega)
  have ec : cntE (zs.drop i) m = 0 := by unfold cntE; rw [hd', e3, if_pos rfl, e1, if_neg (by omega)]
  have et : txtE (zs.drop i) m = 0 := by
    unfold txtE
    rw [ec, if_pos rfl, hd', e1, e2, List.length_append, List.length_append, length_strL, if_neg (by omega)]
  unfold dTxt
  rw [if_pos et, hd', e1, e2, List.drop_left, Int.toNat_natCast, ← length_strL, List.take_left, str_strL, text7_len, length_strL, Nat.add_assoc]
theorem mflg_there (f : Bool) (hd : zs.drop i = flg7 f ++ ys) : dFlg zs i = .ok (f, i + (flg7 f).length) := by
  have hi : i < zs.length := by
    rcases Nat.lt_or_ge i zs.length with h | h
    · exact h
    · rw [List.drop_of_length_le h] at hd; cases f <;> cases hd
  have hx : ix zs i = if f then 1 else 0 := by
    rw [List.drop_eq_getElem_cons hi] at hd
    rw [ix_lt zs hi]
    cases f
    · injection hd
    · injection hd
  have he : flgE zs i = 0 := by unfold flgE; rw [if_pos hi, hx]; cases f <;> rfl
  unfold dFlg
  rw [if_pos he, hx]
  cases f <;> rfl
end
/-! ### An error is never nought -/
def Nz {α : Type} (x : Rdm α) : Prop := ∀ e, x = .error e → e ≠ 0
theorem Nz.ok {α : Type} (v : α × Nat) : Nz (.ok v : Rdm α) := fun e h => by cases h
theorem Nz.bnd {α β : Type} {x : Rdm α} {f : α → Nat → Rdm β} (hx : Nz x) (hf : ∀ a j, Nz (f a j)) : Nz (bnd x f) := by
  unfold Go.Proofs.Ytjkdccokiaejhaa.bnd
  cases x with
  | error e => exact fun e' h => hx e' (by cases h; rfl)
  | ok v => obtain ⟨a, j⟩ := v; exact hf a j
theorem nz_if {α : Type} {y : Int} {v : α × Nat} : Nz (if y = 0 then .ok v else .error y : Rdm α) := by
  split
  · exact Nz.ok v
  · rename_i h
    exact fun e he => by cases he; exact h
theorem nz_num (zs : List Int) (i : Nat) : Nz (dNum zs i) := nz_if
theorem nz_cnt (zs : List Int) (m : Int) (i : Nat) : Nz (dCnt zs m i) := nz_if
theorem nz_txt (zs : List Int) (m : Int) (i : Nat) : Nz (dTxt zs m i) := nz_if
theorem nz_flg (zs : List Int) (i : Nat) : Nz (dFlg zs i) := nz_if
/-! ### Back -/
theorem bnd_ok {α β : Type} {x : Rdm α} {f : α → Nat → Rdm β} {v : β × Nat} (h : bnd x f = .ok v) : ∃ a j, x = .ok (a, j) ∧ f a j = .ok v := by
  unfold bnd at h
  cases x with
  | error e => cases h
  | ok w => obtain ⟨a, j⟩ := w; exact ⟨a, j, rfl, h⟩
theorem strL_strOf {x : List Int} (h : Octets x) : strL (strOf x) = x ∧ (strOf x).size = x.length := by
  constructor
  · unfold strL strOf
    rw [List.toList_toArray, List.map_map]
    conv => rhs; rw [← List.map_id x]
    apply List.map_congr_left
    intro z hz
    obtain ⟨h0, h1⟩ := h z hz
    show ((UInt8.ofNat z.toNat).toNat : Int) = z
    rw [UInt8.toNat_ofNat']
    omega
  · unfold strOf
    show (List.toArray _).size = _
    simp
section
variable {zs : List Int} {i j : Nat}
theorem mnum_back (hz : Octets zs) {n : Int} (h : dNum zs i = .ok (n, j)) : zs.drop i = num7 n ++ zs.drop j ∧ -9223372036854775808 ≤ n ∧ n ≤ 9223372036854775807 := by
  unfold dNum at h
  split at h
  · rename_i he
    cases h
    have ho := octets_drop hz i
    have hb := rd_bounds ho
    refine ⟨?_, hb.1, hb.2.1⟩
    rw [rd_back ho he, ← List.drop_drop, List.take_append_drop]
  · cases h
theorem cnt_says {ys : List Int} {m : Int} (h : cntE ys m = 0) : rdE ys = 0 ∧ 0 ≤ rdV ys ∧ rdV ys ≤ m := by
  unfold cntE at h
  split at h
  · rename_i he
    split at h
    · cases h
    · rename_i hn
      exact ⟨he, by omega, by omega⟩
  · rename_i he
    exact absurd h he
theorem mcnt_back (hz : Octets zs) {m n : Int} (h : dCnt zs m i = .ok (n, j)) : zs.drop i = num7 n ++ zs.drop j ∧ 0 ≤ n ∧ n ≤ m := by
  unfold dCnt at h
  split at h
  · rename_i hc
    cases h
    obtain ⟨he, h0, h1⟩ := cnt_says hc
    have ho := octets_drop hz i
    refine ⟨?_, h0, h1⟩
    rw [rd_back ho he, ← List.drop_drop, List.take_append_drop]
  · cases h
theorem mtxt_back (hz : Octets zs) {m : Int} {s : ByteArray} (h : dTxt zs m i = .ok (s, j)) : zs.drop i = text7 s ++ zs.drop j := by
  unfold dTxt at h
  split at h
  · rename_i ht
    cases h
    have ho := octets_drop hz i
    generalize hy : zs.drop i = ys at ht ho ⊢
    have hc : cntE ys m = 0 ∧ (rdV ys ≤ (ys.length : Int) - (rdS ys : Nat)) := by
      unfold txtE at ht
      split at ht
      · rename_i hc
        split at ht
        · cases ht
        · exact ⟨hc, by omega⟩
      · rename_i hc
        exact absurd ht hc
    obtain ⟨he, h0, _⟩ := cnt_says hc.1
    have hb := rd_back ho he
    have hx : Octets ((ys.drop (rdS ys)).take (rdV ys).toNat) := octets_take (octets_drop ho _) _
    obtain ⟨x1, x2⟩ := strL_strOf hx
    have hl : ((ys.drop (rdS ys)).take (rdV ys).toNat).length = (rdV ys).toNat := by
      rw [List.length_take, List.length_drop]; omega
    unfold text7
    rw [x1, x2, hl, Int.toNat_of_nonneg h0, hb, ← List.drop_drop, ← List.drop_drop, hy, List.append_assoc, List.take_append_drop, List.take_append_drop]
  · cases h
theorem mflg_back (hz : Octets zs) {f : Bool} (h : dFlg zs i = .ok (f, j)) : zs.drop i = flg7 f ++ zs.drop j := by
  unfold dFlg at h
  split at h
  · rename_i he
    cases h
    unfold flgE at he
    split at he
    · rename_i hi
      split at he
      · cases he
      · rename_i h1
        have h0 := (hz.ix i).1
        rw [List.drop_eq_getElem_cons hi, ← ix_lt zs hi]
        show ix zs i :: zs.drop (i + 1) = flg7 _ ++ zs.drop (i + 1)
        have : flg7 (decide (ix zs i = 1)) = [ix zs i] := by
          unfold flg7
          by_cases e : ix zs i = 1
          · rw [decide_eq_true e, e]; rfl
          · rw [decide_eq_false e]
            have : ix zs i = 0 := by omega
            rw [this]; rfl
        rw [this]; rfl
    · cases he
  · cases h
end
end Go.Proofs.Ytjkdccokiaejhaa
