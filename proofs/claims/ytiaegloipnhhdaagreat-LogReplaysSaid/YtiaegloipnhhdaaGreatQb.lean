/- What Same comes to over two slices of bytes: are the lists the same. Conditions: each lies in memory, its length has room. -/
import Derived.Test.YtiaegloipnhhdaaGreatRows
import Derived.Test.YtiaegloipnhhdaaGreatQa
import Derived.LoopTactic
import Derived.BigQuiet
import Derived.Deep.QuietTactic
import Derived.WalkKit
import Derived.WalkSpells
import Derived.WalkLawsBesides
import Derived.Lib.AppendStr
import Derived.Deep.DeepCutAuto
import Derived.Laws.BytesArg
namespace Go.Proofs.YtiaegloipnhhdaaGreat
set_option maxRecDepth 100000
open Go.RowKit
theorem Tryz.info5 : (Tryz.prog.info? 5).map (fun i => (i.zero, i.size, i.bytes)) = some (some (.int .u8 0), 1, 1) := by kernel_rfl
set_option maxHeartbeats 400000 in
theorem same_any (A B : Option Addr) (n m c d : Nat) (zs ys : List Int) (w : World) (hn : zs.length = n) (hm : ys.length = m) (hz : Lies w A zs) (hy : Lies w B ys) (ln : n ≤ 4611686018427387904) (lm : m ≤ 4611686018427387904) :
    Calls Tryz.prog 18 #[.slice A n c, .slice B m d] w fun e w' => e = .returned (.bool (decide (zs = ys))) ∧ ∃ q, w' = w.drewN q := by
  subst hn hm
  by_cases hl : zs.length = ys.length
  · have hb : ((zs.length : Int) != (ys.length : Int)) = false := by rw [hl]; simp
    have HL := hide hl
    have l1 : zs.length ≤ ys.length := by omega
    have l2 : ys.length ≤ zs.length := by omega
    clear hl
    go_enter Tryz.func18, Tryz.ntmps18
    go_wp2
    go_loopw [5] (fun i wr => ∃ k q : Nat, k ≤ zs.length ∧ i = .int .i64 k ∧ wr = w.drewN q ∧ Hid (∀ j, j < k → ix zs j = ix ys j)) (fun i _ => zs.length - (intOf i).toNat)
    case atStart => exact ⟨0, 0, by omega, rfl, rfl, fun j hj => absurd hj (by omega)⟩
    case round =>
      obtain ⟨k, q, hk, rfl, rfl, hs⟩ := hrel
      by_cases hlt : k < zs.length
      · obtain ⟨b1, o1, rfl, _, hc1⟩ := hz.at_ hlt
        obtain ⟨b2, o2, rfl, _, hc2⟩ := hy.at_ (k := k) (by omega)
        have Hz := hide hz; have Hy := hide hy; clear hz hy
        by_cases he : ix zs k = ix ys k
        · have hbe : ((ix zs k : Int) != ix ys k) = false := by rw [he]; simp
          have HE := hide he; clear he
          go_wp2
          go_quiet (fail)
          go_wp2
          go_roundw
          case rel => exact ⟨k + 1, _, by omega, by go_num, rfl, fun j hj => by
            rcases Nat.lt_or_ge j k with h1 | h1
            · exact hs.out j h1
            · obtain rfl : j = k := by omega
              exact HE.out⟩
          case measure => simp [intOf]; omega
        · have hbe : ((ix zs k : Int) != ix ys k) = true := by simpa using he
          have HE := hide he; clear he
          go_wp2
          go_quiet (fail)
          go_wp2
          go_ret
          exact ⟨ret_bool (by symm; rw [decide_eq_false_iff_not]; rintro rfl; exact HE.out rfl), _, World.drewN_drewN _ _ _⟩
      · go_wp2
        go_ret
        exact ⟨ret_bool (by symm; rw [decide_eq_true_iff]; exact ext_ix HL.out (fun j hj => hs.out j (by omega))), _, rfl⟩
  · have hb : ((zs.length : Int) != (ys.length : Int)) = true := by simp; omega
    have HL := hide hl
    clear hl
    go_enter Tryz.func18, Tryz.ntmps18
    go_wp2
    go_ret
    exact ⟨ret_bool (by symm; rw [decide_eq_false_iff_not]; intro h; exact HL.out (by rw [h])), 0, rfl⟩
end Go.Proofs.YtiaegloipnhhdaaGreat
/- Numbers as pieces of seven bits, and back: plain arithmetic of package pack. No condition: nothing here speaks of a program. -/
namespace Go.Proofs.YtiaegloipnhhdaaGreat
set_option maxRecDepth 100000
open Go.RowKit
def zigI (n : Int) : Int := if n < 0 then -2 * n - 1 else 2 * n
def zagI (u : Int) : Int := if u % 2 = 1 then -1 - u / 2 else u / 2
theorem zag_zig (n : Int) : zagI (zigI n) = n := by
  unfold zigI zagI; split <;> split <;> omega
theorem zig_zag (u : Int) (h : 0 ≤ u) : zigI (zagI u) = u := by
  unfold zigI zagI; split <;> split <;> omega
theorem zig_bounds (n : Int) (h0 : -9223372036854775808 ≤ n) (h1 : n ≤ 9223372036854775807) : 0 ≤ zigI n ∧ zigI n ≤ 18446744073709551615 := by
  unfold zigI; split <;> omega
theorem zag_bounds (u : Int) (h0 : 0 ≤ u) (h1 : u ≤ 18446744073709551615) : -9223372036854775808 ≤ zagI u ∧ zagI u ≤ 9223372036854775807 := by
  unfold zagI; split <;> omega
theorem zag_zero : zagI 0 = 0 := by decide
/-- The number of n that is turned into pieces. -/
def zigN (n : Int) : Nat := (zigI n).toNat
theorem zigN_lt (n : Int) (h0 : -9223372036854775808 ≤ n) (h1 : n ≤ 9223372036854775807) : zigN n < 18446744073709551616 := by
  have := zig_bounds n h0 h1; unfold zigN; omega
theorem zigN_cast (n : Int) (h0 : -9223372036854775808 ≤ n) (h1 : n ≤ 9223372036854775807) : ((zigN n : Nat) : Int) = zigI n := by
  have := zig_bounds n h0 h1; unfold zigN; omega
theorem zag_zigN (n : Int) : zagI (zigN n : Nat) = n := by
  have h : ((zigN n : Nat) : Int) = zigI n := by
    have : 0 ≤ zigI n := by unfold zigI; split <;> omega
    unfold zigN; omega
  rw [h, zag_zig]
theorem zigN_inj {a b : Int} (h : zigN a = zigN b) : a = b := by
  rw [← zag_zigN a, ← zag_zigN b, h]

/-- u in pieces of seven bits, the lowest first, 128 put to each but the last; at most f of them. -/
def sev : Nat → Nat → List Int
  | 0, _ => []
  | f + 1, u => if u < 128 then [(u : Int)] else ((u % 128 + 128 : Nat) : Int) :: sev f (u / 128)
theorem sev_last {f u : Nat} (h : u < 128) : sev (f + 1) u = [(u : Int)] := by unfold sev; rw [if_pos h]
theorem sev_more {f u : Nat} (h : 128 ≤ u) : sev (f + 1) u = ((u % 128 + 128 : Nat) : Int) :: sev f (u / 128) := by
  rw [sev, if_neg (by omega)]
theorem sev_le : ∀ f u, (sev f u).length ≤ f
  | 0, _ => Nat.le_refl _
  | f + 1, u => by
    by_cases h : u < 128
    · rw [sev_last h]; simp
    · rw [sev_more (by omega), List.length_cons]; have := sev_le f (u / 128); omega
theorem sev_pos (f u : Nat) : 1 ≤ (sev (f + 1) u).length := by
  by_cases h : u < 128
  · rw [sev_last h]; simp
  · rw [sev_more (by omega)]; simp
theorem octets_sev : ∀ f u, Octets (sev f u)
  | 0, _ => fun z hz => by cases hz
  | f + 1, u => fun z hz => by
    by_cases h : u < 128
    · rw [sev_last h] at hz; obtain rfl := List.mem_singleton.1 hz; omega
    · rw [sev_more (by omega)] at hz
      rcases List.mem_cons.1 hz with rfl | hz
      · omega
      · exact octets_sev f _ z hz
/-- A number's bytes. -/
def num7 (n : Int) : List Int := sev 10 (zigN n)
theorem num7_len (n : Int) : 1 ≤ (num7 n).length ∧ (num7 n).length ≤ 10 := ⟨sev_pos 9 _, sev_le 10 _⟩
theorem octets_num7 (n : Int) : Octets (num7 n) := octets_sev 10 _
theorem sev_mono : ∀ (f u v : Nat), u ≤ v → (sev f u).length ≤ (sev f v).length
  | 0, _, _, _ => Nat.le_refl _
  | f + 1, u, v, h => by
    by_cases hu : u < 128
    · rw [sev_last hu]; exact sev_pos f v
    · rw [sev_more (by omega), sev_more (by omega), List.length_cons, List.length_cons]
      have := sev_mono f (u / 128) (v / 128) (Nat.div_le_div_right h); omega

/-- What reading comes to, k pieces on, u behind them: the number, how many bytes it has, the error. -/
def rdN : Nat → Nat → List Int → Nat × Nat × Int
  | _, _, [] => (0, 0, 3)
  | k, u, p :: ps => if (0 < k ∧ p = 0) ∨ (k = 9 ∧ 1 < p) then (0, 0, 4) else if p < 128 then (u + (p % 128).toNat * 128 ^ k, k + 1, 0) else rdN (k + 1) (u + (p % 128).toNat * 128 ^ k) ps
def rdV (zs : List Int) : Int := zagI ((rdN 0 0 zs).1 : Nat)
def rdS (zs : List Int) : Nat := (rdN 0 0 zs).2.1
def rdE (zs : List Int) : Int := (rdN 0 0 zs).2.2
theorem rdN_nil (k u : Nat) : rdN k u [] = (0, 0, 3) := rfl
theorem rdN_form {k u : Nat} {p : Int} {ps : List Int} (h : (0 < k ∧ p = 0) ∨ (k = 9 ∧ 1 < p)) : rdN k u (p :: ps) = (0, 0, 4) := by
  rw [rdN, if_pos h]
theorem rdN_last {k u : Nat} {p : Int} {ps : List Int} (h : ¬ ((0 < k ∧ p = 0) ∨ (k = 9 ∧ 1 < p))) (hp : p < 128) : rdN k u (p :: ps) = (u + (p % 128).toNat * 128 ^ k, k + 1, 0) := by
  rw [rdN, if_neg h, if_pos hp]
theorem rdN_more {k u : Nat} {p : Int} {ps : List Int} (h : ¬ ((0 < k ∧ p = 0) ∨ (k = 9 ∧ 1 < p))) (hp : ¬ p < 128) : rdN k u (p :: ps) = rdN (k + 1) (u + (p % 128).toNat * 128 ^ k) ps := by
  rw [rdN, if_neg h, if_neg hp]
theorem pow128_9 : (128 : Nat) ^ 9 = 9223372036854775808 := by decide
theorem pow128_pos (k : Nat) : 0 < 128 ^ k := Nat.pow_pos (by omega)
theorem pow128_le {k : Nat} (h : k ≤ 9) : (128 : Nat) ^ k ≤ 9223372036854775808 := by
  rw [← pow128_9]; exact Nat.pow_le_pow_right (by omega) h
theorem pow128_two (k : Nat) : (128 : Nat) ^ k = 2 ^ (7 * k) := by rw [Nat.pow_mul]
/-- One step's number has room. -/
theorem step_lt {k u : Nat} {p : Int} (hk : k ≤ 9) (hu : u < 128 ^ k) (h0 : 0 ≤ p) (h1 : p ≤ 255) (h : ¬ ((0 < k ∧ p = 0) ∨ (k = 9 ∧ 1 < p))) :
    u + (p % 128).toNat * 128 ^ k < 18446744073709551616 ∧ (k < 9 → u + (p % 128).toNat * 128 ^ k < 128 ^ (k + 1)) := by
  have hq : (p % 128).toNat ≤ 127 := by omega
  have hm : (p % 128).toNat * 128 ^ k ≤ 127 * 128 ^ k := Nat.mul_le_mul_right _ hq
  have hs : (128 : Nat) ^ (k + 1) = 128 ^ k * 128 := Nat.pow_succ _ _
  refine ⟨?_, fun _ => by omega⟩
  by_cases h9 : k = 9
  · subst h9
    have hp : p ≤ 1 := by omega
    have hq1 : (p % 128).toNat ≤ 1 := by omega
    have hm1 : (p % 128).toNat * 128 ^ 9 ≤ 1 * 128 ^ 9 := Nat.mul_le_mul_right _ hq1
    rw [pow128_9] at *
    omega
  · have h8 : (128 : Nat) ^ (k + 1) ≤ 128 ^ 9 := Nat.pow_le_pow_right (by omega) (by omega)
    rw [pow128_9] at h8
    omega
theorem rdN_bounds : ∀ (zs : List Int) (k u : Nat), k ≤ 9 → u < 128 ^ k → Octets zs → (rdN k u zs).1 < 18446744073709551616 ∧ 0 ≤ (rdN k u zs).2.2 ∧ (rdN k u zs).2.2 ≤ 4 ∧ (rdN k u zs).2.1 ≤ 10 ∧ ((rdN k u zs).2.2 = 0 → k < (rdN k u zs).2.1 ∧ (rdN k u zs).2.1 ≤ k + zs.length) ∧ ((rdN k u zs).2.2 ≠ 0 → (rdN k u zs).1 = 0 ∧ (rdN k u zs).2.1 = 0)
  | [], k, u, _, _, _ => by rw [rdN_nil]; simp
  | p :: ps, k, u, hk, hu, ho => by
    have hp := ho p (List.mem_cons_self ..)
    by_cases hf : (0 < k ∧ p = 0) ∨ (k = 9 ∧ 1 < p)
    · rw [rdN_form hf]; simp
    · have hs := step_lt hk hu hp.1 hp.2 hf
      by_cases hl : p < 128
      · rw [rdN_last hf hl]
        refine ⟨hs.1, by simp, by simp, by simp; omega, fun _ => by simp, fun h => absurd rfl h⟩
      · rw [rdN_more hf hl]
        have hk9 : k < 9 := by omega
        have := rdN_bounds ps (k + 1) _ (by omega) (hs.2 hk9) (fun z hz => ho z (List.mem_cons_of_mem _ hz))
        rw [List.length_cons]
        refine ⟨this.1, this.2.1, this.2.2.1, this.2.2.2.1, fun h => ?_, this.2.2.2.2.2⟩
        have h5 := this.2.2.2.2.1 h
        omega
theorem rd_bounds {zs : List Int} (ho : Octets zs) : -9223372036854775808 ≤ rdV zs ∧ rdV zs ≤ 9223372036854775807 ∧ 0 ≤ rdE zs ∧ rdE zs ≤ 4 ∧ rdS zs ≤ 10 ∧ rdS zs ≤ zs.length ∧ (rdE zs ≠ 0 → rdV zs = 0 ∧ rdS zs = 0) := by
  have h := rdN_bounds zs 0 0 (by omega) (by simp) ho
  have hz := zag_bounds ((rdN 0 0 zs).1 : Nat) (by omega) (by omega)
  unfold rdV rdE rdS
  refine ⟨hz.1, hz.2, h.2.1, h.2.2.1, h.2.2.2.1, ?_, fun he => ?_⟩
  · by_cases he : (rdN 0 0 zs).2.2 = 0
    · have := h.2.2.2.2.1 he; omega
    · have := h.2.2.2.2.2 he; omega
  · have := h.2.2.2.2.2 he
    rw [this.1, this.2]
    exact ⟨zag_zero, rfl⟩
/-- Reading what was written, whatever lies behind. -/
theorem rdN_sev : ∀ (f k u v : Nat) (ys : List Int), k + f = 9 → v * 128 ^ k < 18446744073709551616 → (0 < k → 0 < v) → rdN k u (sev (f + 1) v ++ ys) = (u + v * 128 ^ k, k + (sev (f + 1) v).length, 0)
  | f, k, u, v, ys, hk, hv, h0 => by
    by_cases hl : v < 128
    · rw [sev_last hl, List.singleton_append]
      have hf : ¬ ((0 < k ∧ (v : Int) = 0) ∨ (k = 9 ∧ 1 < (v : Int))) := by
        rintro (⟨a, b⟩ | ⟨a, b⟩)
        · have := h0 a; omega
        · subst a
          rw [pow128_9] at hv; omega
      rw [rdN_last hf (by omega)]
      have e : ((v : Int) % 128).toNat = v := by omega
      rw [e]; rfl
    · match f with
      | 0 =>
        have : k = 9 := by omega
        subst this
        rw [pow128_9] at hv; omega
      | f + 1 =>
        rw [sev_more (by omega), List.cons_append]
        have hf : ¬ ((0 < k ∧ ((v % 128 + 128 : Nat) : Int) = 0) ∨ (k = 9 ∧ 1 < ((v % 128 + 128 : Nat) : Int))) := by omega
        rw [rdN_more hf (by omega)]
        have e : (((v % 128 + 128 : Nat) : Int) % 128).toNat = v % 128 := by omega
        have hs : (128 : Nat) ^ (k + 1) = 128 * 128 ^ k := by rw [Nat.pow_succ, Nat.mul_comm]
        have hm : v / 128 * 128 ^ (k + 1) + v % 128 * 128 ^ k = v * 128 ^ k := by
          rw [hs, ← Nat.mul_assoc, ← Nat.add_mul]; congr 1; omega
        rw [e, rdN_sev f (k + 1) _ (v / 128) ys (by omega) (by omega) (by omega), List.length_cons]
        refine Prod.ext ?_ (Prod.ext ?_ rfl)
        · show u + v % 128 * 128 ^ k + v / 128 * 128 ^ (k + 1) = _
          omega
        · show k + 1 + _ = k + (_ + 1)
          omega
theorem rd_num7 (n : Int) (ys : List Int) (h0 : -9223372036854775808 ≤ n) (h1 : n ≤ 9223372036854775807) : rdV (num7 n ++ ys) = n ∧ rdS (num7 n ++ ys) = (num7 n).length ∧ rdE (num7 n ++ ys) = 0 := by
  have h := rdN_sev 9 0 0 (zigN n) ys (by omega) (by have := zigN_lt n h0 h1; omega) (by omega)
  unfold rdV rdS rdE num7
  rw [h]
  refine ⟨?_, ?_, rfl⟩
  · show zagI ((0 + zigN n * 128 ^ 0 : Nat) : Int) = n
    rw [Nat.pow_zero, Nat.mul_one, Nat.zero_add, zag_zigN]
  · exact Nat.zero_add _
/-- What was written, cut off, is short. -/
theorem rdN_cut : ∀ (f k u v j : Nat), k + f ≤ 9 → j < (sev (f + 1) v).length → rdN k u ((sev (f + 1) v).take j) = (0, 0, 3)
  | f, k, u, v, 0, _, _ => by rw [List.take_zero]; rfl
  | f, k, u, v, j + 1, hk, hj => by
    by_cases hl : v < 128
    · rw [sev_last hl] at hj; simp at hj
    · match f with
      | 0 =>
        rw [sev_more (by omega)] at hj
        simp [sev] at hj
      | f + 1 =>
        rw [sev_more (by omega)] at hj ⊢
        rw [List.length_cons] at hj
        rw [List.take_succ_cons]
        have hf : ¬ ((0 < k ∧ ((v % 128 + 128 : Nat) : Int) = 0) ∨ (k = 9 ∧ 1 < ((v % 128 + 128 : Nat) : Int))) := by omega
        rw [rdN_more hf (by omega)]
        exact rdN_cut f (k + 1) _ (v / 128) j (by omega) (by omega)
theorem rd_cut (n : Int) (j : Nat) (hj : j < (num7 n).length) : rdE ((num7 n).take j) = 3 := by
  unfold rdE num7
  rw [rdN_cut 9 0 0 (zigN n) j (by omega) hj]
/-- What is taken as a number, whole, are that number's bytes. -/
theorem rdN_back : ∀ (zs : List Int) (k u v s : Nat), k ≤ 9 → u < 128 ^ k → Octets zs → rdN k u zs = (v, s, 0) → ∃ x, v = u + x * 128 ^ k ∧ (0 < k → 0 < x) ∧ k < s ∧ sev (10 - k) x = zs.take (s - k)
  | [], k, u, v, s, _, _, _, h => by rw [rdN_nil] at h; simp at h
  | p :: ps, k, u, v, s, hk, hu, ho, h => by
    have hp := ho p (List.mem_cons_self ..)
    by_cases hf : (0 < k ∧ p = 0) ∨ (k = 9 ∧ 1 < p)
    · rw [rdN_form hf] at h; simp at h
    · have hs := step_lt hk hu hp.1 hp.2 hf
      obtain ⟨P, rfl⟩ := Int.eq_ofNat_of_zero_le hp.1
      obtain ⟨f, hfk⟩ : ∃ f, 10 - k = f + 1 := ⟨9 - k, by omega⟩
      rw [hfk]
      by_cases hl : (P : Int) < 128
      · rw [rdN_last hf hl] at h
        injection h with h1 h2
        injection h2 with h2 _
        have e : ((P : Int) % 128).toNat = P := by omega
        refine ⟨P, by rw [← h1, e], by omega, by omega, ?_⟩
        have e2 : s - k = 1 := by omega
        rw [sev_last (by omega), e2]; rfl
      · rw [rdN_more hf hl] at h
        have hk9 : k < 9 := by omega
        obtain ⟨x, hx, hx0, hks, hsev⟩ := rdN_back ps (k + 1) _ v s (by omega) (hs.2 hk9) (fun z hz => ho z (List.mem_cons_of_mem _ hz)) h
        have e : ((P : Int) % 128).toNat = P - 128 := by omega
        have hxp := hx0 (by omega)
        refine ⟨P - 128 + 128 * x, ?_, by omega, by omega, ?_⟩
        · rw [hx, e]
          have hs : (128 : Nat) ^ (k + 1) = 128 * 128 ^ k := by rw [Nat.pow_succ, Nat.mul_comm]
          rw [hs, Nat.add_mul, Nat.mul_comm 128 x, Nat.mul_assoc]; omega
        · rw [sev_more (by omega)]
          have e1 : (P - 128 + 128 * x) % 128 + 128 = P := by omega
          have e2 : (P - 128 + 128 * x) / 128 = x := by omega
          have e3 : 10 - (k + 1) = f := by omega
          obtain ⟨j, hj⟩ : ∃ j, s - k = j + 1 := ⟨s - k - 1, by omega⟩
          have e4 : s - (k + 1) = j := by omega
          rw [e3, e4] at hsev
          rw [e1, e2, hsev, hj, List.take_succ_cons]
theorem rd_back {zs : List Int} (ho : Octets zs) (h : rdE zs = 0) : num7 (rdV zs) = zs.take (rdS zs) := by
  obtain ⟨x, hx, _, _, hs⟩ := rdN_back zs 0 0 (rdN 0 0 zs).1 (rdN 0 0 zs).2.1 (by omega) (by simp) ho (Prod.ext rfl (Prod.ext rfl h))
  have hx' : (rdN 0 0 zs).1 = x := by rw [hx, Nat.pow_zero]; omega
  have hv : zigN (rdV zs) = x := by
    unfold zigN rdV
    rw [zig_zag _ (by omega), hx']; rfl
  unfold num7 rdS
  rw [hv, hs, Nat.sub_zero]
/-- Two numbers of the same bytes are the same. -/
theorem num7_inj {a b : Int} (a0 : -9223372036854775808 ≤ a) (a1 : a ≤ 9223372036854775807) (b0 : -9223372036854775808 ≤ b) (b1 : b ≤ 9223372036854775807) (h : num7 a = num7 b) : a = b := by
  have h1 := (rd_num7 a [] a0 a1).1
  have h2 := (rd_num7 b [] b0 b1).1
  rw [← h1, ← h2, h]
theorem num7_mono {a b : Int} (h0 : 0 ≤ a) (h : a ≤ b) : (num7 a).length ≤ (num7 b).length := by
  refine sev_mono 10 _ _ ?_
  unfold zigN zigI
  rw [if_neg (by omega), if_neg (by omega)]; omega
end Go.Proofs.YtiaegloipnhhdaaGreat
/- What the scalar functions that package pack and the document's own answer stand on come to. Conditions: the bounds of the arguments' kinds. -/
namespace Go.Proofs.YtiaegloipnhhdaaGreat
set_option maxRecDepth 100000
open Go.RowKit
theorem i64_xor_neg (n : Int) (h0 : -9223372036854775808 ≤ n) (h1 : n ≤ 9223372036854775807) : bits .xor .i64 (-1) n = -1 - n := by
  show IntKind.i64.wrap ((BitVec.ofInt 64 (-1) ^^^ BitVec.ofInt 64 n).toNat : Int) = _
  have h2 : BitVec.ofInt 64 (-1) = BitVec.allOnes 64 := by decide
  rw [h2, BitVec.allOnes_xor, BitVec.toNat_not, BitVec.toNat_ofInt, IntKind.wrap_i64]
  omega
theorem or_one (x : Int) (h0 : 0 ≤ x) (h1 : x ≤ 9223372036854775807) : bits .or .u64 (x * 2) 1 = 2 * x + 1 := by
  obtain ⟨X, rfl⟩ := Int.eq_ofNat_of_zero_le h0
  have e : ((X : Int) * 2) = ((X * 2 : Nat) : Int) := by omega
  have h := u64_or_nat (X * 2) 1 (by omega) (by omega)
  rw [e]
  refine h.trans ?_
  rw [nat_join 1 (X * 2) 1 (by omega) (by omega)]
  omega
theorem and_one (u : Int) (h0 : 0 ≤ u) (h1 : u ≤ 18446744073709551615) : bits .and .u64 u 1 = u % 2 := by
  obtain ⟨U, rfl⟩ := Int.eq_ofNat_of_zero_le h0
  have h := u64_and_nat U 1 (by omega) (by omega)
  refine h.trans ?_
  rw [Nat.and_one_is_mod]; rfl
theorem and_127 (u : Nat) (h : u < 18446744073709551616) : bits .and .u64 (u : Int) 127 = (u % 128 : Nat) := by
  have e := u64_and_nat u 127 h (by omega)
  refine e.trans ?_
  exact congrArg _ (Nat.and_two_pow_sub_one_eq_mod u 7)
theorem or_128 (u : Nat) (h : u < 128) : bits .or .u64 (u : Int) 128 = (u + 128 : Nat) := by
  have e := u64_or_nat u 128 (by omega) (by omega)
  refine e.trans ?_
  rw [Nat.or_comm, ← Nat.two_pow_add_eq_or_of_lt (i := 7) h 1]
  omega
theorem or8_128 (u : Nat) (h : u < 128) : bits .or .u8 (u : Int) 128 = (u + 128 : Nat) := by
  have e := u8_or_nat u 128 (by omega) (by omega)
  refine e.trans ?_
  rw [Nat.or_comm, ← Nat.two_pow_add_eq_or_of_lt (i := 7) h 1]
  omega
theorem and8_127 (u : Nat) (h : u < 256) : bits .and .u8 (u : Int) 127 = (u % 128 : Nat) := by
  have e := u8_and_nat u 127 h (by omega)
  refine e.trans ?_
  exact congrArg _ (Nat.and_two_pow_sub_one_eq_mod u 7)
set_option maxHeartbeats 400000 in
theorem low7_any (u : Nat) (w : World) (h : u < 18446744073709551616) :
    Calls Tryz.prog 59 #[.int .u64 u, .int .i64 7] w fun e w' => e = .returned (.int .u64 (u % 128 : Nat)) ∧ w = w' := by
  have ha := hide (and_127 u h)
  go_enter Tryz.func59, Tryz.ntmps59
  go_wp2
  go_ret
  exact ⟨ret_int ha.out, rfl⟩
set_option maxHeartbeats 400000 in
theorem zig_any (n : Int) (w : World) (h0 : -9223372036854775808 ≤ n) (h1 : n ≤ 9223372036854775807) :
    Calls Tryz.prog 58 #[.int .i64 n] w fun e w' => e = .returned (.int .u64 (zigN n : Nat)) ∧ w = w' := by
  have hs : IntKind.i64.signed = true := rfl
  have hc := hide (zigN_cast n h0 h1)
  by_cases c : n < 0
  · go_enter Tryz.func58, Tryz.ntmps58
    go_wp2
    go_ret
    exact ⟨ret_int (by
      rw [hc.out, i64_xor_neg n h0 h1, IntWalk.u64_in (-1 - n) ⟨by omega, by omega⟩, IntWalk.u64_in _ ⟨by omega, by omega⟩, or_one _ (by omega) (by omega)]
      unfold zigI; rw [if_pos (by omega)]; omega), rfl⟩
  · go_enter Tryz.func58, Tryz.ntmps58
    go_wp2
    go_ret
    exact ⟨ret_int (by rw [hc.out]; unfold zigI; rw [if_neg (by omega)]; omega), rfl⟩
set_option maxHeartbeats 400000 in
theorem rzig_any (n : Int) (w : World) (h0 : -9223372036854775808 ≤ n) (h1 : n ≤ 9223372036854775807) :
    Calls Tryz.prog 122 #[.int .i64 n] w fun e w' => e = .returned (.int .u64 (zigN n : Nat)) ∧ w = w' := by
  have hs : IntKind.i64.signed = true := rfl
  have hc := hide (zigN_cast n h0 h1)
  by_cases c : n < 0
  · go_enter Tryz.func122, Tryz.ntmps122
    go_wp2
    go_ret
    exact ⟨ret_int (by
      rw [hc.out, i64_xor_neg n h0 h1, IntWalk.u64_in (-1 - n) ⟨by omega, by omega⟩, IntWalk.u64_in _ ⟨by omega, by omega⟩, or_one _ (by omega) (by omega)]
      unfold zigI; rw [if_pos (by omega)]; omega), rfl⟩
  · go_enter Tryz.func122, Tryz.ntmps122
    go_wp2
    go_ret
    exact ⟨ret_int (by rw [hc.out]; unfold zigI; rw [if_neg (by omega)]; omega), rfl⟩
set_option maxHeartbeats 400000 in
theorem zag_any (u : Nat) (w : World) (h : u < 18446744073709551616) :
    Calls Tryz.prog 94 #[.int .u64 u] w fun e w' => e = .returned (.int .i64 (zagI u)) ∧ w = w' := by
  have hs : IntKind.i64.signed = true := rfl
  have ha := and_one u (by omega) (by omega)
  by_cases c : (u : Int) % 2 = 1
  · have hb : ((bits .and .u64 (u : Int) 1 : Int) == 1) = true := by rw [ha]; exact beq_iff_eq.2 c
    have H := hide ha; clear ha
    have C := hide c; clear c
    go_enter Tryz.func94, Tryz.ntmps94
    go_wp2
    go_ret
    exact ⟨ret_int (by rw [i64_xor_neg _ (by omega) (by omega)]; unfold zagI; rw [if_pos C.out]), rfl⟩
  · have hb : ((bits .and .u64 (u : Int) 1 : Int) == 1) = false := by rw [ha]; exact beq_eq_false_iff_ne.2 c
    have H := hide ha; clear ha
    have C := hide c; clear c
    go_enter Tryz.func94, Tryz.ntmps94
    go_wp2
    go_ret
    exact ⟨ret_int (by unfold zagI; rw [if_neg C.out]), rfl⟩
set_option maxHeartbeats 400000 in
theorem rzag_any (u : Nat) (w : World) (h : u < 18446744073709551616) :
    Calls Tryz.prog 120 #[.int .u64 u] w fun e w' => e = .returned (.int .i64 (zagI u)) ∧ w = w' := by
  have hs : IntKind.i64.signed = true := rfl
  have ha := and_one u (by omega) (by omega)
  by_cases c : (u : Int) % 2 = 1
  · have hb : ((bits .and .u64 (u : Int) 1 : Int) == 1) = true := by rw [ha]; exact beq_iff_eq.2 c
    have H := hide ha; clear ha
    have C := hide c; clear c
    go_enter Tryz.func120, Tryz.ntmps120
    go_wp2
    go_ret
    exact ⟨ret_int (by rw [i64_xor_neg _ (by omega) (by omega)]; unfold zagI; rw [if_pos C.out]), rfl⟩
  · have hb : ((bits .and .u64 (u : Int) 1 : Int) == 1) = false := by rw [ha]; exact beq_eq_false_iff_ne.2 c
    have H := hide ha; clear ha
    have C := hide c; clear c
    go_enter Tryz.func120, Tryz.ntmps120
    go_wp2
    go_ret
    exact ⟨ret_int (by unfold zagI; rw [if_neg C.out]), rfl⟩
end Go.Proofs.YtiaegloipnhhdaaGreat
/- What Num, Text and Flag come to, package pack's and the document's own. Conditions: the slice lies in memory and holds bytes, lengths have room. -/
namespace Go.Proofs.YtiaegloipnhhdaaGreat
set_option maxRecDepth 100000
open Go.RowKit
/-- append of a slice that lies anywhere onto a row that has room for it. -/
theorem lies_fits {w : World} {A : Option Addr} {zs : List Int} (h : Lies w A zs) : ∀ ad : Addr, A = some ad → ∀ j u, (cellsOf zs)[j]? = some u → w.cell? (ad.add j) = some u := by
  rintro ad rfl j u hj
  obtain ⟨hk, _⟩ := cellsOf_some hj
  obtain ⟨b, off, e, _⟩ := h (by omega)
  injection e with e
  subst e
  exact Lies.cells h j u hj
theorem low7_to {v q : Nat} (w : World) (h : v < 18446744073709551616) (hq : v % 128 = q) :
    Calls Tryz.prog 59 #[.int .u64 v, .int .i64 7] w fun e w' => e = .returned (.int .u64 (q : Nat)) ∧ w = w' := by
  subst hq; exact low7_any v w h
theorem room_of {f v : Nat} (hf : f ≤ 9) (h : v < 2 * 128 ^ f) : v < 18446744073709551616 := by
  have := pow128_le hf; omega
theorem room_start {m : Int} (h0 : -9223372036854775808 ≤ m) (h1 : m ≤ 9223372036854775807) : zigN m < 2 * 128 ^ 9 := by
  have := zigN_lt m h0 h1; rw [pow128_9]; omega
theorem room_step {f v : Nat} (h : v < 2 * 128 ^ f) (hv : 128 ≤ v) : ∃ g, f = g + 1 ∧ v / 128 < 2 * 128 ^ g := by
  match f with
  | 0 => simp at h; omega
  | g + 1 => exact ⟨g, rfl, by rw [Nat.pow_succ] at h; omega⟩
set_option maxHeartbeats 1000000 in
theorem num_any (A : Option Addr) (n c : Nat) (zs : List Int) (m : Int) (w : World) (hn : zs.length = n) (hz : Lies w A zs) (hc : A = none → c = 0) (ln : n ≤ 140737488355310) (m0 : -9223372036854775808 ≤ m) (m1 : m ≤ 9223372036854775807) :
    Calls Tryz.prog 26 #[.slice A n c, .int .i64 m] w fun e w' =>
      ∃ v, e = .returned v ∧ w'.ownsRow w.heap.size 5 1 v (n + (num7 m).length) (cellsOf (zs ++ num7 m)) ∧ Below w.heap.size w w' := by
  subst hn
  obtain ⟨i0, hi, hz0, hz1, hz2⟩ := info_parts Tryz.info5
  have hc' := hide hc
  clear hc
  go_enter Tryz.func26, Tryz.ntmps26
  go_wp2_with (at_make; refine wpList_make_own _ rfl _ _ 42 rfl w.heap.size 5 i0 (.int .u8 0) 1 Tryz.underlying42 hi hz0 hz1 _ _ _ (zs.length + 10) rfl rfl (by omega) ?b2 ?b3 (Nat.le_refl _) ?_)
  case b2 => rw [hz2]; omega
  case b3 => unfold maxLen; omega
  intro w0 hown0 hgrow0
  have hb0 : Below w.heap.size w w0 := (Below.refl _ _).grown hgrow0 (Nat.le_refl _) (fun k h => by cases h)
  have hz0' := hide (hz.below hb0)
  go_wp2_with (at_builtin; refine wpList_append_fits_any _ rfl (.tmp 11) (.tmp 12) 42 rfl w.heap.size 5 i0 1 Tryz.underlying42 hi hz1 w.heap.size 0 (zs.length + 10) [] rfl hown0 A zs.length c (cellsOf zs) rfl ?d1 ?d2 ?d3 cellsOf_one (by omega) ?_)
  case d1 => rw [length_cellsOf]; omega
  case d2 => intro h; exact ⟨Lies.nil_ hz0'.out h, hc'.out h⟩
  case d3 => exact lies_fits hz0'.out
  intro w1 hown1 hgrow1
  have hb1 : Below w.heap.size w w1 := hb0.grown hgrow1 hb0.size (fun k h => by cases h; exact Nat.le_refl _)
  clear hz0' hown0 hgrow0 hgrow1 hb0 hz hc'
  go_wp2_with (go_at_call 58; (with_reducible refine (zig_any m _ m0 m1).mono ?_); rintro e w2 ⟨rfl, rfl⟩)
  go_loopw [5, 6] (fun s u wr => ∃ (f v : Nat) (p : List Int), u = .int .u64 v ∧ s = .slice (some ⟨w.heap.size, 0, none⟩) (zs.length + p.length) (zs.length + 10) ∧ p.length + f = 9 ∧ Hid (v < 2 * 128 ^ f) ∧ Hid (num7 m = p ++ sev (f + 1) v) ∧
      wr.ownsRow w.heap.size 5 1 (.slice (some ⟨w.heap.size, 0, none⟩) (zs.length + p.length) (zs.length + 10)) (zs.length + p.length) (cellsOf (zs ++ p)) ∧ Below w.heap.size w wr) (fun _ u _ => (intOf u).toNat)
  case atStart => exact ⟨9, zigN m, [], rfl, rfl, rfl, hide (room_start m0 m1), hide rfl, by simpa using hown1, hb1⟩
  case round =>
    clear hown1 hb1
    obtain ⟨f, v, p, rfl, rfl, hf, hv, hs, hown, hb⟩ := hrel
    have hvl := hide (room_of (by omega) hv.out)
    have hp9 : p.length ≤ 9 := by omega
    by_cases hlt : 128 ≤ v
    · obtain ⟨g, rfl, hg⟩ := room_step hv.out hlt
      have hg' := hide hg
      clear hg hv
      obtain ⟨q, hq⟩ : ∃ q, v % 128 = q := ⟨_, rfl⟩
      have hq1 : q ≤ 127 := by omega
      have hor : bits .or .u64 (q : Int) 128 = (q : Int) + 128 := by rw [or_128 q (by omega)]; rfl
      have hs' : Hid (num7 m = (p ++ [(q : Int) + 128]) ++ sev (g + 1) (v / 128)) := hide (by rw [hs.out, sev_more hlt, hq]; simp)
      have hq' := hide hq
      have hf' := hide hf
      have ht : decide ((128 : Int) ≤ (v : Int)) = true := by rw [decide_eq_true_iff]; omega
      have hlt' := hide hlt
      clear hq hs hf hlt
      go_wp2_with (first
        | (go_at_call 59; (with_reducible refine (low7_to _ hvl.out hq'.out).mono ?_); rintro e w3 ⟨rfl, rfl⟩)
        | (at_builtin; refine wpList_append_fits _ rfl (.tmp 20) (.tmp 25) 42 rfl w.heap.size 5 i0 1 Tryz.underlying42 hi hz1 w.heap.size (zs.length + p.length) (zs.length + 10) _ rfl (hown.alloc _) ⟨wr.heap.size, 0, none⟩ 1 1 [.int .u8 ((q : Int) + 128)] rfl rfl (by exact cell_one_new _ _ _) (by intro v hv; simp at hv; subst hv; rfl) (by omega) ?_; intro w2 hown2 hgrow2; have hb2 : Below w.heap.size w w2 := (hb.alloc hb.size _).grown hgrow2 (by simp; have := hb.size; omega) (fun k hk => by cases hk; exact Nat.le_refl _); clear hgrow2 hb hown))
      go_roundw
      case rel => exact ⟨g, v / 128, p ++ [(q : Int) + 128], by go_num, by simp [Nat.add_assoc], by have := hf'.out; simp; omega, hg', hs', by simpa [cellsOf, Nat.add_assoc] using hown2, hb2⟩
      case measure => have := hlt'.out; simp [intOf]; omega
    · have hf' := hide hf
      have ht : decide ((128 : Int) ≤ (v : Int)) = false := by rw [decide_eq_false_iff_not]; omega
      have hvv : (v : Int) ≤ 127 := by omega
      have hs' := hide (show num7 m = p ++ [(v : Int)] by rw [hs.out, sev_last (by omega)])
      clear hf hlt hs hv
      go_wp2_with (first
        | (at_builtin; refine wpList_append_fits _ rfl (.tmp 27) (.tmp 30) 42 rfl w.heap.size 5 i0 1 Tryz.underlying42 hi hz1 w.heap.size (zs.length + p.length) (zs.length + 10) _ rfl (hown.alloc _) ⟨wr.heap.size, 0, none⟩ 1 1 [.int .u8 (v : Int)] rfl rfl (by exact cell_one_new _ _ _) (by intro v hv; simp at hv; subst hv; rfl) (by omega) ?_; intro w2 hown2 hgrow2; have hb2 : Below w.heap.size w w2 := (hb.alloc hb.size _).grown hgrow2 (by simp; have := hb.size; omega) (fun k hk => by cases hk; exact Nat.le_refl _); clear hgrow2 hb hown))
      go_ret
      refine ⟨_, rfl, ?_, hb2⟩
      rw [hs'.out]
      simpa [cellsOf, Nat.add_assoc] using hown2
set_option maxHeartbeats 1000000 in
theorem rnum_any (A : Option Addr) (n c : Nat) (zs : List Int) (m : Int) (w : World) (hn : zs.length = n) (hz : Lies w A zs) (hc : A = none → c = 0) (ln : n ≤ 140737488355310) (m0 : -9223372036854775808 ≤ m) (m1 : m ≤ 9223372036854775807) :
    Calls Tryz.prog 83 #[.slice A n c, .int .i64 m] w fun e w' =>
      ∃ v, e = .returned v ∧ w'.ownsRow w.heap.size 5 1 v (n + (num7 m).length) (cellsOf (zs ++ num7 m)) ∧ Below w.heap.size w w' := by
  subst hn
  obtain ⟨i0, hi, hz0, hz1, hz2⟩ := info_parts Tryz.info5
  have hc' := hide hc
  clear hc
  have hown0 := World.ownsRow_lit (base := w.heap.size) (e := 5) (size := 1) w #[] 0 (Nat.le_refl _) (by unfold maxLen; omega) rfl
  have hz' := hide (hz.alloc (.cells #[] 5))
  go_enter Tryz.func83, Tryz.ntmps83
  go_wp2_with (first
    | (at_builtin; refine wpList_append_lies rfl (.tmp 7) (.tmp 8) 42 rfl w.heap.size 5 i0 _ Tryz.underlying42 hi hz0 hz1 hz2 rfl _ 0 [] rfl hown0 A zs.length c zs rfl rfl hc'.out hz'.out (by omega) (by simp) ?_; intro v1 w1 hown1 hb1; have hb1' : Below w.heap.size w w1 := ((Below.refl _ _).alloc (Nat.le_refl _) _).trans hb1; clear hb1 hown0 hz' hz hc')
    | (go_at_call 122; (with_reducible refine (rzig_any m _ m0 m1).mono ?_); rintro e w2 ⟨rfl, rfl⟩))
  go_loopw [5, 6] (fun s u wr => ∃ (f v : Nat) (p : List Int), u = .int .u64 v ∧ p.length + f = 9 ∧ Hid (v < 2 * 128 ^ f) ∧ Hid (num7 m = p ++ sev (f + 1) v) ∧
      wr.ownsRow w.heap.size 5 1 s (zs.length + p.length) (cellsOf (zs ++ p)) ∧ Below w.heap.size w wr) (fun _ u _ => (intOf u).toNat)
  case atStart => exact ⟨9, zigN m, [], rfl, rfl, hide (room_start m0 m1), hide rfl, by simpa using hown1, hb1'⟩
  case round =>
    clear hown1 hb1'
    obtain ⟨f, v, p, rfl, hf, hv, hs, hown, hb⟩ := hrel
    have hvl := hide (room_of (by omega) hv.out)
    have hp9 : p.length ≤ 9 := by omega
    by_cases hlt : 128 ≤ v
    · obtain ⟨g, rfl, hg⟩ := room_step hv.out hlt
      have hg' := hide hg
      clear hg hv
      obtain ⟨q, hq⟩ : ∃ q, v % 128 = q := ⟨_, rfl⟩
      have hq1 : q ≤ 127 := by omega
      have han : bits .and .u64 (v : Int) 127 = (q : Int) := by rw [and_127 v hvl.out, hq]
      have hor : bits .or .u8 (q : Int) 128 = (q : Int) + 128 := by rw [or8_128 q (by omega)]; rfl
      have hs' : Hid (num7 m = (p ++ [(q : Int) + 128]) ++ sev (g + 1) (v / 128)) := hide (by rw [hs.out, sev_more hlt, hq]; simp)
      have hf' := hide hf
      have ht : decide ((128 : Int) ≤ (v : Int)) = true := by rw [decide_eq_true_iff]; omega
      have hlt' := hide hlt
      clear hq hs hf hlt
      go_wp2_with (first
        | (at_builtin; refine wpList_append_lies rfl (.tmp 14) (.tmp 19) 42 rfl w.heap.size 5 i0 _ Tryz.underlying42 hi hz0 hz1 hz2 rfl _ (zs.length + p.length) (zs ++ p) rfl (hown.alloc _) (some ⟨wr.heap.size, 0, none⟩) 1 1 [(q : Int) + 128] rfl rfl (by intro h; cases h) (by exact lies_one _ _ _) (by omega) (by have := hb.size; simp; omega) ?_; intro v2 w2 hown2 hb2; have hb2' : Below w.heap.size w w2 := (hb.alloc hb.size _).trans hb2; clear hb2 hb hown))
      go_roundw
      case rel => exact ⟨g, v / 128, p ++ [(q : Int) + 128], by go_num, by have := hf'.out; simp; omega, hg', hs', by simpa [Nat.add_assoc] using hown2, hb2'⟩
      case measure => have := hlt'.out; simp [intOf]; omega
    · have hf' := hide hf
      have ht : decide ((128 : Int) ≤ (v : Int)) = false := by rw [decide_eq_false_iff_not]; omega
      have hvv : (v : Int) ≤ 127 := by omega
      have hs' := hide (show num7 m = p ++ [(v : Int)] by rw [hs.out, sev_last (by omega)])
      clear hf hlt hs hv
      go_wp2_with (first
        | (at_builtin; refine wpList_append_lies rfl (.tmp 23) (.tmp 26) 42 rfl w.heap.size 5 i0 _ Tryz.underlying42 hi hz0 hz1 hz2 rfl _ (zs.length + p.length) (zs ++ p) rfl (hown.alloc _) (some ⟨wr.heap.size, 0, none⟩) 1 1 [(v : Int)] rfl rfl (by intro h; cases h) (by exact lies_one _ _ _) (by omega) (by have := hb.size; simp; omega) ?_; intro v2 w2 hown2 hb2; have hb2' : Below w.heap.size w w2 := (hb.alloc hb.size _).trans hb2; clear hb2 hb hown))
      go_ret
      refine ⟨_, rfl, ?_, hb2'⟩
      rw [hs'.out]
      simpa [Nat.add_assoc] using hown2
/-- A string's bytes. -/
def strL (s : ByteArray) : List Int := s.data.toList.map fun b => (b.toNat : Int)
theorem length_strL (s : ByteArray) : (strL s).length = s.size := by unfold strL; rw [List.length_map]; rfl
theorem octets_strL (s : ByteArray) : Octets (strL s) := fun z hz => by
  unfold strL at hz
  obtain ⟨b, _, rfl⟩ := List.mem_map.1 hz
  have := b.toNat_lt
  omega
theorem cells_strL (s : ByteArray) : cellsOf (strL s) = Go.Lib.strCells s := by
  unfold cellsOf strL Go.Lib.strCells; rw [List.map_map]; rfl
/-- A text's bytes. -/
def text7 (s : ByteArray) : List Int := num7 s.size ++ strL s
theorem text7_len (s : ByteArray) : (text7 s).length = (num7 s.size).length + s.size := by unfold text7; rw [List.length_append, length_strL]
set_option maxHeartbeats 1000000 in
theorem text_any (A : Option Addr) (n c : Nat) (zs : List Int) (s : ByteArray) (w : World) (hn : zs.length = n) (hz : Lies w A zs) (hc : A = none → c = 0) (ln : n + s.size ≤ 140737488355310) :
    Calls Tryz.prog 135 #[.slice A n c, .string s] w fun e w' =>
      ∃ v, e = .returned v ∧ w'.ownsRow w.heap.size 5 1 v (n + (text7 s).length) (cellsOf (zs ++ text7 s)) ∧ Below w.heap.size w w' := by
  obtain ⟨i0, hi, hz0, hz1, hz2⟩ := info_parts Tryz.info5
  have hc' := hide hc
  have hl := (num7_len (s.size : Int)).2
  have hn' := hide hn
  have hi' := hide hi
  have hi0 := hide hz0
  have hi1 := hide hz1
  have hi2 := hide hz2
  clear hc hn hi hz0 hz1 hz2
  go_enter Tryz.func135, Tryz.ntmps135
  go_wp2_with (first
    | (go_at_call 26; (with_reducible refine (num_any A n c zs _ w hn'.out hz hc'.out (by omega) (by omega) (by omega)).mono ?_); rintro e w1 ⟨v1, rfl, hown1, hb1⟩; have ho1 := hide hown1; have hbs := hb1.size; have hb1' := hide hb1; clear hown1 hb1)
    | (at_builtin; refine Go.Lib.wpList_append_own_string _ rfl (.tmp 8) (.tmp 9) 42 9 rfl w.heap.size 5 i0 Tryz.underlying42 Tryz.underlying9 hi'.out hi0.out hi1.out hi2.out v1 _ _ rfl ho1.out s rfl (by unfold maxLen; omega) (by omega) hbs ?_; intro v2 w2 hown2 hg2 _; have hb2 : Below w.heap.size w w2 := hb1'.out.grown hg2 hbs (fun k hk => (ho1.out.lt k hk).1); clear hg2))
  go_ret
  refine ⟨_, rfl, ?_, hb2⟩
  rw [← cells_strL, ← cellsOf_append] at hown2
  rw [text7_len, ← Nat.add_assoc]
  unfold text7
  rw [← List.append_assoc]
  exact hown2
set_option maxHeartbeats 1000000 in
theorem rtext_any (A : Option Addr) (n c : Nat) (zs : List Int) (s : ByteArray) (w : World) (hn : zs.length = n) (hz : Lies w A zs) (hc : A = none → c = 0) (ln : n + s.size ≤ 140737488355310) :
    Calls Tryz.prog 123 #[.slice A n c, .string s] w fun e w' =>
      ∃ v, e = .returned v ∧ w'.ownsRow w.heap.size 5 1 v (n + (text7 s).length) (cellsOf (zs ++ text7 s)) ∧ Below w.heap.size w w' := by
  obtain ⟨i0, hi, hz0, hz1, hz2⟩ := info_parts Tryz.info5
  have hc' := hide hc
  have hl := (num7_len (s.size : Int)).2
  have hn' := hide hn
  have hi' := hide hi
  have hi0 := hide hz0
  have hi1 := hide hz1
  have hi2 := hide hz2
  clear hc hn hi hz0 hz1 hz2
  go_enter Tryz.func123, Tryz.ntmps123
  go_wp2_with (first
    | (go_at_call 83; (with_reducible refine (rnum_any A n c zs _ w hn'.out hz hc'.out (by omega) (by omega) (by omega)).mono ?_); rintro e w1 ⟨v1, rfl, hown1, hb1⟩; have ho1 := hide hown1; have hbs := hb1.size; have hb1' := hide hb1; clear hown1 hb1)
    | (at_builtin; refine Go.Lib.wpList_append_own_string _ rfl (.tmp 8) (.tmp 9) 42 9 rfl w.heap.size 5 i0 Tryz.underlying42 Tryz.underlying9 hi'.out hi0.out hi1.out hi2.out v1 _ _ rfl ho1.out s rfl (by unfold maxLen; omega) (by omega) hbs ?_; intro v2 w2 hown2 hg2 _; have hb2 : Below w.heap.size w w2 := hb1'.out.grown hg2 hbs (fun k hk => (ho1.out.lt k hk).1); clear hg2))
  go_ret
  refine ⟨_, rfl, ?_, hb2⟩
  rw [← cells_strL, ← cellsOf_append] at hown2
  rw [text7_len, ← Nat.add_assoc]
  unfold text7
  rw [← List.append_assoc]
  exact hown2
end Go.Proofs.YtiaegloipnhhdaaGreat
/- What Flag comes to, package pack's and the document's own, and word's Put and Get of one byte. Conditions: the slice lies in memory and holds bytes, lengths have room. -/
namespace Go.Proofs.YtiaegloipnhhdaaGreat
set_option maxRecDepth 100000
open Go.RowKit
theorem shl_zero (z : Int) (h0 : 0 ≤ z) (h1 : z ≤ 255) : bits .or .u64 0 z = z := by
  obtain ⟨Z, rfl⟩ := Int.eq_ofNat_of_zero_le h0
  have e := u64_or_nat 0 Z (by omega) (by omega)
  refine e.trans ?_
  rw [Nat.zero_or]
set_option maxHeartbeats 1000000 in
theorem put1_any (A : Option Addr) (n c : Nat) (zs : List Int) (u : Int) (w : World) (hn : zs.length = n) (hz : Lies w A zs) (hc : A = none → c = 0) (ln : n ≤ 140737488355310) (u0 : 0 ≤ u) (u1 : u ≤ 255) :
    Calls Tryz.prog 126 #[.slice A n c, .int .i64 1, .int .u64 u] w fun e w' =>
      ∃ v, e = .returned v ∧ w'.ownsRow w.heap.size 5 1 v (n + 1) (cellsOf (zs ++ [u])) ∧ Below w.heap.size w w' := by
  subst hn
  obtain ⟨i0, hi, hz0, hz1, hz2⟩ := info_parts Tryz.info5
  have hc' := hide hc
  clear hc
  go_enter Tryz.func126, Tryz.ntmps126
  go_wp2_with (at_make; refine wpList_make_own _ rfl _ _ 42 rfl w.heap.size 5 i0 (.int .u8 0) 1 Tryz.underlying42 hi hz0 hz1 _ _ _ (zs.length + 1) rfl rfl (by omega) ?b2 ?b3 (Nat.le_refl _) ?_)
  case b2 => rw [hz2]; omega
  case b3 => unfold maxLen; omega
  intro w0 hown0 hgrow0
  have hb0 : Below w.heap.size w w0 := (Below.refl _ _).grown hgrow0 (Nat.le_refl _) (fun k h => by cases h)
  have hz0' := hide (hz.below hb0)
  go_wp2_with (at_builtin; refine wpList_append_fits_any _ rfl (.tmp 17) (.tmp 18) 42 rfl w.heap.size 5 i0 1 Tryz.underlying42 hi hz1 w.heap.size 0 (zs.length + 1) [] rfl hown0 A zs.length c (cellsOf zs) rfl ?d1 ?d2 ?d3 cellsOf_one (by omega) ?_)
  case d1 => rw [length_cellsOf]; omega
  case d2 => intro h; exact ⟨Lies.nil_ hz0'.out h, hc'.out h⟩
  case d3 => exact lies_fits hz0'.out
  intro w1 hown1 hgrow1
  have hb1 : Below w.heap.size w w1 := hb0.grown hgrow1 hb0.size (fun k h => by cases h; exact Nat.le_refl _)
  clear hz0' hown0 hgrow0 hgrow1 hb0 hz hc'
  go_wp2
  go_loopw [7, 21] (fun s i wr => ∃ k : Nat, k ≤ 1 ∧ i = .int .i64 k ∧ s = .slice (some ⟨w.heap.size, 0, none⟩) (zs.length + k) (zs.length + 1) ∧
      wr.ownsRow w.heap.size 5 1 (.slice (some ⟨w.heap.size, 0, none⟩) (zs.length + k) (zs.length + 1)) (zs.length + k) (cellsOf (zs ++ [u].take k)) ∧ Below w.heap.size w wr) (fun _ i _ => 1 - (intOf i).toNat)
  case atStart => exact ⟨0, by omega, rfl, rfl, by simpa using hown1, hb1⟩
  case round =>
    clear hown1 hb1
    obtain ⟨k, hk, rfl, rfl, hown, hb⟩ := hrel
    by_cases hlt : k < 1
    · obtain rfl : k = 0 := by omega
      go_wp2_with (first
        | (at_builtin; refine wpList_append_fits _ rfl (.tmp 24) (.tmp 30) 42 rfl w.heap.size 5 i0 1 Tryz.underlying42 hi hz1 w.heap.size zs.length (zs.length + 1) _ rfl (hown.alloc _) ⟨wr.heap.size, 0, none⟩ 1 1 [.int .u8 u] rfl rfl (by exact cell_one_new _ _ _) (by intro v hv; simp at hv; subst hv; rfl) (by omega) ?_; intro w2 hown2 hgrow2; have hb2 : Below w.heap.size w w2 := (hb.alloc hb.size _).grown hgrow2 (by simp; have := hb.size; omega) (fun k hk => by cases hk; exact Nat.le_refl _); clear hgrow2 hb hown))
      go_roundw
      case rel => exact ⟨1, by omega, rfl, rfl, by simpa [cellsOf] using hown2, hb2⟩
      case measure => simp [intOf]
    · obtain rfl : k = 1 := by omega
      go_wp2
      go_ret
      exact ⟨_, rfl, by simpa using hown, hb⟩
set_option maxHeartbeats 1000000 in
theorem flag_any (A : Option Addr) (n c : Nat) (zs : List Int) (f : Bool) (w : World) (hn : zs.length = n) (hz : Lies w A zs) (hc : A = none → c = 0) (ln : n ≤ 140737488355310) :
    Calls Tryz.prog 93 #[.slice A n c, .bool f] w fun e w' =>
      ∃ v, e = .returned v ∧ w'.ownsRow w.heap.size 5 1 v (n + 1) (cellsOf (zs ++ [if f then 1 else 0])) ∧ Below w.heap.size w w' := by
  have hc' := hide hc
  have hn' := hide hn
  clear hc hn
  cases f
  · go_enter Tryz.func93, Tryz.ntmps93
    go_wp2_with (go_at_call 126; (with_reducible refine (put1_any A n c zs _ w hn'.out hz hc'.out ln (by omega) (by omega)).mono ?_); rintro e w1 ⟨v1, rfl, hown1, hb1⟩)
    go_ret
    exact ⟨_, rfl, hown1, hb1⟩
  · go_enter Tryz.func93, Tryz.ntmps93
    go_wp2_with (go_at_call 126; (with_reducible refine (put1_any A n c zs _ w hn'.out hz hc'.out ln (by omega) (by omega)).mono ?_); rintro e w1 ⟨v1, rfl, hown1, hb1⟩)
    go_ret
    exact ⟨_, rfl, hown1, hb1⟩
set_option maxHeartbeats 1000000 in
theorem rflag_any (A : Option Addr) (n c : Nat) (zs : List Int) (f : Bool) (w : World) (hn : zs.length = n) (hz : Lies w A zs) (hc : A = none → c = 0) (ln : n ≤ 140737488355310) :
    Calls Tryz.prog 84 #[.slice A n c, .bool f] w fun e w' =>
      ∃ v, e = .returned v ∧ w'.ownsRow w.heap.size 5 1 v (n + 1) (cellsOf (zs ++ [if f then 1 else 0])) ∧ Below w.heap.size w w' := by
  subst hn
  obtain ⟨i0, hi, hz0, hz1, hz2⟩ := info_parts Tryz.info5
  have hc' := hide hc
  clear hc
  have hown0 := World.ownsRow_lit (base := w.heap.size) (e := 5) (size := 1) w #[] 0 (Nat.le_refl _) (by unfold maxLen; omega) rfl
  have hz' := hide (hz.alloc (.cells #[] 5))
  cases f
  · go_enter Tryz.func84, Tryz.ntmps84
    go_wp2_with (first
      | (at_builtin; refine wpList_append_lies rfl (.tmp 7) (.tmp 8) 42 rfl w.heap.size 5 i0 _ Tryz.underlying42 hi hz0 hz1 hz2 rfl _ 0 [] rfl hown0 A zs.length c zs rfl rfl hc'.out hz'.out (by omega) (by simp) ?_; intro v1 w1 hown1 hb1; simp only [Nat.zero_add, List.nil_append] at hown1; have hb1' : Below w.heap.size w w1 := ((Below.refl _ _).alloc (Nat.le_refl _) _).trans hb1; clear hb1 hown0 hz' hz hc')
      | (at_builtin; refine wpList_append_lies rfl (.tmp 9) (.tmp 11) 42 rfl w.heap.size 5 i0 _ Tryz.underlying42 hi hz0 hz1 hz2 rfl _ zs.length zs rfl (hown1.alloc _) (some ⟨w1.heap.size, 0, none⟩) 1 1 [0] rfl rfl (by intro h; cases h) (by exact lies_one _ _ _) (by omega) (by have := hb1'.size; simp; omega) ?_; intro v2 w2 hown2 hb2; have hb2' : Below w.heap.size w w2 := (hb1'.alloc hb1'.size _).trans hb2; clear hb2 hb1' hown1))
    go_ret
    exact ⟨_, rfl, hown2, hb2'⟩
  · go_enter Tryz.func84, Tryz.ntmps84
    go_wp2_with (first
      | (at_builtin; refine wpList_append_lies rfl (.tmp 7) (.tmp 8) 42 rfl w.heap.size 5 i0 _ Tryz.underlying42 hi hz0 hz1 hz2 rfl _ 0 [] rfl hown0 A zs.length c zs rfl rfl hc'.out hz'.out (by omega) (by simp) ?_; intro v1 w1 hown1 hb1; simp only [Nat.zero_add, List.nil_append] at hown1; have hb1' : Below w.heap.size w w1 := ((Below.refl _ _).alloc (Nat.le_refl _) _).trans hb1; clear hb1 hown0 hz' hz hc')
      | (at_builtin; refine wpList_append_lies rfl (.tmp 9) (.tmp 11) 42 rfl w.heap.size 5 i0 _ Tryz.underlying42 hi hz0 hz1 hz2 rfl _ zs.length zs rfl (hown1.alloc _) (some ⟨w1.heap.size, 0, none⟩) 1 1 [1] rfl rfl (by intro h; cases h) (by exact lies_one _ _ _) (by omega) (by have := hb1'.size; simp; omega) ?_; intro v2 w2 hown2 hb2; have hb2' : Below w.heap.size w w2 := (hb1'.alloc hb1'.size _).trans hb2; clear hb2 hb1' hown1))
    go_ret
    exact ⟨_, rfl, hown2, hb2'⟩
/-- The one byte that Get reads. -/
def get1V (zs : List Int) (i : Nat) : Int := if i < zs.length then ix zs i else 0
def get1E (zs : List Int) (i : Nat) : Int := if i < zs.length then 0 else 3
set_option maxHeartbeats 1000000 in
theorem get1_any (A : Option Addr) (n c : Nat) (zs : List Int) (i : Nat) (w : World) (hn : zs.length = n) (hz : Lies w A zs) (ho : Octets zs) (ln : n ≤ 4611686018427387904) (hi : i ≤ n) :
    Calls Tryz.prog 128 #[.slice A n c, .int .i64 i, .int .i64 1] w fun e w' => e = .returned (.tuple #[.int .u64 (get1V zs i), .int .i64 (get1E zs i)]) ∧ w = w' := by
  subst hn
  by_cases h : i < zs.length
  · have e1 : get1V zs i = ix zs i := by unfold get1V; rw [if_pos h]
    have e2 : get1E zs i = 0 := by unfold get1E; rw [if_pos h]
    rw [e1, e2]
    clear e1 e2
    obtain ⟨b1, o1, rfl, _, hc1⟩ := hz.at_ (k := i) h
    have o := ho.ix i
    obtain ⟨p0, p1⟩ := o
    have hor := hide (shl_zero (ix zs i) p0 p1)
    have HZ := hide hz; have HO := hide ho; clear hz ho
    have h2 : ¬ ((zs.length : Int) - (i : Int) < 1) := by omega
    have h3 : ¬ ((zs.length : Int) < (i : Int)) := by omega
    go_enter Tryz.func128, Tryz.ntmps128
    go_wp2
    go_loop [8, 33] (fun u j => ∃ k : Nat, k ≤ 1 ∧ j = .int .i64 k ∧ u = .int .u64 (if k = 0 then 0 else ix zs i)) (fun _ j => 1 - (intOf j).toNat)
    case atStart => exact ⟨0, by omega, rfl, rfl⟩
    case round =>
      obtain ⟨k, hk, rfl, rfl⟩ := hrel
      by_cases hlt : k < 1
      · obtain rfl : k = 0 := by omega
        have hcl := hide hc1
        go_wp2
        go_round
        case rel => exact ⟨1, by omega, rfl, by rw [if_neg (by omega)]; exact congrArg _ hor.out⟩
        case measure => simp [intOf]
      · obtain rfl : k = 1 := by omega
        go_wp2
        go_ret2
        exact ⟨rfl, rfl⟩
  · have e1 : get1V zs i = 0 := by unfold get1V; rw [if_neg h]
    have e2 : get1E zs i = 3 := by unfold get1E; rw [if_neg h]
    rw [e1, e2]
    clear e1 e2
    obtain rfl : i = zs.length := by omega
    have h2 : (zs.length : Int) - (zs.length : Int) < 1 := by omega
    go_enter Tryz.func128, Tryz.ntmps128
    go_wp2
    go_ret2
    exact ⟨rfl, rfl⟩
end Go.Proofs.YtiaegloipnhhdaaGreat
/- What number and count of package pack come to. Conditions: the slice lies in memory and holds bytes, its length has room. -/
namespace Go.Proofs.YtiaegloipnhhdaaGreat
set_option maxRecDepth 100000
open Go.RowKit
theorem or_step {v q k : Nat} (hv : v < 128 ^ k) (h : v + q * 128 ^ k < 18446744073709551616) :
    bits .or .u64 (v : Int) (IntKind.u64.wrap ((q : Int) * 2 ^ (k * 7))) = ((v + q * 128 ^ k : Nat) : Int) := by
  have e : (q : Int) * 2 ^ (k * 7) = ((q * 128 ^ k : Nat) : Int) := by
    rw [Int.natCast_mul, Int.natCast_pow, Nat.mul_comm k 7, Int.pow_mul]; rfl
  rw [e, IntWalk.u64_in _ ⟨by omega, by omega⟩, u64_or_nat v _ (by omega) (by omega)]
  rw [pow128_two] at *
  rw [Nat.mul_comm q, Nat.or_comm, ← Nat.two_pow_add_eq_or_of_lt hv, Nat.add_comm]
theorem drop_ix {zs : List Int} {k : Nat} (h : k < zs.length) : zs.drop k = ix zs k :: zs.drop (k + 1) := by
  rw [List.drop_eq_getElem_cons h, ix_lt zs h]
theorem ret_three {k l m : IntKind} {a b c d x y : Int} (h : a = b) (g : c = d) (i : x = y) : Ending.returned (.tuple #[.int k a, .int l c, .int m x]) = .returned (.tuple #[.int k b, .int l d, .int m y]) := by rw [h, g, i]
theorem rd_of {zs : List Int} {v s : Nat} {e : Int} (h : rdN 0 0 zs = (v, s, e)) : rdV zs = zagI v ∧ rdS zs = s ∧ rdE zs = e := by
  unfold rdV rdS rdE; rw [h]; exact ⟨rfl, rfl, rfl⟩
theorem rd_none {zs : List Int} {e : Int} (h : rdN 0 0 zs = (0, 0, e)) : rdV zs = 0 ∧ ((rdS zs : Nat) : Int) = 0 ∧ rdE zs = e := by
  obtain ⟨a, b, c⟩ := rd_of h
  exact ⟨a, by rw [b]; rfl, c⟩
theorem low7_int {p : Int} {q : Nat} (w : World) (h0 : 0 ≤ p) (h1 : p ≤ 255) (hq : (p % 128).toNat = q) :
    Calls Tryz.prog 59 #[.int .u64 p, .int .i64 7] w fun e w' => e = .returned (.int .u64 (q : Nat)) ∧ w = w' := by
  obtain ⟨P, rfl⟩ := Int.eq_ofNat_of_zero_le h0
  exact low7_to (v := P) w (by omega) (by omega)
/-- What the tests of a byte say. -/
theorem tests {k : Nat} {p : Int} (hk : k ≤ 9) (h : ¬ ((0 < k ∧ p = 0) ∨ (k = 9 ∧ 1 < p))) :
    (decide (0 < k) = false ∧ decide (0 < (k : Int)) = false ∧ ((k : Int) == 9) = false) ∨ (decide (0 < k) = true ∧ decide (0 < (k : Int)) = true ∧ (p == 0) = false ∧ ((k : Int) == 9) = false) ∨
    (decide (0 < k) = true ∧ decide (0 < (k : Int)) = true ∧ (p == 0) = false ∧ ((k : Int) == 9) = true ∧ decide (1 < p) = false) := by
  by_cases h0 : k = 0
  · left; subst h0; exact ⟨by decide, by decide, by decide⟩
  · right
    have a : decide (0 < (k : Int)) = true := by rw [decide_eq_true_iff]; omega
    have a' : decide (0 < k) = true := by rw [decide_eq_true_iff]; omega
    have b : (p == 0) = false := by rw [beq_eq_false_iff_ne]; omega
    by_cases h9 : k = 9
    · right; subst h9; exact ⟨a', a, b, by decide, by rw [decide_eq_false_iff_not]; omega⟩
    · left; exact ⟨a', a, b, by rw [beq_eq_false_iff_ne]; omega⟩
theorem tests_bad {k : Nat} {p : Int} (h : (0 < k ∧ p = 0) ∨ (k = 9 ∧ 1 < p)) :
    (decide (0 < k) = true ∧ decide (0 < (k : Int)) = true ∧ (p == 0) = true) ∨ (decide (0 < k) = true ∧ decide (0 < (k : Int)) = true ∧ (p == 0) = false ∧ ((k : Int) == 9) = true ∧ decide (1 < p) = true) := by
  by_cases hp : p = 0
  · left; exact ⟨by rw [decide_eq_true_iff]; omega, by rw [decide_eq_true_iff]; omega, by rw [hp]; rfl⟩
  · right
    obtain ⟨rfl, h1⟩ : k = 9 ∧ 1 < p := by omega
    exact ⟨by decide, by decide, by rw [beq_eq_false_iff_ne]; omega, by decide, by rw [decide_eq_true_iff]; omega⟩
set_option maxRecDepth 100000 in
set_option maxHeartbeats 1000000 in
theorem number_any (A : Option Addr) (n c : Nat) (zs : List Int) (w : World) (hn : zs.length = n) (hz : Lies w A zs) (ho : Octets zs) (ln : n ≤ 4611686018427387904) :
    Calls Tryz.prog 61 #[.slice A n c] w fun e w' => e = .returned (.tuple #[.int .i64 (rdV zs), .int .i64 (rdS zs : Nat), .int .i64 (rdE zs)]) ∧ w = w' := by
  subst hn
  go_enter Tryz.func61, Tryz.ntmps61
  go_wp2
  go_loop [5, 10] (fun u i => ∃ k v : Nat, k ≤ zs.length ∧ k ≤ 9 ∧ i = .int .i64 k ∧ u = .int .u64 v ∧ Hid (v < 128 ^ k) ∧ Hid (rdN 0 0 zs = rdN k v (zs.drop k))) (fun _ i => zs.length - (intOf i).toNat)
  case atStart => exact ⟨0, 0, by omega, by omega, rfl, rfl, hide (by simp), hide rfl⟩
  case round =>
    obtain ⟨k, v, hk, hk9, rfl, rfl, hv, hs⟩ := hrel
    by_cases hlt : k < zs.length
    · obtain ⟨b1, o1, rfl, _, hc1⟩ := hz.at_ (k := k) hlt
      have o := ho.ix k
      have hd := drop_ix hlt
      have HZ := hide hz; have HO := hide ho
      clear hz ho
      generalize ix zs k = p at *
      obtain ⟨p0, p1⟩ := o
      by_cases hf : (0 < k ∧ p = 0) ∨ (k = 9 ∧ 1 < p)
      · have hr := hide (rd_none (show rdN 0 0 zs = (0, 0, 4) by rw [hs.out, hd, rdN_form hf]))
        have ht := tests_bad hf
        clear hf hs hv hd
        rcases ht with ⟨t0, t1, t2⟩ | ⟨t0, t1, t2, t3, t4⟩
        all_goals
          go_wp2
          go_ret3
          exact ⟨ret_three hr.out.1.symm hr.out.2.1.symm hr.out.2.2.symm, rfl⟩
      · obtain ⟨q, hq⟩ : ∃ q, (p % 128).toNat = q := ⟨_, rfl⟩
        have hst := step_lt hk9 hv.out p0 p1 hf
        rw [hq] at hst
        obtain ⟨U, hU⟩ : ∃ U, v + q * 128 ^ k = U := ⟨_, rfl⟩
        rw [hU] at hst
        have hor : bits .or .u64 (v : Int) (IntKind.u64.wrap ((q : Int) * 2 ^ (k * 7))) = (U : Int) := by rw [or_step hv.out (by rw [hU]; exact hst.1), hU]
        have hUl := hide hst.1
        have hUs := hide hst.2
        have hq' := hide hq
        have ht := tests hk9 hf
        by_cases hl : p < 128
        · have hr := hide (rd_of (show rdN 0 0 zs = (U, k + 1, 0) by rw [hs.out, hd, rdN_last hf hl, hq, hU]))
          clear hf hs hv hd hU hst hq
          rcases ht with ⟨t0, t1, t3⟩ | ⟨t0, t1, t2, t3⟩ | ⟨t0, t1, t2, t3, t4⟩
          all_goals
            go_wp2_with (first
              | (go_at_call 59; (with_reducible refine (low7_int _ p0 p1 hq'.out).mono ?_); rintro e w3 ⟨rfl, rfl⟩)
              | (go_at_call 94; (with_reducible refine (zag_any U _ hUl.out).mono ?_); rintro e w3 ⟨rfl, rfl⟩))
            go_ret3
            exact ⟨ret_three hr.out.1.symm (by rw [hr.out.2.1]; rfl) hr.out.2.2.symm, rfl⟩
        · have hr := hide (show rdN 0 0 zs = rdN (k + 1) U (zs.drop (k + 1)) by rw [hs.out, hd, rdN_more hf hl, hq, hU])
          have hk8 : k < 9 := by omega
          clear hf hs hv hd hU hst hq
          rcases ht with ⟨t0, t1, t3⟩ | ⟨t0, t1, t2, t3⟩ | ⟨t0, t1, t2, t3, t4⟩
          all_goals
            go_wp2_with (first
              | (go_at_call 59; (with_reducible refine (low7_int _ p0 p1 hq'.out).mono ?_); rintro e w3 ⟨rfl, rfl⟩))
            go_round
            case rel => exact ⟨k + 1, U, by omega, by omega, by go_num, rfl, hide (hUs.out hk8), hr⟩
            case measure => simp [intOf]; omega
    · obtain rfl : k = zs.length := by omega
      have hr := hide (rd_none (show rdN 0 0 zs = (0, 0, 3) by rw [hs.out, List.drop_length]; rfl))
      clear hs hv
      go_wp2
      go_ret3
      exact ⟨ret_three hr.out.1.symm hr.out.2.1.symm hr.out.2.2.symm, rfl⟩
end Go.Proofs.YtiaegloipnhhdaaGreat
/- A reader behind a pointer: its bytes, its place, its error; what becomes of it when other memory is written; what each call comes to, in plain words. No condition. -/
namespace Go.Proofs.YtiaegloipnhhdaaGreat
set_option maxRecDepth 100000
open Go.RowKit
/-- Bytes that lie below block B. -/
def Deep (w : World) (B : Nat) (A : Option Addr) (zs : List Int) : Prop :=
  0 < zs.length → ∃ b off, A = some ⟨b, off, none⟩ ∧ b < B ∧ ∀ k, k < zs.length → w.cell? ⟨b, off + k, none⟩ = some (.int .u8 (ix zs k))
theorem Deep.keep {w w' : World} {B : Nat} {A : Option Addr} {zs : List Int} (h : Deep w B A zs) (hb : ∀ k, k < B → w'.heap[k]? = w.heap[k]?) : Deep w' B A zs := fun hn => by
  obtain ⟨b, off, e, hlt, hc⟩ := h hn
  exact ⟨b, off, e, hlt, fun k hk => (World.cell?_of_block (w := w) (a := ⟨b, off + k, none⟩) (hb b hlt)).trans (hc k hk)⟩
theorem Deep.lies {w : World} {B : Nat} {A : Option Addr} {zs : List Int} (h : Deep w B A zs) (hB : B ≤ w.heap.size) : Lies w A zs := fun hn => by
  obtain ⟨b, off, e, hlt, hc⟩ := h hn
  exact ⟨b, off, e, by omega, hc⟩
theorem Lies.deep {w : World} {A : Option Addr} {zs : List Int} (h : Lies w A zs) : Deep w w.heap.size A zs := h


/-- The reader at block g (of type t): bytes zs that lie below block B, place i, error e. -/
structure Rdr (t : TypeId) (w : World) (B g : Nat) (zs : List Int) (i : Nat) (e : Int) : Prop where
  row : ∃ A n c, Row w g t #[.slice A n c, .int .i64 i, .int .i64 e] ∧ zs.length = n ∧ n ≤ c ∧ n ≤ 4611686018427387904 ∧ Deep w B A zs
  oct : Octets zs
  here : i ≤ zs.length
  low : B ≤ g
  err : 0 ≤ e ∧ e ≤ 9
section
variable {t : TypeId} {w w' : World} {B g i : Nat} {zs : List Int} {e : Int}
theorem Rdr.keep (h : Rdr t w B g zs i e) (hb : ∀ k, k < B → w'.heap[k]? = w.heap[k]?) (hg : w'.heap[g]? = w.heap[g]?) : Rdr t w' B g zs i e := by
  obtain ⟨⟨A, n, c, hr, h1, h2, h3, hd⟩, ho, hi, hl, he⟩ := h
  exact ⟨⟨A, n, c, hg.trans hr, h1, h2, h3, hd.keep hb⟩, ho, hi, hl, he⟩
theorem Rdr.lt (h : Rdr t w B g zs i e) : g < w.heap.size := by
  obtain ⟨⟨A, n, c, hr, _⟩, _⟩ := h
  exact hr.lt
theorem Rdr.drewN (h : Rdr t w B g zs i e) (n : Nat) : Rdr t (w.drewN n) B g zs i e := h.keep (fun _ _ => rfl) rfl
theorem Rdr.below (h : Rdr t w B g zs i e) (hb : Below w.heap.size w w') : Rdr t w' B g zs i e :=
  have hl := h.lt
  have hB := h.low
  h.keep (fun k hk => hb.block k (by omega)) (hb.block g hl)
theorem Rdr.alloc (h : Rdr t w B g zs i e) (o : Obj) : Rdr t (w.alloc o) B g zs i e := h.below ((Below.refl _ _).alloc (Nat.le_refl _) o)
theorem Rdr.far {k : Nat} (h : Rdr t w B g zs i e) (hg : w.grownBy w' (some k)) (hk : k ≠ g) (hB : B ≤ k) : Rdr t w' B g zs i e :=
  have hl := h.lt
  have hBg := h.low
  h.keep (fun j hj => hg.block j (by omega) (fun e => by injection e; omega)) (hg.block g hl (fun e => by injection e; omega))
theorem Rdr.place (h : Rdr t w B g zs i e) {j : Nat} (hj : j ≤ zs.length) : Rdr t (w.setCell ⟨g, 1, none⟩ (.int .i64 j)) B g zs j e := by
  obtain ⟨⟨A, n, c, hr, h1, h2, h3, hd⟩, ho, hi, hl, he⟩ := h
  exact ⟨⟨A, n, c, hr.put 1 _, h1, h2, h3, hd.keep fun k hk => Below.heap_setCell _ _ _ _ (by show k ≠ g; omega)⟩, ho, hj, hl, he⟩
theorem Rdr.wrong (h : Rdr t w B g zs i e) {y : Int} (hy : 0 ≤ y ∧ y ≤ 9) : Rdr t (w.setCell ⟨g, 2, none⟩ (.int .i64 y)) B g zs i y := by
  obtain ⟨⟨A, n, c, hr, h1, h2, h3, hd⟩, ho, hi, hl, he⟩ := h
  exact ⟨⟨A, n, c, hr.put 2 _, h1, h2, h3, hd.keep fun k hk => Below.heap_setCell _ _ _ _ (by show k ≠ g; omega)⟩, ho, hi, hl, hy⟩
/-- What a walk needs of a reader. -/
theorem Rdr.cells (h : Rdr t w B g zs i e) : ∃ A c, w.cell? ⟨g, 0, none⟩ = some (.slice A zs.length c) ∧ w.cell? ⟨g, 1, none⟩ = some (.int .i64 i) ∧ w.cell? ⟨g, 2, none⟩ = some (.int .i64 e) ∧
    w.frozen? ⟨g, 1, none⟩ = false ∧ w.frozen? ⟨g, 2, none⟩ = false ∧ zs.length ≤ c ∧ zs.length ≤ 4611686018427387904 ∧ Lies w A zs := by
  have hl := h.lt
  obtain ⟨⟨A, n, c, hr, rfl, h2, h3, hd⟩, ho, hi, hlo, he⟩ := h
  exact ⟨A, c, hr.cell 0, hr.cell 1, hr.cell 2, hr.free 1, hr.free 2, h2, h3, hd.lies (by omega)⟩
/-- The same, and where the bytes lie. -/
theorem Rdr.deeps (h : Rdr t w B g zs i e) : ∃ A c, w.cell? ⟨g, 0, none⟩ = some (.slice A zs.length c) ∧ w.cell? ⟨g, 1, none⟩ = some (.int .i64 i) ∧ w.cell? ⟨g, 2, none⟩ = some (.int .i64 e) ∧
    w.frozen? ⟨g, 1, none⟩ = false ∧ w.frozen? ⟨g, 2, none⟩ = false ∧ zs.length ≤ c ∧ zs.length ≤ 4611686018427387904 ∧ Deep w B A zs := by
  obtain ⟨⟨A, n, c, hr, rfl, h2, h3, hd⟩, ho, hi, hlo, he⟩ := h
  exact ⟨A, c, hr.cell 0, hr.cell 1, hr.cell 2, hr.free 1, hr.free 2, h2, h3, hd⟩
theorem Deep.far {A : Option Addr} {ys : List Int} (h : Deep w B A ys) (hg : w.grownBy w' (some g)) (hB : B ≤ g) (hl : g < w.heap.size) : Lies w' A ys :=
  (h.keep (w' := w') fun j hj => hg.block j (by omega) (fun e => by injection e; omega)).lies (by have := hg.size; omega)
end

/-! ### What each call comes to: the error, the answer, the place -/
def rNumE (zs : List Int) (i : Nat) (e : Int) : Int := if e = 0 then rdE (zs.drop i) else e
def rNumV (zs : List Int) (i : Nat) (e : Int) : Int := if rNumE zs i e = 0 then rdV (zs.drop i) else 0
def rNumA (zs : List Int) (i : Nat) (e : Int) : Nat := if rNumE zs i e = 0 then i + rdS (zs.drop i) else i
def cntE (ys : List Int) (m : Int) : Int := if rdE ys = 0 then (if rdV ys < 0 ∨ m < rdV ys then 2 else 0) else rdE ys
def cntV (ys : List Int) (m : Int) : Int := if cntE ys m = 0 then rdV ys else 0
def cntS (ys : List Int) (m : Int) : Nat := if cntE ys m = 0 then rdS ys else 0
/-- The first of two errors. -/
def erst (e y : Int) : Int := if e = 0 then y else e
theorem erst_zero (y : Int) : erst 0 y = y := by unfold erst; rw [if_pos rfl]
theorem erst_pos {e : Int} (h : e ≠ 0) (y : Int) : erst e y = e := by unfold erst; rw [if_neg h]
def rCntE (zs : List Int) (i : Nat) (e m : Int) : Int := if e = 0 then cntE (zs.drop i) m else e
def rCntV (zs : List Int) (i : Nat) (e m : Int) : Int := if rCntE zs i e m = 0 then rdV (zs.drop i) else 0
def rCntA (zs : List Int) (i : Nat) (e m : Int) : Nat := if rCntE zs i e m = 0 then i + rdS (zs.drop i) else i
def txtE (ys : List Int) (m : Int) : Int := if cntE ys m = 0 then (if (ys.length : Int) - (rdS ys : Nat) < rdV ys then 3 else 0) else cntE ys m
def rTxtE (zs : List Int) (i : Nat) (e m : Int) : Int := if e = 0 then txtE (zs.drop i) m else e
def rTxtV (zs : List Int) (i : Nat) (e m : Int) : List Int := if rTxtE zs i e m = 0 then ((zs.drop i).drop (rdS (zs.drop i))).take (rdV (zs.drop i)).toNat else []
def rTxtA (zs : List Int) (i : Nat) (e m : Int) : Nat := if rTxtE zs i e m = 0 then i + rdS (zs.drop i) + (rdV (zs.drop i)).toNat else i
def rFlgE (zs : List Int) (i : Nat) (e : Int) : Int := if e = 0 then (if i < zs.length then (if 1 < ix zs i then 4 else 0) else 3) else e
def rFlgV (zs : List Int) (i : Nat) (e : Int) : Bool := decide (rFlgE zs i e = 0 ∧ ix zs i = 1)
def rFlgA (zs : List Int) (i : Nat) (e : Int) : Nat := if rFlgE zs i e = 0 then i + 1 else i
def rEndE (zs : List Int) (i : Nat) (e : Int) : Int := if e = 0 then (if i < zs.length then 5 else 0) else e
def rFailE (e : Int) : Int := if e = 0 then 4 else e
/-- The bytes as a string. -/
def strOf (zs : List Int) : ByteArray := ⟨(zs.map fun z => UInt8.ofNat z.toNat).toArray⟩
theorem str_strL (s : ByteArray) : strOf (strL s) = s := by
  obtain ⟨l⟩ := s
  unfold strOf strL
  congr 1
  rw [List.map_map]
  apply Array.ext'
  rw [List.toList_toArray]
  have : ∀ bs : List UInt8, List.map ((fun z : Int => UInt8.ofNat z.toNat) ∘ fun b => (b.toNat : Int)) bs = bs := by
    intro bs
    induction bs with
    | nil => rfl
    | cons b bs ih => rw [List.map_cons, ih]; congr 1; simp
  exact this l.toList
theorem octets_drop {zs : List Int} (h : Octets zs) (k : Nat) : Octets (zs.drop k) := fun z hz => h z (List.mem_of_mem_drop hz)
theorem octets_take {zs : List Int} (h : Octets zs) (k : Nat) : Octets (zs.take k) := fun z hz => h z (List.mem_of_mem_take hz)
theorem cntE_bounds {ys : List Int} (ho : Octets ys) (m : Int) : 0 ≤ cntE ys m ∧ cntE ys m ≤ 4 := by
  have := rd_bounds ho
  unfold cntE; split
  · split <;> omega
  · omega
theorem txtE_bounds {ys : List Int} (ho : Octets ys) (m : Int) : 0 ≤ txtE ys m ∧ txtE ys m ≤ 4 := by
  have := cntE_bounds ho m
  unfold txtE; split
  · split <;> omega
  · omega
end Go.Proofs.YtiaegloipnhhdaaGreat
/- Attributes as bytes, and what is read of bytes, in plain words. No program is spoken of. -/
namespace Go.Proofs.YtiaegloipnhhdaaGreat
set_option maxRecDepth 100000
open Go.RowKit
/-- Numbers one behind the other. -/
def encN (l : List Int) : List Int := l.flatMap num7
/-- So many numbers are read one behind the other: the place, the error. -/
def stN (zs : List Int) : Nat → Int → Nat → Nat × Int
  | i, e, 0 => (i, e)
  | i, e, n + 1 => stN zs (rNumA zs i e) (rNumE zs i e) n
/-- The n-th of them. -/
def valN (zs : List Int) (i : Nat) (e : Int) (n : Nat) : Int := rNumV zs (stN zs i e n).1 (stN zs i e n).2
theorem stN_last (zs : List Int) : ∀ (n : Nat) (i : Nat) (e : Int), stN zs i e (n + 1) = (rNumA zs (stN zs i e n).1 (stN zs i e n).2, rNumE zs (stN zs i e n).1 (stN zs i e n).2)
  | 0, _, _ => rfl
  | n + 1, i, e => stN_last zs n (rNumA zs i e) (rNumE zs i e)
theorem valN_succ (zs : List Int) (i : Nat) (e : Int) (n : Nat) : valN zs i e (n + 1) = valN zs (rNumA zs i e) (rNumE zs i e) n := rfl
theorem encN_cons (x : Int) (l : List Int) : encN (x :: l) = num7 x ++ encN l := rfl
theorem encN_len : ∀ l : List Int, l.length ≤ (encN l).length ∧ (encN l).length ≤ 10 * l.length
  | [] => by simp [encN]
  | x :: r => by
    have := encN_len r
    have h7 := num7_len x
    rw [encN_cons, List.length_append, List.length_cons]
    omega
theorem octets_encN : ∀ l : List Int, Octets (encN l)
  | [] => fun _ h => by cases h
  | x :: r => fun z hz => by
    rw [encN_cons] at hz
    exact (List.mem_append.1 hz).elim (octets_num7 x z) (octets_encN r z)
/-- What is read of a number that stands there. -/
theorem num_there {zs : List Int} {i : Nat} {x : Int} {ys : List Int} (h : zs.drop i = num7 x ++ ys) (hx : I64 x) : rNumE zs i 0 = 0 ∧ rNumV zs i 0 = x ∧ rNumA zs i 0 = i + (num7 x).length := by
  obtain ⟨h1, h2, h3⟩ := rd_num7 x ys hx.1 hx.2
  have e : rNumE zs i 0 = 0 := by unfold rNumE; rw [if_pos rfl, h, h3]
  refine ⟨e, ?_, ?_⟩
  · unfold rNumV; rw [if_pos e, h, h1]
  · unfold rNumA; rw [if_pos e, h, h2]
theorem drop_more {zs a b : List Int} {i : Nat} (h : zs.drop i = a ++ b) : zs.drop (i + a.length) = b := by
  rw [← List.drop_drop, h, List.drop_left]
/-- All of them are there. -/
theorem read_there (zs : List Int) : ∀ (l : List Int) (i : Nat) (ys : List Int), zs.drop i = encN l ++ ys → (∀ x, x ∈ l → I64 x) → stN zs i 0 l.length = (i + (encN l).length, 0) ∧ ∀ k, k < l.length → valN zs i 0 k = ix l k
  | [], i, _, _, _ => ⟨rfl, fun k hk => absurd hk (by simp)⟩
  | x :: r, i, ys, h, hl => by
    rw [encN_cons, List.append_assoc] at h
    obtain ⟨h1, h2, h3⟩ := num_there h (hl x (by simp))
    obtain ⟨g1, g2⟩ := read_there zs r (i + (num7 x).length) ys (drop_more h) (fun y hy => hl y (by simp [hy]))
    refine ⟨?_, fun k hk => ?_⟩
    · show stN zs (rNumA zs i 0) (rNumE zs i 0) r.length = _
      rw [h1, h3, g1, encN_cons, List.length_append, Nat.add_assoc]
    · cases k with
      | zero => exact h2
      | succ k =>
        rw [valN_succ, h1, h3]
        exact g2 k (by simpa using hk)
theorem stN_wrong (zs : List Int) {e : Int} (he : e ≠ 0) : ∀ (n i : Nat), (stN zs i e n).2 = e
  | 0, _ => rfl
  | n + 1, i => by
    have h : rNumE zs i e = e := by unfold rNumE; rw [if_neg he]
    show (stN zs (rNumA zs i e) (rNumE zs i e) n).2 = e
    rw [h]
    exact stN_wrong zs he n _
/-- They are cut off somewhere. -/
theorem read_cut (zs : List Int) : ∀ (l : List Int) (i q : Nat), zs.drop i = (encN l).take q → q < (encN l).length → (∀ x, x ∈ l → I64 x) → (stN zs i 0 l.length).2 = 3
  | [], i, q, _, h, _ => by simp [encN] at h
  | x :: r, i, q, h, hq, hl => by
    rw [encN_cons] at h hq
    by_cases hc : q < (num7 x).length
    · rw [List.take_append_of_le_length (by omega)] at h
      have e : rNumE zs i 0 = 3 := by unfold rNumE; rw [if_pos rfl, h, rd_cut x q hc]
      show (stN zs (rNumA zs i 0) (rNumE zs i 0) r.length).2 = 3
      rw [e]
      exact stN_wrong zs (by omega) _ _
    · have h' : zs.drop i = num7 x ++ (encN r).take (q - (num7 x).length) := by rw [h, List.take_append, List.take_of_length_le (by omega)]
      obtain ⟨h1, _, h3⟩ := num_there h' (hl x (by simp))
      rw [List.length_append] at hq
      show (stN zs (rNumA zs i 0) (rNumE zs i 0) r.length).2 = 3
      rw [h1, h3]
      exact read_cut zs r _ _ (drop_more h') (by omega) (fun y hy => hl y (by simp [hy]))
/-- What Get reads: the numbers; the error; the answer. -/
def getL (zs : List Int) (i : Nat) (e : Int) : List Int := tab8 (valN zs i e)
def getOk (zs : List Int) (i : Nat) (e : Int) : Bool := rightA (ix (getL zs i e) 0) (getL zs i e).tail
def d_getE (zs : List Int) (i : Nat) (e : Int) : Int := if getOk zs i e then (stN zs i e 8).2 else rFailE (stN zs i e 8).2
def d_getV (zs : List Int) (i : Nat) (e : Int) : List Int := if d_getE zs i e = 0 then getL zs i e else zero8
theorem get_there {a : List Int} (h : Ok8 a) : getL (encN a) 0 0 = a ∧ stN (encN a) 0 0 8 = ((encN a).length, 0) := by
  obtain ⟨h1, h2⟩ := read_there (encN a) a 0 [] (by simp) h.ok
  rw [h.len] at h1 h2
  rw [Nat.zero_add] at h1
  exact ⟨(tab8_of h.len fun i hi => (h2 i hi).symm).symm, h1⟩
theorem get_cut {a : List Int} (h : Ok8 a) {q : Nat} (hq : q < (encN a).length) : d_getE ((encN a).take q) 0 0 = 3 ∧ d_getV ((encN a).take q) 0 0 = zero8 := by
  have h1 := read_cut ((encN a).take q) a 0 q (by simp) hq h.ok
  rw [h.len] at h1
  have e : d_getE ((encN a).take q) 0 0 = 3 := by
    unfold d_getE rFailE
    rw [h1]
    split
    · rfl
    · rfl
  refine ⟨e, ?_⟩
  unfold d_getV
  rw [e, if_neg (by omega)]
end Go.Proofs.YtiaegloipnhhdaaGreat
/- What the methods of package pack's reader come to. Conditions: the reader lies in memory as it must. -/
namespace Go.Proofs.YtiaegloipnhhdaaGreat
set_option maxRecDepth 100000
open Go.RowKit
set_option maxRecDepth 100000 in
set_option maxHeartbeats 1000000 in
theorem count_any (A : Option Addr) (n c : Nat) (zs : List Int) (m : Int) (w : World) (hn : zs.length = n) (hz : Lies w A zs) (ho : Octets zs) (ln : n ≤ 4611686018427387904) :
    Calls Tryz.prog 138 #[.slice A n c, .int .i64 m] w fun e w' =>
      e = .returned (.tuple #[.int .i64 (cntV zs m), .int .i64 (cntS zs m : Nat), .int .i64 (cntE zs m)]) ∧ w = w' := by
  have hn' := hide hn
  have hb := rd_bounds ho
  by_cases h0 : rdE zs = 0
  · have t0 : (rdE zs == 0) = true := by rw [h0]; rfl
    by_cases h1 : rdV zs < 0 ∨ m < rdV zs
    · have e : cntE zs m = 2 := by unfold cntE; rw [if_pos h0, if_pos h1]
      have he := hide (ret_three (k := .i64) (l := .i64) (m := .i64) (show (0 : Int) = cntV zs m by unfold cntV; rw [e]; rfl) (show (0 : Int) = ((cntS zs m : Nat) : Int) by unfold cntS; rw [e]; rfl) e.symm)
      have t1 : decide (rdV zs < 0) = true ∨ (decide (rdV zs < 0) = false ∧ decide (m < rdV zs) = true) := by
        by_cases h : rdV zs < 0
        · left; exact decide_eq_true h
        · right; exact ⟨decide_eq_false h, decide_eq_true (by omega)⟩
      clear e h0 h1 hb hn
      rcases t1 with t1 | ⟨t1, t2⟩
      all_goals
        go_enter Tryz.func138, Tryz.ntmps138
        go_wp2_with (go_at_call 61; (with_reducible refine (number_any A n c zs w hn'.out hz ho ln).mono ?_); rintro e w1 ⟨rfl, rfl⟩)
        go_ret3
        exact ⟨he.out, rfl⟩
    · have e : cntE zs m = 0 := by unfold cntE; rw [if_pos h0, if_neg h1]
      have he := hide (ret_three (k := .i64) (l := .i64) (m := .i64) (show rdV zs = cntV zs m by unfold cntV; rw [e]; rfl) (show ((rdS zs : Nat) : Int) = ((cntS zs m : Nat) : Int) by unfold cntS; rw [e]; rfl) (show rdE zs = cntE zs m by rw [e, h0]))
      have t1 : decide (rdV zs < 0) = false := decide_eq_false (by omega)
      have t2 : decide (m < rdV zs) = false := decide_eq_false (by omega)
      clear e h0 h1 hb hn
      go_enter Tryz.func138, Tryz.ntmps138
      go_wp2_with (go_at_call 61; (with_reducible refine (number_any A n c zs w hn'.out hz ho ln).mono ?_); rintro e w1 ⟨rfl, rfl⟩)
      go_ret3
      exact ⟨he.out, rfl⟩
  · have t0 : (rdE zs == 0) = false := by rw [beq_eq_false_iff_ne]; exact h0
    have e : cntE zs m = rdE zs := by unfold cntE; rw [if_neg h0]
    have hv := hb.2.2.2.2.2.2 h0
    have he := hide (ret_three (k := .i64) (l := .i64) (m := .i64) (show rdV zs = cntV zs m by unfold cntV; rw [e, if_neg h0, hv.1]) (show ((rdS zs : Nat) : Int) = ((cntS zs m : Nat) : Int) by unfold cntS; rw [e, if_neg h0, hv.2]) e.symm)
    clear e h0 hb hn hv
    go_enter Tryz.func138, Tryz.ntmps138
    go_wp2_with (go_at_call 61; (with_reducible refine (number_any A n c zs w hn'.out hz ho ln).mono ?_); rintro e w1 ⟨rfl, rfl⟩)
    go_ret3
    exact ⟨he.out, rfl⟩
section
variable {w : World} {B g i : Nat} {zs : List Int} {e : Int}
set_option maxHeartbeats 1000000 in
theorem fail_any (h : Rdr 101 w B g zs i e) (y : Int) (hy : 0 ≤ y ∧ y ≤ 9) :
    Calls Tryz.prog 66 #[.pointer (some ⟨g, 0, none⟩), .int .i64 y] w fun x w' => x = .returned (.tuple #[]) ∧ Rdr 101 w' B g zs i (erst e y) ∧ w.grownBy w' (some g) := by
  obtain ⟨A, c, c0, c1, c2, f1, f2, _, _, _⟩ := h.cells
  by_cases he : e = 0
  · have t0 : (e == 0) = true := by rw [he]; rfl
    have h' := hide (h.wrong hy)
    rw [he, erst_zero]
    clear he h
    go_enter Tryz.func66, Tryz.ntmps66
    go_wp2
    go_end0
    exact ⟨rfl, h'.out, grown_put (grown_refl w _) _ _⟩
  · have t0 : (e == 0) = false := by rw [beq_eq_false_iff_ne]; exact he
    have h' := hide h
    rw [erst_pos he]
    clear he h
    go_enter Tryz.func66, Tryz.ntmps66
    go_wp2
    go_end0
    exact ⟨rfl, h'.out, grown_refl w _⟩
set_option maxHeartbeats 1000000 in
theorem passed_yes (h : Rdr 101 w B g zs i 0) (s : Nat) (hs : i + s ≤ zs.length) :
    Calls Tryz.prog 62 #[.pointer (some ⟨g, 0, none⟩), .int .i64 s, .int .i64 0] w fun x w' => x = .returned (.bool true) ∧ Rdr 101 w' B g zs (i + s) 0 ∧ w.grownBy w' (some g) := by
  have ha := fail_any h 0 (by omega)
  rw [erst_zero] at ha
  have hA := hide ha
  have hl : zs.length ≤ 4611686018427387904 := by obtain ⟨A, c, _, _, _, _, _, h1, h2, _⟩ := h.cells; omega
  clear ha h
  go_enter Tryz.func62, Tryz.ntmps62
  go_wp2_with (go_at_call 66; (with_reducible refine hA.out.mono ?_); rintro x w1 ⟨rfl, h1, hg1⟩; obtain ⟨A, c, c0, c1, c2, f1, f2, _, _, _⟩ := h1.cells; have h1' := hide (h1.place (j := i + s) hs); have hg' := hide hg1; clear h1 hg1)
  go_ret
  exact ⟨rfl, h1'.out, grown_put hg'.out _ _⟩
set_option maxHeartbeats 1000000 in
theorem passed_no (h : Rdr 101 w B g zs i e) (s y : Int) (hy : 0 ≤ y ∧ y ≤ 9) (hn : ¬ (erst e y) = 0) :
    Calls Tryz.prog 62 #[.pointer (some ⟨g, 0, none⟩), .int .i64 s, .int .i64 y] w fun x w' => x = .returned (.bool false) ∧ Rdr 101 w' B g zs i (erst e y) ∧ w.grownBy w' (some g) := by
  have hA := hide (fail_any h y hy)
  have t0 : ((erst e y) == 0) = false := by rw [beq_eq_false_iff_ne]; exact hn
  generalize (erst e y) = z at *
  clear h hn
  go_enter Tryz.func62, Tryz.ntmps62
  go_wp2_with (go_at_call 66; (with_reducible refine hA.out.mono ?_); rintro x w1 ⟨rfl, h1, hg1⟩; obtain ⟨A, c, c0, c1, c2, f1, f2, _, _, _⟩ := h1.cells; have h1' := hide h1; have hg' := hide hg1; clear h1 hg1)
  go_ret
  exact ⟨rfl, h1'.out, hg'.out⟩
theorem rest_number {A : Option Addr} {c i : Nat} {zs : List Int} {w : World} (hz : Lies w A zs) (ho : Octets zs) (lc : zs.length ≤ c) (l : zs.length ≤ 4611686018427387904) (q : Nat) :
    Calls Tryz.prog 61 #[.slice (partA A c i) (zs.length - i) (c - i)] (w.drewN q) fun x w' =>
      x = .returned (.tuple #[.int .i64 (rdV (zs.drop i)), .int .i64 (rdS (zs.drop i) : Nat), .int .i64 (rdE (zs.drop i))]) ∧ ∃ m, w' = w.drewN m :=
  (number_any _ _ (c - i) (zs.drop i) (w.drewN q) (by rw [List.length_drop]) ((hz.rest lc i).drewN q) (octets_drop ho i) (by omega)).mono fun _ _ ⟨he, hw⟩ => ⟨he, q, hw.symm⟩
theorem rest_count {A : Option Addr} {c i : Nat} {zs : List Int} {m : Int} {w : World} (hz : Lies w A zs) (ho : Octets zs) (lc : zs.length ≤ c) (l : zs.length ≤ 4611686018427387904) (q : Nat) :
    Calls Tryz.prog 138 #[.slice (partA A c i) (zs.length - i) (c - i), .int .i64 m] (w.drewN q) fun x w' =>
      x = .returned (.tuple #[.int .i64 (cntV (zs.drop i) m), .int .i64 (cntS (zs.drop i) m : Nat), .int .i64 (cntE (zs.drop i) m)]) ∧ ∃ k, w' = w.drewN k :=
  (count_any _ _ (c - i) (zs.drop i) m (w.drewN q) (by rw [List.length_drop]) ((hz.rest lc i).drewN q) (octets_drop ho i) (by omega)).mono fun _ _ ⟨he, hw⟩ => ⟨he, q, hw.symm⟩
set_option maxRecDepth 100000 in
set_option maxHeartbeats 1000000 in
theorem pnum_any (h : Rdr 101 w B g zs i e) :
    Calls Tryz.prog 28 #[.pointer (some ⟨g, 0, none⟩)] w fun x w' =>
      x = .returned (.int .i64 (rNumV zs i e)) ∧ Rdr 101 w' B g zs (rNumA zs i e) (rNumE zs i e) ∧ w.grownBy w' (some g) := by
  obtain ⟨A, c, c0, c1, c2, f1, f2, lc, l, hz⟩ := h.cells
  have hb := rd_bounds (octets_drop h.oct i)
  rw [List.length_drop] at hb
  have hi := h.here
  have hq := hide fun q => rest_number (i := i) hz h.oct lc l q
  have lic : i ≤ c := by omega
  have li0 : (i : Int) ≤ (c : Int) := by omega
  have p1 : (if c = i then A else Option.map (fun x => x.add i) A) = partA A c i := rfl
  have H := hide h
  clear hz h
  by_cases h0 : rNumE zs i e = 0
  · have ev : rNumV zs i e = rdV (zs.drop i) := by unfold rNumV; rw [if_pos h0]
    have ea : rNumA zs i e = i + rdS (zs.drop i) := by unfold rNumA; rw [if_pos h0]
    have h1 : e = 0 ∧ rdE (zs.drop i) = 0 := by
      unfold rNumE at h0
      by_cases he : e = 0
      · rw [if_pos he] at h0; exact ⟨he, h0⟩
      · rw [if_neg he] at h0; exact absurd h0 he
    obtain ⟨rfl, h2⟩ := h1
    rw [h2] at hq
    rw [ev, ea, h0]
    have hs : i + rdS (zs.drop i) ≤ zs.length := by omega
    have hp := hide fun q => passed_yes (H.out.drewN q) _ hs
    clear ev ea h0 h2 hb H
    generalize rdV (zs.drop i) = V at *
    generalize rdS (zs.drop i) = S at *
    go_enter Tryz.func28, Tryz.ntmps28
    go_wp2
    go_quiet ((go_at_call 61; exact hq.out _))
    go_wp2_with (go_at_call 62; (with_reducible refine (hp.out _).mono ?_); rintro x w1 ⟨rfl, h1, hg1⟩; have h1' := hide h1; have hg' := hide hg1; clear h1 hg1)
    go_ret
    exact ⟨rfl, h1'.out, grown_trans (grown_drewN (grown_refl w _) _) hg'.out⟩
  · have ev : rNumV zs i e = 0 := by unfold rNumV; rw [if_neg h0]
    have ea : rNumA zs i e = i := by unfold rNumA; rw [if_neg h0]
    have ee : rNumE zs i e = erst e (rdE (zs.drop i)) := by unfold rNumE erst; rfl
    rw [ee] at h0
    rw [ev, ea, ee]
    have hp := hide fun q (s : Int) => passed_no (H.out.drewN q) s (rdE (zs.drop i)) (by omega) h0
    clear ev ea h0 ee hb H
    generalize rdV (zs.drop i) = V at *
    generalize rdS (zs.drop i) = S at *
    generalize rdE (zs.drop i) = E at *
    generalize erst e E = E' at *
    go_enter Tryz.func28, Tryz.ntmps28
    go_wp2
    go_quiet ((go_at_call 61; exact hq.out _))
    go_wp2_with (go_at_call 62; (with_reducible refine (hp.out _ _).mono ?_); rintro x w1 ⟨rfl, h1, hg1⟩; have h1' := hide h1; have hg' := hide hg1; clear h1 hg1)
    go_ret
    exact ⟨rfl, h1'.out, grown_trans (grown_drewN (grown_refl w _) _) hg'.out⟩
theorem conv_any {A : Option Addr} {n c : Nat} {zs : List Int} {w : World} (hn : zs.length = n) (hz : Lies w A zs) :
    (convert 42 9 (.slice A n c)).run Tryz.prog w = .ok (.string (strOf zs)) w := by
  subst hn
  rcases Nat.eq_zero_or_pos zs.length with h0 | h0
  · have : zs = [] := List.eq_nil_of_length_eq_zero h0
    subst this
    rcases A with _ | ad
    · exact run_convert_bytes_nil w 42 5 Tryz.underlying42 Tryz.underlying5 _ _ 9 Tryz.underlying9
    · rw [run_convert_bytes_string w 42 9 5 _ _ c Tryz.underlying42 Tryz.underlying5 Tryz.underlying9]
      have hl := run_loadCells_list (P := Tryz.prog) w ad [] (fun j v hj => by simp at hj)
      exact run_bytesToString w ad 0 c [] hl
  · obtain ⟨b, off, rfl, _, hc⟩ := hz h0
    exact run_convert_bytes_arg w 42 5 Tryz.underlying42 Tryz.underlying5 b off zs.length c zs rfl hc 9 Tryz.underlying9
end
end Go.Proofs.YtiaegloipnhhdaaGreat
/- What Text, Flag, End and the small methods of package pack's reader come to. Conditions: the reader lies in memory as it must. -/
namespace Go.Proofs.YtiaegloipnhhdaaGreat
set_option maxRecDepth 100000
open Go.RowKit
section
variable {w : World} {B g i : Nat} {zs : List Int} {e : Int}
theorem passed_sum (h : Rdr 101 w B g zs i 0) (s : Int) (S : Nat) (hS : s = S) (hs : i + S ≤ zs.length) :
    Calls Tryz.prog 62 #[.pointer (some ⟨g, 0, none⟩), .int .i64 s, .int .i64 0] w fun x w' => x = .returned (.bool true) ∧ Rdr 101 w' B g zs (i + S) 0 ∧ w.grownBy w' (some g) := by
  subst hS; exact passed_yes h S hs
set_option maxRecDepth 100000 in
set_option maxHeartbeats 1000000 in
theorem ptext_yes (h : Rdr 101 w B g zs i 0) (m : Int) (ht : txtE (zs.drop i) m = 0) :
    Calls Tryz.prog 136 #[.pointer (some ⟨g, 0, none⟩), .int .i64 m] w fun x w' =>
      x = .returned (.string (strOf (((zs.drop i).drop (rdS (zs.drop i))).take (rdV (zs.drop i)).toNat))) ∧ Rdr 101 w' B g zs (i + rdS (zs.drop i) + (rdV (zs.drop i)).toNat) 0 ∧ w.grownBy w' (some g) := by
  obtain ⟨A, c, c0, c1, c2, f1, f2, lc, l, hd⟩ := h.deeps
  have hlow := h.low
  have hgl := h.lt
  have hz := hd.lies (by omega)
  have ho := h.oct
  have hb := rd_bounds (octets_drop h.oct i)
  have hl0 : ((zs.drop i).length : Int) = (zs.length - i : Nat) := by rw [List.length_drop]
  have hc0 : cntE (zs.drop i) m = 0 := by
    unfold txtE at ht
    by_cases hc : cntE (zs.drop i) m = 0
    · exact hc
    · rw [if_neg hc] at ht; exact ht
  have hr0 : rdE (zs.drop i) = 0 ∧ 0 ≤ rdV (zs.drop i) := by
    unfold cntE at hc0
    by_cases hr : rdE (zs.drop i) = 0
    · rw [if_pos hr] at hc0
      by_cases hv : rdV (zs.drop i) < 0 ∨ m < rdV (zs.drop i)
      · rw [if_pos hv] at hc0; exact absurd hc0 (by omega)
      · exact ⟨hr, by omega⟩
    · rw [if_neg hr] at hc0; exact absurd hc0 hr
  have hs0 : ¬ ((zs.drop i).length : Int) - (rdS (zs.drop i) : Nat) < rdV (zs.drop i) := by
    intro hs
    unfold txtE at ht
    rw [if_pos hc0, if_pos hs] at ht
    exact absurd ht (by omega)
  have h3 : cntV (zs.drop i) m = rdV (zs.drop i) := by unfold cntV; rw [if_pos hc0]
  have h4 : cntS (zs.drop i) m = rdS (zs.drop i) := by unfold cntS; rw [if_pos hc0]
  rw [List.length_drop] at hb
  have hi := h.here
  obtain ⟨N, hN⟩ := Int.eq_ofNat_of_zero_le hr0.2
  rw [hN] at h3 hs0
  have hNn : (rdV (zs.drop i)).toNat = N := by rw [hN]; rfl
  rw [hNn]
  rw [hl0] at hs0
  have hle : i + (rdS (zs.drop i) + N) ≤ zs.length := by omega
  have hS : rdS (zs.drop i) ≤ zs.length - i := by omega
  have hcnt := fun q => rest_count (i := i) (m := m) hz ho lc l q
  rw [h3, h4, hc0] at hcnt
  have hpart := fun (w1 : World) (hz1 : Lies w1 A zs) => ((hz1.rest lc i).part (c := c - i) (by rw [List.length_drop]; omega) (rdS (zs.drop i)) N)
  have hplen : (((zs.drop i).drop (rdS (zs.drop i))).take N).length = N := by rw [List.length_take, List.length_drop, List.length_drop]; omega
  generalize ((zs.drop i).drop (rdS (zs.drop i))).take N = ys at *
  generalize rdS (zs.drop i) = S at *
  have hq := hide hcnt
  have hpt := hide hpart
  have hpl := hide hplen
  have lic : i ≤ c := by omega
  have li0 : (i : Int) ≤ (c : Int) := by omega
  have p1 : (if c = i then A else Option.map (fun x => x.add i) A) = partA A c i := rfl
  have p2 : (if c - i = S then partA A c i else Option.map (fun x => x.add S) (partA A c i)) = partA (partA A c i) (c - i) S := rfl
  have t1 : decide (((zs.length - i : Nat) : Int) - (S : Int) < (N : Int)) = false := decide_eq_false hs0
  have s1 : (S : Int) + (N : Int) ≤ ((c - i : Nat) : Int) := by omega
  have s2 : (S : Int) ≤ ((c - i : Nat) : Int) := by omega
  have s3 : (S : Int) + (N : Int) ≤ 4611686018427387904 := by omega
  have hp := hide fun q => passed_sum (h.drewN q) ((S : Int) + (N : Int)) (S + N) (by omega) hle
  have hdd := hide hd
  clear hcnt hpart hplen h hb ht hc0 hr0 hs0 h3 h4 hN hNn hl0 hle hz ho hd
  go_enter Tryz.func136, Tryz.ntmps136
  go_wp2
  go_quiet (fail)
  go_wp2_with (first
    | (go_at_call 138; (with_reducible refine (hq.out _).mono ?_); rintro x w1 ⟨rfl, q1, rfl⟩)
    | (go_at_call 62; (with_reducible refine (hp.out _).mono ?_); rintro x w1 ⟨rfl, h1, hg1⟩; have h1' := hide h1; have hg' := hide hg1; have hcv := conv_any (c := c - i - S) hpl.out (hpt.out w1 (hdd.out.far (grown_trans (grown_drewN (grown_refl w _) _) hg1) hlow hgl)); clear h1 hg1))
  go_ret
  exact ⟨rfl, by rw [Nat.add_assoc]; exact h1'.out, grown_trans (grown_drewN (grown_refl w _) _) hg'.out⟩
set_option maxRecDepth 100000 in
set_option maxHeartbeats 1000000 in
theorem ptext_no (h : Rdr 101 w B g zs i e) (m : Int) (hne : erst e (txtE (zs.drop i) m) ≠ 0) :
    Calls Tryz.prog 136 #[.pointer (some ⟨g, 0, none⟩), .int .i64 m] w fun x w' =>
      x = .returned (.string (strOf [])) ∧ Rdr 101 w' B g zs i (erst e (txtE (zs.drop i) m)) ∧ w.grownBy w' (some g) := by
  obtain ⟨A, c, c0, c1, c2, f1, f2, lc, l, hz⟩ := h.cells
  have hi := h.here
  have hb := rd_bounds (octets_drop h.oct i)
  have hcb := cntE_bounds (octets_drop h.oct i) m
  have htb := txtE_bounds (octets_drop h.oct i) m
  have hq := hide fun q => rest_count (i := i) (m := m) hz h.oct lc l q
  have hp := hide fun q (s : Int) => passed_no (h.drewN q) s (txtE (zs.drop i) m) (by omega) hne
  have lic : i ≤ c := by omega
  have li0 : (i : Int) ≤ (c : Int) := by omega
  have p1 : (if c = i then A else Option.map (fun x => x.add i) A) = partA A c i := rfl
  have hl0 : ((zs.drop i).length : Int) = (zs.length - i : Nat) := by rw [List.length_drop]
  have hv0 : -9223372036854775808 ≤ cntV (zs.drop i) m ∧ cntV (zs.drop i) m ≤ 9223372036854775807 := by
    unfold cntV; split <;> omega
  have hs0 : cntS (zs.drop i) m ≤ 10 := by unfold cntS; split <;> omega
  have e0 : strOf [] = ⟨#[]⟩ := rfl
  rw [e0]
  by_cases h0 : cntE (zs.drop i) m = 0
  · have hsv : cntV (zs.drop i) m = rdV (zs.drop i) ∧ cntS (zs.drop i) m = rdS (zs.drop i) := by unfold cntV cntS; rw [if_pos h0, if_pos h0]; exact ⟨rfl, rfl⟩
    by_cases h1 : ((zs.drop i).length : Int) - (rdS (zs.drop i) : Nat) < rdV (zs.drop i)
    · have ht : txtE (zs.drop i) m = 3 := by unfold txtE; rw [if_pos h0, if_pos h1]
      rw [ht] at hp ⊢
      rw [← hsv.1, ← hsv.2, hl0] at h1
      have t1 : decide (((zs.length - i : Nat) : Int) - (cntS (zs.drop i) m : Int) < cntV (zs.drop i) m) = true := decide_eq_true h1
      rw [h0] at hq
      clear h0 h1 hsv ht hb hcb htb hne hl0 h hz
      generalize cntV (zs.drop i) m = V at *
      generalize cntS (zs.drop i) m = S at *
      generalize erst e 3 = E' at *
      go_enter Tryz.func136, Tryz.ntmps136
      go_wp2
      go_quiet (fail)
      go_wp2_with (first
        | (go_at_call 138; (with_reducible refine (hq.out _).mono ?_); rintro x w1 ⟨rfl, q1, rfl⟩)
        | (go_at_call 62; (with_reducible refine (hp.out _ _).mono ?_); rintro x w1 ⟨rfl, h1, hg1⟩; have h1' := hide h1; have hg' := hide hg1; clear h1 hg1))
      go_ret
      exact ⟨rfl, h1'.out, grown_trans (grown_drewN (grown_refl w _) _) hg'.out⟩
    · have ht : txtE (zs.drop i) m = 0 := by unfold txtE; rw [if_pos h0, if_neg h1]
      rw [ht] at hp ⊢
      rw [← hsv.1, ← hsv.2, hl0] at h1
      have t1 : decide (((zs.length - i : Nat) : Int) - (cntS (zs.drop i) m : Int) < cntV (zs.drop i) m) = false := decide_eq_false h1
      rw [h0] at hq
      clear h0 h1 hsv ht hb hcb htb hne hl0 h hz
      generalize cntV (zs.drop i) m = V at *
      generalize cntS (zs.drop i) m = S at *
      generalize erst e 0 = E' at *
      go_enter Tryz.func136, Tryz.ntmps136
      go_wp2
      go_quiet (fail)
      go_wp2_with (first
        | (go_at_call 138; (with_reducible refine (hq.out _).mono ?_); rintro x w1 ⟨rfl, q1, rfl⟩)
        | (go_at_call 62; (with_reducible refine (hp.out _ _).mono ?_); rintro x w1 ⟨rfl, h1, hg1⟩; have h1' := hide h1; have hg' := hide hg1; clear h1 hg1))
      go_ret
      exact ⟨rfl, h1'.out, grown_trans (grown_drewN (grown_refl w _) _) hg'.out⟩
  · have ht : txtE (zs.drop i) m = cntE (zs.drop i) m := by unfold txtE; rw [if_neg h0]
    rw [ht] at hp ⊢
    have t1 : (cntE (zs.drop i) m == 0) = false := by rw [beq_eq_false_iff_ne]; exact h0
    clear h0 ht hb hcb htb hne hl0 h hz
    generalize cntV (zs.drop i) m = V at *
    generalize cntS (zs.drop i) m = S at *
    generalize cntE (zs.drop i) m = C at *
    generalize erst e C = E' at *
    go_enter Tryz.func136, Tryz.ntmps136
    go_wp2
    go_quiet (fail)
    go_wp2_with (first
      | (go_at_call 138; (with_reducible refine (hq.out _).mono ?_); rintro x w1 ⟨rfl, q1, rfl⟩)
      | (go_at_call 62; (with_reducible refine (hp.out _ _).mono ?_); rintro x w1 ⟨rfl, h1, hg1⟩; have h1' := hide h1; have hg' := hide hg1; clear h1 hg1))
    go_ret
    exact ⟨rfl, h1'.out, grown_trans (grown_drewN (grown_refl w _) _) hg'.out⟩
theorem ptext_any (h : Rdr 101 w B g zs i e) (m : Int) :
    Calls Tryz.prog 136 #[.pointer (some ⟨g, 0, none⟩), .int .i64 m] w fun x w' =>
      x = .returned (.string (strOf (rTxtV zs i e m))) ∧ Rdr 101 w' B g zs (rTxtA zs i e m) (rTxtE zs i e m) ∧ w.grownBy w' (some g) := by
  have ee : rTxtE zs i e m = erst e (txtE (zs.drop i) m) := by unfold rTxtE erst; rfl
  by_cases h0 : rTxtE zs i e m = 0
  · have h1 : e = 0 ∧ txtE (zs.drop i) m = 0 := by
      unfold rTxtE at h0
      by_cases he : e = 0
      · rw [if_pos he] at h0; exact ⟨he, h0⟩
      · rw [if_neg he] at h0; exact absurd h0 he
    obtain ⟨rfl, h2⟩ := h1
    unfold rTxtV rTxtA
    rw [if_pos h0, if_pos h0, h0]
    exact ptext_yes h m h2
  · unfold rTxtV rTxtA
    rw [if_neg h0, if_neg h0, ee]
    exact ptext_no h m (by rw [← ee]; exact h0)
set_option maxHeartbeats 1000000 in
theorem pwrong_any (h : Rdr 101 w B g zs i e) :
    Calls Tryz.prog 65 #[.pointer (some ⟨g, 0, none⟩)] w fun x w' => x = .returned (.int .i64 e) ∧ w = w' := by
  obtain ⟨A, c, c0, c1, c2, f1, f2, lc, l, hz⟩ := h.cells
  clear h hz
  go_enter Tryz.func65, Tryz.ntmps65
  go_wp2
  go_ret
  exact ⟨rfl, rfl⟩
set_option maxHeartbeats 1000000 in
theorem pfail_any (h : Rdr 101 w B g zs i e) :
    Calls Tryz.prog 64 #[.pointer (some ⟨g, 0, none⟩)] w fun x w' => x = .returned (.tuple #[]) ∧ Rdr 101 w' B g zs i (rFailE e) ∧ w.grownBy w' (some g) := by
  have ha := fail_any h 4 (by omega)
  have ee : erst e 4 = rFailE e := rfl
  rw [ee] at ha
  have hA := hide ha
  clear ha h ee
  go_enter Tryz.func64, Tryz.ntmps64
  go_wp2_with (go_at_call 66; (with_reducible refine hA.out.mono ?_); rintro x w1 ⟨rfl, h1, hg1⟩; have h1' := hide h1; have hg' := hide hg1; clear h1 hg1)
  go_end0
  exact ⟨rfl, h1'.out, hg'.out⟩
set_option maxRecDepth 100000 in
set_option maxHeartbeats 1000000 in
theorem pend_any (h : Rdr 101 w B g zs i e) :
    Calls Tryz.prog 30 #[.pointer (some ⟨g, 0, none⟩)] w fun x w' => x = .returned (.int .i64 (rEndE zs i e)) ∧ Rdr 101 w' B g zs i (rEndE zs i e) ∧ w.grownBy w' (some g) := by
  obtain ⟨A, c, c0, c1, c2, f1, f2, lc, l, hz⟩ := h.cells
  by_cases hi : i < zs.length
  · have ee : rEndE zs i e = erst e 5 := by unfold rEndE erst; rw [if_pos hi]
    rw [ee]
    have hA := hide fun q => fail_any (h.drewN q) 5 (by omega)
    have t1 : decide (i < zs.length) = true := decide_eq_true hi
    generalize erst e 5 = E' at *
    clear h hz ee
    go_enter Tryz.func30, Tryz.ntmps30
    go_wp2
    go_quiet (fail)
    go_wp2_with (go_at_call 66; (with_reducible refine (hA.out _).mono ?_); rintro x w1 ⟨rfl, h1, hg1⟩; obtain ⟨A', c', c0', c1', c2', f1', f2', _, _, _⟩ := h1.cells; have h1' := hide h1; have hg' := hide hg1; clear h1 hg1)
    go_ret
    exact ⟨rfl, h1'.out, grown_trans (grown_drewN (grown_refl w _) _) hg'.out⟩
  · have ee : rEndE zs i e = e := by unfold rEndE; rw [if_neg hi]; split <;> omega
    rw [ee]
    have H := hide h
    have t1 : decide (i < zs.length) = false := decide_eq_false hi
    clear h hz ee
    go_enter Tryz.func30, Tryz.ntmps30
    go_wp2
    go_quiet (fail)
    go_wp2
    go_ret
    exact ⟨rfl, H.out.drewN _, grown_drewN (grown_refl w _) _⟩
theorem get1_quiet {A : Option Addr} {c : Nat} (hz : Lies w A zs) (ho : Octets zs) (l : zs.length ≤ 4611686018427387904) (hi : i ≤ zs.length) (q : Nat) :
    Calls Tryz.prog 128 #[.slice A zs.length c, .int .i64 i, .int .i64 1] (w.drewN q) fun x w' => x = .returned (.tuple #[.int .u64 (get1V zs i), .int .i64 (get1E zs i)]) ∧ ∃ m, w' = w.drewN m :=
  (get1_any A zs.length c zs i (w.drewN q) rfl (hz.drewN q) ho l hi).mono fun _ _ ⟨he, hw⟩ => ⟨he, q, hw.symm⟩
set_option maxRecDepth 100000 in
set_option maxHeartbeats 1000000 in
theorem pflag_no (h : Rdr 101 w B g zs i e) (y : Int) (hy : 0 ≤ y ∧ y ≤ 9) (hne : erst e y ≠ 0)
    (hc : (1 < get1V zs i ∧ y = 4) ∨ (¬ 1 < get1V zs i ∧ get1E zs i = y)) :
    Calls Tryz.prog 98 #[.pointer (some ⟨g, 0, none⟩)] w fun x w' => x = .returned (.bool false) ∧ Rdr 101 w' B g zs i (erst e y) ∧ w.grownBy w' (some g) := by
  obtain ⟨A, c, c0, c1, c2, f1, f2, lc, l, hz⟩ := h.cells
  have hq := hide fun q => get1_quiet (c := c) hz h.oct l h.here q
  have hp := hide fun q (s : Int) => passed_no (h.drewN q) s y hy hne
  have hu : 0 ≤ get1V zs i ∧ get1V zs i ≤ 255 := by
    have := h.oct.ix i
    unfold get1V; split <;> omega
  obtain ⟨u0, u1⟩ := hu
  generalize erst e y = E' at *
  generalize get1V zs i = U at *
  generalize get1E zs i = G at *
  clear h hz hne hy
  rcases hc with ⟨hc, rfl⟩ | ⟨hc, rfl⟩
  · have t1 : decide (1 < U) = true := decide_eq_true hc
    clear hc
    go_enter Tryz.func98, Tryz.ntmps98
    go_wp2
    go_quiet ((go_at_call 128; exact hq.out _))
    go_wp2_with (go_at_call 62; (with_reducible refine (hp.out _ _).mono ?_); rintro x w1 ⟨rfl, h1, hg1⟩; have h1' := hide h1; have hg' := hide hg1; clear h1 hg1)
    go_ret
    exact ⟨rfl, h1'.out, grown_trans (grown_drewN (grown_refl w _) _) hg'.out⟩
  · have t1 : decide (1 < U) = false := decide_eq_false hc
    clear hc
    go_enter Tryz.func98, Tryz.ntmps98
    go_wp2
    go_quiet ((go_at_call 128; exact hq.out _))
    go_wp2_with (go_at_call 62; (with_reducible refine (hp.out _ _).mono ?_); rintro x w1 ⟨rfl, h1, hg1⟩; have h1' := hide h1; have hg' := hide hg1; clear h1 hg1)
    go_ret
    exact ⟨rfl, h1'.out, grown_trans (grown_drewN (grown_refl w _) _) hg'.out⟩
set_option maxRecDepth 100000 in
set_option maxHeartbeats 1000000 in
theorem pflag_yes (h : Rdr 101 w B g zs i 0) (hi : i < zs.length) (u : Int) (hu : ix zs i = u) (hle : u ≤ 1) :
    Calls Tryz.prog 98 #[.pointer (some ⟨g, 0, none⟩)] w fun x w' => x = .returned (.bool (decide (u = 1))) ∧ Rdr 101 w' B g zs (i + 1) 0 ∧ w.grownBy w' (some g) := by
  obtain ⟨A, c, c0, c1, c2, f1, f2, lc, l, hz⟩ := h.cells
  have hq := fun q => get1_quiet (c := c) hz h.oct l h.here q
  have hv : get1V zs i = u := by unfold get1V; rw [if_pos hi, hu]
  have he : get1E zs i = 0 := by unfold get1E; rw [if_pos hi]
  rw [hv, he] at hq
  have hq := hide hq
  have hp := hide fun q => passed_sum (h.drewN q) 1 1 rfl (by omega)
  have ho := h.oct.ix i
  rw [hu] at ho
  clear h hz hv he hu
  have t1 : decide (1 < u) = false := decide_eq_false (by omega)
  by_cases h1 : u = 1
  · have t2 : (u == 1) = true := by rw [h1]; rfl
    rw [decide_eq_true h1]
    clear ho hle h1
    go_enter Tryz.func98, Tryz.ntmps98
    go_wp2
    go_quiet ((go_at_call 128; exact hq.out _))
    go_wp2_with (go_at_call 62; (with_reducible refine (hp.out _).mono ?_); rintro x w1 ⟨rfl, h1, hg1⟩; have h1' := hide h1; have hg' := hide hg1; clear h1 hg1)
    go_ret
    exact ⟨rfl, h1'.out, grown_trans (grown_drewN (grown_refl w _) _) hg'.out⟩
  · have t2 : (u == 1) = false := by rw [beq_eq_false_iff_ne]; exact h1
    rw [decide_eq_false h1]
    clear ho hle h1
    go_enter Tryz.func98, Tryz.ntmps98
    go_wp2
    go_quiet ((go_at_call 128; exact hq.out _))
    go_wp2_with (go_at_call 62; (with_reducible refine (hp.out _).mono ?_); rintro x w1 ⟨rfl, h1, hg1⟩; have h1' := hide h1; have hg' := hide hg1; clear h1 hg1)
    go_ret
    exact ⟨rfl, h1'.out, grown_trans (grown_drewN (grown_refl w _) _) hg'.out⟩
theorem pflag_any (h : Rdr 101 w B g zs i e) :
    Calls Tryz.prog 98 #[.pointer (some ⟨g, 0, none⟩)] w fun x w' =>
      x = .returned (.bool (rFlgV zs i e)) ∧ Rdr 101 w' B g zs (rFlgA zs i e) (rFlgE zs i e) ∧ w.grownBy w' (some g) := by
  by_cases h0 : rFlgE zs i e = 0
  · have h1 : e = 0 ∧ i < zs.length ∧ ix zs i ≤ 1 := by
      unfold rFlgE at h0
      by_cases he : e = 0
      · rw [if_pos he] at h0
        by_cases hi : i < zs.length
        · rw [if_pos hi] at h0
          by_cases hu : 1 < ix zs i
          · rw [if_pos hu] at h0; omega
          · exact ⟨he, hi, by omega⟩
        · rw [if_neg hi] at h0; omega
      · rw [if_neg he] at h0; exact absurd h0 he
    obtain ⟨rfl, hi, hu⟩ := h1
    have ev : rFlgV zs i 0 = decide (ix zs i = 1) := by unfold rFlgV; rw [h0]; simp
    unfold rFlgA
    rw [if_pos h0, h0, ev]
    exact pflag_yes h hi _ rfl hu
  · have ev : rFlgV zs i e = false := by unfold rFlgV; rw [decide_eq_false_iff_not]; exact fun hh => h0 hh.1
    unfold rFlgA
    rw [if_neg h0, ev]
    by_cases hu : 1 < get1V zs i
    · have hi : i < zs.length := by
        unfold get1V at hu
        by_cases hi : i < zs.length
        · exact hi
        · rw [if_neg hi] at hu; omega
      have ee : rFlgE zs i e = erst e 4 := by
        unfold get1V at hu
        rw [if_pos hi] at hu
        unfold rFlgE erst; rw [if_pos hi, if_pos hu]
      rw [ee] at h0 ⊢
      exact pflag_no h 4 (by omega) h0 (.inl ⟨hu, rfl⟩)
    · have ee : rFlgE zs i e = erst e (get1E zs i) := by
        unfold get1V at hu
        unfold rFlgE erst get1E
        by_cases hi : i < zs.length
        · rw [if_pos hi] at hu
          rw [if_pos hi, if_neg hu, if_pos hi]
        · rw [if_neg hi, if_neg hi]
      rw [ee] at h0 ⊢
      exact pflag_no h _ (by unfold get1E; split <;> omega) h0 (.inr ⟨hu, rfl⟩)
end
/-- A slice of bytes of the call's own, or nil. -/
theorem own_len {w : World} {base n : Nat} {A : Option Addr} {m c : Nat} {xs : List Value} (h : w.ownsRow base 5 1 (.slice A m c) n xs) : m = n ∧ n ≤ c := by
  rcases h.2 with ⟨hv, hx⟩ | ⟨g, cap, cur, hv, _, _, hnc, _⟩
  · injection hv with _ h2 h3
    subst h2 h3
    have := h.1
    rw [hx] at this
    simp at this
    omega
  · injection hv with _ h2 h3
    subst h2 h3
    exact ⟨rfl, hnc⟩
/-- A slice of these bytes, in new memory or nowhere. -/
def Cloned (w : World) (n : Nat) (zs : List Int) (e : Ending) (w' : World) : Prop := ∃ A' c', e = .returned (.slice A' n c') ∧ n ≤ c' ∧ Lies w' A' zs ∧ Below w.heap.size w w'
set_option maxHeartbeats 1000000 in
theorem clone_any (A : Option Addr) (n c : Nat) (zs : List Int) (w : World) (hn : zs.length = n) (hz : Lies w A zs) (hc : A = none → c = 0) (ln : n ≤ 140737488355328) :
    Calls Tryz.prog 60 #[.slice A n c] w (Cloned w n zs) := by
  subst hn
  have hnil : ∀ (a : Option Addr) (k c : Nat) (w : World), (binOp .eql 42 (.slice a k c) (.slice none 0 0)).run Tryz.prog w = .ok (.bool a.isNone) w := fun a k c w => Lib.run_eql_slice_nil w 42 5 a k c 0 0 Tryz.underlying42
  rcases A with _ | ad
  · have h0 := hz.nil_ rfl
    have hz0 : zs = [] := List.eq_nil_of_length_eq_zero h0
    subst hz0
    obtain rfl := hc rfl
    go_enter Tryz.func60, Tryz.ntmps60
    go_wp2
    go_ret
    exact ⟨none, 0, rfl, Nat.le_refl _, Lies.none_, Below.refl _ _⟩
  · obtain ⟨i0, hi, hz0, hz1, hz2⟩ := info_parts Tryz.info5
    have hown0 := World.ownsRow_lit (base := w.heap.size) (e := 5) (size := 1) w #[] 0 (Nat.le_refl _) (by unfold maxLen; omega) rfl
    have hz' := hide (hz.alloc (.cells #[] 5))
    clear hc
    go_enter Tryz.func60, Tryz.ntmps60
    go_wp2_with (first
      | (at_builtin; refine wpList_append_lies rfl (.tmp 5) (.tmp 6) 42 rfl w.heap.size 5 i0 _ Tryz.underlying42 hi hz0 hz1 hz2 rfl _ 0 [] rfl hown0 (some ad) zs.length c zs rfl rfl (by intro h; cases h) hz'.out (by omega) (by simp) ?_; intro v1 w1 hown1 hb1; simp only [Nat.zero_add, List.nil_append] at hown1; have hb1' : Below w.heap.size w w1 := ((Below.refl _ _).alloc (Nat.le_refl _) _).trans hb1; clear hb1 hown0 hz' hz))
    obtain ⟨A', c', rfl, _⟩ := own_shape hown1
    go_ret
    have := own_len hown1
    exact ⟨A', c', rfl, this.2, Lies.of_own hown1, hb1'⟩
end Go.Proofs.YtiaegloipnhhdaaGreat
/- What is read of bytes, in an error monad: numbers, counts, texts, flags; there and back. No condition: nothing here speaks of a program. -/
namespace Go.Proofs.YtiaegloipnhhdaaGreat
open Go.RowKit
def flg7 (f : Bool) : List Int := [if f then 1 else 0]
/-- What is read: an error, or a thing and the place behind it. -/
abbrev Rdm (α : Type) := Except Int (α × Nat)
def bnd {α β : Type} (x : Rdm α) (f : α → Nat → Rdm β) : Rdm β := match x with
  | .ok (a, j) => f a j
  | .error e => .error e
def dNum (zs : List Int) (i : Nat) : Rdm Int := if rdE (zs.drop i) = 0 then .ok (rdV (zs.drop i), i + rdS (zs.drop i)) else .error (rdE (zs.drop i))
def dCnt (zs : List Int) (m : Int) (i : Nat) : Rdm Int := if cntE (zs.drop i) m = 0 then .ok (rdV (zs.drop i), i + rdS (zs.drop i)) else .error (cntE (zs.drop i) m)
def dTxt (zs : List Int) (m : Int) (i : Nat) : Rdm ByteArray := if txtE (zs.drop i) m = 0 then .ok (strOf (((zs.drop i).drop (rdS (zs.drop i))).take (rdV (zs.drop i)).toNat), i + rdS (zs.drop i) + (rdV (zs.drop i)).toNat) else .error (txtE (zs.drop i) m)
def flgE (zs : List Int) (i : Nat) : Int := if i < zs.length then (if 1 < ix zs i then 4 else 0) else 3
def dFlg (zs : List Int) (i : Nat) : Rdm Bool := if flgE zs i = 0 then .ok (decide (ix zs i = 1), i + 1) else .error (flgE zs i)
/-! ### There -/
section
variable {zs ys : List Int} {i : Nat}
theorem drop_next {e : List Int} (hd : zs.drop i = e ++ ys) : zs.drop (i + e.length) = ys := by rw [← List.drop_drop, hd, List.drop_left]
theorem mnum_there (n : Int) (hd : zs.drop i = num7 n ++ ys) (h0 : -9223372036854775808 ≤ n) (h1 : n ≤ 9223372036854775807) : dNum zs i = .ok (n, i + (num7 n).length) := by
  obtain ⟨e1, e2, e3⟩ := rd_num7 n ys h0 h1
  unfold dNum
  rw [hd, if_pos e3, e1, e2]
theorem mcnt_there (n : Nat) (m : Int) (hd : zs.drop i = num7 n ++ ys) (h : (n : Int) ≤ m) (hm : m ≤ 9223372036854775807) : dCnt zs m i = .ok ((n : Int), i + (num7 n).length) := by
  obtain ⟨e1, e2, e3⟩ := rd_num7 n ys (by omega) (by omega)
  have ec : cntE (zs.drop i) m = 0 := by unfold cntE; rw [hd, e3, if_pos rfl, e1, if_neg (by omega)]
  unfold dCnt
  rw [if_pos ec, hd, e1, e2]
theorem mtxt_there (s : ByteArray) (m : Int) (hd : zs.drop i = text7 s ++ ys) (hs : (s.size : Int) ≤ m) (hm : m ≤ 9223372036854775807) : dTxt zs m i = .ok (s, i + (text7 s).length) := by
  have hd' : zs.drop i = num7 (s.size : Int) ++ (strL s ++ ys) := by rw [hd]; unfold text7; rw [List.append_assoc]
  obtain ⟨e1, e2, e3⟩ := rd_num7 (s.size : Int) (strL s ++ ys) (by omega) (by omega)
  have ec : cntE (zs.drop i) m = 0 := by unfold cntE; rw [hd', e3, if_pos rfl, e1, if_neg (by omega)]
  have et : txtE (zs.drop i) m = 0 := by
    unfold txtE
    rw [ec, if_pos rfl, hd', e1, e2, List.length_append, List.length_append, length_strL, if_neg (by omega)]
  unfold dTxt
  rw [if_pos et, hd', e1, e2, List.drop_left, Int.toNat_natCast, ← length_strL, List.take_left, str_strL, text7_len, length_strL, Nat.add_assoc]
theorem mflg_there (f : Bool) (hd : zs.drop i = flg7 f ++ ys) : dFlg zs i = .ok (f, i + (flg7 f).length) := by
  have hi : i < zs.length := by
    rcases Nat.lt_or_ge i zs.length with h | h
    · exact h
    · rw [List.drop_of_length_le h] at hd; cases f <;> cases hd
  have hx : ix zs i = if f then 1 else 0 := by
    rw [List.drop_eq_getElem_cons hi] at hd
    rw [ix_lt zs hi]
    cases f
    · injection hd
    · injection hd
  have he : flgE zs i = 0 := by unfold flgE; rw [if_pos hi, hx]; cases f <;> rfl
  unfold dFlg
  rw [if_pos he, hx]
  cases f <;> rfl
end
/-! ### An error is never nought -/
def Nz {α : Type} (x : Rdm α) : Prop := ∀ e, x = .error e → e ≠ 0
theorem Nz.ok {α : Type} (v : α × Nat) : Nz (.ok v : Rdm α) := fun e h => by cases h
theorem Nz.bnd {α β : Type} {x : Rdm α} {f : α → Nat → Rdm β} (hx : Nz x) (hf : ∀ a j, Nz (f a j)) : Nz (bnd x f) := by
  unfold Go.Proofs.YtiaegloipnhhdaaGreat.bnd
  cases x with
  | error e => exact fun e' h => hx e' (by cases h; rfl)
  | ok v => obtain ⟨a, j⟩ := v; exact hf a j
theorem nz_if {α : Type} {y : Int} {v : α × Nat} : Nz (if y = 0 then .ok v else .error y : Rdm α) := by
  split
  · exact Nz.ok v
  · rename_i h
    exact fun e he => by cases he; exact h
theorem nz_num (zs : List Int) (i : Nat) : Nz (dNum zs i) := nz_if
theorem nz_cnt (zs : List Int) (m : Int) (i : Nat) : Nz (dCnt zs m i) := nz_if
theorem nz_txt (zs : List Int) (m : Int) (i : Nat) : Nz (dTxt zs m i) := nz_if
theorem nz_flg (zs : List Int) (i : Nat) : Nz (dFlg zs i) := nz_if
/-! ### Back -/
theorem bnd_ok {α β : Type} {x : Rdm α} {f : α → Nat → Rdm β} {v : β × Nat} (h : bnd x f = .ok v) : ∃ a j, x = .ok (a, j) ∧ f a j = .ok v := by
  unfold bnd at h
  cases x with
  | error e => cases h
  | ok w => obtain ⟨a, j⟩ := w; exact ⟨a, j, rfl, h⟩
theorem strL_strOf {x : List Int} (h : Octets x) : strL (strOf x) = x ∧ (strOf x).size = x.length := by
  constructor
  · unfold strL strOf
    rw [List.toList_toArray, List.map_map]
    conv => rhs; rw [← List.map_id x]
    apply List.map_congr_left
    intro z hz
    obtain ⟨h0, h1⟩ := h z hz
    show ((UInt8.ofNat z.toNat).toNat : Int) = z
    rw [UInt8.toNat_ofNat']
    omega
  · unfold strOf
    show (List.toArray _).size = _
    simp
section
variable {zs : List Int} {i j : Nat}
theorem mnum_back (hz : Octets zs) {n : Int} (h : dNum zs i = .ok (n, j)) : zs.drop i = num7 n ++ zs.drop j ∧ -9223372036854775808 ≤ n ∧ n ≤ 9223372036854775807 := by
  unfold dNum at h
  split at h
  · rename_i he
    cases h
    have ho := octets_drop hz i
    have hb := rd_bounds ho
    refine ⟨?_, hb.1, hb.2.1⟩
    rw [rd_back ho he, ← List.drop_drop, List.take_append_drop]
  · cases h
theorem cnt_says {ys : List Int} {m : Int} (h : cntE ys m = 0) : rdE ys = 0 ∧ 0 ≤ rdV ys ∧ rdV ys ≤ m := by
  unfold cntE at h
  split at h
  · rename_i he
    split at h
    · cases h
    · rename_i hn
      exact ⟨he, by omega, by omega⟩
  · rename_i he
    exact absurd h he
theorem mcnt_back (hz : Octets zs) {m n : Int} (h : dCnt zs m i = .ok (n, j)) : zs.drop i = num7 n ++ zs.drop j ∧ 0 ≤ n ∧ n ≤ m := by
  unfold dCnt at h
  split at h
  · rename_i hc
    cases h
    obtain ⟨he, h0, h1⟩ := cnt_says hc
    have ho := octets_drop hz i
    refine ⟨?_, h0, h1⟩
    rw [rd_back ho he, ← List.drop_drop, List.take_append_drop]
  · cases h
theorem mtxt_back (hz : Octets zs) {m : Int} {s : ByteArray} (h : dTxt zs m i = .ok (s, j)) : zs.drop i = text7 s ++ zs.drop j := by
  unfold dTxt at h
  split at h
  · rename_i ht
    cases h
    have ho := octets_drop hz i
    generalize hy : zs.drop i = ys at ht ho ⊢
    have hc : cntE ys m = 0 ∧ (rdV ys ≤ (ys.length : Int) - (rdS ys : Nat)) := by
      unfold txtE at ht
      split at ht
      · rename_i hc
        split at ht
        · cases ht
        · exact ⟨hc, by omega⟩
      · rename_i hc
        exact absurd ht hc
    obtain ⟨he, h0, _⟩ := cnt_says hc.1
    have hb := rd_back ho he
    have hx : Octets ((ys.drop (rdS ys)).take (rdV ys).toNat) := octets_take (octets_drop ho _) _
    obtain ⟨x1, x2⟩ := strL_strOf hx
    have hl : ((ys.drop (rdS ys)).take (rdV ys).toNat).length = (rdV ys).toNat := by
      rw [List.length_take, List.length_drop]; omega
    unfold text7
    rw [x1, x2, hl, Int.toNat_of_nonneg h0, hb, ← List.drop_drop, ← List.drop_drop, hy, List.append_assoc, List.take_append_drop, List.take_append_drop]
  · cases h
theorem mflg_back (hz : Octets zs) {f : Bool} (h : dFlg zs i = .ok (f, j)) : zs.drop i = flg7 f ++ zs.drop j := by
  unfold dFlg at h
  split at h
  · rename_i he
    cases h
    unfold flgE at he
    split at he
    · rename_i hi
      split at he
      · cases he
      · rename_i h1
        have h0 := (hz.ix i).1
        rw [List.drop_eq_getElem_cons hi, ← ix_lt zs hi]
        show ix zs i :: zs.drop (i + 1) = flg7 _ ++ zs.drop (i + 1)
        have : flg7 (decide (ix zs i = 1)) = [ix zs i] := by
          unfold flg7
          by_cases e : ix zs i = 1
          · rw [decide_eq_true e, e]; rfl
          · rw [decide_eq_false e]
            have : ix zs i = 0 := by omega
            rw [this]; rfl
        rw [this]; rfl
    · cases he
  · cases h
end
end Go.Proofs.YtiaegloipnhhdaaGreat
