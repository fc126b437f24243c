/- Proved: the law WordLows returns true. Conditions: none beyond the row's own. -/
import Derived.Test.YtdhlaaadliflcaaFrame
import Derived.Test.YtdhlaaadliflcaaRuns
namespace Go.Proofs.Ytdhlaaadliflcaa.wordLows
open Go.ChangeShapes Go.WideShapes Go.ChangeAt Go.RowKit
theorem low_low (u i j : Int) (i0 : 0 ≤ i) (i1 : i ≤ 64) (j0 : 0 ≤ j) (j1 : j ≤ 64) (h0 : 0 ≤ u) (h1 : u ≤ 18446744073709551615) : lowI (lowI u i) j = lowI u (if i ≤ j then i else j) := by
  have hp64 : (2 : Int) ^ (64 : Nat) = 18446744073709551616 := rfl
  have low_eq : ∀ (v k : Int), 0 ≤ k → k ≤ 64 → 0 ≤ v → v ≤ 18446744073709551615 → lowI v k = v % 2 ^ k.toNat := by
    intro v k k0 k1 v0 v1
    unfold lowI
    by_cases c0 : k < 1
    · obtain rfl : k = 0 := by omega
      rw [if_pos c0]; simp
    · rw [if_neg c0]
      by_cases c1 : 64 ≤ k
      · obtain rfl : k = 64 := by omega
        rw [if_pos c1, show (64 : Int).toNat = 64 from rfl, hp64, Int.emod_eq_of_lt v0 (by omega)]
      · rw [if_neg c1]
  have hb := Int.emod_nonneg u (show (2 : Int) ^ i.toNat ≠ 0 from Int.ne_of_gt (pow_pos _))
  have hle : u % 2 ^ i.toNat ≤ 18446744073709551615 := by
    have h2 := Int.emod_lt_of_pos u (pow_pos i.toNat)
    have h3 : (2 : Int) ^ i.toNat ≤ 18446744073709551616 := by
      rcases (show i.toNat ≤ 63 ∨ i.toNat = 64 by omega) with h | h
      · have := pow_le_63 h; omega
      · rw [h, hp64]; omega
    omega
  rw [low_eq u i i0 i1 h0 h1, low_eq _ j j0 j1 hb hle]
  by_cases c : i ≤ j
  · rw [if_pos c, low_eq u i i0 i1 h0 h1]
    have e : j.toNat = i.toNat + (j - i).toNat := by omega
    have hlt := Int.emod_lt_of_pos u (pow_pos i.toNat)
    have hp : (2 : Int) ^ i.toNat ≤ 2 ^ j.toNat := by
      rw [e, Int.pow_add]
      have := pow_pos (j - i).toNat
      have h2 : (2 : Int) ^ i.toNat * 1 ≤ 2 ^ i.toNat * 2 ^ (j - i).toNat := Int.mul_le_mul_of_nonneg_left (by omega) (Int.le_of_lt (pow_pos _))
      omega
    exact Int.emod_eq_of_lt hb (by omega)
  · rw [if_neg c, low_eq u j j0 j1 h0 h1]
    have e : i.toNat = j.toNat + (i - j).toNat := by omega
    rw [e, Int.pow_add]
    exact Int.emod_emod_of_dvd u (Int.dvd_mul_right _ _)
theorem low_le (u i : Int) (h0 : 0 ≤ u) : lowI u i ≤ u := by
  unfold lowI
  by_cases c0 : i < 1
  · rw [if_pos c0]; omega
  · rw [if_neg c0]
    by_cases c1 : 64 ≤ i
    · rw [if_pos c1]; exact Int.le_refl _
    · rw [if_neg c1]; exact Int.le_trans (Int.le_of_eq (by rw [Int.emod_def])) (Int.sub_le_self _ (Int.mul_nonneg (Int.le_of_lt (pow_pos _)) (Int.ediv_nonneg h0 (Int.le_of_lt (pow_pos _)))))
theorem low_nonneg (u i : Int) (h0 : 0 ≤ u) : 0 ≤ lowI u i := by
  unfold lowI
  by_cases c0 : i < 1
  · rw [if_pos c0]; omega
  · rw [if_neg c0]
    by_cases c1 : 64 ≤ i
    · rw [if_pos c1]; exact h0
    · rw [if_neg c1]; exact Int.emod_nonneg _ (Int.ne_of_gt (pow_pos _))
theorem low_above (u i : Int) (i1 : i < 64) : lowI u i / 2 ^ i.toNat = 0 := by
  have hp := pow_pos i.toNat
  unfold lowI
  by_cases c0 : i < 1
  · rw [if_pos c0]; simp
  · rw [if_neg c0, if_neg (by omega)]
    exact Int.ediv_eq_zero_of_lt (Int.emod_nonneg _ (Int.ne_of_gt hp)) (Int.emod_lt_of_pos _ hp)
theorem within_64 (n : Int) : 0 ≤ withinI n 0 64 ∧ withinI n 0 64 ≤ 64 := by unfold withinI; omega
set_option maxHeartbeats 1000000 in
theorem walk (a0 a1 a2 : Int) (W : World) (b0 : 0 ≤ a0 ∧ a0 ≤ 18446744073709551615) (_ : -9223372036854775808 ≤ a1 ∧ a1 ≤ 9223372036854775807) (_ : -9223372036854775808 ≤ a2 ∧ a2 ≤ 9223372036854775807) :
    Calls Try.prog 10 #[.int .u64 a0, .int .i64 a1, .int .i64 a2] W fun e w' => e = .returned (.bool true) ∧ Below W.heap.size W w' := by
  obtain ⟨b0, b0'⟩ := b0
  obtain ⟨i0, i1⟩ := within_64 a1
  obtain ⟨j0, j1⟩ := within_64 a2
  have x0 := low_nonneg a0 (withinI a1 0 64) b0
  have x1 := low_le a0 (withinI a1 0 64) b0
  have f1 : (lowI a0 64 == a0) = true := by unfold lowI; rw [if_neg (by omega), if_pos (by omega)]; simp
  have f2 : (lowI a0 0 == 0) = true := by unfold lowI; rw [if_pos (by omega)]; rfl
  have hll := low_low a0 (withinI a1 0 64) (withinI a2 0 64) i0 i1 j0 j1 b0 b0'
  by_cases c : withinI a1 0 64 ≤ withinI a2 0 64
  all_goals
    first | rw [if_pos c] at hll | rw [if_neg c] at hll
    have f3 := beq_iff_eq.2 hll
    clear hll
    by_cases d : withinI a1 0 64 = 64
    · have f4 : (withinI a1 0 64 == 64) = true := beq_iff_eq.2 d
      have D := hide d
      clear d
      go_enter Try.func10, Try.ntmps10
      go_wp2_with (first
        | (go_at_call 30; (with_reducible refine (within_any _ _ _ _ (by omega) (by omega) (by omega)).mono ?_); rintro e w1 ⟨rfl, rfl⟩)
        | (go_at_call 13; (with_reducible refine (low_any a0 _ _ b0 b0').mono ?_); rintro e w1 ⟨rfl, rfl⟩)
        | (go_at_call 13; (with_reducible refine (low_any (lowI a0 (withinI a1 0 64)) _ _ x0 (by omega)).mono ?_); rintro e w1 ⟨rfl, rfl⟩)
        | (go_at_call 3; (with_reducible refine (runs_any _).mono ?_); rintro e w9 ⟨rfl, hb9⟩))
      go_ret
      exact ⟨rfl, hb9⟩
    · have f4 : (withinI a1 0 64 == 64) = false := beq_eq_false_iff_ne.2 d
      have f5 : (lowI a0 (withinI a1 0 64) / 2 ^ (withinI a1 0 64).toNat == 0) = true := beq_iff_eq.2 (low_above a0 _ (by omega))
      go_enter Try.func10, Try.ntmps10
      go_wp2_with (first
        | (go_at_call 30; (with_reducible refine (within_any _ _ _ _ (by omega) (by omega) (by omega)).mono ?_); rintro e w1 ⟨rfl, rfl⟩)
        | (go_at_call 13; (with_reducible refine (low_any a0 _ _ b0 b0').mono ?_); rintro e w1 ⟨rfl, rfl⟩)
        | (go_at_call 13; (with_reducible refine (low_any (lowI a0 (withinI a1 0 64)) _ _ x0 (by omega)).mono ?_); rintro e w1 ⟨rfl, rfl⟩)
        | (go_at_call 3; (with_reducible refine (runs_any _).mono ?_); rintro e w9 ⟨rfl, hb9⟩))
      go_ret
      exact ⟨rfl, hb9⟩
set_option maxRecDepth 100000 in
theorem lifted (os : Os) (started : os.Started) (H : Type) (enc : TypeId × Value → H) :
    ReturnsInHanded {} Try.checked os 10 .any (Rows.wordLowsSpec.pre6 enc Try.prog Try.f10 Rows.wordLowsRow.domain false) (Rows.wordLowsSpec.post enc Try.prog Try.f10 false true false false) := by
  refine returnsInHanded_of_change (C := Try.checked) own started (by kernel_rfl) Try.func10
    (ChangeSpec.witness6 (enc := enc) (C := Try.checked) false ⟨#[], #[.int .u64 0, .int .i64 0, .int .i64 0], []⟩ 8 (by kernel_rfl) (by kernel_rfl) (by kernel_rfl) (by kernel_rfl)) ?_
  intro W base args ds gs before hval0 hW _ _
  have hval : ∀ (j : Nat) t v, Try.f10.params[j]? = some t → args[j]? = some v → Value.okWide Try.prog W .any base t v := hval0
  have hW' := hW
  obtain ⟨p, q, hA0, hV, rfl, _, _⟩ := hW
  have hA : DataW.TrodAll enc Try.prog W 0 (fun _ => true) true Try.f10.params.toList args.toList ds p := hA0
  rw [Try.params10] at hA hval
  obtain ⟨v0, vs0, d0, ds0, p0, q0, hargs, rfl, rfl, h0, r0⟩ := trodAll_cons hA
  obtain ⟨v1, vs1, d1, ds1, p1, q1, rfl, rfl, rfl, h1, r1⟩ := trodAll_cons r0
  obtain ⟨v2, vs2, d2, ds2, p2, q2, rfl, rfl, rfl, h2, r2⟩ := trodAll_cons r1
  obtain ⟨rfl, rfl, rfl⟩ := trodAll_nil r2
  obtain rfl : args = #[v0, v1, v2] := by cases args; simp_all
  obtain ⟨rfl, rfl⟩ := trodVars_none hV
  obtain ⟨a0, rfl, rfl, rfl, w0⟩ := open_int Try.underlying22 (hval 0 22 v0 rfl rfl) h0
  obtain ⟨a1, rfl, rfl, rfl, w1⟩ := open_int Try.underlying3 (hval 1 3 v1 rfl rfl) h1
  obtain ⟨a2, rfl, rfl, rfl, w2⟩ := open_int Try.underlying3 (hval 2 3 v2 rfl rfl) h2
  clear hA0 hval0
  refine (walk a0 a1 a2 W (bounds_u64 w0) (bounds_i64 w1) (bounds_i64 w2)).mono fun e W' ⟨he, bel⟩ => ?_
  subst he
  exact ⟨_, rfl, _, _, _, [], _, [], hW', trodAll_mk1 (shut_bool Try.underlying4 _), (trodAll_cons_mk (shut_int Try.underlying22 w0) (trodAll_cons_mk (shut_int Try.underlying3 w1) (trodAll_cons_mk (shut_int Try.underlying3 w2) trodAll_mk0))), rfl, bel.frame _, fun h => by cases h⟩
theorem over : Rows.wordLowsRow.holds Try.pinned (OpenSpec.ofChange Rows.wordLowsSpec) :=
  OpenClaim.holds_of_wide 10 Try.f10 rfl rfl rfl rfl rfl rfl rfl ⟨rfl, rfl, rfl, rfl, rfl⟩ rfl rfl rfl rfl rfl (by kernel_rfl) Try.func10 (by kernel_rfl)
    (of_decide_eq_true (by kernel_rfl)) (by unfold Func.isWrapper; first | (rw [if_pos (by decide +kernel)]; kernel_rfl) | (rw [if_neg (by decide +kernel)]; exact ⟨rfl, rfl⟩))
    (fun os started H enc _ => lifted os started H enc)
theorem proved : Rows.WordLowsSaid := over
end Go.Proofs.Ytdhlaaadliflcaa.wordLows
