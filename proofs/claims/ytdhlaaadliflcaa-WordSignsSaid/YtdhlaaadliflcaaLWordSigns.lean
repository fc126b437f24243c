/- Proved: the law WordSigns returns true. Conditions: none beyond the row's own. -/
import Derived.Test.YtdhlaaadliflcaaFrame
import Derived.Test.YtdhlaaadliflcaaRuns
namespace Go.Proofs.Ytdhlaaadliflcaa.wordSigns
open Go.ChangeShapes Go.WideShapes Go.ChangeAt Go.RowKit
theorem within_63 (n : Int) : 1 ≤ withinI n 1 63 ∧ withinI n 1 63 ≤ 63 := by unfold withinI; omega
/-- v = Sign(n, k): its bounds, its rest, when it is n itself. -/
theorem sign_facts (n k : Int) (k0 : 1 ≤ k) (k1 : k ≤ 63) :
    -2 ^ (k.toNat - 1) ≤ signI (IntKind.u64.wrap n) k ∧ signI (IntKind.u64.wrap n) k < 2 ^ (k.toNat - 1) ∧ lowI (IntKind.u64.wrap (signI (IntKind.u64.wrap n) k)) k = lowI (IntKind.u64.wrap n) k ∧
      ((-2 ^ (k.toNat - 1) ≤ n ∧ n < 2 ^ (k.toNat - 1)) ↔ signI (IntKind.u64.wrap n) k = n) := by
  have hd := pow_step k0
  have hk : (k - 1).toNat = k.toNat - 1 := by omega
  rw [hk] at hd
  have hp := pow_pos (k.toNat - 1)
  have hs := pow_split (b := k) k0 (by omega)
  have hq := pow_pos (64 - k).toNat
  have hdvd : (2 : Int) ^ k.toNat ∣ 18446744073709551616 := ⟨_, hs.symm⟩
  have hmod : ∀ m : Int, IntKind.u64.wrap m % 2 ^ k.toNat = m % 2 ^ k.toNat := fun m => by
    rw [IntKind.wrap_u64]; exact Int.emod_emod_of_dvd m hdvd
  have hl : ∀ m : Int, lowI (IntKind.u64.wrap m) k = m % 2 ^ k.toNat := fun m => by
    unfold lowI; rw [if_neg (by omega), if_neg (by omega), hmod]
  rw [hl, hl]
  have hv : signI (IntKind.u64.wrap n) k = if 2 ^ (k.toNat - 1) ≤ n % 2 ^ k.toNat then n % 2 ^ k.toNat - 2 ^ k.toNat else n % 2 ^ k.toNat := by
    unfold signI; rw [if_neg (by omega), if_neg (by omega), hmod, hk]
  have m0 := Int.emod_nonneg n (show (2 : Int) ^ k.toNat ≠ 0 by omega)
  have m1 := Int.emod_lt_of_pos n (show 0 < (2 : Int) ^ k.toNat by omega)
  have hrest : signI (IntKind.u64.wrap n) k % 2 ^ k.toNat = n % 2 ^ k.toNat := by
    rw [hv]
    by_cases c : (2 : Int) ^ (k.toNat - 1) ≤ n % 2 ^ k.toNat
    · rw [if_pos c, Int.sub_emod_right, Int.emod_emod_of_dvd n (Int.dvd_refl _)]
    · rw [if_neg c, Int.emod_emod_of_dvd n (Int.dvd_refl _)]
  have lo : -2 ^ (k.toNat - 1) ≤ signI (IntKind.u64.wrap n) k := by
    rw [hv]
    by_cases c : (2 : Int) ^ (k.toNat - 1) ≤ n % 2 ^ k.toNat
    · rw [if_pos c]; omega
    · rw [if_neg c]; omega
  have hi : signI (IntKind.u64.wrap n) k < 2 ^ (k.toNat - 1) := by
    rw [hv]
    by_cases c : (2 : Int) ^ (k.toNat - 1) ≤ n % 2 ^ k.toNat
    · rw [if_pos c]; omega
    · rw [if_neg c]; omega
  refine ⟨lo, hi, hrest, ⟨fun ⟨c0, c1⟩ => ?_, fun h => by rw [← h]; exact ⟨lo, hi⟩⟩⟩
  generalize (2 : Int) ^ (k.toNat - 1) = P at *
  rw [hv]
  by_cases c : 0 ≤ n
  · have e : n % 2 ^ k.toNat = n := Int.emod_eq_of_lt c (by omega)
    rw [e, if_neg (by omega)]
  · have e : n % 2 ^ k.toNat = n + 2 ^ k.toNat := by
      rw [← Int.add_emod_right]; exact Int.emod_eq_of_lt (by omega) (by omega)
    rw [e, if_pos (by omega)]; omega
set_option maxHeartbeats 1000000 in
theorem walk (a0 a1 : Int) (W : World) (b0 : -9223372036854775808 ≤ a0 ∧ a0 ≤ 9223372036854775807) (_ : -9223372036854775808 ≤ a1 ∧ a1 ≤ 9223372036854775807) :
    Calls Try.prog 8 #[.int .i64 a0, .int .i64 a1] W fun e w' => e = .returned (.bool true) ∧ Below W.heap.size W w' := by
  obtain ⟨b0, b0'⟩ := b0
  obtain ⟨k0, k1⟩ := within_63 a1
  obtain ⟨v0, v1, hlow, hfit⟩ := sign_facts a0 _ k0 k1
  have hp := pow_pos ((withinI a1 1 63).toNat - 1)
  have hp2 : (2 : Int) ^ ((withinI a1 1 63).toNat - 1) ≤ 4611686018427387904 := by
    have h1 := pow_le_63 (b := (withinI a1 1 63).toNat - 1 + 1) (by omega)
    rw [Int.pow_succ] at h1; omega
  have u0 := wrap_bounds a0
  have uv := wrap_bounds (signI (IntKind.u64.wrap a0) (withinI a1 1 63))
  have f1 := beq_iff_eq.2 hlow
  have Hf := hide hfit
  clear hfit hlow
  by_cases c0 : -2 ^ ((withinI a1 1 63).toNat - 1) ≤ a0
  · by_cases c1 : a0 < 2 ^ ((withinI a1 1 63).toNat - 1)
    · have f2 := beq_iff_eq.2 (Hf.out.1 ⟨c0, c1⟩)
      have f3 : decide (a0 < 2 ^ ((withinI a1 1 63).toNat - 1)) = true := by simpa using c1
      go_enter Try.func8, Try.ntmps8
      go_wp2_with (first
        | (go_at_call 30; (with_reducible refine (within_any _ _ _ _ (by omega) (by omega) (by omega)).mono ?_); rintro e w1 ⟨rfl, rfl⟩)
        | (go_at_call 14; (with_reducible refine (sign_any _ _ _ u0.1 u0.2).mono ?_); rintro e w1 ⟨rfl, rfl⟩)
        | (go_at_call 13; (with_reducible refine (low_wrap _ _ _).mono ?_); rintro e w1 ⟨rfl, rfl⟩)
        | (go_at_call 3; (with_reducible refine (runs_any _).mono ?_); rintro e w9 ⟨rfl, hb9⟩))
      go_ret
      exact ⟨rfl, hb9⟩
    · have f2 : (signI (IntKind.u64.wrap a0) (withinI a1 1 63) == a0) = false := beq_eq_false_iff_ne.2 (fun h => c1 (Hf.out.2 h).2)
      have f3 : decide (a0 < 2 ^ ((withinI a1 1 63).toNat - 1)) = false := by simpa using c1
      have hw : IntKind.u64.wrap a0 = a0 := IntWalk.u64_in a0 ⟨by omega, by omega⟩
      rw [hw] at v0 v1 f1 f2 u0 uv
      clear hw
      go_enter Try.func8, Try.ntmps8
      go_wp2_with (first
        | (go_at_call 30; (with_reducible refine (within_any _ _ _ _ (by omega) (by omega) (by omega)).mono ?_); rintro e w1 ⟨rfl, rfl⟩)
        | (go_at_call 14; (with_reducible refine (sign_any _ _ _ u0.1 u0.2).mono ?_); rintro e w1 ⟨rfl, rfl⟩)
        | (go_at_call 13; (with_reducible refine (low_wrap _ _ _).mono ?_); rintro e w1 ⟨rfl, rfl⟩)
        | (go_at_call 13; (with_reducible refine (low_any a0 _ _ u0.1 u0.2).mono ?_); rintro e w1 ⟨rfl, rfl⟩)
        | (go_at_call 3; (with_reducible refine (runs_any _).mono ?_); rintro e w9 ⟨rfl, hb9⟩))
      go_ret
      exact ⟨rfl, hb9⟩
  · have f2 : (signI (IntKind.u64.wrap a0) (withinI a1 1 63) == a0) = false := beq_eq_false_iff_ne.2 (fun h => c0 (Hf.out.2 h).1)
    go_enter Try.func8, Try.ntmps8
    go_wp2_with (first
      | (go_at_call 30; (with_reducible refine (within_any _ _ _ _ (by omega) (by omega) (by omega)).mono ?_); rintro e w1 ⟨rfl, rfl⟩)
      | (go_at_call 14; (with_reducible refine (sign_any _ _ _ u0.1 u0.2).mono ?_); rintro e w1 ⟨rfl, rfl⟩)
      | (go_at_call 13; (with_reducible refine (low_wrap _ _ _).mono ?_); rintro e w1 ⟨rfl, rfl⟩)
      | (go_at_call 3; (with_reducible refine (runs_any _).mono ?_); rintro e w9 ⟨rfl, hb9⟩))
    go_ret
    exact ⟨rfl, hb9⟩
set_option maxRecDepth 100000 in
theorem lifted (os : Os) (started : os.Started) (H : Type) (enc : TypeId × Value → H) :
    ReturnsInHanded {} Try.checked os 8 .any (Rows.wordSignsSpec.pre6 enc Try.prog Try.f8 Rows.wordSignsRow.domain false) (Rows.wordSignsSpec.post enc Try.prog Try.f8 false true false false) := by
  refine returnsInHanded_of_change (C := Try.checked) own started (by kernel_rfl) Try.func8
    (ChangeSpec.witness6 (enc := enc) (C := Try.checked) false ⟨#[], #[.int .i64 0, .int .i64 0], []⟩ 8 (by kernel_rfl) (by kernel_rfl) (by kernel_rfl) (by kernel_rfl)) ?_
  intro W base args ds gs before hval0 hW _ _
  have hval : ∀ (j : Nat) t v, Try.f8.params[j]? = some t → args[j]? = some v → Value.okWide Try.prog W .any base t v := hval0
  have hW' := hW
  obtain ⟨p, q, hA0, hV, rfl, _, _⟩ := hW
  have hA : DataW.TrodAll enc Try.prog W 0 (fun _ => true) true Try.f8.params.toList args.toList ds p := hA0
  rw [Try.params8] at hA hval
  obtain ⟨v0, vs0, d0, ds0, p0, q0, hargs, rfl, rfl, h0, r0⟩ := trodAll_cons hA
  obtain ⟨v1, vs1, d1, ds1, p1, q1, rfl, rfl, rfl, h1, r1⟩ := trodAll_cons r0
  obtain ⟨rfl, rfl, rfl⟩ := trodAll_nil r1
  obtain rfl : args = #[v0, v1] := by cases args; simp_all
  obtain ⟨rfl, rfl⟩ := trodVars_none hV
  obtain ⟨a0, rfl, rfl, rfl, w0⟩ := open_int Try.underlying2 (hval 0 2 v0 rfl rfl) h0
  obtain ⟨a1, rfl, rfl, rfl, w1⟩ := open_int Try.underlying3 (hval 1 3 v1 rfl rfl) h1
  clear hA0 hval0
  refine (walk a0 a1 W (bounds_i64 w0) (bounds_i64 w1)).mono fun e W' ⟨he, bel⟩ => ?_
  subst he
  exact ⟨_, rfl, _, _, _, [], _, [], hW', trodAll_mk1 (shut_bool Try.underlying4 _), (trodAll_cons_mk (shut_int Try.underlying2 w0) (trodAll_cons_mk (shut_int Try.underlying3 w1) trodAll_mk0)), rfl, bel.frame _, fun h => by cases h⟩
theorem over : Rows.wordSignsRow.holds Try.pinned (OpenSpec.ofChange Rows.wordSignsSpec) :=
  OpenClaim.holds_of_wide 8 Try.f8 rfl rfl rfl rfl rfl rfl rfl ⟨rfl, rfl, rfl, rfl, rfl⟩ rfl rfl rfl rfl rfl (by kernel_rfl) Try.func8 (by kernel_rfl)
    (of_decide_eq_true (by kernel_rfl)) (by unfold Func.isWrapper; first | (rw [if_pos (by decide +kernel)]; kernel_rfl) | (rw [if_neg (by decide +kernel)]; exact ⟨rfl, rfl⟩))
    (fun os started H enc _ => lifted os started H enc)
theorem proved : Rows.WordSignsSaid := over
end Go.Proofs.Ytdhlaaadliflcaa.wordSigns
