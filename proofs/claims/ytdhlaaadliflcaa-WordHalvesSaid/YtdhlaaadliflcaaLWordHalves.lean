/- Proved: the law WordHalves returns true. Conditions: none beyond the row's own. -/
import Derived.Test.YtdhlaaadliflcaaFrame
import Derived.Test.YtdhlaaadliflcaaRuns
import Derived.Test.YtdhlaaadliflcaaUse
import Derived.Deep.DeepCutAuto
namespace Go.Proofs.Ytdhlaaadliflcaa.wordHalves
open Go.ChangeShapes Go.WideShapes Go.ChangeAt Go.RowKit
theorem within_7 (n : Int) : ∃ K : Nat, 1 ≤ K ∧ K ≤ 7 ∧ ∀ w : World, Calls Try.prog 30 #[.int .i64 n, .int .i64 1, .int .i64 7] w fun e w' => e = .returned (.int .i64 (K : Int)) ∧ w = w' := by
  have h : 1 ≤ withinI n 1 7 ∧ withinI n 1 7 ≤ 7 := by unfold withinI; omega
  refine ⟨(withinI n 1 7).toNat, by omega, by omega, fun w => ?_⟩
  rw [Int.toNat_of_nonneg (by omega)]
  exact within_any n 1 7 w (by omega) (by omega) (by omega)
theorem split8 (u : Int) (K : Nat) (k1 : K ≤ 7) : putL u K ++ putL (u / 2 ^ (8 * K)) (8 - K) = putL u 8 := by
  rw [← pow256, ← putL_add]
  congr 1; omega
theorem get8 (u : Int) (K : Nat) (k0 : 1 ≤ K) (k1 : K ≤ 7) (u0 : 0 ≤ u) (u1 : u ≤ 18446744073709551615) : getV (putL u 8) K (8 - K) = u / 2 ^ (8 * K) ∧ getE (putL u 8) K (8 - K) = 0 := by
  have hb : ¬ GetBad (putL u 8) K (8 - K) := by unfold GetBad; rw [length_putL]; omega
  have hl : ¬ (((putL u 8).length : Nat) : Int) - K < 8 - K := by rw [length_putL]; omega
  unfold getV getE
  rw [if_neg hb, if_neg hl, if_neg hb, if_neg hl, Int.toNat_natCast]
  refine ⟨?_, rfl⟩
  rw [le_putL u 8 K _ (by omega), pow256 K]
  have e : (8 - (K : Int)).toNat = 8 - K := by omega
  rw [e]
  refine Int.emod_eq_of_lt (Int.ediv_nonneg u0 (Int.le_of_lt (pow_pos _))) (Int.ediv_lt_of_lt_mul (pow_pos _) ?_)
  rw [pow256, ← Int.pow_add]
  have e2 : 8 * (8 - K) + 8 * K = 64 := by omega
  rw [e2]
  have : (2 : Int) ^ 64 = 18446744073709551616 := rfl
  omega
theorem get_half {A : Option Addr} {u : Int} {K : Nat} {w : World} (hl : Lies w A (putL u 8)) (k0 : 1 ≤ K) (k1 : K ≤ 7) (u0 : 0 ≤ u) (u1 : u ≤ 18446744073709551615) :
    Calls Try.prog 12 #[.slice A 8 8, .int .i64 (K : Int), .int .i64 (8 - (K : Int))] w fun e w' => e = .returned (.tuple #[.int .u64 (u / 2 ^ (8 * K)), .int .i64 0]) ∧ w = w' := by
  have h := get_any A 8 8 (putL u 8) K (8 - K) w rfl hl (octets_putL u 8) (by omega)
  rwa [(get8 u K k0 k1 u0 u1).1, (get8 u K k0 k1 u0 u1).2] at h
theorem same_8 {A B : Option Addr} {u : Int} {w : World} (h1 : Lies w A (putL u 8)) (h2 : Lies w B (putL u 8)) :
    Calls Try.prog 18 #[.slice A 8 8, .slice B 8 8] w fun e w' => e = .returned (.bool true) ∧ ∃ q, w' = w.drewN q := by
  have h := same_any A B 8 8 8 8 (putL u 8) (putL u 8) w rfl rfl h1 h2 (by omega) (by omega)
  rwa [decide_eq_true rfl] at h
set_option maxHeartbeats 1000000 in
theorem walk (a0 a1 : Int) (W : World) (b0 : 0 ≤ a0 ∧ a0 ≤ 18446744073709551615) (_ : -9223372036854775808 ≤ a1 ∧ a1 ≤ 9223372036854775807) :
    Calls Try.prog 11 #[.int .u64 a0, .int .i64 a1] W fun e w' => e = .returned (.bool true) ∧ Below W.heap.size W w' := by
  obtain ⟨b0, b0'⟩ := b0
  obtain ⟨K, k0, k1, hW⟩ := within_7 a1
  have hw := hide hW
  clear hW
  have hm8 : putM 8 = 8 := rfl
  have hmK : putM (K : Int) = K := by unfold putM; omega
  have hmR : putM (8 - (K : Int)) = 8 - K := by unfold putM; omega
  have h8 := hide hm8; have hK := hide hmK; have hR := hide hmR
  clear hm8 hmK hmR
  have hs := hide (split8 a0 K k1)
  go_enter Try.func11, Try.ntmps11
  go_upto_region 3 with (first
    | (go_at_call 30; (with_reducible refine (hw.out _).mono ?_); rintro e w1 ⟨rfl, rfl⟩)
    | (go_at_call 19; (with_reducible refine (put_nil 8 _ h8.out).mono ?_); rintro e w1 ⟨A1, rfl, hl1, hA1, hb1⟩))
  go_cut [7] (fun s7 wx => ∃ A2, s7 = .slice A2 8 8 ∧ Lies wx A2 (putL a0 8) ∧ Lies wx A1 (putL a0 8) ∧ Below W.heap.size W wx)
  case first =>
    have g1 := hide (show K ≤ 140737488355320 by omega)
    have g2 := hide (show K + (8 - K) = 8 by omega)
    have e1 : IntKind.i64.wrap (8 * (K : Int)) = 8 * (K : Int) := IntWalk.i64_in _ ⟨by omega, by omega⟩
    have e2 : IntKind.i64.wrap (8 - (K : Int)) = 8 - (K : Int) := IntWalk.i64_in _ ⟨by omega, by omega⟩
    have e3 : 0 ≤ 8 * (K : Int) := by clear e1 e2; omega
    have e4 : (8 * (K : Int)).toNat = 8 * K := by clear e1 e2; omega
    go_region_with (first
      | (go_at_call 19; (with_reducible refine (put_nil K _ hK.out).mono ?_); rintro e w2 ⟨A2, rfl, hl2, hA2, hb2⟩)
      | (go_at_call 19; (with_reducible refine (put_use 8 (8 - K) _ (length_putL _ _) hl2 hA2 g1.out hR.out g2.out).mono ?_); rintro e w3 ⟨A3, rfl, hl3, hA3, hb3⟩))
    all_goals
      clear e1 e2 e3 e4
      go_wp2_with fail
      go_meet
      exact ⟨A3, rfl, (by rw [← hs.out]; exact hl3), (hl1.drew.below hb2).below hb3, kept_trans (kept_trans (kept_drewN hb1 1) hb2) hb3⟩
  case rest =>
    obtain ⟨A2, rfl, hl2, hl1', hb⟩ := hcut
    clear hl1 hA1 hb1 hw h8 hK hR hs
    go_wp2_with (first
      | (go_at_call 12; (with_reducible refine (get_half hl1' k0 k1 b0 b0').mono ?_); rintro e w4 ⟨rfl, rfl⟩)
      | (go_at_call 18; (with_reducible refine (same_8 hl1' hl2).mono ?_); rintro e w5 ⟨rfl, q, rfl⟩)
      | (go_at_call 3; (with_reducible refine (runs_any _).mono ?_); rintro e w9 ⟨rfl, hb9⟩))
    go_ret
    exact ⟨rfl, kept_trans (kept_trans hb (by repeat (first | exact kept_refl _ | apply kept_drewN | apply kept_alloc))) hb9⟩
set_option maxRecDepth 100000 in
theorem lifted (os : Os) (started : os.Started) (H : Type) (enc : TypeId × Value → H) :
    ReturnsInHanded {} Try.checked os 11 .any (Rows.wordHalvesSpec.pre6 enc Try.prog Try.f11 Rows.wordHalvesRow.domain false) (Rows.wordHalvesSpec.post enc Try.prog Try.f11 false true false false) := by
  refine returnsInHanded_of_change (C := Try.checked) own started (by kernel_rfl) Try.func11
    (ChangeSpec.witness6 (enc := enc) (C := Try.checked) false ⟨#[], #[.int .u64 0, .int .i64 0], []⟩ 8 (by kernel_rfl) (by kernel_rfl) (by kernel_rfl) (by kernel_rfl)) ?_
  intro W base args ds gs before hval0 hW _ _
  have hval : ∀ (j : Nat) t v, Try.f11.params[j]? = some t → args[j]? = some v → Value.okWide Try.prog W .any base t v := hval0
  have hW' := hW
  obtain ⟨p, q, hA0, hV, rfl, _, _⟩ := hW
  have hA : DataW.TrodAll enc Try.prog W 0 (fun _ => true) true Try.f11.params.toList args.toList ds p := hA0
  rw [Try.params11] at hA hval
  obtain ⟨v0, vs0, d0, ds0, p0, q0, hargs, rfl, rfl, h0, r0⟩ := trodAll_cons hA
  obtain ⟨v1, vs1, d1, ds1, p1, q1, rfl, rfl, rfl, h1, r1⟩ := trodAll_cons r0
  obtain ⟨rfl, rfl, rfl⟩ := trodAll_nil r1
  obtain rfl : args = #[v0, v1] := by cases args; simp_all
  obtain ⟨rfl, rfl⟩ := trodVars_none hV
  obtain ⟨a0, rfl, rfl, rfl, w0⟩ := open_int Try.underlying22 (hval 0 22 v0 rfl rfl) h0
  obtain ⟨a1, rfl, rfl, rfl, w1⟩ := open_int Try.underlying3 (hval 1 3 v1 rfl rfl) h1
  clear hA0 hval0
  refine (walk a0 a1 W (bounds_u64 w0) (bounds_i64 w1)).mono fun e W' ⟨he, bel⟩ => ?_
  subst he
  exact ⟨_, rfl, _, _, _, [], _, [], hW', trodAll_mk1 (shut_bool Try.underlying4 _), (trodAll_cons_mk (shut_int Try.underlying22 w0) (trodAll_cons_mk (shut_int Try.underlying3 w1) trodAll_mk0)), rfl, bel.frame _, fun h => by cases h⟩
theorem over : Rows.wordHalvesRow.holds Try.pinned (OpenSpec.ofChange Rows.wordHalvesSpec) :=
  OpenClaim.holds_of_wide 11 Try.f11 rfl rfl rfl rfl rfl rfl rfl ⟨rfl, rfl, rfl, rfl, rfl⟩ rfl rfl rfl rfl rfl (by kernel_rfl) Try.func11 (by kernel_rfl)
    (of_decide_eq_true (by kernel_rfl)) (by unfold Func.isWrapper; first | (rw [if_pos (by decide +kernel)]; kernel_rfl) | (rw [if_neg (by decide +kernel)]; exact ⟨rfl, rfl⟩))
    (fun os started H enc _ => lifted os started H enc)
theorem proved : Rows.WordHalvesSaid := over
end Go.Proofs.Ytdhlaaadliflcaa.wordHalves
