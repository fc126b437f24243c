/- Proved: the law WordTurns returns true. Conditions: none beyond the row's own. -/
import Derived.Test.YtdhlaaadliflcaaFrame
import Derived.Test.YtdhlaaadliflcaaRuns
namespace Go.Proofs.Ytdhlaaadliflcaa.wordTurns
open Go.ChangeShapes Go.WideShapes Go.ChangeAt Go.RowKit
theorem back (u a : Int) (h0 : 0 ≤ u) (h1 : u ≤ 18446744073709551615) : (turnI (turnI u a) (64 - bits .and .i64 a 63) == u) = true := by
  rw [and_63, turnI_turnI u _ _ h0 h1, turnI_zero u _ h0 h1 (by omega)]; simp
theorem both (u a b : Int) (h0 : 0 ≤ u) (h1 : u ≤ 18446744073709551615) : (turnI (turnI u a) b == turnI u (bits .and .i64 a 63 + bits .and .i64 b 63)) = true := by
  rw [and_63, and_63, turnI_turnI u _ _ h0 h1, turnI_mod u (a + b) (a % 64 + b % 64) (by omega)]; simp
theorem counts (u a : Int) (h0 : 0 ≤ u) (h1 : u ≤ 18446744073709551615) : (((cnt 64 (turnI u a).toNat : Nat) : Int) == ((cnt 64 u.toNat : Nat) : Int)) = true := by
  unfold turnI
  rw [Int.toNat_natCast, cnt_turn _ _ (by omega) (by omega)]; simp
set_option maxHeartbeats 1000000 in
theorem walk (a0 a1 a2 : Int) (W : World) (b0 : 0 ≤ a0 ∧ a0 ≤ 18446744073709551615) (_ : -9223372036854775808 ≤ a1 ∧ a1 ≤ 9223372036854775807) (_ : -9223372036854775808 ≤ a2 ∧ a2 ≤ 9223372036854775807) :
    Calls Try.prog 7 #[.int .u64 a0, .int .i64 a1, .int .i64 a2] W fun e w' => e = .returned (.bool true) ∧ Below W.heap.size W w' := by
  obtain ⟨b0, b0'⟩ := b0
  obtain ⟨x0, x1⟩ := turnI_bounds a0 a1 b0 b0'
  have i0 : 0 ≤ bits .and .i64 a1 63 := by rw [and_63]; omega
  have i1 : bits .and .i64 a1 63 ≤ 63 := by rw [and_63]; omega
  have j0 : 0 ≤ bits .and .i64 a2 63 := by rw [and_63]; omega
  have j1 : bits .and .i64 a2 63 ≤ 63 := by rw [and_63]; omega
  have f1 := back a0 a1 b0 b0'
  have f2 := both a0 a1 a2 b0 b0'
  have f3 := counts a0 a1 b0 b0'
  go_enter Try.func7, Try.ntmps7
  go_wp2_with (first
    | (go_at_call 15; (with_reducible refine (turn_any a0 _ _ b0 b0').mono ?_); rintro e w1 ⟨rfl, q1, rfl⟩)
    | (go_at_call 15; (with_reducible refine (turn_any (turnI a0 a1) _ _ x0 x1).mono ?_); rintro e w1 ⟨rfl, q1, rfl⟩)
    | (go_at_call 32; (with_reducible refine (count_any a0 _ b0 b0').mono ?_); rintro e w1 ⟨rfl, rfl⟩)
    | (go_at_call 32; (with_reducible refine (count_any (turnI a0 a1) _ x0 x1).mono ?_); rintro e w1 ⟨rfl, rfl⟩)
    | (go_at_call 3; (with_reducible refine (runs_any _).mono ?_); rintro e w9 ⟨rfl, hb9⟩))
  go_ret
  exact ⟨rfl, kept_trans (by repeat (first | exact kept_refl _ | apply kept_drewN | apply kept_alloc)) hb9⟩
set_option maxRecDepth 100000 in
theorem lifted (os : Os) (started : os.Started) (H : Type) (enc : TypeId × Value → H) :
    ReturnsInHanded {} Try.checked os 7 .any (Rows.wordTurnsSpec.pre6 enc Try.prog Try.f7 Rows.wordTurnsRow.domain false) (Rows.wordTurnsSpec.post enc Try.prog Try.f7 false true false false) := by
  refine returnsInHanded_of_change (C := Try.checked) own started (by kernel_rfl) Try.func7
    (ChangeSpec.witness6 (enc := enc) (C := Try.checked) false ⟨#[], #[.int .u64 0, .int .i64 0, .int .i64 0], []⟩ 8 (by kernel_rfl) (by kernel_rfl) (by kernel_rfl) (by kernel_rfl)) ?_
  intro W base args ds gs before hval0 hW _ _
  have hval : ∀ (j : Nat) t v, Try.f7.params[j]? = some t → args[j]? = some v → Value.okWide Try.prog W .any base t v := hval0
  have hW' := hW
  obtain ⟨p, q, hA0, hV, rfl, _, _⟩ := hW
  have hA : DataW.TrodAll enc Try.prog W 0 (fun _ => true) true Try.f7.params.toList args.toList ds p := hA0
  rw [Try.params7] at hA hval
  obtain ⟨v0, vs0, d0, ds0, p0, q0, hargs, rfl, rfl, h0, r0⟩ := trodAll_cons hA
  obtain ⟨v1, vs1, d1, ds1, p1, q1, rfl, rfl, rfl, h1, r1⟩ := trodAll_cons r0
  obtain ⟨v2, vs2, d2, ds2, p2, q2, rfl, rfl, rfl, h2, r2⟩ := trodAll_cons r1
  obtain ⟨rfl, rfl, rfl⟩ := trodAll_nil r2
  obtain rfl : args = #[v0, v1, v2] := by cases args; simp_all
  obtain ⟨rfl, rfl⟩ := trodVars_none hV
  obtain ⟨a0, rfl, rfl, rfl, w0⟩ := open_int Try.underlying22 (hval 0 22 v0 rfl rfl) h0
  obtain ⟨a1, rfl, rfl, rfl, w1⟩ := open_int Try.underlying3 (hval 1 3 v1 rfl rfl) h1
  obtain ⟨a2, rfl, rfl, rfl, w2⟩ := open_int Try.underlying3 (hval 2 3 v2 rfl rfl) h2
  clear hA0 hval0
  refine (walk a0 a1 a2 W (bounds_u64 w0) (bounds_i64 w1) (bounds_i64 w2)).mono fun e W' ⟨he, bel⟩ => ?_
  subst he
  exact ⟨_, rfl, _, _, _, [], _, [], hW', trodAll_mk1 (shut_bool Try.underlying4 _), (trodAll_cons_mk (shut_int Try.underlying22 w0) (trodAll_cons_mk (shut_int Try.underlying3 w1) (trodAll_cons_mk (shut_int Try.underlying3 w2) trodAll_mk0))), rfl, bel.frame _, fun h => by cases h⟩
theorem over : Rows.wordTurnsRow.holds Try.pinned (OpenSpec.ofChange Rows.wordTurnsSpec) :=
  OpenClaim.holds_of_wide 7 Try.f7 rfl rfl rfl rfl rfl rfl rfl ⟨rfl, rfl, rfl, rfl, rfl⟩ rfl rfl rfl rfl rfl (by kernel_rfl) Try.func7 (by kernel_rfl)
    (of_decide_eq_true (by kernel_rfl)) (by unfold Func.isWrapper; first | (rw [if_pos (by decide +kernel)]; kernel_rfl) | (rw [if_neg (by decide +kernel)]; exact ⟨rfl, rfl⟩))
    (fun os started H enc _ => lifted os started H enc)
theorem proved : Rows.WordTurnsSaid := over
end Go.Proofs.Ytdhlaaadliflcaa.wordTurns
