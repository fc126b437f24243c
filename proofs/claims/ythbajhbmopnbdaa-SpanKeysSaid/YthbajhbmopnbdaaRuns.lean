/- What the law SpanRuns comes to: true. No condition. -/
import Derived.Test.YthbajhbmopnbdaaRef
namespace Go.Proofs.Ythbajhbmopnbdaa
open Go.RowKit
set_option maxRecDepth 100000 in
set_option maxHeartbeats 4000000 in
theorem runs_any (w : World) :
    Calls Try.prog 3 #[] w fun e w' => e = .returned (.bool true) ∧ Below w.heap.size w w' := by
  have h0 : Below w.heap.size w w := Below.refl _ _
  have f0 : (nextT ⟨#[97]⟩).toList = [97, 0] := by decide +kernel
  have f1 : hasB ⟨#[97]⟩ ⟨#[99]⟩ ⟨#[98]⟩ = true := by decide +kernel
  have f2 : hasB ⟨#[97]⟩ ⟨#[99]⟩ ⟨#[99]⟩ = false := by decide +kernel
  have f3 : emB ⟨#[98]⟩ ⟨#[98]⟩ = true := by decide +kernel
  have f4 : meetB ⟨#[97]⟩ ⟨#[99]⟩ ⟨#[98]⟩ ⟨#[100]⟩ = true := by decide +kernel
  have f5 : meetB ⟨#[97]⟩ ⟨#[98]⟩ ⟨#[98]⟩ ⟨#[99]⟩ = false := by decide +kernel
  have f6 : covB ⟨#[97]⟩ ⟨#[]⟩ ⟨#[98]⟩ ⟨#[99]⟩ = true := by decide +kernel
  have f7 : maxT ⟨#[97]⟩ ⟨#[98]⟩ = ⟨#[98]⟩ := by unfold maxT; rw [if_pos (by decide +kernel)]
  have f8 : minT ⟨#[99]⟩ ⟨#[]⟩ = ⟨#[99]⟩ := by unfold minT; rw [if_pos (by decide +kernel)]
  go_enter Try.func3, Try.ntmps3
  go_wp2_with (first
    | (go_at_call 8; (with_reducible refine (old_call (by with_reducible assumption) (of_any _ _ (by decide))).mono ?_); rintro e w' ⟨rfl, hb⟩)
    | (go_at_call 9; (with_reducible refine (old_call (by with_reducible assumption) (lof_any _ _ _)).mono ?_); rintro e w' ⟨rfl, hb⟩)
    | (go_at_call 10; (with_reducible refine (old_call (by with_reducible assumption) (has_any _ _ _ _)).mono ?_); rintro e w' ⟨rfl, hb⟩)
    | (go_at_call 11; (with_reducible refine (old_call (by with_reducible assumption) (empty_any _ _ _)).mono ?_); rintro e w' ⟨rfl, hb⟩)
    | (go_at_call 12; (with_reducible refine (old_call (by with_reducible assumption) (meets_any _ _ _ _ _)).mono ?_); rintro e w' ⟨rfl, hb⟩)
    | (go_at_call 13; (with_reducible refine (old_call (by with_reducible assumption) (covers_any _ _ _ _ _)).mono ?_); rintro e w' ⟨rfl, hb⟩)
    | (go_at_call 14; (with_reducible refine (old_call (by with_reducible assumption) (both_any _ _ _ _ _)).mono ?_); rintro e w' ⟨rfl, hb⟩))
  go_ret
  exact ⟨rfl, by with_reducible assumption⟩
end Go.Proofs.Ythbajhbmopnbdaa
