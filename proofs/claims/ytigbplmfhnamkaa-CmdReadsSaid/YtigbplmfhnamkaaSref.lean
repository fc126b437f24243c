/- What the document's own spans come to. No condition. -/
import Derived.Test.YtigbplmfhnamkaaSpan
namespace Go.Proofs.Ytigbplmfhnamkaa
open Go.RowKit
theorem rempty_any (lo hi : ByteArray) (w : World) :
    Calls Try.prog 45 #[.agg #[.string lo, .string hi]] w fun e w' => e = .returned (.bool (remB lo hi)) ∧ Below w.heap.size w w' := by
  go_enter Try.func45, Try.ntmps45
  go_wp2
  all_goals go_ret
  all_goals exact ⟨ret_bool (by simp [remB, leB, nilB, ltB, eqB, *]), (Below.refl _ _).alloc (Nat.le_refl _) _⟩
set_option maxHeartbeats 1000000 in
theorem rmeets_any (la ha lb hb : ByteArray) (w : World) :
    Calls Try.prog 33 #[.agg #[.string la, .string ha], .agg #[.string lb, .string hb]] w fun e w' => e = .returned (.bool (rmeetB la ha lb hb)) ∧ Below w.heap.size w w' := by
  have hs := hide (St.start w la ha lb hb 31)
  go_enter Try.func33, Try.ntmps33
  go_wp2_with (first
    | (go_at_call 45; (with_reducible refine (hs.out.call (rempty_any _ _ _)).mono ?_); rintro e w' ⟨rfl, q0, q1, q2, q3, _, _, st⟩)
    | (go_at_call 45; (with_reducible refine (St.call (by with_reducible assumption) (rempty_any _ _ _)).mono ?_); rintro e w' ⟨rfl, q0, q1, q2, q3, _, _, st⟩))
  all_goals go_ret
  all_goals exact ⟨ret_bool (by simp [rmeetB, nilB, ltB, *]), st.old⟩
end Go.Proofs.Ytigbplmfhnamkaa
