/- What the document's own spans come to. No condition. -/
import Derived.Test.YthbajhbmopnbdaaSpan
namespace Go.Proofs.Ythbajhbmopnbdaa
open Go.RowKit
theorem rempty_any (lo hi : ByteArray) (w : World) :
    Calls Try.prog 15 #[.agg #[.string lo, .string hi]] w fun e w' => e = .returned (.bool (remB lo hi)) ∧ Below w.heap.size w w' := by
  go_enter Try.func15, Try.ntmps15
  go_wp2
  all_goals go_ret
  all_goals exact ⟨ret_bool (by simp [remB, leB, nilB, ltB, eqB, *]), (Below.refl _ _).alloc (Nat.le_refl _) _⟩
theorem rhas_any (lo hi k : ByteArray) (w : World) :
    Calls Try.prog 16 #[.agg #[.string lo, .string hi], .string k] w fun e w' => e = .returned (.bool (rhasB lo hi k)) ∧ Below w.heap.size w w' := by
  go_enter Try.func16, Try.ntmps16
  go_wp2
  all_goals go_ret
  all_goals exact ⟨ret_bool (by simp [rhasB, nilB, ltB, *]), (Below.refl _ _).alloc (Nat.le_refl _) _⟩
set_option maxHeartbeats 1000000 in
theorem rmeets_any (la ha lb hb : ByteArray) (w : World) :
    Calls Try.prog 17 #[.agg #[.string la, .string ha], .agg #[.string lb, .string hb]] w fun e w' => e = .returned (.bool (rmeetB la ha lb hb)) ∧ Below w.heap.size w w' := by
  have hs := hide (St.start w la ha lb hb 23)
  go_enter Try.func17, Try.ntmps17
  go_wp2_with (first
    | (go_at_call 15; (with_reducible refine (hs.out.call (rempty_any _ _ _)).mono ?_); rintro e w' ⟨rfl, q0, q1, q2, q3, _, _, st⟩)
    | (go_at_call 15; (with_reducible refine (St.call (by with_reducible assumption) (rempty_any _ _ _)).mono ?_); rintro e w' ⟨rfl, q0, q1, q2, q3, _, _, st⟩))
  all_goals go_ret
  all_goals exact ⟨ret_bool (by simp [rmeetB, nilB, ltB, *]), st.old⟩
set_option maxHeartbeats 1000000 in
theorem rcovers_any (la ha lb hb : ByteArray) (w : World) :
    Calls Try.prog 18 #[.agg #[.string la, .string ha], .agg #[.string lb, .string hb]] w fun e w' => e = .returned (.bool (rcovB la ha lb hb)) ∧ Below w.heap.size w w' := by
  have hs := hide (St.start w la ha lb hb 23)
  go_enter Try.func18, Try.ntmps18
  go_wp2_with (go_at_call 15; (with_reducible refine (hs.out.call (rempty_any _ _ _)).mono ?_); rintro e w' ⟨rfl, q0, q1, q2, q3, _, _, st⟩)
  all_goals go_ret
  all_goals exact ⟨ret_bool (by simp [rcovB, leB, nilB, ltB, eqB, *]), st.old⟩
theorem lof_any (lo hi : ByteArray) (w : World) :
    Calls Try.prog 9 #[.string lo, .string hi] w fun e w' => e = .returned (.agg #[.string lo, .string hi]) ∧ Below w.heap.size w w' := by
  go_enter Try.func9, Try.ntmps9
  go_wp2
  exact bodyPost_ret (v := .agg #[.string lo, .string hi]) (by simp [results, Try.results9, go_sem]) rfl ⟨rfl, (Below.refl _ _).alloc (Nat.le_refl _) _⟩
end Go.Proofs.Ythbajhbmopnbdaa
