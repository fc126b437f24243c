/- Package inst's comparison. No condition. -/
import Derived.Test.YtpngcocmjbkfgaaInst
import Derived.Test.YtpngcocmjbkfgaaBlk
import Derived.Deep.DeepCutAuto
namespace Go.Proofs.Ytpngcocmjbkfgaa
open Go.RowKit
theorem below_two (w : World) (o p : Obj) : Below w.heap.size w ((w.alloc o).alloc p) := ((Below.refl _ _).alloc (Nat.le_refl _) _).alloc (by simp) _
def rightI (r s : Int) : Bool := repB r && decide (1 ≤ s) && decide (s ≤ 1073741824)
def rightB (e r : Int) : Bool := repB r && decide (0 ≤ e) && decide (e ≤ 1073741824)
theorem right_any (r s : Int) (w : World) : Calls Try.prog 31 #[.agg #[.int .i64 r, .int .i64 s]] w fun e w' => e = .returned (.bool (rightI r s)) ∧ Below w.heap.size w w' := by
  have hc := fun W => isreplica_any r W
  unfold rightI
  generalize repB r = p at hc ⊢
  go_enter Try.func31, Try.ntmps31
  go_wp2_with (go_at_call 40; refine (hc _).mono ?_; rintro e w' ⟨rfl, rfl⟩)
  all_goals (go_ret; exact ⟨ret_bool (by first | (simp [*]; done) | (simp [*] <;> omega)), (Below.refl _ _).alloc (Nat.le_refl _) _⟩)
set_option maxHeartbeats 1000000 in
theorem refless_any (a b c d : Int) (w : World) :
    Calls Try.prog 25 #[.agg #[.int .i64 a, .int .i64 b], .agg #[.int .i64 c, .int .i64 d]] w fun e w' => e = .returned (.bool (ltP (a, b) (c, d))) ∧ Below w.heap.size w w' := by
  show Calls _ _ _ w fun e w' => e = .returned (.bool (decide (a < c) || (a == c && decide (b < d)))) ∧ Below w.heap.size w w'
  go_enter Try.func25, Try.ntmps25
  go_wp2
  all_goals (go_ret; exact ⟨ret_bool (by first | (simp [*]; done) | (simp [*] <;> omega)), below_two _ _ _⟩)
end Go.Proofs.Ytpngcocmjbkfgaa
