/- Package inst's plain functions: which instance is right, which one stands ahead; ballots. No condition. -/
import Derived.Test.YtpngcocmjbkfgaaRows
import Derived.Test.YtpngcocmjbkfgaaBase
import Derived.WalkKit
import Derived.WalkSpells
import Derived.WalkLawsBesides
import Derived.LoopTactic
import Derived.BigQuiet
import Derived.Deep.QuietTactic
import Derived.StillTailTactics
import Derived.LoopN
namespace Go.Proofs.Ytpngcocmjbkfgaa
open Go.RowKit
/-- -1, 0 or 1: how x stands to y. -/
def cmpI (x y : Int) : Int := if x < y then -1 else if y < x then 1 else 0
/-- The first of the two that isn't nought. -/
def orI (x y : Int) : Int := if x = 0 then y else x
def cmpP (a b : Int × Int) : Int := orI (cmpI a.1 b.1) (cmpI a.2 b.2)
/-- Does a stand ahead of b? -/
def ltP (a b : Int × Int) : Bool := decide (a.1 < b.1) || (a.1 == b.1 && decide (a.2 < b.2))
def repB (n : Int) : Bool := decide (0 ≤ n) && decide (n < 7)
theorem cmp_lt (a b : Int × Int) : decide (cmpP a b < 0) = ltP a b := by
  obtain ⟨a1, a2⟩ := a
  obtain ⟨b1, b2⟩ := b
  unfold cmpP orI cmpI ltP
  simp only
  by_cases h1 : a1 < b1
  · simp [h1]
  · by_cases h2 : b1 < a1
    · have : ¬ a1 = b1 := by omega
      simp [h1, h2, this]
    · have : a1 = b1 := by omega
      subst this
      by_cases h3 : a2 < b2
      · simp [h3]
      · by_cases h4 : b2 < a2 <;> simp [h3, h4]
theorem isreplica_any (n : Int) (w : World) : Calls Try.prog 40 #[.int .i64 n] w fun e w' => e = .returned (.bool (repB n)) ∧ w = w' := by
  go_enter Try.func40, Try.ntmps40
  go_wp2
  all_goals (go_ret; exact ⟨ret_bool (by unfold repB; first | (simp [*]; done) | (simp [*] <;> omega)), rfl⟩)
end Go.Proofs.Ytpngcocmjbkfgaa
