/- What the document's own spans come to. No condition. -/
import Derived.Test.YtmcemijipplkgaaSpan
namespace Go.Proofs.Ytmcemijipplkgaa
open Go.RowKit
theorem rhas_any (lo hi k : ByteArray) (w : World) :
    Calls Try.prog 28 #[.agg #[.string lo, .string hi], .string k] w fun e w' => e = .returned (.bool (rhasB lo hi k)) ∧ Below w.heap.size w w' := by
  go_enter Try.func28, Try.ntmps28
  go_wp2
  all_goals go_ret
  all_goals exact ⟨ret_bool (by simp [rhasB, nilB, ltB, *]), (Below.refl _ _).alloc (Nat.le_refl _) _⟩
end Go.Proofs.Ytmcemijipplkgaa
