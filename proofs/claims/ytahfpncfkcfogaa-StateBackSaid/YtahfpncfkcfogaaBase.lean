/- Small words that all texts share. No condition: nothing here speaks of a program. -/
import Derived.Laws.BitsAllLaws
import Derived.IntWalk
import Derived.Below
namespace Go.Proofs.Ytahfpncfkcfogaa
open Go.RowKit
theorem ret_int {k : IntKind} {a b : Int} (h : a = b) : Ending.returned (.int k a) = .returned (.int k b) := by rw [h]
theorem ret_bool {a b : Bool} (h : a = b) : Ending.returned (.bool a) = .returned (.bool b) := by rw [h]
theorem hide {p : Prop} (h : p) : Hid p := h
end Go.Proofs.Ytahfpncfkcfogaa
