/- What the other methods of the document's own reader come to. Conditions: the reader lies in memory as it must. -/
import Derived.Test.YtigbplmfhnamkaaRef
namespace Go.Proofs.Ytigbplmfhnamkaa
open Go.RowKit
section
variable {w : World} {B g i : Nat} {zs : List Int} {e : Int}
set_option maxHeartbeats 1000000 in
theorem rnum_1 (h : Rdr 45 w B g zs i e) (he : e ≠ 0) :
    Calls Try.prog 37 #[.pointer (some ⟨g, 0, none⟩)] w fun x w' =>
      x = .returned (.int .i64 0) ∧ w = w' := by
  obtain ⟨A, c, c0, c1, c2, f1, f2, lc, l, hz⟩ := h.cells
  have t0 : (e != 0) = true := by simpa using he
  clear h hz he
  go_enter Try.func37, Try.ntmps37
  go_wp2
  go_ret
  exact ⟨rfl, rfl⟩
theorem rnum_to (h : Rdr 45 w B g zs i e) :
    Calls Try.prog 37 #[.pointer (some ⟨g, 0, none⟩)] w fun x w' =>
      x = .returned (.int .i64 (rNumV zs i e)) ∧ Rdr 45 w' B g zs (rNumA zs i e) (rNumE zs i e) ∧ w.grownBy w' (some g) := by
  by_cases he : e = 0
  · subst he; exact rnum_0 h
  · have ee : rNumE zs i e = e := by unfold rNumE; rw [if_neg he]
    have ev : rNumV zs i e = 0 := by unfold rNumV; rw [ee, if_neg he]
    have ea : rNumA zs i e = i := by unfold rNumA; rw [ee, if_neg he]
    rw [ee, ev, ea]
    exact (rnum_1 h he).mono fun _ _ ⟨hx, hw⟩ => ⟨hx, hw ▸ h, hw ▸ grown_refl w _⟩
end
end Go.Proofs.Ytigbplmfhnamkaa
