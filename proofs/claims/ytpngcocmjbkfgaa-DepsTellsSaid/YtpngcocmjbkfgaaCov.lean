/- Covering, in plain words; three rows of slots and an instance, boxed. No condition. -/
import Derived.Test.YtpngcocmjbkfgaaReach
import Derived.Test.YtpngcocmjbkfgaaEq8
namespace Go.Proofs.Ytpngcocmjbkfgaa
open Go.RowKit
theorem covers_iff {a b : List Int} : coversB a b = true ↔ ∀ k, k < 7 → ix b k ≤ ix a k := by
  unfold coversB
  rw [allTo_iff]
  exact ⟨fun h k hk => of_decide_eq_true (h k hk), fun h k hk => decide_eq_true (h k hk)⟩
theorem covers_trans {a b c : List Int} (h : coversB a b = true) (k : coversB b c = true) : coversB a c = true := by
  rw [covers_iff] at h k ⊢
  exact fun j hj => Int.le_trans (k j hj) (h j hj)
theorem covers_refl (a : List Int) : coversB a a = true := covers_iff.2 fun _ _ => Int.le_refl _
theorem covers_same {a1 a2 a3 a4 a5 a6 a7 b1 b2 b3 b4 b5 b6 b7 : Int} (h : coversB [a1, a2, a3, a4, a5, a6, a7] [b1, b2, b3, b4, b5, b6, b7] = true) (k : coversB [b1, b2, b3, b4, b5, b6, b7] [a1, a2, a3, a4, a5, a6, a7] = true) : [a1, a2, a3, a4, a5, a6, a7] = [b1, b2, b3, b4, b5, b6, b7] := by
  rw [covers_iff] at h k
  have e : ∀ j, j < 7 → ix [a1, a2, a3, a4, a5, a6, a7] j = ix [b1, b2, b3, b4, b5, b6, b7] j := fun j hj => Int.le_antisymm (k j hj) (h j hj)
  have e0 : a1 = b1 := e 0 (by omega)
  have e1 : a2 = b2 := e 1 (by omega)
  have e2 : a3 = b3 := e 2 (by omega)
  have e3 : a4 = b4 := e 3 (by omega)
  have e4 : a5 = b5 := e 4 (by omega)
  have e5 : a6 = b6 := e 5 (by omega)
  have e6 : a7 = b7 := e 6 (by omega)
  rw [e0, e1, e2, e3, e4, e5, e6]
theorem covers_reach {a b : List Int} {r s : Int} (h : coversB a b = true) (k : reachB b r s = true) : reachB a r s = true := by
  unfold reachB at k ⊢
  rw [Bool.and_eq_true, decide_eq_true_eq] at k ⊢
  obtain ⟨⟨h0, h7⟩, _⟩ := rightI_says k.1
  have := covers_iff.1 h r.toNat (by omega)
  exact ⟨k.1, by omega⟩
theorem Row.seven {w : World} {g : Nat} {t : TypeId} {x1 x2 x3 x4 x5 x6 x7 : Int} (h : Row w g t #[.int .i64 x1, .int .i64 x2, .int .i64 x3, .int .i64 x4, .int .i64 x5, .int .i64 x6, .int .i64 x7]) : w.cell? ⟨g, 0, none⟩ = some (.int .i64 x1) ∧ w.cell? ⟨g, 1, none⟩ = some (.int .i64 x2) ∧ w.cell? ⟨g, 2, none⟩ = some (.int .i64 x3) ∧ w.cell? ⟨g, 3, none⟩ = some (.int .i64 x4) ∧ w.cell? ⟨g, 4, none⟩ = some (.int .i64 x5) ∧ w.cell? ⟨g, 5, none⟩ = some (.int .i64 x6) ∧ w.cell? ⟨g, 6, none⟩ = some (.int .i64 x7) :=
  ⟨h.cell 0, h.cell 1, h.cell 2, h.cell 3, h.cell 4, h.cell 5, h.cell 6⟩
theorem Row.two {w : World} {g : Nat} {t : TypeId} {x y : Int} (h : Row w g t #[.int .i64 x, .int .i64 y]) : w.cell? ⟨g, 0, none⟩ = some (.int .i64 x) ∧ w.cell? ⟨g, 1, none⟩ = some (.int .i64 y) := ⟨h.cell 0, h.cell 1⟩
end Go.Proofs.Ytpngcocmjbkfgaa
