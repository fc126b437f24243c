/- How often what stands there most often stands there, in plain words. No program is spoken of. -/
import Derived.Test.YtpngcocmjbkfgaaCnt
namespace Go.Proofs.Ytpngcocmjbkfgaa
open Go.RowKit
theorem mostTo_max (l : List (List Int)) : ∀ k, k ≤ l.length → (∀ j x, j < k → l[j]? = some x → l.count x ≤ (mostTo l k).2) ∧ ((mostTo l k).2 = 0 ∨ ∃ x, x ∈ l ∧ l.count x = (mostTo l k).2)
  | 0, _ => ⟨fun j x hj => absurd hj (by omega), .inl rfl⟩
  | k + 1, hk => by
    obtain ⟨h1, h2⟩ := mostTo_max l k (by omega)
    have hx : l[k]? = some l[k] := List.getElem?_eq_getElem (by omega)
    rw [mostTo_succ hx]
    unfold mostStep
    by_cases hc : (mostTo l k).2 < l.count l[k]
    · rw [if_pos hc]
      refine ⟨fun j x hj hjx => ?_, .inr ⟨l[k], List.getElem_mem _, rfl⟩⟩
      rcases Nat.lt_or_ge j k with h | h
      · have := h1 j x h hjx
        show l.count x ≤ l.count l[k]
        omega
      · obtain rfl : j = k := by omega
        rw [hx] at hjx
        rw [← Option.some.inj hjx]
        exact Nat.le_refl _
    · rw [if_neg hc]
      refine ⟨fun j x hj hjx => ?_, h2⟩
      rcases Nat.lt_or_ge j k with h | h
      · exact h1 j x h hjx
      · obtain rfl : j = k := by omega
        rw [hx] at hjx
        rw [← Option.some.inj hjx]
        omega
theorem most_max {l : List (List Int)} {x : List Int} (h : x ∈ l) : l.count x ≤ (mostA l).2 := by
  obtain ⟨j, hj, rfl⟩ := List.mem_iff_getElem.1 h
  rw [← mostTo_all]
  exact (mostTo_max l l.length (Nat.le_refl _)).1 j _ hj (List.getElem?_eq_getElem hj)
theorem most_some (l : List (List Int)) : (mostA l).2 = 0 ∨ ∃ x, x ∈ l ∧ l.count x = (mostA l).2 := by
  rw [← mostTo_all]
  exact (mostTo_max l l.length (Nat.le_refl _)).2
theorem most_perm {l m : List (List Int)} (h : l.Perm m) : (mostA l).2 ≤ (mostA m).2 := by
  rcases most_some l with h0 | ⟨x, hx, hc⟩
  · omega
  · rw [← hc, h.count_eq]
    exact most_max (h.mem_iff.1 hx)
theorem most_turned (l : List (List Int)) (k : Nat) : (mostA (l.drop k ++ l.take k)).2 = (mostA l).2 := by
  have hp : (l.drop k ++ l.take k).Perm l := by
    have h := List.perm_append_comm (l₁ := l.drop k) (l₂ := l.take k)
    rwa [List.take_append_drop] at h
  exact Nat.le_antisymm (most_perm hp) (most_perm hp.symm)
theorem most_pos (l : List (List Int)) : decide (0 < (mostA l).2) = decide (0 < l.length) := by
  rw [Bool.eq_iff_iff, decide_eq_true_iff, decide_eq_true_iff]
  rcases l with _ | ⟨x, r⟩
  · exact Iff.rfl
  · have h := most_max (l := x :: r) (x := x) (by simp)
    have h1 : 0 < (x :: r).count x := List.count_pos_iff.2 (by simp)
    simp only [List.length_cons]
    omega
theorem most_le (l : List (List Int)) : (mostA l).2 ≤ l.length := by
  rcases most_some l with h0 | ⟨x, _, hc⟩
  · omega
  · rw [← hc]; exact List.count_le_length
end Go.Proofs.Ytpngcocmjbkfgaa
