/- What List tells from nothing on, of short rows, in plain words: it is reached, rises, and is as many as the slots say. No program is spoken of. -/
import Derived.Test.YtpngcocmjbkfgaaListp
import Derived.Test.YtpngcocmjbkfgaaReach
import Derived.Test.YtpngcocmjbkfgaaWithin
namespace Go.Proofs.Ytpngcocmjbkfgaa
open Go.RowKit
def zero7 : List Int := [0, 0, 0, 0, 0, 0, 0]
def sumTo (e : List Int) : Nat → Int
  | 0 => 0
  | k + 1 => sumTo e k + ix e k
/-- Each slot is none or at most sixty. -/
def Low (e : List Int) : Prop := ∀ k, k < 7 → 0 ≤ ix e k ∧ ix e k ≤ 60
theorem sumTo_bounds {e : List Int} (h : Low e) : ∀ k, k ≤ 7 → 0 ≤ sumTo e k ∧ sumTo e k ≤ 60 * k
  | 0, _ => by simp [sumTo]
  | k + 1, hk => by
    have := sumTo_bounds h k (by omega)
    have := h k (by omega)
    unfold sumTo
    omega
theorem ix_zero7 (k : Nat) : ix zero7 k = 0 := by
  match k with
  | 0 => rfl
  | 1 => rfl
  | 2 => rfl
  | 3 => rfl
  | 4 => rfl
  | 5 => rfl
  | 6 => rfl
  | k + 7 => exact ix_ge _ (by simp [zero7])
theorem listTo_low {e : List Int} (h : Low e) : ∀ k, k ≤ 7 → ((listTo e zero7 k).length : Int) = sumTo e k ∧ (∀ x, x ∈ listTo e zero7 k ↔ ∃ r s : Int, x = [r, s] ∧ 0 ≤ r ∧ r < k ∧ 1 ≤ s ∧ s ≤ ix e r.toNat)
  | 0, _ => ⟨rfl, fun x => ⟨fun hx => (by cases hx), fun ⟨r, s, _, h1, h2, _⟩ => by omega⟩⟩
  | k + 1, hk => by
    obtain ⟨h1, h2⟩ := listTo_low h k (by omega)
    have hb := sumTo_bounds h k (by omega)
    have hl := h k (by omega)
    have hm : max (ix zero7 k) 0 = 0 := by rw [ix_zero7]; rfl
    have hn : rowN (max (ix zero7 k) 0) (ix e k) (listTo e zero7 k).length = (ix e k).toNat := by
      rw [hm]; unfold rowN; omega
    have e1 : listTo e zero7 (k + 1) = listTo e zero7 k ++ rowT k 0 (ix e k).toNat := by
      show listTo e zero7 k ++ rowT k (max (ix zero7 k) 0) (rowN _ _ _) = _
      rw [hn, hm]
    rw [e1]
    refine ⟨?_, fun x => ?_⟩
    · rw [List.length_append, rowT_len]
      unfold sumTo
      omega
    · rw [List.mem_append, h2]
      constructor
      · rintro (⟨r, s, rfl, a, b, c, d⟩ | hx)
        · exact ⟨r, s, rfl, a, by omega, c, d⟩
        · unfold rowT at hx
          obtain ⟨j, hj, rfl⟩ := List.mem_map.1 hx
          have := List.mem_range.1 hj
          exact ⟨k, 0 + 1 + (j : Int), rfl, by omega, by omega, by omega, by rw [Int.toNat_natCast]; omega⟩
      · rintro ⟨r, s, rfl, a, b, c, d⟩
        by_cases hr : r < k
        · exact .inl ⟨r, s, rfl, a, hr, c, d⟩
        · obtain rfl : r = (k : Int) := by omega
          rw [Int.toNat_natCast] at d
          refine .inr (List.mem_map.2 ⟨(s - 1).toNat, List.mem_range.2 (by omega), ?_⟩)
          rw [show (0 : Int) + 1 + ((s - 1).toNat : Int) = s by omega]
/-- Does x stand ahead of y? -/
def Ahead (x y : List Int) : Prop := ltP (ix x 0, ix x 1) (ix y 0, ix y 1) = true
theorem rowT_rise (k : Nat) (lo : Int) : ∀ t, (rowT k lo t).Pairwise Ahead
  | 0 => List.Pairwise.nil
  | t + 1 => by
    rw [rowT_succ, List.pairwise_append]
    refine ⟨rowT_rise k lo t, by simp, fun x hx y hy => ?_⟩
    rw [List.mem_singleton] at hy
    subst hy
    unfold rowT at hx
    obtain ⟨j, hj, rfl⟩ := List.mem_map.1 hx
    have := List.mem_range.1 hj
    unfold Ahead ltP
    simp [ix]
    omega
theorem listTo_rise {e : List Int} (h : Low e) : ∀ k, k ≤ 7 → (listTo e zero7 k).Pairwise Ahead
  | 0, _ => List.Pairwise.nil
  | k + 1, hk => by
    show (listTo e zero7 k ++ rowT k _ _).Pairwise Ahead
    rw [List.pairwise_append]
    refine ⟨listTo_rise h k (by omega), rowT_rise _ _ _, fun x hx y hy => ?_⟩
    obtain ⟨r, s, rfl, _, h1, _⟩ := ((listTo_low h k (by omega)).2 x).1 hx
    unfold rowT at hy
    obtain ⟨j, _, rfl⟩ := List.mem_map.1 hy
    unfold Ahead ltP
    simp [ix]
    omega
theorem listD_len {e : List Int} (h : Low e) : ((listD e zero7).length : Int) = sumTo e 7 := (listTo_low h 7 (by omega)).1
theorem listD_rise {e : List Int} (h : Low e) {k : Nat} {x y : List Int} (hx : (listD e zero7)[k]? = some x) (hy : (listD e zero7)[k + 1]? = some y) : ltP (ix x 0, ix x 1) (ix y 0, ix y 1) = true := by
  have hp := List.pairwise_iff_getElem.1 (listTo_rise h 7 (by omega))
  have l1 : k + 1 < (listD e zero7).length := by
    rcases Nat.lt_or_ge (k + 1) (listD e zero7).length with h1 | h1
    · exact h1
    · rw [List.getElem?_eq_none h1] at hy; cases hy
  have := hp k (k + 1) (Nat.lt_trans (Nat.lt_succ_self k) l1) l1 (Nat.lt_succ_self k)
  rw [List.getElem?_eq_getElem (by omega)] at hx
  rw [List.getElem?_eq_getElem l1] at hy
  obtain rfl := Option.some.inj hx
  obtain rfl := Option.some.inj hy
  exact this
theorem listD_reach {e : List Int} (h : Low e) (r s : Int) : [r, s] ∈ listD e zero7 ↔ reachB e r s = true := by
  show [r, s] ∈ listTo e zero7 7 ↔ _
  rw [(listTo_low h 7 (by omega)).2]
  unfold reachB
  rw [Bool.and_eq_true, decide_eq_true_eq]
  constructor
  · rintro ⟨r', s', e1, h1, h2, h3, h4⟩
    injection e1 with e1 e2
    injection e2 with e2 _
    subst e1 e2
    have := h r.toNat (by omega)
    refine ⟨?_, h4⟩
    unfold rightI repB
    simp only [Bool.and_eq_true, decide_eq_true_eq]
    omega
  · rintro ⟨h1, h2⟩
    obtain ⟨⟨a, b⟩, c, _⟩ := rightI_says h1
    exact ⟨r, s, rfl, a, by omega, c, h2⟩
theorem listD_two {e : List Int} (h : Low e) {k : Nat} {x : List Int} (hx : (listD e zero7)[k]? = some x) : ∃ r s : Int, x = [r, s] ∧ reachB e r s = true := by
  obtain ⟨r, s, rfl, h1, h2, h3, h4⟩ := ((listTo_low h 7 (by omega)).2 x).1 (List.mem_of_getElem? hx)
  exact ⟨r, s, rfl, (listD_reach h r s).1 (List.mem_of_getElem? hx)⟩
/-- As far as the k-th place another row's slots, behind it this one's. -/
def tab7 (f : Nat → Int) : List Int := [f 0, f 1, f 2, f 3, f 4, f 5, f 6]
def mixD (d e : List Int) (k : Nat) : List Int := tab7 fun i => if i < k then ix e i else ix d i
end Go.Proofs.Ytpngcocmjbkfgaa
