/- What is said of spans, as plain facts. No condition: nothing here speaks of a program. -/
import Derived.Test.YtigbplmfhnamkaaOrd
namespace Go.Proofs.Ytigbplmfhnamkaa
open Go.RowKit
theorem next_nil (y : ByteArray) : nilB (nextT y) = false := by
  unfold nilB nextT; rw [next_list]; cases y.toList <;> rfl
theorem le_not (a b : ByteArray) : (ltB a b || eqB a b) = !ltB b a := by
  rw [Bool.eq_iff_iff]
  simp [rk_iff (L := [a, b]), rk_inj (L := [a, b])]
  omega
theorem lt_next (x k : ByteArray) : ltB x (nextT k) = !ltB k x := by unfold ltB nextT; rw [next_list, less_next]
theorem in_next (x k : ByteArray) : inB x (nextT k) = !ltB k x := by unfold inB; rw [next_nil, lt_next, Bool.false_or]
theorem end_next (k h : ByteArray) : endB (nextT k) h = inB k h := by
  unfold endB inB; rw [next_nil, le_not, lt_next, Bool.not_not, Bool.not_false, Bool.true_and]
theorem point_em (k : ByteArray) : emB k (nextT k) = false := by unfold emB; rw [in_next, lt_self]; rfl
theorem of_has (k : ByteArray) : hasB k (nextT k) k = true := by unfold hasB; rw [in_next, lt_self]; rfl
theorem of_cov (lo hi k : ByteArray) : covB lo hi k (nextT k) = hasB lo hi k := by unfold covB hasB; rw [point_em, end_next, Bool.false_or]
theorem of_meet (lo hi k : ByteArray) : meetB lo hi k (nextT k) = hasB lo hi k := by
  unfold meetB
  rw [point_em, in_next, Bool.eq_iff_iff]
  simp [hasB, emB, inB, rk_none (L := [nilT, lo, hi, k]), rk_iff (L := [nilT, lo, hi, k])]
  omega
theorem point_meet (a b : ByteArray) : meetB a (nextT a) b (nextT b) = eqB a b := by
  unfold meetB
  rw [point_em, point_em, in_next, in_next, Bool.eq_iff_iff]
  simp [rk_iff (L := [a, b]), rk_inj (L := [a, b])]
  omega
theorem has_ref (lo hi k : ByteArray) : hasB lo hi k = rhasB lo hi k := rfl
theorem em_ref (lo hi : ByteArray) : emB lo hi = remB lo hi := by
  rw [Bool.eq_iff_iff]
  simp [emB, inB, remB, leB, rk_none (L := [nilT, lo, hi]), rk_iff (L := [nilT, lo, hi]), rk_inj (L := [nilT, lo, hi])]
  omega
theorem meet_ref (la ha lb hb : ByteArray) : meetB la ha lb hb = rmeetB la ha lb hb := by
  rw [Bool.eq_iff_iff]
  simp [meetB, emB, inB, rmeetB, remB, leB, rk_none (L := [nilT, la, ha, lb, hb]), rk_iff (L := [nilT, la, ha, lb, hb]), rk_inj (L := [nilT, la, ha, lb, hb])]
  omega
theorem cov_ref (la ha lb hb : ByteArray) : covB la ha lb hb = rcovB la ha lb hb := by
  rw [Bool.eq_iff_iff]
  simp [covB, endB, emB, inB, rcovB, remB, leB, rk_none (L := [nilT, la, ha, lb, hb]), rk_iff (L := [nilT, la, ha, lb, hb]), rk_inj (L := [nilT, la, ha, lb, hb])]
  omega
theorem max_swap (a b : ByteArray) : maxT a b = maxT b a := by
  unfold maxT
  cases h : ltB a b <;> cases h' : ltB b a
  · rw [lt_or h h']
  · rfl
  · rfl
  · have := lt_trans h h'; rw [lt_self] at this; cases this
theorem end_or {a b : ByteArray} (h : endB a b = endB b a) : a = b := by
  rw [← eq_iff]
  unfold endB at h
  revert h
  rw [Bool.eq_iff_iff]
  simp [rk_none (L := [nilT, a, b]), rk_iff (L := [nilT, a, b]), rk_inj (L := [nilT, a, b])]
  omega
theorem min_swap (a b : ByteArray) : minT a b = minT b a := by
  unfold minT
  cases h : endB a b <;> cases h' : endB b a
  · rw [end_or (h.trans h'.symm)]
  · rfl
  · rfl
  · rw [end_or (h.trans h'.symm)]
theorem end_no (a b : ByteArray) : (nilB a || (!nilB b && ltB b a)) = (!endB a b || eqB a b && nilB a) := by
  rw [Bool.eq_iff_iff]
  simp [endB, rk_none (L := [nilT, a, b]), rk_iff (L := [nilT, a, b]), rk_inj (L := [nilT, a, b])]
  omega
theorem min_pick (a b : ByteArray) : (if (nilB a || (!nilB b && ltB b a)) = true then b else a) = minT a b := by
  rw [end_no]
  unfold minT
  cases h : endB a b
  · rfl
  · by_cases h' : eqB a b = true
    · rw [(eq_iff a b).1 h']; split <;> rfl
    · rw [Bool.not_eq_true] at h'; rw [h']; rfl
theorem both_has (la ha lb hb k : ByteArray) : hasB (maxT la lb) (minT ha hb) k = (hasB la ha k && hasB lb hb k) := by
  unfold maxT minT
  cases h1 : ltB la lb <;> cases h2 : endB ha hb
  all_goals
    rw [Bool.eq_iff_iff]
    simp [endB, hasB, inB, rk_none (L := [nilT, la, ha, lb, hb, k]), rk_iff (L := [nilT, la, ha, lb, hb, k]), rk_inj (L := [nilT, la, ha, lb, hb, k])] at h1 h2 ⊢
    omega
theorem meet_both (la ha lb hb : ByteArray) : meetB la ha lb hb = (!emB la ha && (!emB lb hb && !emB (maxT la lb) (minT ha hb))) := by
  unfold maxT minT
  cases h1 : ltB la lb <;> cases h2 : endB ha hb
  all_goals
    rw [Bool.eq_iff_iff]
    simp [endB, meetB, emB, inB, rk_none (L := [nilT, la, ha, lb, hb]), rk_iff (L := [nilT, la, ha, lb, hb]), rk_inj (L := [nilT, la, ha, lb, hb])] at h1 h2 ⊢
    omega
theorem has_meet (la ha lb hb k : ByteArray) : (hasB la ha k && hasB lb hb k && !meetB la ha lb hb) = false := by
  rw [Bool.eq_iff_iff]
  simp [hasB, meetB, emB, inB, rk_none (L := [nilT, la, ha, lb, hb, k]), rk_iff (L := [nilT, la, ha, lb, hb, k])]
  omega
theorem cov_has (la ha lb hb k : ByteArray) : (covB la ha lb hb && hasB lb hb k && !hasB la ha k) = false := by
  rw [Bool.eq_iff_iff]
  simp [hasB, covB, endB, emB, inB, rk_none (L := [nilT, la, ha, lb, hb, k]), rk_iff (L := [nilT, la, ha, lb, hb, k]), rk_inj (L := [nilT, la, ha, lb, hb, k])]
  omega
theorem em_has (lo hi k : ByteArray) : (emB lo hi && hasB lo hi k) = false := by
  rw [Bool.eq_iff_iff]
  simp [hasB, emB, inB, rk_none (L := [nilT, lo, hi, k]), rk_iff (L := [nilT, lo, hi, k])]
  omega
theorem meet_swap (la ha lb hb : ByteArray) : meetB la ha lb hb = meetB lb hb la ha := by
  unfold meetB
  cases emB la ha <;> cases emB lb hb <;> cases inB la hb <;> cases inB lb ha <;> rfl
theorem meet_self (lo hi : ByteArray) : meetB lo hi lo hi = !emB lo hi := by
  unfold meetB emB
  cases inB lo hi <;> rfl
theorem cov_self (lo hi : ByteArray) : covB lo hi lo hi = true := by
  rw [Bool.eq_iff_iff]
  simp [covB, endB, emB, inB, rk_none (L := [nilT, lo, hi]), rk_iff (L := [nilT, lo, hi]), rk_inj (L := [nilT, lo, hi])]
theorem cov_on (la ha lb hb lc hc : ByteArray) : (!covB la ha lb hb || (!covB lb hb lc hc || (covB la ha lc hc || emB lb hb))) = true := by
  rw [Bool.eq_iff_iff]
  simp [covB, endB, emB, inB, rk_none (L := [nilT, la, ha, lb, hb, lc, hc]), rk_iff (L := [nilT, la, ha, lb, hb, lc, hc]), rk_inj (L := [nilT, la, ha, lb, hb, lc, hc])]
  omega
end Go.Proofs.Ytigbplmfhnamkaa
