/- The document's own come to the same as the program's, in plain words. No condition: nothing here speaks of a program. -/
import Derived.Test.YtigbplmfhnamkaaDocs
import Derived.Test.YtigbplmfhnamkaaPut
import Derived.Test.YtigbplmfhnamkaaFact
namespace Go.Proofs.Ytigbplmfhnamkaa
open Go.RowKit
theorem bare_named {x : Cm} (h1 : 1 ≤ x.k) (h5 : x.k ≤ 5) : bareC x = namedC x := by
  unfold bareC namedC
  by_cases a : x.k = 2
  · rw [if_pos a, if_neg (by omega), if_pos a]
  · by_cases b : x.k = 4
    · rw [if_neg a, if_pos b, if_neg (by omega), if_neg a, if_pos b]
    · by_cases c : x.k = 5
      · rw [if_neg a, if_neg b, if_pos c, if_neg (by omega), if_neg a, if_neg b, if_pos c]
      · rw [if_neg a, if_neg b, if_neg c, if_pos (by omega)]
theorem bound_bad {x : Cm} (h1 : 1 ≤ x.k) (h5 : x.k ≤ 5) : boundC x = (!badC x && (decide (x.k = 5) || !nilB x.key)) := by
  unfold boundC badC
  cases hn : nilB x.key
  all_goals
    rw [Bool.eq_iff_iff]
    simp only [Bool.and_eq_true, Bool.or_eq_true, Bool.not_eq_true', Bool.and_eq_false_iff, Bool.or_eq_false_iff, decide_eq_true_eq, decide_eq_false_iff_not]
    simp
    omega
theorem rright_is (x : Cm) : rrightC x = rightC x := by
  by_cases h0 : x.k = 0
  · unfold rrightC rightC
    have hb : badC x = true := by unfold badC; rw [decide_eq_true (show x.k < 1 by omega)]; rfl
    rw [if_pos h0, hb]
    simp
  · have hz : sameC x zeroC = false := by
      cases hs : sameC x zeroC
      · rfl
      · rw [sameC_iff] at hs; rw [hs] at h0; exact absurd rfl h0
    by_cases h : 1 ≤ x.k ∧ x.k ≤ 5
    · unfold rrightC rightC
      rw [if_neg h0, hz, bare_named h.1 h.2, bound_bad h.1 h.2]
      cases badC x <;> cases sameC x (namedC x) <;> simp
    · have hb : badC x = true := by
        unfold badC
        by_cases h1 : x.k < 1
        · rw [decide_eq_true h1]; rfl
        · rw [decide_eq_true (show 5 < x.k by omega), Bool.true_or, Bool.or_true]
      have hr : rightC x = false := by
        cases hr : rightC x
        · rfl
        · exact absurd (right_kind hr h0).2.2 h
      unfold rrightC
      rw [hz, hb, hr]
      rfl
theorem right_zeroC : rightC zeroC = true := by
  unfold rightC
  rw [if_pos (show zeroC.k = 0 from rfl), sameC_iff]
theorem rclash_is (x y : Cm) : rclashC x y = clashC x y := by
  unfold rclashC clashC; rw [meet_ref]
/-- The document's own Right. -/
theorem rright_to (k c q : Int) (a b o v : ByteArray) (w : World) :
    Calls Try.prog 16 #[.agg #[.int .i64 k, .int .i64 c, .int .i64 q, .string a, .string b, .string o, .string v]] w fun e w' => e = .returned (.bool (rightC ⟨k, c, q, a, b, o, v⟩)) ∧ Below w.heap.size w w' := by
  rw [← rright_is]; exact rright_any k c q a b o v w
theorem rclash_to (k c q : Int) (a b o v : ByteArray) (k' c' q' : Int) (a' b' o' v' : ByteArray) (w : World) (ha : a.size ≤ 140737488355328) (ha' : a'.size ≤ 140737488355328) :
    Calls Try.prog 19 #[.agg #[.int .i64 k, .int .i64 c, .int .i64 q, .string a, .string b, .string o, .string v], .agg #[.int .i64 k', .int .i64 c', .int .i64 q', .string a', .string b', .string o', .string v']] w
      fun e w' => e = .returned (.bool (clashC ⟨k, c, q, a, b, o, v⟩ ⟨k', c', q', a', b', o', v'⟩)) ∧ Below w.heap.size w w' := by
  rw [← rclash_is]; exact rclash_any k c q a b o v k' c' q' a' b' o' v' w ha ha'
end Go.Proofs.Ytigbplmfhnamkaa
