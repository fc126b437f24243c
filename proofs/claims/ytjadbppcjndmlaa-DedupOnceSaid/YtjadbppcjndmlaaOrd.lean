/- Texts stand in a line; of finitely many each has a place, so that what is said of spans is said of numbers. No condition: nothing here speaks of a program. -/
import Derived.Test.YtjadbppcjndmlaaStr
namespace Go.Proofs.Ytjadbppcjndmlaa
open Go.RowKit
theorem less_self : ∀ x : List UInt8, Op.bytesLess x x = false
  | [] => rfl
  | a :: x => by simp [Op.bytesLess, less_self x, UInt8.lt_irrefl]
theorem less_or : ∀ x y : List UInt8, Op.bytesLess x y = false → Op.bytesLess y x = false → x = y
  | [], [], _, _ => rfl
  | [], _ :: _, h, _ => by simp [Op.bytesLess] at h
  | _ :: _, [], _, h => by simp [Op.bytesLess] at h
  | a :: x, b :: y, h, h' => by
    simp [Op.bytesLess] at h h'
    have hab : a = b := UInt8.le_antisymm h'.1 h.1
    subst hab
    rw [less_or x y (h.2 rfl) (h'.2 rfl)]
theorem less_trans : ∀ x y z : List UInt8, Op.bytesLess x y = true → Op.bytesLess y z = true → Op.bytesLess x z = true
  | _, _, [], _, h => by cases ‹List UInt8› <;> simp [Op.bytesLess] at h
  | [], _, _ :: _, _, _ => rfl
  | _ :: _, [], _ :: _, h, _ => by simp [Op.bytesLess] at h
  | a :: x, b :: y, c :: z, h, h' => by
    simp [Op.bytesLess] at h h' ⊢
    rcases h with h | ⟨rfl, h⟩
    · rcases h' with h' | ⟨rfl, _⟩
      · exact .inl (UInt8.lt_trans h h')
      · exact .inl h
    · rcases h' with h' | ⟨rfl, h'⟩
      · exact .inl h'
      · exact .inr ⟨rfl, less_trans x y z h h'⟩
theorem less_next : ∀ x y : List UInt8, Op.bytesLess x (y ++ [0]) = !Op.bytesLess y x
  | [], [] => rfl
  | [], _ :: _ => rfl
  | a :: x, [] => by cases x <;> simp [Op.bytesLess]
  | a :: x, b :: y => by
    simp only [List.cons_append, Op.bytesLess, less_next x y]
    by_cases h1 : a < b
    · have h2 : ¬ b < a := UInt8.lt_asymm h1
      have h3 : ¬ b = a := fun e => by subst e; exact UInt8.lt_irrefl _ h1
      simp [h1, h2, h3]
    · by_cases h2 : b < a
      · have h3 : ¬ a = b := fun e => by subst e; exact UInt8.lt_irrefl _ h2
        simp [h1, h2, h3]
      · have h3 : a = b := UInt8.le_antisymm (UInt8.not_lt.1 h2) (UInt8.not_lt.1 h1)
        subst h3
        simp [h1]
theorem text_ext {a b : ByteArray} (h : a.toList = b.toList) : a = b := by
  rw [ByteArray.toList_eq, ByteArray.toList_eq] at h
  exact ByteArray.ext (Array.toList_inj.1 h)
theorem lt_self (a : ByteArray) : ltB a a = false := less_self _
theorem lt_or {a b : ByteArray} (h : ltB a b = false) (h' : ltB b a = false) : a = b := text_ext (less_or _ _ h h')
theorem lt_trans {a b c : ByteArray} (h : ltB a b = true) (h' : ltB b c = true) : ltB a c = true := less_trans _ _ _ h h'
/-- The empty text. -/
def nilT : ByteArray := ⟨#[]⟩
theorem nil_list : nilT.toList = [] := ByteArray.toList_eq _
theorem lt_nil (a : ByteArray) : ltB a nilT = false := by
  unfold ltB; rw [nil_list]; cases a.toList <;> rfl
theorem nil_eq (a : ByteArray) : nilB a = eqB a nilT := by
  unfold nilB eqB; rw [nil_list]; cases a.toList <;> rfl
theorem eq_iff (a b : ByteArray) : eqB a b = true ↔ a = b := by
  unfold eqB; rw [beq_iff_eq]; exact ⟨text_ext, fun h => by rw [h]⟩
theorem next_list (a : ByteArray) : (a ++ ⟨#[0]⟩).toList = a.toList ++ [0] := by
  rw [ByteArray.toList_eq, ByteArray.toList_eq]; simp
/-- How many of the texts L are below x. -/
def rk (L : List ByteArray) (x : ByteArray) : Nat := L.countP fun y => ltB y x
theorem rk_le (L : List ByteArray) {a b : ByteArray} (h : ltB a b = true) : rk L a ≤ rk L b :=
  List.countP_mono_left fun _ _ hx => lt_trans hx h
theorem rk_lt {L : List ByteArray} {a b : ByteArray} (ha : a ∈ L) (h : ltB a b = true) : rk L a < rk L b := by
  induction L with
  | nil => cases ha
  | cons c L ih =>
    have hm := rk_le L h
    unfold rk at hm ih ⊢
    rw [List.countP_cons, List.countP_cons]
    by_cases hc : a ∈ L
    · have h1 := ih hc
      by_cases h2 : ltB c a = true
      · rw [if_pos h2, if_pos (lt_trans h2 h)]; omega
      · rw [if_neg h2]; split <;> omega
    · obtain rfl : a = c := by
        rcases List.mem_cons.1 ha with h1 | h1
        · exact h1
        · exact absurd h1 hc
      rw [if_neg (by rw [lt_self]; simp), if_pos h]; omega
theorem rk_iff {L : List ByteArray} {a b : ByteArray} (ha : a ∈ L) (hb : b ∈ L) : ltB a b = decide (rk L a < rk L b) := by
  cases h : ltB a b
  · symm; rw [decide_eq_false_iff_not]
    cases h' : ltB b a
    · rw [lt_or h h']; omega
    · have := rk_lt hb h'; omega
  · have := rk_lt ha h; symm; rw [decide_eq_true_iff]; exact this
theorem rk_inj {L : List ByteArray} {a b : ByteArray} (ha : a ∈ L) (hb : b ∈ L) : eqB a b = decide (rk L a = rk L b) := by
  rw [Bool.eq_iff_iff, eq_iff, decide_eq_true_iff]
  refine ⟨fun h => by rw [h], fun h => ?_⟩
  have h1 := rk_iff ha hb
  have h2 := rk_iff hb ha
  rw [h] at h1 h2
  exact lt_or (by rw [h1]; simp) (by rw [h2]; simp)
theorem rk_nil (L : List ByteArray) : rk L nilT = 0 := by
  unfold rk; rw [List.countP_eq_zero]; intro x _; rw [lt_nil]; simp
theorem rk_none {L : List ByteArray} {a : ByteArray} (h0 : nilT ∈ L) (ha : a ∈ L) : nilB a = decide (rk L a = 0) := by
  rw [nil_eq, rk_inj ha h0, rk_nil]
end Go.Proofs.Ytjadbppcjndmlaa
