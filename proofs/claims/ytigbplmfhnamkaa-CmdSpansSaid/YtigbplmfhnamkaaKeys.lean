/- What Keys and bounded of package cmd come to. Conditions: the key has room. -/
import Derived.Test.YtigbplmfhnamkaaKind
import Derived.Test.YtigbplmfhnamkaaState
namespace Go.Proofs.Ytigbplmfhnamkaa
open Go.RowKit
theorem Row.below {w w' : World} {B g : Nat} {t : TypeId} {cs : Array Value} (h : Row w g t cs) (hb : Below B w w') (hl : g < B) : Row w' g t cs := (hb.block g hl).trans h
theorem row_two {w : World} {g : Nat} {t : TypeId} {x y : Value} (h : Row w g t #[x, y]) : w.cell? ⟨g, 0, none⟩ = some x ∧ w.cell? ⟨g, 1, none⟩ = some y ∧ w.frozen? ⟨g, 0, none⟩ = false ∧ w.frozen? ⟨g, 1, none⟩ = false :=
  ⟨h.cell 0, h.cell 1, h.free 0, h.free 1⟩
/-- A block just laid, behind a call. -/
theorem row_at {w w' : World} {g : Nat} {t : TypeId} {cs : Array Value} (hb : Below (g + 1) (w.alloc (.cells cs t)) w') (hg : w.heap.size = g) : Row w' g t cs := by
  subst hg; exact (Row.new w t cs).below hb (by omega)
theorem two_more {w w' : World} {x y : Obj} (hb : Below (w.heap.size + 1 + 1) ((w.alloc x).alloc y) w') : Below w.heap.size w w' :=
  (((Below.refl _ _).alloc (Nat.le_refl _) x).alloc (by simp) y).trans (hb.mono (by omega))
theorem kinds51 (k : Int) : (k = 1 ∨ k = 2 ∨ k = 3 ∨ k = 4) ∨ k = 5 ∨ ((k == 1) = false ∧ (k == 2) = false ∧ (k == 3) = false ∧ (k == 4) = false ∧ (k == 5) = false) := by
  simp only [beq_eq_false_iff_ne]; omega
theorem hasC_no {k : Int} (k1 : (k == 1) = false) (k2 : (k == 2) = false) (k3 : (k == 3) = false) (k4 : (k == 4) = false) (k5 : (k == 5) = false) : hasC k = false := by
  simp only [beq_eq_false_iff_ne] at k1 k2 k3 k4 k5
  unfold hasC
  rw [Bool.and_eq_false_iff, decide_eq_false_iff_not, decide_eq_false_iff_not]; omega
/-- A span and a flag. -/
def keysV (x : Cm) : Value := .tuple #[.agg #[.string (loC x), .string (hiC x)], .bool (hasC x.k)]
theorem keys_no {x : Cm} (h : hasC x.k = false) : keysV x = .tuple #[.agg #[.string noT, .string noT], .bool false] := by
  unfold keysV loC hiC; rw [h]; rfl
set_option maxRecDepth 100000 in
set_option maxHeartbeats 2000000 in
theorem keys_any (k c q : Int) (a b o v : ByteArray) (w : World) (ha : a.size ≤ 140737488355328) :
    Calls Try.prog 13 #[.agg #[.int .i64 k, .int .i64 c, .int .i64 q, .string a, .string b, .string o, .string v]] w fun e w' => e = .returned (keysV ⟨k, c, q, a, b, o, v⟩) ∧ Below w.heap.size w w' := by
  have hof := fun w1 => of_any a w1 ha
  have hof := hide hof
  clear ha
  rcases kinds51 k with h4 | rfl | ⟨k1, k2, k3, k4, k5⟩
  · rcases h4 with rfl | rfl | rfl | rfl
    all_goals
      go_enter Try.func13, Try.ntmps13
      go_wp2_with (go_at_call 30; (with_reducible refine (hof.out _).mono ?_); rintro e w' ⟨rfl, hb⟩; simp only [World.size_alloc] at hb; obtain ⟨c0, c1, f0, f1⟩ := row_two (row_at hb (by simp)))
      refine bodyPost_ret (v := keysV ⟨_, c, q, a, b, o, v⟩) (by simp [results, Try.results13, go_sem, keysV, loC, hiC, hasC, *]) rfl ⟨rfl, ?_⟩
      exact ((two_more hb).setCell (by simp) _).setCell (by simp) _
  · go_enter Try.func13, Try.ntmps13
    go_wp2
    refine bodyPost_ret (v := keysV ⟨5, c, q, a, b, o, v⟩) (by simp [results, Try.results13, go_sem, keysV, loC, hiC, hasC]) rfl ⟨rfl, ?_⟩
    repeat' first | exact Below.refl _ _ | refine Below.drew ?_ | refine bit_alloc ?_ (Nat.le_refl _) _
  · have e : keysV ⟨k, c, q, a, b, o, v⟩ = .tuple #[.agg #[.string noT, .string noT], .bool false] := by rw [keys_no (hasC_no k1 k2 k3 k4 k5)]
    rw [e]
    clear e
    go_enter Try.func13, Try.ntmps13
    go_wp2
    refine bodyPost_ret (v := .tuple #[.agg #[.string noT, .string noT], .bool false]) (by simp [results, Try.results13, go_sem, noT]) rfl ⟨rfl, ?_⟩
    repeat' first | exact Below.refl _ _ | refine Below.drew ?_ | refine bit_alloc ?_ (Nat.le_refl _) _
/-- The greater of two numbers is within just if both are. -/
theorem most_le (x y z : Int) : decide ((if y > x then y else x) ≤ z) = decide (x ≤ z ∧ y ≤ z) := by
  split
  all_goals (apply decide_eq_decide.2; omega)
set_option maxRecDepth 100000 in
set_option maxHeartbeats 4000000 in
theorem bounded_any (k c q : Int) (a b o v : ByteArray) (w : World) :
    Calls Try.prog 32 #[.agg #[.int .i64 k, .int .i64 c, .int .i64 q, .string a, .string b, .string o, .string v]] w fun e w' => e = .returned (.bool (boundC ⟨k, c, q, a, b, o, v⟩)) ∧ Below w.heap.size w w' := by
  go_enter Try.func32, Try.ntmps32
  go_wp2
  all_goals go_ret
  all_goals exact ⟨ret_bool (by simp [boundC, nilB, *] <;> (first | omega | (rw [Bool.eq_iff_iff]; simp_all; omega) | (intros; simp_all))), (Below.refl _ _).alloc (Nat.le_refl _) _⟩
end Go.Proofs.Ytigbplmfhnamkaa
