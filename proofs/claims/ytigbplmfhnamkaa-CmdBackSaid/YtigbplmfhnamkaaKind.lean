/- What the small functions of package cmd come to. No condition. -/
import Derived.Test.YtigbplmfhnamkaaPlain
import Derived.Test.YtigbplmfhnamkaaSpan
import Derived.Laws.StructEq
import Derived.Deep.DeepCutAuto
import Derived.Deep.RegionHeld3
namespace Go.Proofs.Ytigbplmfhnamkaa
open Go.RowKit
theorem eql_cmd (k c q : Int) (a b o v : ByteArray) (k' c' q' : Int) (a' b' o' v' : ByteArray) (w : World) :
    (binOp .eql 23 (.agg #[.int .i64 k, .int .i64 c, .int .i64 q, .string a, .string b, .string o, .string v]) (.agg #[.int .i64 k', .int .i64 c', .int .i64 q', .string a', .string b', .string o', .string v'])).run Try.prog w =
      .ok (.bool (sameC ⟨k, c, q, a, b, o, v⟩ ⟨k', c', q', a', b', o', v'⟩)) w := by
  have u3 := Try.underlying3
  have a3 := Try.isAgg3
  have z3 := Try.sizeOf3
  have u9 := Try.underlying9
  have a9 := Try.isAgg9
  have z9 := Try.sizeOf9
  have hS : Try.prog.underlying 23 = some (.struct (Try.prog.fieldsOf 23)) := by kernel_rfl
  have hp : Try.prog.stoodInHeld 23 = false := by kernel_rfl
  rw [run_eql_struct, show (10000 : Nat) = 9999 + 1 from rfl, run_equalIn_agg w 9999 23 _ _ hS hp]
  simp only [Program.fieldsOf, Try.underlying23]
  go_simp
  unfold sameC eqB
  cases h1 : (k == k') <;> simp_all
  cases h2 : (c == c') <;> simp_all
  cases h3 : (q == q') <;> simp_all
  cases h4 : (a.toList == a'.toList) <;> simp_all
  cases h5 : (b.toList == b'.toList) <;> simp_all
  cases h6 : (o.toList == o'.toList) <;> simp_all
  cases h7 : (v.toList == v'.toList) <;> simp_all
theorem kinds5 (k : Int) : k = 1 ∨ k = 2 ∨ k = 3 ∨ k = 4 ∨ k = 5 ∨ ((k == 1) = false ∧ (k == 2) = false ∧ (k == 3) = false ∧ (k == 4) = false ∧ (k == 5) = false) := by
  simp only [beq_eq_false_iff_ne]; omega
/-- The command's value. -/
def valC (x : Cm) : Value := .agg #[.int .i64 x.k, .int .i64 x.c, .int .i64 x.q, .string x.key, .string x.en, .string x.old, .string x.val]
theorem bit_alloc {B : Nat} {a w : World} (h : Below B a w) (hB : B ≤ a.heap.size) (o : Obj) : Below B a (w.alloc o) := h.alloc (Nat.le_trans hB h.size) o
set_option maxRecDepth 100000 in
set_option maxHeartbeats 2000000 in
theorem named_any (k c q : Int) (a b o v : ByteArray) (w : World) :
    Calls Try.prog 31 #[.agg #[.int .i64 k, .int .i64 c, .int .i64 q, .string a, .string b, .string o, .string v]] w fun e w' => e = .returned (valC (namedC ⟨k, c, q, a, b, o, v⟩)) ∧ Below w.heap.size w w' := by
  rcases kinds5 k with rfl | rfl | rfl | rfl | rfl | ⟨k1, k2, k3, k4, k5⟩
  · go_enter Try.func31, Try.ntmps31
    go_wp2
    refine bodyPost_ret (v := valC ⟨1, c, q, a, noT, noT, noT⟩) (by simp [results, Try.results31, go_sem, valC, noT]) rfl ⟨rfl, ?_⟩
    repeat' first | exact Below.refl _ _ | refine bit_alloc ?_ (Nat.le_refl _) _
  · go_enter Try.func31, Try.ntmps31
    go_wp2
    refine bodyPost_ret (v := valC ⟨2, c, q, a, noT, noT, v⟩) (by simp [results, Try.results31, go_sem, valC, noT]) rfl ⟨rfl, ?_⟩
    repeat' first | exact Below.refl _ _ | refine bit_alloc ?_ (Nat.le_refl _) _
  · go_enter Try.func31, Try.ntmps31
    go_wp2
    refine bodyPost_ret (v := valC ⟨3, c, q, a, noT, noT, noT⟩) (by simp [results, Try.results31, go_sem, valC, noT]) rfl ⟨rfl, ?_⟩
    repeat' first | exact Below.refl _ _ | refine bit_alloc ?_ (Nat.le_refl _) _
  · go_enter Try.func31, Try.ntmps31
    go_wp2
    go_region
    go_wp2
    refine bodyPost_ret (v := valC ⟨4, c, q, a, noT, o, v⟩) (by simp [results, Try.results31, go_sem, valC, noT]) rfl ⟨rfl, ?_⟩
    repeat' first | exact Below.refl _ _ | refine Below.drew ?_ | refine bit_alloc ?_ (Nat.le_refl _) _
  · go_enter Try.func31, Try.ntmps31
    go_wp2
    refine bodyPost_ret (v := valC ⟨5, c, q, a, b, noT, noT⟩) (by simp [results, Try.results31, go_sem, valC, noT]) rfl ⟨rfl, ?_⟩
    repeat' first | exact Below.refl _ _ | refine bit_alloc ?_ (Nat.le_refl _) _
  · have e : namedC ⟨k, c, q, a, b, o, v⟩ = zeroC := by
      simp only [beq_eq_false_iff_ne] at k1 k2 k3 k4 k5
      unfold namedC
      rw [if_neg (by simp only; omega), if_neg k2, if_neg k4, if_neg k5]
    rw [e]
    go_enter Try.func31, Try.ntmps31
    go_wp2
    refine bodyPost_ret (v := valC zeroC) (by simp [results, Try.results31, go_sem, valC, zeroC, noT]) rfl ⟨rfl, ?_⟩
    repeat' first | exact Below.refl _ _ | refine bit_alloc ?_ (Nat.le_refl _) _
theorem writes_any (k c q : Int) (a b o v : ByteArray) (w : World) :
    Calls Try.prog 17 #[.agg #[.int .i64 k, .int .i64 c, .int .i64 q, .string a, .string b, .string o, .string v]] w fun e w' => e = .returned (.bool (writesC k)) ∧ Below w.heap.size w w' := by
  rcases kinds5 k with rfl | rfl | rfl | rfl | rfl | ⟨k1, k2, k3, k4, k5⟩
  · go_enter Try.func17, Try.ntmps17
    go_wp2
    go_ret
    exact ⟨rfl, (Below.refl _ _).alloc (Nat.le_refl _) _⟩
  · go_enter Try.func17, Try.ntmps17
    go_wp2
    go_ret
    exact ⟨rfl, (Below.refl _ _).alloc (Nat.le_refl _) _⟩
  · go_enter Try.func17, Try.ntmps17
    go_wp2
    go_ret
    exact ⟨rfl, (Below.refl _ _).alloc (Nat.le_refl _) _⟩
  · go_enter Try.func17, Try.ntmps17
    go_wp2
    go_ret
    exact ⟨rfl, (Below.refl _ _).alloc (Nat.le_refl _) _⟩
  · go_enter Try.func17, Try.ntmps17
    go_wp2
    go_ret
    exact ⟨rfl, (Below.refl _ _).alloc (Nat.le_refl _) _⟩
  · have e : writesC k = false := by
      simp only [beq_eq_false_iff_ne] at k1 k2 k3 k4 k5
      unfold writesC
      rw [Bool.and_eq_false_iff, decide_eq_false_iff_not, decide_eq_false_iff_not]; omega
    rw [e]
    clear e
    go_enter Try.func17, Try.ntmps17
    go_wp2
    go_ret
    exact ⟨rfl, (Below.refl _ _).alloc (Nat.le_refl _) _⟩
end Go.Proofs.Ytigbplmfhnamkaa
