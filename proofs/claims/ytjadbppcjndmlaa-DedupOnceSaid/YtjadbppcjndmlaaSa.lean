/- '==' of pairs; concordbook.Same of lists of pairs. Conditions: the slices lie in memory, their lengths have room. -/
import Derived.Test.YtjadbppcjndmlaaKw
import Derived.Laws.StructEq
namespace Go.Proofs.Ytjadbppcjndmlaa
open Go.RowKit
theorem equal_pair (a b : ByteArray) (n : Int) (a' b' : ByteArray) (n' : Int) (w : World) : (Op.equalIn 10000 49 (.agg #[.string a, .string b, .int .i64 n]) (.agg #[.string a', .string b', .int .i64 n'])).run Try.prog w = .ok (eqB a a' && (eqB b b' && n == n')) w := by
  have u9 := Try.underlying9
  have a9 := Try.isAgg9
  have z9 := Try.sizeOf9
  have u3 := Try.underlying3
  have a3 := Try.isAgg3
  have z3 := Try.sizeOf3
  have hS : Try.prog.underlying 49 = some (.struct (Try.prog.fieldsOf 49)) := by kernel_rfl
  have hp : Try.prog.stoodInHeld 49 = false := by kernel_rfl
  rw [show (10000 : Nat) = 9999 + 1 from rfl, run_equalIn_agg w 9999 49 _ _ hS hp]
  simp only [Program.fieldsOf, Try.underlying49]
  go_simp
  unfold eqB
  cases h1 : (a.toList == a'.toList) <;> simp_all
  cases h2 : (b.toList == b'.toList) <;> simp_all
  cases h3 : (n == n') <;> simp_all
theorem pair_iff (p q : Pr) : (eqB p.k q.k && (eqB p.v q.v && p.n == q.n)) = decide (p = q) := by
  obtain ⟨a, b, n⟩ := p
  obtain ⟨a', b', n'⟩ := q
  rw [Bool.eq_iff_iff]
  simp [eq_iff]
theorem eql_pair (p q : Pr) (w : World) : (binOp .eql 49 (.agg #[.string p.k, .string p.v, .int .i64 p.n]) (.agg #[.string q.k, .string q.v, .int .i64 q.n])).run Try.prog w = .ok (.bool (decide (p = q))) w := by
  rw [run_eql_struct, equal_pair, pair_iff]; rfl
theorem neq_pair (p q : Pr) (w : World) : (binOp .neq 49 (.agg #[.string p.k, .string p.v, .int .i64 p.n]) (.agg #[.string q.k, .string q.v, .int .i64 q.n])).run Try.prog w = .ok (.bool (!decide (p = q))) w := by
  rw [run_neq_struct, equal_pair, pair_iff]; rfl
end Go.Proofs.Ytjadbppcjndmlaa
