/- '==' and '!=' of rows of slots, attributes and instances. No condition. -/
import Derived.Test.YtpngcocmjbkfgaaJoin
import Derived.Laws.StructEq
import Derived.ChangeKeysEq
namespace Go.Proofs.Ytpngcocmjbkfgaa
open Go.RowKit
theorem part_int (cs : Array Value) (o : Nat) (n : Int) (h : cs[o]? = some (.int .i64 n)) (w : World) : (part 3 cs o).run Try.prog w = .ok (.int .i64 n) w := by
  have a3 := Try.isAgg3
  simp [part, a3, h]
theorem items_step (d : Nat) (xs ys : Array Value) (i : Nat) (is : List Nat) (a b : Int) (w : World) (hx : xs[i]? = some (.int .i64 a)) (hy : ys[i]? = some (.int .i64 b)) (r : Bool) (h : (Op.eqItems (d + 1) 3 1 xs ys is).run Try.prog w = .ok r w) :
    (Op.eqItems (d + 1) 3 1 xs ys (i :: is)).run Try.prog w = .ok (a == b && r) w := by
  have e := run_equalIn_int (P := Try.prog) w d 3 .i64 .i64 a b Try.underlying3
  simp only [Op.eqItems, Sem.run_bind, Nat.mul_one, part_int xs i a hx, part_int ys i b hy, e, Result.andThen_ok]
  cases hab : (a == b)
  · simp
  · simpa using h
theorem equal_deps (d : Nat) (a1 a2 a3 a4 a5 a6 a7 b1 b2 b3 b4 b5 b6 b7 : Int) (w : World) : (Op.equalIn (d + 1 + 1) 23 (.agg #[.int .i64 a1, .int .i64 a2, .int .i64 a3, .int .i64 a4, .int .i64 a5, .int .i64 a6, .int .i64 a7]) (.agg #[.int .i64 b1, .int .i64 b2, .int .i64 b3, .int .i64 b4, .int .i64 b5, .int .i64 b6, .int .i64 b7])).run Try.prog w = .ok (decide ([a1, a2, a3, a4, a5, a6, a7] = [b1, b2, b3, b4, b5, b6, b7])) w := by
  obtain ⟨i0, hi, _, _, _⟩ := info_parts (show (Try.prog.info? 3).map (fun i => (i.zero, i.size, i.bytes)) = some (some (.int .i64 0), 1, 8) by kernel_rfl)
  rw [run_equalIn_array w (d + 1) _ _ Try.underlying23 hi, show Try.prog.cellsOf 3 = 1 by kernel_rfl, show List.range 7 = [0, 1, 2, 3, 4, 5, 6] from rfl]
  rw [items_step d _ _ 0 _ a1 b1 w rfl rfl _ (items_step d _ _ 1 _ a2 b2 w rfl rfl _ (items_step d _ _ 2 _ a3 b3 w rfl rfl _ (items_step d _ _ 3 _ a4 b4 w rfl rfl _ (items_step d _ _ 4 _ a5 b5 w rfl rfl _ (items_step d _ _ 5 _ a6 b6 w rfl rfl _ (items_step d _ _ 6 _ a7 b7 w rfl rfl true rfl))))))]
  congr 1
  rw [Bool.eq_iff_iff]
  simp
theorem eql_deps (a1 a2 a3 a4 a5 a6 a7 b1 b2 b3 b4 b5 b6 b7 : Int) (w : World) : (binOp .eql 23 (.agg #[.int .i64 a1, .int .i64 a2, .int .i64 a3, .int .i64 a4, .int .i64 a5, .int .i64 a6, .int .i64 a7]) (.agg #[.int .i64 b1, .int .i64 b2, .int .i64 b3, .int .i64 b4, .int .i64 b5, .int .i64 b6, .int .i64 b7])).run Try.prog w = .ok (.bool (decide ([a1, a2, a3, a4, a5, a6, a7] = [b1, b2, b3, b4, b5, b6, b7]))) w := by
  rw [run_eql_struct, show (10000 : Nat) = 9998 + 1 + 1 from rfl, equal_deps]; rfl
theorem neq_deps (a1 a2 a3 a4 a5 a6 a7 b1 b2 b3 b4 b5 b6 b7 : Int) (w : World) : (binOp .neq 23 (.agg #[.int .i64 a1, .int .i64 a2, .int .i64 a3, .int .i64 a4, .int .i64 a5, .int .i64 a6, .int .i64 a7]) (.agg #[.int .i64 b1, .int .i64 b2, .int .i64 b3, .int .i64 b4, .int .i64 b5, .int .i64 b6, .int .i64 b7])).run Try.prog w = .ok (.bool (!decide ([a1, a2, a3, a4, a5, a6, a7] = [b1, b2, b3, b4, b5, b6, b7]))) w := by
  rw [run_neq_struct, show (10000 : Nat) = 9998 + 1 + 1 from rfl, equal_deps]; rfl
theorem equal_attr (a0 a1 a2 a3 a4 a5 a6 a7 b0 b1 b2 b3 b4 b5 b6 b7 : Int) (w : World) : (Op.equalIn 10000 25 (.agg #[.int .i64 a0, .int .i64 a1, .int .i64 a2, .int .i64 a3, .int .i64 a4, .int .i64 a5, .int .i64 a6, .int .i64 a7]) (.agg #[.int .i64 b0, .int .i64 b1, .int .i64 b2, .int .i64 b3, .int .i64 b4, .int .i64 b5, .int .i64 b6, .int .i64 b7])).run Try.prog w = .ok (decide ([a0, a1, a2, a3, a4, a5, a6, a7] = [b0, b1, b2, b3, b4, b5, b6, b7])) w := by
  have hS : Try.prog.underlying 25 = some (.struct (Try.prog.fieldsOf 25)) := by kernel_rfl
  have hp : Try.prog.stoodInHeld 25 = false := by kernel_rfl
  have e := run_equalIn_int (P := Try.prog) w 9998 3 .i64 .i64 a0 b0 Try.underlying3
  have e2 := equal_deps 9997 a1 a2 a3 a4 a5 a6 a7 b1 b2 b3 b4 b5 b6 b7 w
  have p1 : (part 23 #[.int .i64 a0, .int .i64 a1, .int .i64 a2, .int .i64 a3, .int .i64 a4, .int .i64 a5, .int .i64 a6, .int .i64 a7] 1).run Try.prog w = .ok (.agg #[.int .i64 a1, .int .i64 a2, .int .i64 a3, .int .i64 a4, .int .i64 a5, .int .i64 a6, .int .i64 a7]) w := by kernel_rfl
  have p2 : (part 23 #[.int .i64 b0, .int .i64 b1, .int .i64 b2, .int .i64 b3, .int .i64 b4, .int .i64 b5, .int .i64 b6, .int .i64 b7] 1).run Try.prog w = .ok (.agg #[.int .i64 b1, .int .i64 b2, .int .i64 b3, .int .i64 b4, .int .i64 b5, .int .i64 b6, .int .i64 b7]) w := by kernel_rfl
  have q1 := part_int #[.int .i64 a0, .int .i64 a1, .int .i64 a2, .int .i64 a3, .int .i64 a4, .int .i64 a5, .int .i64 a6, .int .i64 a7] 0 a0 rfl w
  have q2 := part_int #[.int .i64 b0, .int .i64 b1, .int .i64 b2, .int .i64 b3, .int .i64 b4, .int .i64 b5, .int .i64 b6, .int .i64 b7] 0 b0 rfl w
  rw [show (10000 : Nat) = 9999 + 1 from rfl, run_equalIn_agg w 9999 25 _ _ hS hp]
  simp only [Program.fieldsOf, Try.underlying25]
  have hL : decide ([a0, a1, a2, a3, a4, a5, a6, a7] = [b0, b1, b2, b3, b4, b5, b6, b7]) = (a0 == b0 && decide ([a1, a2, a3, a4, a5, a6, a7] = [b1, b2, b3, b4, b5, b6, b7])) := by
    rw [Bool.eq_iff_iff]
    simp
  rw [hL]
  generalize decide ([a1, a2, a3, a4, a5, a6, a7] = [b1, b2, b3, b4, b5, b6, b7]) = p at e2
  cases h0 : (a0 == b0)
  · rw [h0] at e
    simp [Op.eqFields, q1, q2, e]
  · rw [h0] at e
    cases p <;> simp [Op.eqFields, q1, q2, p1, p2, e, e2]
theorem eql_attr (a0 a1 a2 a3 a4 a5 a6 a7 b0 b1 b2 b3 b4 b5 b6 b7 : Int) (w : World) : (binOp .eql 25 (.agg #[.int .i64 a0, .int .i64 a1, .int .i64 a2, .int .i64 a3, .int .i64 a4, .int .i64 a5, .int .i64 a6, .int .i64 a7]) (.agg #[.int .i64 b0, .int .i64 b1, .int .i64 b2, .int .i64 b3, .int .i64 b4, .int .i64 b5, .int .i64 b6, .int .i64 b7])).run Try.prog w = .ok (.bool (decide ([a0, a1, a2, a3, a4, a5, a6, a7] = [b0, b1, b2, b3, b4, b5, b6, b7]))) w := by
  rw [run_eql_struct, equal_attr]; rfl
theorem neq_attr (a0 a1 a2 a3 a4 a5 a6 a7 b0 b1 b2 b3 b4 b5 b6 b7 : Int) (w : World) : (binOp .neq 25 (.agg #[.int .i64 a0, .int .i64 a1, .int .i64 a2, .int .i64 a3, .int .i64 a4, .int .i64 a5, .int .i64 a6, .int .i64 a7]) (.agg #[.int .i64 b0, .int .i64 b1, .int .i64 b2, .int .i64 b3, .int .i64 b4, .int .i64 b5, .int .i64 b6, .int .i64 b7])).run Try.prog w = .ok (.bool (!decide ([a0, a1, a2, a3, a4, a5, a6, a7] = [b0, b1, b2, b3, b4, b5, b6, b7]))) w := by
  rw [run_neq_struct, equal_attr]; rfl
/-- Are the four numbers two pairs of one? -/
def sameB (a b c d : Int) : Bool := a == c && b == d
theorem same_iff (a b c d : Int) : sameB a b c d = decide ([a, b] = [c, d]) := by
  unfold sameB
  rw [Bool.eq_iff_iff]
  simp
theorem equal_inst (a b c d : Int) (w : World) : (Op.equalIn 10000 34 (.agg #[.int .i64 a, .int .i64 b]) (.agg #[.int .i64 c, .int .i64 d])).run Try.prog w = .ok (sameB a b c d) w := by
  have u3 := Try.underlying3
  have a3 := Try.isAgg3
  have z3 := Try.sizeOf3
  have hS : Try.prog.underlying 34 = some (.struct (Try.prog.fieldsOf 34)) := by kernel_rfl
  have hp : Try.prog.stoodInHeld 34 = false := by kernel_rfl
  rw [show (10000 : Nat) = 9999 + 1 from rfl, run_equalIn_agg w 9999 34 _ _ hS hp]
  simp only [Program.fieldsOf, Try.underlying34]
  go_simp
  unfold sameB
  cases h1 : (a == c) <;> simp_all
  cases h2 : (b == d) <;> simp_all
theorem eql_inst (a b c d : Int) (w : World) : (binOp .eql 34 (.agg #[.int .i64 a, .int .i64 b]) (.agg #[.int .i64 c, .int .i64 d])).run Try.prog w = .ok (.bool (sameB a b c d)) w := by
  rw [run_eql_struct, equal_inst]; rfl
theorem neq_inst (a b c d : Int) (w : World) : (binOp .neq 34 (.agg #[.int .i64 a, .int .i64 b]) (.agg #[.int .i64 c, .int .i64 d])).run Try.prog w = .ok (.bool (!sameB a b c d)) w := by
  rw [run_neq_struct, equal_inst]; rfl
end Go.Proofs.Ytpngcocmjbkfgaa
