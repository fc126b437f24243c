/- Attributes as a map's keys. Conditions: the bounds of an int. -/
import Derived.Test.YtpngcocmjbkfgaaFrame
import Derived.Test.YtpngcocmjbkfgaaJoin
import Derived.Maps.OwnSet
import Derived.Maps.OwnOps
import Derived.DeepKeys4
namespace Go.Proofs.Ytpngcocmjbkfgaa
open Go.RowKit Go.Maps
/-- A number that an int holds; eight of them. -/
def I64 (n : Int) : Prop := -9223372036854775808 ≤ n ∧ n ≤ 9223372036854775807
structure Ok8 (x : List Int) : Prop where
  len : x.length = 8
  ok : ∀ n, n ∈ x → I64 n
/-- What it reads as, as a key. -/
def kl (x : List Int) : Lit := .string (keyBytes (x.map (Lit.int .i64)))
theorem law : Keyed Try.prog 25 := Keyed.of_law (deep_law_laid laidOut (m := 3) (by omega) (of_decide_eq_true (by kernel_rfl)) (by kernel_rfl) (by rw [Try.underlying25]))
theorem keyty : Try.prog.keyType 25 = true := by kernel_rfl
theorem types_two : ∃ n, Try.prog.types.size = n + 2 := ⟨Try.prog.types.size - 2, by kernel_rfl⟩
theorem wf_i64 {n : Int} : (Lit.int .i64 n).wf = true ↔ I64 n := by
  constructor
  · intro h; exact bounds_i64 h
  · intro h; exact WalkArith.wf_i64 (by unfold I64 at h; omega)
theorem cells_int : Try.prog.cellsOf 3 = 1 := by kernel_rfl
theorem cells_deps : Try.prog.cellsOf 23 = 7 := by kernel_rfl
theorem cells_attr : Try.prog.cellsOf 25 = 8 := by kernel_rfl
theorem lits_struct {P : Program} {t : TypeId} {fs : Array Field} (d : Nat) (cs : List Value) (hu : P.underlying t = some (.struct fs)) (hl : cs.length = P.cellsOf t) (hn : fs.all (·.name != "_") = true) :
    P.keyLits (d + 1) t cs = (fs.toList.mapM fun f => P.keyLits d f.type ((cs.drop f.offset).take (P.cellsOf f.type))).map List.flatten := by
  rw [Program.keyLits.eq_def]
  simp only [hu]
  rw [if_pos ⟨hl, hn⟩]
theorem lits_arr {P : Program} {t e : TypeId} {n : Nat} (d : Nat) (cs : List Value) (hu : P.underlying t = some (.array n e)) (hl : cs.length = P.cellsOf t) :
    P.keyLits (d + 1) t cs = ((List.range n).mapM fun i => P.keyLits d e ((cs.drop (i * P.cellsOf e)).take (P.cellsOf e))).map List.flatten := by
  rw [Program.keyLits.eq_def]
  simp only [hu]
  rw [if_pos hl]
theorem lits_one {P : Program} {t : TypeId} (d : Nat) (n : Int) (hu : P.underlying t = some (.int .i64)) (h : I64 n) : P.keyLits (d + 1) t [.int .i64 n] = some [.int .i64 n] := by
  rw [Program.keyLits.eq_def]
  simp only [hu]
  simp [wf_i64.2 h]
theorem lits_deps (d : Nat) (d1 d2 d3 d4 d5 d6 d7 : Int) (h : ∀ n, n ∈ [d1, d2, d3, d4, d5, d6, d7] → I64 n) : Try.prog.keyLits (d + 1 + 1) 23 [.int .i64 d1, .int .i64 d2, .int .i64 d3, .int .i64 d4, .int .i64 d5, .int .i64 d6, .int .i64 d7] = some (List.map (Lit.int .i64) [d1, d2, d3, d4, d5, d6, d7]) := by
  have l1 := fun n (hn : n ∈ [d1, d2, d3, d4, d5, d6, d7]) => lits_one (P := Try.prog) (t := 3) d n Try.underlying3 (h n hn)
  rw [lits_arr (d + 1) _ Try.underlying23 (by rw [cells_deps]; rfl), cells_int]
  have e : List.range 7 = [0, 1, 2, 3, 4, 5, 6] := rfl
  rw [e]
  simp only [List.mapM_cons, List.mapM_nil, Nat.mul_one, List.drop_zero, List.drop_succ_cons, List.take_succ_cons, List.take_zero, List.map_cons, List.map_nil]
  rw [l1 d1 (by simp), l1 d2 (by simp), l1 d3 (by simp), l1 d4 (by simp), l1 d5 (by simp), l1 d6 (by simp), l1 d7 (by simp)]
  rfl
theorem lits_attr (d : Nat) (a0 a1 a2 a3 a4 a5 a6 a7 : Int) (h : ∀ n, n ∈ [a0, a1, a2, a3, a4, a5, a6, a7] → I64 n) : Try.prog.keyLits (d + 1 + 1 + 1) 25 [.int .i64 a0, .int .i64 a1, .int .i64 a2, .int .i64 a3, .int .i64 a4, .int .i64 a5, .int .i64 a6, .int .i64 a7] = some (List.map (Lit.int .i64) [a0, a1, a2, a3, a4, a5, a6, a7]) := by
  have l1 := lits_one (P := Try.prog) (t := 3) (d + 1) a0 Try.underlying3 (h a0 (by simp))
  have l2 := lits_deps d a1 a2 a3 a4 a5 a6 a7 (fun n hn => h n (by simp at hn ⊢; omega))
  rw [lits_struct (d + 1 + 1) _ Try.underlying25 (by rw [cells_attr]; rfl) (by kernel_rfl)]
  simp only [List.mapM_cons, List.mapM_nil, cells_int, cells_deps, List.drop_zero, List.drop_succ_cons, List.take_succ_cons, List.take_zero, List.map_cons, List.map_nil]
  rw [l1, l2]
  rfl
theorem key_of (a0 a1 a2 a3 a4 a5 a6 a7 : Int) (h : ∀ n, n ∈ [a0, a1, a2, a3, a4, a5, a6, a7] → I64 n) : keyOf Try.prog 25 (.agg #[.int .i64 a0, .int .i64 a1, .int .i64 a2, .int .i64 a3, .int .i64 a4, .int .i64 a5, .int .i64 a6, .int .i64 a7]) = some (kl [a0, a1, a2, a3, a4, a5, a6, a7]) := by
  obtain ⟨m, hm⟩ := types_two
  have l := lits_attr m a0 a1 a2 a3 a4 a5 a6 a7 h
  unfold keyOf
  rw [Try.underlying25]
  have hf : (Value.agg #[.int .i64 a0, .int .i64 a1, .int .i64 a2, .int .i64 a3, .int .i64 a4, .int .i64 a5, .int .i64 a6, .int .i64 a7]).formed Try.prog 25 = true := by simp [Value.formed, Try.underlying25, cells_attr]
  simp only [keyty, hf, Bool.and_self, if_true, Value.cells, hm]
  rw [l]; rfl
theorem kl_inj {x y : List Int} (hx : Ok8 x) (hy : Ok8 y) (h : kl x = kl y) : x = y := by
  obtain ⟨a0, a1, a2, a3, a4, a5, a6, a7, rfl⟩ := len8 hx.len
  obtain ⟨b0, b1, b2, b3, b4, b5, b6, b7, rfl⟩ := len8 hy.len
  have e := law.inj (key_of a0 a1 a2 a3 a4 a5 a6 a7 hx.ok) (by rw [h]; exact key_of b0 b1 b2 b3 b4 b5 b6 b7 hy.ok)
  simpa using e
theorem kl_key (x : List Int) : WideAt.IsKeyLit (kl x) := trivial
theorem kl_same {x y : List Int} (hx : Ok8 x) (hy : Ok8 y) : (kl x).sameKey (kl y) = decide (x = y) := by
  by_cases h : x = y
  · rw [h, decide_eq_true rfl]; exact WideAt.sameKey_self (kl_key y)
  · rw [decide_eq_false h]
    exact sameKey_ne fun e => h (kl_inj hx hy e)
end Go.Proofs.Ytpngcocmjbkfgaa
