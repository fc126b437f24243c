/- Instances as a map's keys. Conditions: the bounds of an int. -/
import Derived.Test.YtnbknhgfjjgcjaaFrame
import Derived.Maps.OwnSet
import Derived.DeepKeys4
namespace Go.Proofs.Ytnbknhgfjjgcjaa
open Go.RowKit Go.Maps
/-- A number that an int holds. -/
def I64 (n : Int) : Prop := -9223372036854775808 ≤ n ∧ n ≤ 9223372036854775807
/-- An instance's two numbers are ints. -/
def Ok (x : Int × Int) : Prop := I64 x.1 ∧ I64 x.2
/-- An instance as a value, as cells. -/
def iv (x : Int × Int) : Value := .agg #[.int .i64 x.1, .int .i64 x.2]
def ic (x : Int × Int) : List Value := [.int .i64 x.1, .int .i64 x.2]
/-- What it reads as, as a key. -/
def kl (x : Int × Int) : Lit := .string (keyBytes [.int .i64 x.1, .int .i64 x.2])
theorem law : Keyed Try.prog 25 := Keyed.of_law (deep_law_laid laidOut (m := 2) (by omega) (of_decide_eq_true (by kernel_rfl)) (by kernel_rfl) (by rw [Try.underlying25]))
theorem keyty : Try.prog.keyType 25 = true := by kernel_rfl
theorem types_succ : ∃ n, Try.prog.types.size = n + 1 := ⟨Try.prog.types.size - 1, by kernel_rfl⟩
theorem wf_i64 {n : Int} : (Lit.int .i64 n).wf = true ↔ I64 n := by
  constructor
  · intro h; exact bounds_i64 h
  · intro h; exact WalkArith.wf_i64 (by unfold I64 at h; omega)
theorem cells_int : Try.prog.cellsOf 3 = 1 := by kernel_rfl
theorem lits_struct {P : Program} {t : TypeId} {fs : Array Field} (d : Nat) (cs : List Value) (hu : P.underlying t = some (.struct fs)) (hl : cs.length = P.cellsOf t) (hn : fs.all (·.name != "_") = true) :
    P.keyLits (d + 1) t cs = (fs.toList.mapM fun f => P.keyLits d f.type ((cs.drop f.offset).take (P.cellsOf f.type))).map List.flatten := by
  rw [Program.keyLits.eq_def]
  simp only [hu]
  rw [if_pos ⟨hl, hn⟩]
theorem lits_one {P : Program} {t : TypeId} (d : Nat) (n : Int) (hu : P.underlying t = some (.int .i64)) (h : I64 n) : P.keyLits (d + 1) t [.int .i64 n] = some [.int .i64 n] := by
  rw [Program.keyLits.eq_def]
  simp only [hu]
  simp [wf_i64.2 h]
theorem lits_one_inv {P : Program} {t : TypeId} (d : Nat) (a : Value) (l : List Lit) (hu : P.underlying t = some (.int .i64)) (h : P.keyLits (d + 1) t [a] = some l) : ∃ n, a = .int .i64 n ∧ I64 n ∧ l = [.int .i64 n] := by
  rw [Program.keyLits.eq_def] at h
  simp only [hu] at h
  cases a <;> simp at h
  obtain ⟨⟨rfl, hw⟩, rfl⟩ := h
  exact ⟨_, rfl, wf_i64.1 hw, rfl⟩
theorem bind_two {α : Type} (p q : Option (List α)) : Option.map List.flatten (do
    let x ← p
    let y ← (do
      let y ← q
      let z ← pure []
      pure (y :: z))
    pure (x :: y)) = (do
    let x ← p
    let y ← q
    pure (x ++ y)) := by
  cases p with
  | none => rfl
  | some x =>
    cases q with
    | none => rfl
    | some y => simp
theorem lits_two (a b : Value) : Try.prog.keyLits (Try.prog.types.size + 1) 25 [a, b] = (do
    let x ← Try.prog.keyLits Try.prog.types.size 3 [a]
    let y ← Try.prog.keyLits Try.prog.types.size 3 [b]
    pure (x ++ y)) := by
  rw [lits_struct _ [a, b] Try.underlying25 (by rw [Try.cells25]; rfl) (by kernel_rfl), ← bind_two]
  simp only [List.mapM_cons, List.mapM_nil, cells_int]
  rfl
theorem lits_int (a : Value) (l : List Lit) (h : Try.prog.keyLits Try.prog.types.size 3 [a] = some l) : ∃ n, a = .int .i64 n ∧ I64 n ∧ l = [.int .i64 n] := by
  obtain ⟨m, hm⟩ := types_succ
  rw [hm] at h
  exact lits_one_inv m a l Try.underlying3 h
theorem lits_int' (n : Int) (h : I64 n) : Try.prog.keyLits Try.prog.types.size 3 [.int .i64 n] = some [.int .i64 n] := by
  obtain ⟨m, hm⟩ := types_succ
  rw [hm]
  exact lits_one m n Try.underlying3 h
theorem key_of (x : Int × Int) (h : Ok x) : keyOf Try.prog 25 (iv x) = some (kl x) := by
  unfold keyOf iv
  rw [Try.underlying25]
  have hf : (Value.agg #[.int .i64 x.1, .int .i64 x.2]).formed Try.prog 25 = true := by simp [Value.formed, Try.underlying25, Try.cells25]
  simp only [keyty, hf, Bool.and_self, if_true, Value.cells]
  have := lits_two (.int .i64 x.1) (.int .i64 x.2)
  rw [lits_int' _ h.1, lits_int' _ h.2] at this
  rw [this]; rfl
theorem key_inv {v : Value} {l : Lit} (h : keyOf Try.prog 25 v = some l) : ∃ x, Ok x ∧ v = iv x ∧ l = kl x := by
  unfold keyOf at h
  rw [Try.underlying25] at h
  simp only at h
  split at h
  · rename_i hc
    rw [Bool.and_eq_true] at hc
    obtain ⟨_, hf⟩ := hc
    cases v <;> simp [Value.formed, Try.underlying25, Try.cells25] at hf
    rename_i cs
    obtain ⟨a, b, rfl⟩ : ∃ a b, cs = #[a, b] := by
      obtain ⟨l⟩ := cs
      match l, hf with
      | [a, b], _ => exact ⟨a, b, rfl⟩
    have e := lits_two a b
    simp only [Value.cells] at h
    rw [e] at h
    cases ha : Try.prog.keyLits Try.prog.types.size 3 [a] with
    | none => rw [ha] at h; cases h
    | some x =>
      cases hb : Try.prog.keyLits Try.prog.types.size 3 [b] with
      | none => rw [ha, hb] at h; cases h
      | some y =>
        rw [ha, hb] at h
        obtain ⟨n, rfl, hn, rfl⟩ := lits_int a x ha
        obtain ⟨m, rfl, hm, rfl⟩ := lits_int b y hb
        exact ⟨(n, m), ⟨hn, hm⟩, rfl, (Option.some.inj h).symm⟩
  · cases h
theorem kl_inj {x y : Int × Int} (hx : Ok x) (hy : Ok y) (h : kl x = kl y) : x = y := by
  have e := law.inj (key_of x hx) (by rw [h]; exact key_of y hy)
  unfold iv at e
  obtain ⟨x1, x2⟩ := x
  obtain ⟨y1, y2⟩ := y
  simp at e
  simp [e]
theorem kl_key (x : Int × Int) : WideAt.IsKeyLit (kl x) := trivial
open Classical in
theorem kl_same {x y : Int × Int} (hx : Ok x) (hy : Ok y) : (kl x).sameKey (kl y) = decide (x = y) := by
  by_cases h : x = y
  · rw [h, decide_eq_true rfl]; exact WideAt.sameKey_self (kl_key y)
  · rw [decide_eq_false h]
    exact sameKey_ne fun e => h (kl_inj hx hy e)
end Go.Proofs.Ytnbknhgfjjgcjaa
