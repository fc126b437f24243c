/- Join of package deps, and the document's. Conditions: the slice has room. -/
import Derived.Test.YtpngcocmjbkfgaaArr
import Derived.Test.YtpngcocmjbkfgaaIts
import Derived.Test.YtpngcocmjbkfgaaSp
import Derived.Deep.DeepCutAuto
namespace Go.Proofs.Ytpngcocmjbkfgaa
open Go.RowKit
/-- A struct of ints as a block. -/
def cA (x : List Int) : Array Value := (cellsR x).toArray
theorem row_cA {w : World} {g : Nat} {t : TypeId} {x : List Int} (h : Row w g t (cA x)) (i : Nat) (hi : i < x.length) : w.cell? ⟨g, i, none⟩ = some (.int .i64 (ix x i)) := by
  rw [h.cell, ← cellsR_at x hi]; simp [cA]
/-- A list of eight numbers, told by its places. -/
def tab8 (f : Nat → Int) : List Int := [f 0, f 1, f 2, f 3, f 4, f 5, f 6, f 7]
theorem tab8_ix (f : Nat → Int) {i : Nat} (h : i < 8) : ix (tab8 f) i = f i := by
  match i, h with
  | 0, _ => rfl
  | 1, _ => rfl
  | 2, _ => rfl
  | 3, _ => rfl
  | 4, _ => rfl
  | 5, _ => rfl
  | 6, _ => rfl
  | 7, _ => rfl
theorem len8 {x : List Int} (h : x.length = 8) : ∃ x0 x1 x2 x3 x4 x5 x6 x7, x = [x0, x1, x2, x3, x4, x5, x6, x7] := by
  match x, h with
  | [a, b, c, d, e, f, g, i], _ => exact ⟨a, b, c, d, e, f, g, i, rfl⟩
theorem tab8_of {x : List Int} (h : x.length = 8) {f : Nat → Int} (hf : ∀ i, i < 8 → ix x i = f i) : x = tab8 f := by
  obtain ⟨x0, x1, x2, x3, x4, x5, x6, x7, rfl⟩ := len8 h
  unfold tab8
  rw [← hf 0 (by omega), ← hf 1 (by omega), ← hf 2 (by omega), ← hf 3 (by omega), ← hf 4 (by omega), ← hf 5 (by omega), ← hf 6 (by omega), ← hf 7 (by omega)]
  rfl
/-- The greatest of two, number by number; as far as the k-th. -/
def maxA (a b : List Int) : List Int := tab8 fun i => max (ix a i) (ix b i)
def mixA (a b : List Int) (k : Nat) : List Int := tab8 fun i => if i ≤ k then max (ix a i) (ix b i) else ix a i
theorem len_maxA (a b : List Int) : (maxA a b).length = 8 := rfl
theorem len_mixA (a b : List Int) (k : Nat) : (mixA a b k).length = 8 := rfl
theorem mix_all (a b : List Int) : mixA a b 7 = maxA a b := rfl
theorem set_mix (a b : List Int) {k : Nat} (h : k < 7) : (cA (mixA a b k)).setIfInBounds (1 + k) (.int .i64 (max (ix (mixA a b k) (1 + k)) (ix b (1 + k)))) = cA (mixA a b (k + 1)) := by
  match k, h with
  | 0, _ => rfl
  | 1, _ => rfl
  | 2, _ => rfl
  | 3, _ => rfl
  | 4, _ => rfl
  | 5, _ => rfl
  | 6, _ => rfl
theorem set_mix0 {a : List Int} (b : List Int) (h : a.length = 8) : (cA a).setIfInBounds 0 (.int .i64 (max (ix a 0) (ix b 0))) = cA (mixA a b 0) := by
  obtain ⟨x0, x1, x2, x3, x4, x5, x6, x7, rfl⟩ := len8 h
  rfl
def zero8 : List Int := [0, 0, 0, 0, 0, 0, 0, 0]
/-- All of them joined. -/
def joinL : List (List Int) → List Int
  | [] => zero8
  | a :: r => r.foldl maxA a
theorem joinL_len {l : List (List Int)} (h : All 8 l) : (joinL l).length = 8 := by
  rcases l with _ | ⟨a, r⟩
  · rfl
  · show (r.foldl maxA a).length = 8
    have ha := h a (by simp)
    clear h
    induction r generalizing a with
    | nil => exact ha
    | cons b r ih => exact ih (maxA a b) rfl
theorem eight_put {a b c d e f g i u0 u1 u2 u3 u4 u5 u6 u7 : Value} : ((((((((#[a, b, c, d, e, f, g, i] : Array Value).setIfInBounds 0 u0).setIfInBounds 1 u1).setIfInBounds 2 u2).setIfInBounds 3 u3).setIfInBounds 4 u4).setIfInBounds 5 u5).setIfInBounds 6 u6).setIfInBounds 7 u7 = #[u0, u1, u2, u3, u4, u5, u6, u7] := by
  simp
theorem row_eight {w : World} {g : Nat} {t : TypeId} {u0 u1 u2 u3 u4 u5 u6 u7 : Value} (h : Row w g t #[u0, u1, u2, u3, u4, u5, u6, u7]) (v0 v1 v2 v3 v4 v5 v6 v7 : Value) :
    Row ((((((((w.setCell ⟨g, 0, none⟩ v0).setCell ⟨g, 1, none⟩ v1).setCell ⟨g, 2, none⟩ v2).setCell ⟨g, 3, none⟩ v3).setCell ⟨g, 4, none⟩ v4).setCell ⟨g, 5, none⟩ v5).setCell ⟨g, 6, none⟩ v6).setCell ⟨g, 7, none⟩ v7) g t #[v0, v1, v2, v3, v4, v5, v6, v7] := by
  have z := (((((((h.put 0 v0).put 1 v1).put 2 v2).put 3 v3).put 4 v4).put 5 v5).put 6 v6).put 7 v7
  rw [eight_put] at z
  exact z
theorem below_eight {B : Nat} {W w : World} {g : Nat} (h : Below B W w) (hg : B ≤ g) (v0 v1 v2 v3 v4 v5 v6 v7 : Value) :
    Below B W ((((((((w.setCell ⟨g, 0, none⟩ v0).setCell ⟨g, 1, none⟩ v1).setCell ⟨g, 2, none⟩ v2).setCell ⟨g, 3, none⟩ v3).setCell ⟨g, 4, none⟩ v4).setCell ⟨g, 5, none⟩ v5).setCell ⟨g, 6, none⟩ v6).setCell ⟨g, 7, none⟩ v7) :=
  (((((((h.setCell hg v0).setCell hg v1).setCell hg v2).setCell hg v3).setCell hg v4).setCell hg v5).setCell hg v6).setCell hg v7
/-- The eight cells of a struct, and that they may be written. -/
def Cells8 (w : World) (g o : Nat) (x : List Int) : Prop := w.cell? ⟨g, o, none⟩ = some (.int .i64 (ix x 0)) ∧ w.cell? ⟨g, o + 1, none⟩ = some (.int .i64 (ix x 1)) ∧ w.cell? ⟨g, o + 2, none⟩ = some (.int .i64 (ix x 2)) ∧ w.cell? ⟨g, o + 3, none⟩ = some (.int .i64 (ix x 3)) ∧
  w.cell? ⟨g, o + 4, none⟩ = some (.int .i64 (ix x 4)) ∧ w.cell? ⟨g, o + 5, none⟩ = some (.int .i64 (ix x 5)) ∧ w.cell? ⟨g, o + 6, none⟩ = some (.int .i64 (ix x 6)) ∧ w.cell? ⟨g, o + 7, none⟩ = some (.int .i64 (ix x 7))
theorem Row.eight {w : World} {g : Nat} {t : TypeId} {cs : Array Value} (h : Row w g t cs) : w.cell? ⟨g, 0, none⟩ = cs[0]? ∧ w.cell? ⟨g, 1, none⟩ = cs[1]? ∧ w.cell? ⟨g, 2, none⟩ = cs[2]? ∧ w.cell? ⟨g, 3, none⟩ = cs[3]? ∧ w.cell? ⟨g, 4, none⟩ = cs[4]? ∧ w.cell? ⟨g, 5, none⟩ = cs[5]? ∧ w.cell? ⟨g, 6, none⟩ = cs[6]? ∧ w.cell? ⟨g, 7, none⟩ = cs[7]? :=
  ⟨h.cell 0, h.cell 1, h.cell 2, h.cell 3, h.cell 4, h.cell 5, h.cell 6, h.cell 7⟩
theorem Row.free8 {w : World} {g : Nat} {t : TypeId} {cs : Array Value} (h : Row w g t cs) : w.frozen? ⟨g, 0, none⟩ = false ∧ w.frozen? ⟨g, 1, none⟩ = false ∧ w.frozen? ⟨g, 2, none⟩ = false ∧ w.frozen? ⟨g, 3, none⟩ = false ∧ w.frozen? ⟨g, 4, none⟩ = false ∧ w.frozen? ⟨g, 5, none⟩ = false ∧ w.frozen? ⟨g, 6, none⟩ = false ∧ w.frozen? ⟨g, 7, none⟩ = false :=
  ⟨h.free 0, h.free 1, h.free 2, h.free 3, h.free 4, h.free 5, h.free 6, h.free 7⟩
theorem eight_at {w : World} {b o : Nat} {x : List Int} (h : ∀ i, i < 8 → w.cell? ⟨b, o + i, none⟩ = some (.int .i64 (ix x i))) : Cells8 w b o x :=
  ⟨h 0 (by omega), h 1 (by omega), h 2 (by omega), h 3 (by omega), h 4 (by omega), h 5 (by omega), h 6 (by omega), h 7 (by omega)⟩
theorem eight_lit {w : World} {b o : Nat} {x0 x1 x2 x3 x4 x5 x6 x7 : Int} (h : Cells8 w b o [x0, x1, x2, x3, x4, x5, x6, x7]) : w.cell? ⟨b, o, none⟩ = some (.int .i64 x0) ∧ w.cell? ⟨b, o + 1, none⟩ = some (.int .i64 x1) ∧ w.cell? ⟨b, o + 2, none⟩ = some (.int .i64 x2) ∧ w.cell? ⟨b, o + 3, none⟩ = some (.int .i64 x3) ∧
    w.cell? ⟨b, o + 4, none⟩ = some (.int .i64 x4) ∧ w.cell? ⟨b, o + 5, none⟩ = some (.int .i64 x5) ∧ w.cell? ⟨b, o + 6, none⟩ = some (.int .i64 x6) ∧ w.cell? ⟨b, o + 7, none⟩ = some (.int .i64 x7) := h
/-- While Join goes on: the answer's block, the joined one's. -/
structure Jn (W w : World) (x : List Int) : Prop where
  low : Below W.heap.size W w
  res : Row w W.heap.size 25 (cA zero8)
  j : Row w (W.heap.size + 1) 25 (cA x)
theorem Jn.alloc {W w : World} {x : List Int} (h : Jn W w x) (o : Obj) : Jn W (w.alloc o) x := ⟨kept_alloc h.low o, h.res.alloc o, h.j.alloc o⟩
theorem Jn.put {W w : World} {x y : List Int} (h : Jn W w x) (i : Nat) (v : Value) (he : (cA x).setIfInBounds i v = cA y) : Jn W (w.setCell ⟨W.heap.size + 1, i, none⟩ v) y :=
  ⟨h.low.setCell (by simp) v, (Below.heap_setCell w ⟨W.heap.size + 1, i, none⟩ v W.heap.size (by show W.heap.size ≠ W.heap.size + 1; omega)).trans h.res, he ▸ h.j.put i v⟩
theorem results_at8 {fn : Func} {p : Tmp} {tmps : Array Value} {w : World} {g : Nat} {t : TypeId} {v0 v1 v2 v3 v4 v5 v6 v7 : Value} (hf : fn.results = #[.cell p 25]) (hp : tmps.getD p undef = .pointer (some ⟨g, 0, none⟩)) (hr : Row w g t #[v0, v1, v2, v3, v4, v5, v6, v7]) :
    (results fn tmps).run Try.prog w = .ok (.agg #[v0, v1, v2, v3, v4, v5, v6, v7]) w :=
  results_cell_row hf tmps w g t _ _ _ hp hr Try.underlying25 rfl (by kernel_rfl)
end Go.Proofs.Ytpngcocmjbkfgaa
