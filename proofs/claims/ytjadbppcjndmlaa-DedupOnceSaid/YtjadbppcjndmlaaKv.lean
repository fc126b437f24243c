/- What package kv's Get, Put and Delete come to. Conditions: the list lies in memory, its length has room. -/
import Derived.Test.YtjadbppcjndmlaaConc
import Derived.Deep.DeepCutAuto
import Derived.Deep.RegionHeld3
namespace Go.Proofs.Ytjadbppcjndmlaa
open Go.RowKit
/-- What is put, or nothing. -/
def putL (l : List Pr) (key value : ByteArray) : List Pr := if fullB l key = true then [] else putP l key value
def putE (l : List Pr) (key : ByteArray) : Int := if fullB l key = true then 7 else 0
theorem wrap_ver {l : List Pr} {key : ByteArray} {p : Pr} (h : getP l key = p) (hb : isB l key = true) : verP l key = IntKind.i64.wrap (p.n + 1) := by
  unfold verP; rw [if_pos hb, h]
/-- A fresh block of three cells, behind a call. -/
theorem fresh3 {w w1 : World} {t : TypeId} {x y z : Value} (hb : Below (w.alloc (.cells #[x, y, z] t)).heap.size (w.alloc (.cells #[x, y, z] t)) w1) :
    Row w1 w.heap.size t #[x, y, z] ∧ Below w.heap.size w w1 :=
  ⟨(Row.new w t _).below hb (by simp), (kept_alloc (kept_refl w) _).trans (hb.mono (by simp))⟩
theorem Row.three {w : World} {g : Nat} {t : TypeId} {x y z : Value} (h : Row w g t #[x, y, z]) : w.cell? ⟨g, 0, none⟩ = some x ∧ w.cell? ⟨g, 1, none⟩ = some y ∧ w.cell? ⟨g, 2, none⟩ = some z :=
  ⟨h.cell 0, h.cell 1, h.cell 2⟩
theorem Row.frees {w : World} {g : Nat} {t : TypeId} {x y z : Value} (h : Row w g t #[x, y, z]) : w.frozen? ⟨g, 0, none⟩ = false ∧ w.frozen? ⟨g, 1, none⟩ = false ∧ w.frozen? ⟨g, 2, none⟩ = false :=
  ⟨h.free 0, h.free 1, h.free 2⟩
theorem three_put {a b c u0 u1 u2 : Value} : (((#[a, b, c] : Array Value).setIfInBounds 0 u0).setIfInBounds 1 u1).setIfInBounds 2 u2 = #[u0, u1, u2] := by simp
theorem Row.put3 {w : World} {g : Nat} {t : TypeId} {x y z : Value} (h : Row w g t #[x, y, z]) (u0 u1 u2 : Value) : Row (((w.setCell ⟨g, 0, none⟩ u0).setCell ⟨g, 1, none⟩ u1).setCell ⟨g, 2, none⟩ u2) g t #[u0, u1, u2] := by
  have z := ((h.put 0 u0).put 1 u1).put 2 u2
  rw [three_put] at z
  exact z
/-- The answer out of its block, and one more. -/
theorem results_pair {fn : Func} {tmps : Array Value} {w : World} {a b h : Nat} {t : TypeId} {x y : ByteArray} {z : Int} {u : Value} (hf : fn.results = #[.cell a 49, .tmp b]) (ht : tmps[a]? = some (.pointer (some ⟨h, 0, none⟩))) (hu : tmps.getD b undef = u) (hr : Row w h t #[.string x, .string y, .int .i64 z]) :
    (results fn tmps).run Try.prog w = .ok (.tuple #[.agg #[.string x, .string y, .int .i64 z], u]) w := by
  obtain ⟨c0, c1, c2⟩ := hr.three
  rw [Array.getD_eq_getD_getElem?] at hu
  simp [results, hf, ht, hu, go_sem, c0, c1, c2]
theorem below_put3 {w w1 : World} {g : Nat} (h : Below w.heap.size w w1) (hg : w.heap.size ≤ g) (x y z : Value) : Below w.heap.size w (((w1.setCell ⟨g, 0, none⟩ x).setCell ⟨g, 1, none⟩ y).setCell ⟨g, 2, none⟩ z) :=
  ((h.setCell hg x).setCell hg y).setCell hg z
end Go.Proofs.Ytjadbppcjndmlaa
