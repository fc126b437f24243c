/- Chapter 14's runs. No condition. -/
import Derived.Test.YtfihcgimgngmhaaVg
import Derived.Test.YtfihcgimgngmhaaPn
import Derived.Test.YtfihcgimgngmhaaVh
import Derived.Test.YtfihcgimgngmhaaVi
import Derived.Test.YtfihcgimgngmhaaVd
import Derived.Test.YtfihcgimgngmhaaVe
import Derived.Deep.CutBlock
import Derived.BigQuiet
namespace Go.Proofs.Ytfihcgimgngmhaa
set_option maxRecDepth 100000
open Go.RowKit Go.Maps
/-! ### What the runs come to -/
def x1R : Ix := noteX zeroX 0 1 (ofC 2 1 { data := #[97] }) 4
def x2R : Ix := noteX x1R 1 3 (ofC 1 2 { data := #[97] }) 2
def x3R : Ix := pruneX x2R [9, 0, 0, 0, 0, 0, 0]
theorem kn1 : Kn x1R := Kn.zero.note 0 1 _ 4
theorem kn2 : Kn x2R := kn1.note 1 3 _ 2
theorem kn3 : Kn x3R := kn2.prune _
theorem small2 : ∀ e, e ∈ x2R.k → e.c.key.size ≤ 140737488355328 := by
  have h : x2R.k = [⟨0, 1, (ofC 2 1 { data := #[97] }), 4⟩, ⟨1, 3, (ofC 1 2 { data := #[97] }), 2⟩] := by kernel_rfl
  intro e he
  rw [h] at he
  simp at he
  rcases he with rfl | rfl <;> (show 1 ≤ 140737488355328; omega)
theorem small3 : ∀ e, e ∈ x3R.k → e.c.key.size ≤ 140737488355328 := fun e he => small2 e (List.mem_filter.1 he).1
structure Rn (W w : World) (g b : Nat) (x : Ix) : Prop where
  low : Below W.heap.size W w
  px : Px w g b x
  hg : W.heap.size ≤ g
  hb : W.heap.size ≤ b
section
variable {W w w' : World} {g b : Nat} {x y : Ix}
theorem Rn.below (h : Rn W w g b x) (k : Below w.heap.size w w') : Rn W w' g b x := ⟨kept_trans h.low k, h.px.below k, h.hg, h.hb⟩
theorem Rn.kq {o : Nat → Prop} (h : Rn W w g b x) (hp : Px w' g b y) (k : Kq o w w') (ho : ∀ j, j < W.heap.size → ¬ o j) : Rn W w' g b y := ⟨k.below h.low h.low.size ho, hp, h.hg, h.hb⟩
theorem Rn.note (h : Rn W w g b x) (hp : Px w' g b y) (k : Kq (fun k => k = b) w w') : Rn W w' g b y := h.kq hp k (fun j hj e => by have := h.hb; omega)
theorem Rn.prune (h : Rn W w g b x) (hp : Px w' g b y) (k : Kq (fun k => k = g ∨ k = b) w w') : Rn W w' g b y := h.kq hp k (fun j hj e => by have := h.hb; have := h.hg; omega)
end
theorem note1 (g b : Nat) (w : World) (h : Px w g b zeroX) : Calls Try.prog 9 #[.pointer (some ⟨g, 0, none⟩), .agg #[.int .i64 0, .int .i64 1], .agg #[.int .i64 2, .int .i64 1, .int .i64 1, .string { data := #[97] }, .string { data := #[] }, .string { data := #[] }, .string { data := #[] }], .int .i64 4] w fun e w' => e = .returned (.bool true) ∧ Px w' g b x1R ∧ Kq (fun k => k = b) w w' :=
  by
  have hm : mayN zeroX.d 0 1 (ofC 2 1 { data := #[97] }) 4 = true := by kernel_rfl
  have h1 := pnote_any g b zeroX 0 1 (ofC 2 1 { data := #[97] }) 4 w h (by decide)
  rw [hm] at h1
  exact h1
theorem note2 (g b : Nat) (w : World) (h : Px w g b x1R) : Calls Try.prog 9 #[.pointer (some ⟨g, 0, none⟩), .agg #[.int .i64 1, .int .i64 3], .agg #[.int .i64 1, .int .i64 2, .int .i64 1, .string { data := #[97] }, .string { data := #[] }, .string { data := #[] }, .string { data := #[] }], .int .i64 2] w fun e w' => e = .returned (.bool true) ∧ Px w' g b x2R ∧ Kq (fun k => k = b) w w' := by
  have hm : mayN x1R.d 1 3 (ofC 1 2 { data := #[97] }) 2 = true := by kernel_rfl
  have h1 := pnote_any g b x1R 1 3 (ofC 1 2 { data := #[97] }) 2 w h (by rw [show x1R.k.length = 1 by kernel_rfl]; decide)
  rw [hm] at h1
  exact h1
theorem attr1 (g b : Nat) (w : World) (h : Px w g b x2R) : Calls Try.prog 12 #[.pointer (some ⟨g, 0, none⟩), .agg #[.int .i64 2, .int .i64 1], .agg #[.int .i64 2, .int .i64 3, .int .i64 1, .string { data := #[97] }, .string { data := #[] }, .string { data := #[] }, .string { data := #[] }]] w fun e w' => e = .returned (.agg #[.int .i64 5, .int .i64 1, .int .i64 3, .int .i64 0, .int .i64 0, .int .i64 0, .int .i64 0, .int .i64 0]) ∧ Below w.heap.size w w' := by
  have h1 := pattr_any g b x2R 2 1 (ofC 2 3 { data := #[97] }) w h kn2 (by show 1 ≤ 140737488355328; omega) small2
  rw [show attrX x2R 2 1 (ofC 2 3 { data := #[97] }) = (5, [1, 3, 0, 0, 0, 0, 0]) by kernel_rfl] at h1
  exact h1
theorem attr2 (g b : Nat) (w : World) (h : Px w g b x2R) : Calls Try.prog 12 #[.pointer (some ⟨g, 0, none⟩), .agg #[.int .i64 2, .int .i64 1], .agg #[.int .i64 1, .int .i64 3, .int .i64 1, .string { data := #[97] }, .string { data := #[] }, .string { data := #[] }, .string { data := #[] }]] w fun e w' => e = .returned (.agg #[.int .i64 5, .int .i64 1, .int .i64 0, .int .i64 0, .int .i64 0, .int .i64 0, .int .i64 0, .int .i64 0]) ∧ Below w.heap.size w w' := by
  have h1 := pattr_any g b x2R 2 1 (ofC 1 3 { data := #[97] }) w h kn2 (by show 1 ≤ 140737488355328; omega) small2
  rw [show attrX x2R 2 1 (ofC 1 3 { data := #[97] }) = (5, [1, 0, 0, 0, 0, 0, 0]) by kernel_rfl] at h1
  exact h1
theorem attr3 (g b : Nat) (w : World) (h : Px w g b x2R) : Calls Try.prog 12 #[.pointer (some ⟨g, 0, none⟩), .agg #[.int .i64 0, .int .i64 5], .agg #[.int .i64 1, .int .i64 3, .int .i64 1, .string { data := #[98] }, .string { data := #[] }, .string { data := #[] }, .string { data := #[] }]] w fun e w' => e = .returned (.agg #[.int .i64 0, .int .i64 4, .int .i64 0, .int .i64 0, .int .i64 0, .int .i64 0, .int .i64 0, .int .i64 0]) ∧ Below w.heap.size w w' := by
  have h1 := pattr_any g b x2R 0 5 (ofC 1 3 { data := #[98] }) w h kn2 (by show 1 ≤ 140737488355328; omega) small2
  rw [show attrX x2R 0 5 (ofC 1 3 { data := #[98] }) = (0, [4, 0, 0, 0, 0, 0, 0]) by kernel_rfl] at h1
  exact h1
theorem attr4 (g b : Nat) (w : World) (h : Px w g b x3R) : Calls Try.prog 12 #[.pointer (some ⟨g, 0, none⟩), .agg #[.int .i64 2, .int .i64 1], .agg #[.int .i64 1, .int .i64 3, .int .i64 1, .string { data := #[97] }, .string { data := #[] }, .string { data := #[] }, .string { data := #[] }]] w fun e w' => e = .returned (.agg #[.int .i64 0, .int .i64 9, .int .i64 0, .int .i64 0, .int .i64 0, .int .i64 0, .int .i64 0, .int .i64 0]) ∧ Below w.heap.size w w' := by
  have h1 := pattr_any g b x3R 2 1 (ofC 1 3 { data := #[97] }) w h kn3 (by show 1 ≤ 140737488355328; omega) small3
  rw [show attrX x3R 2 1 (ofC 1 3 { data := #[97] }) = (0, [9, 0, 0, 0, 0, 0, 0]) by kernel_rfl] at h1
  exact h1
theorem len3 (g b : Nat) (w : World) (h : Px w g b x3R) : Calls Try.prog 15 #[.pointer (some ⟨g, 0, none⟩)] w fun e w' => e = .returned (.int .i64 1) ∧ Below w.heap.size w w' := by
  have h1 := plen_any g b x3R w h
  rw [show x3R.k.length = 1 by kernel_rfl] at h1
  exact h1
/-- 'attr' of a literal. -/
theorem lat1 (w : World) (p : Nat) (v sq : Int) (h : Row w p 3 #[.int .i64 v]) : Calls Try.prog 14 #[.int .i64 sq, .slice (some ⟨p, 0, none⟩) 1 1] w fun e w' => e = .returned (.agg #[.int .i64 sq, .int .i64 v, .int .i64 0, .int .i64 0, .int .i64 0, .int .i64 0, .int .i64 0, .int .i64 0]) ∧ Below w.heap.size w w' :=
  attr_any p 1 [v] sq w h rfl (by omega)
theorem lat2 (w : World) (p : Nat) (v u sq : Int) (h : Row w p 3 #[.int .i64 v, .int .i64 u]) : Calls Try.prog 14 #[.int .i64 sq, .slice (some ⟨p, 0, none⟩) 2 2] w fun e w' => e = .returned (.agg #[.int .i64 sq, .int .i64 v, .int .i64 u, .int .i64 0, .int .i64 0, .int .i64 0, .int .i64 0, .int .i64 0]) ∧ Below w.heap.size w w' :=
  attr_any p 2 [v, u] sq w h rfl (by omega)
/-- Behind the three answers. -/
structure Rq (W w : World) (g b : Nat) (x : Ix) (q : Nat) : Prop where
  rn : Rn W w g b x
  r1 : Row w q 34 #[.int .i64 5, .int .i64 1, .int .i64 3, .int .i64 0, .int .i64 0, .int .i64 0, .int .i64 0, .int .i64 0]
  r2 : Row w (q + 1) 34 #[.int .i64 5, .int .i64 1, .int .i64 0, .int .i64 0, .int .i64 0, .int .i64 0, .int .i64 0, .int .i64 0]
  r3 : Row w (q + 2) 34 #[.int .i64 0, .int .i64 4, .int .i64 0, .int .i64 0, .int .i64 0, .int .i64 0, .int .i64 0, .int .i64 0]
theorem Rq.start {W w : World} {g b : Nat} {x : Ix} (h : Rn W w g b x) : Rq W (((w.alloc (.cells #[.int .i64 5, .int .i64 1, .int .i64 3, .int .i64 0, .int .i64 0, .int .i64 0, .int .i64 0, .int .i64 0] 34)).alloc (.cells #[.int .i64 5, .int .i64 1, .int .i64 0, .int .i64 0, .int .i64 0, .int .i64 0, .int .i64 0, .int .i64 0] 34)).alloc (.cells #[.int .i64 0, .int .i64 4, .int .i64 0, .int .i64 0, .int .i64 0, .int .i64 0, .int .i64 0, .int .i64 0] 34)) g b x w.heap.size := by
  have hb := kept_alloc (kept_alloc (kept_alloc (kept_refl w) (.cells #[.int .i64 5, .int .i64 1, .int .i64 3, .int .i64 0, .int .i64 0, .int .i64 0, .int .i64 0, .int .i64 0] 34)) (.cells #[.int .i64 5, .int .i64 1, .int .i64 0, .int .i64 0, .int .i64 0, .int .i64 0, .int .i64 0, .int .i64 0] 34)) (.cells #[.int .i64 0, .int .i64 4, .int .i64 0, .int .i64 0, .int .i64 0, .int .i64 0, .int .i64 0, .int .i64 0] 34)
  refine ⟨h.below hb, ((Row.new w _ _).alloc _).alloc _, ?_, ?_⟩
  · have h1 := (Row.new (w.alloc (.cells #[.int .i64 5, .int .i64 1, .int .i64 3, .int .i64 0, .int .i64 0, .int .i64 0, .int .i64 0, .int .i64 0] 34)) 34 #[.int .i64 5, .int .i64 1, .int .i64 0, .int .i64 0, .int .i64 0, .int .i64 0, .int .i64 0, .int .i64 0]).alloc (.cells #[.int .i64 0, .int .i64 4, .int .i64 0, .int .i64 0, .int .i64 0, .int .i64 0, .int .i64 0, .int .i64 0] 34)
    rwa [show (w.alloc (.cells #[.int .i64 5, .int .i64 1, .int .i64 3, .int .i64 0, .int .i64 0, .int .i64 0, .int .i64 0, .int .i64 0] 34)).heap.size = w.heap.size + 1 by simp] at h1
  · have h1 := Row.new ((w.alloc (.cells #[.int .i64 5, .int .i64 1, .int .i64 3, .int .i64 0, .int .i64 0, .int .i64 0, .int .i64 0, .int .i64 0] 34)).alloc (.cells #[.int .i64 5, .int .i64 1, .int .i64 0, .int .i64 0, .int .i64 0, .int .i64 0, .int .i64 0, .int .i64 0] 34)) 34 #[.int .i64 0, .int .i64 4, .int .i64 0, .int .i64 0, .int .i64 0, .int .i64 0, .int .i64 0, .int .i64 0]
    rwa [show ((w.alloc (.cells #[.int .i64 5, .int .i64 1, .int .i64 3, .int .i64 0, .int .i64 0, .int .i64 0, .int .i64 0, .int .i64 0] 34)).alloc (.cells #[.int .i64 5, .int .i64 1, .int .i64 0, .int .i64 0, .int .i64 0, .int .i64 0, .int .i64 0, .int .i64 0] 34)).heap.size = w.heap.size + 2 by simp] at h1
section
variable {W w w' : World} {g b q : Nat} {x y : Ix}
theorem Rq.below (h : Rq W w g b x q) (k : Below w.heap.size w w') : Rq W w' g b x q := ⟨h.rn.below k, h.r1.below k h.r1.lt, h.r2.below k h.r2.lt, h.r3.below k h.r3.lt⟩
theorem Rq.prune (h : Rq W w g b x q) (hp : Px w' g b y) (k : Kq (fun k => k = g ∨ k = b) w w') : Rq W w' g b y q := by
  have n1 := rows_ne h.rn.px.row h.r1 (by decide)
  have n2 := rows_ne h.rn.px.row h.r2 (by decide)
  have n3 := rows_ne h.rn.px.row h.r3 (by decide)
  have m1 := mp_off h.rn.px.mp h.r1
  have m2 := mp_off h.rn.px.mp h.r2
  have m3 := mp_off h.rn.px.mp h.r3
  exact ⟨h.rn.prune hp k, k.row h.r1 (by omega), k.row h.r2 (by omega), k.row h.r3 (by omega)⟩
end
section
variable {W w : World} {g b q : Nat} {x : Ix}
theorem Rq.e1 (h : Rq W w g b x q) : w.cell? ⟨q, 0, none⟩ = some (.int .i64 5) ∧ w.cell? ⟨q, 1, none⟩ = some (.int .i64 1) ∧ w.cell? ⟨q, 2, none⟩ = some (.int .i64 3) ∧ w.cell? ⟨q, 3, none⟩ = some (.int .i64 0) ∧ w.cell? ⟨q, 4, none⟩ = some (.int .i64 0) ∧ w.cell? ⟨q, 5, none⟩ = some (.int .i64 0) ∧ w.cell? ⟨q, 6, none⟩ = some (.int .i64 0) ∧ w.cell? ⟨q, 7, none⟩ = some (.int .i64 0) := ⟨h.r1.cell 0, h.r1.cell 1, h.r1.cell 2, h.r1.cell 3, h.r1.cell 4, h.r1.cell 5, h.r1.cell 6, h.r1.cell 7⟩
theorem Rq.e2 (h : Rq W w g b x q) : w.cell? ⟨q + 1, 0, none⟩ = some (.int .i64 5) ∧ w.cell? ⟨q + 1, 1, none⟩ = some (.int .i64 1) ∧ w.cell? ⟨q + 1, 2, none⟩ = some (.int .i64 0) ∧ w.cell? ⟨q + 1, 3, none⟩ = some (.int .i64 0) ∧ w.cell? ⟨q + 1, 4, none⟩ = some (.int .i64 0) ∧ w.cell? ⟨q + 1, 5, none⟩ = some (.int .i64 0) ∧ w.cell? ⟨q + 1, 6, none⟩ = some (.int .i64 0) ∧ w.cell? ⟨q + 1, 7, none⟩ = some (.int .i64 0) := ⟨h.r2.cell 0, h.r2.cell 1, h.r2.cell 2, h.r2.cell 3, h.r2.cell 4, h.r2.cell 5, h.r2.cell 6, h.r2.cell 7⟩
theorem Rq.e3 (h : Rq W w g b x q) : w.cell? ⟨q + 1 + 1, 0, none⟩ = some (.int .i64 0) ∧ w.cell? ⟨q + 1 + 1, 1, none⟩ = some (.int .i64 4) ∧ w.cell? ⟨q + 1 + 1, 2, none⟩ = some (.int .i64 0) ∧ w.cell? ⟨q + 1 + 1, 3, none⟩ = some (.int .i64 0) ∧ w.cell? ⟨q + 1 + 1, 4, none⟩ = some (.int .i64 0) ∧ w.cell? ⟨q + 1 + 1, 5, none⟩ = some (.int .i64 0) ∧ w.cell? ⟨q + 1 + 1, 6, none⟩ = some (.int .i64 0) ∧ w.cell? ⟨q + 1 + 1, 7, none⟩ = some (.int .i64 0) := ⟨h.r3.cell 0, h.r3.cell 1, h.r3.cell 2, h.r3.cell 3, h.r3.cell 4, h.r3.cell 5, h.r3.cell 6, h.r3.cell 7⟩
end
theorem prune3 (g b : Nat) (w : World) (h : Px w g b x2R) : Calls Try.prog 13 #[.pointer (some ⟨g, 0, none⟩), .agg #[.int .i64 9, .int .i64 0, .int .i64 0, .int .i64 0, .int .i64 0, .int .i64 0, .int .i64 0]] w (fun e w' => e = .returned (.tuple #[]) ∧ Px w' g b x3R ∧ Kq (fun k => k = g ∨ k = b) w w') :=
  pprune_any g b x2R 9 0 0 0 0 0 0 w h kn2
set_option maxHeartbeats 8000000 in
theorem runs_any (w : World) : Calls Try.prog 3 #[] w fun e w' => e = .returned (.bool true) ∧ Below w.heap.size w w' := by
  have HNW := hide (fun w => pnew_any w)
  have hfd : ∀ w, (Instr.field 34 (.agg #[.int .i64 0, .int .i64 9, .int .i64 0, .int .i64 0, .int .i64 0, .int .i64 0, .int .i64 0, .int .i64 0]) 1).run Try.prog w = .ok (.agg #[.int .i64 9, .int .i64 0, .int .i64 0, .int .i64 0, .int .i64 0, .int .i64 0, .int .i64 0]) w := fun _ => by kernel_rfl
  go_enter Try.func3, Try.ntmps3
  go_upto_region 2 with (first
    | (go_at_call 8; (with_reducible refine (HNW.out _).mono ?_); rintro e w1 ⟨g, b, rfl, hp, hb, hg1, hb1⟩; have HR := hide (show Rn w w1 g b zeroX from ⟨hb, hp, hg1, hb1⟩); clear hp hb hg1 hb1))
  go_upto_region 4 with (first
    | (go_at_call 10; (with_reducible refine (at_any _ _ _).mono ?_); rintro e w2 ⟨rfl, hb⟩; replace HR := hide (HR.out.below hb); clear hb)
    | (go_at_call 11; (with_reducible refine (lof_any _ _ _ _).mono ?_); rintro e w3 ⟨rfl, hb⟩; replace HR := hide (HR.out.below hb); clear hb)
    | (go_at_call 9; (with_reducible refine (note1 _ _ _ HR.out.px).mono ?_); rintro e w4 ⟨rfl, hp, hk⟩; replace HR := hide (HR.out.note hp hk); clear hp hk)
    | (go_at_call 9; (with_reducible refine (note2 _ _ _ HR.out.px).mono ?_); rintro e w5 ⟨rfl, hp, hk⟩; replace HR := hide (HR.out.note hp hk); clear hp hk))
  go_upto_region 5 with (first
    | (go_at_call 10; (with_reducible refine (at_any _ _ _).mono ?_); rintro e w2 ⟨rfl, hb⟩; replace HR := hide (HR.out.below hb); clear hb)
    | (go_at_call 11; (with_reducible refine (lof_any _ _ _ _).mono ?_); rintro e w3 ⟨rfl, hb⟩; replace HR := hide (HR.out.below hb); clear hb)
    | (go_at_call 12; (with_reducible refine (attr1 _ _ _ HR.out.px).mono ?_); rintro e w6 ⟨rfl, hb⟩; replace HR := hide (HR.out.below hb); clear hb)
    | (go_at_call 12; (with_reducible refine (attr2 _ _ _ HR.out.px).mono ?_); rintro e w7 ⟨rfl, hb⟩; replace HR := hide (HR.out.below hb); clear hb)
    | (go_at_call 12; (with_reducible refine (attr3 _ _ _ HR.out.px).mono ?_); rintro e w8 ⟨rfl, hb⟩; replace HR := hide (HR.out.below hb); clear hb))
  have HQ := hide (Rq.start HR.out)
  clear HR
  generalize ((w8.alloc (.cells #[.int .i64 5, .int .i64 1, .int .i64 3, .int .i64 0, .int .i64 0, .int .i64 0, .int .i64 0, .int .i64 0] 34)).alloc (.cells #[.int .i64 5, .int .i64 1, .int .i64 0, .int .i64 0, .int .i64 0, .int .i64 0, .int .i64 0, .int .i64 0] 34)).alloc (.cells #[.int .i64 0, .int .i64 4, .int .i64 0, .int .i64 0, .int .i64 0, .int .i64 0, .int .i64 0, .int .i64 0] 34) = w9 at HQ ⊢
  generalize w8.heap.size = q at HQ ⊢
  go_upto_region 6 with (first
    | (go_at_call 14; (refine (lat1 _ _ _ _ (Row.new _ _ _)).mono ?_); rintro e w2 ⟨rfl, hb⟩; replace HQ := hide (HQ.out.below (kept_trans (kept_alloc (kept_refl _) _) hb)); clear hb)
    | (go_at_call 13; (with_reducible refine (prune3 _ _ _ HQ.out.rn.px).mono ?_); rintro e w3 ⟨rfl, hp, hk⟩; replace HQ := hide (HQ.out.prune hp hk); clear hp hk))
  have he1 : ∀ w, (binOp .eql 34 (.agg #[.int .i64 5, .int .i64 1, .int .i64 3, .int .i64 0, .int .i64 0, .int .i64 0, .int .i64 0, .int .i64 0]) (.agg #[.int .i64 5, .int .i64 1, .int .i64 3, .int .i64 0, .int .i64 0, .int .i64 0, .int .i64 0, .int .i64 0])).run Try.prog w = .ok (.bool true) w := fun w => eql_attr _ _ _ _ _ _ _ _ _ _ _ _ _ _ _ _ w
  have he2 : ∀ w, (binOp .eql 34 (.agg #[.int .i64 5, .int .i64 1, .int .i64 0, .int .i64 0, .int .i64 0, .int .i64 0, .int .i64 0, .int .i64 0]) (.agg #[.int .i64 5, .int .i64 1, .int .i64 0, .int .i64 0, .int .i64 0, .int .i64 0, .int .i64 0, .int .i64 0])).run Try.prog w = .ok (.bool true) w := fun w => eql_attr _ _ _ _ _ _ _ _ _ _ _ _ _ _ _ _ w
  have he3 : ∀ w, (binOp .eql 34 (.agg #[.int .i64 0, .int .i64 4, .int .i64 0, .int .i64 0, .int .i64 0, .int .i64 0, .int .i64 0, .int .i64 0]) (.agg #[.int .i64 0, .int .i64 4, .int .i64 0, .int .i64 0, .int .i64 0, .int .i64 0, .int .i64 0, .int .i64 0])).run Try.prog w = .ok (.bool true) w := fun w => eql_attr _ _ _ _ _ _ _ _ _ _ _ _ _ _ _ _ w
  have he4 : ∀ w, (binOp .eql 34 (.agg #[.int .i64 0, .int .i64 9, .int .i64 0, .int .i64 0, .int .i64 0, .int .i64 0, .int .i64 0, .int .i64 0]) (.agg #[.int .i64 0, .int .i64 9, .int .i64 0, .int .i64 0, .int .i64 0, .int .i64 0, .int .i64 0, .int .i64 0])).run Try.prog w = .ok (.bool true) w := fun w => eql_attr _ _ _ _ _ _ _ _ _ _ _ _ _ _ _ _ w
  refine wp_region_noPanic ?_
  refine wp_region_U 30 (fun w' => Rq w w' g b x3R q) (by kernel_rfl) ?_
  have HD0 := hide (show Rq w w3.drew g b x3R q from HQ.out.below (kept_drewN (kept_refl w3) 1))
  generalize World.drew _ = wd0 at HD0 ⊢
  clear HQ
  refine anyU_take (i := 0) (v := ?ov0a) (by simp only [List.getElem?_toArray, List.getElem?_cons_zero]; exact rfl) (by kernel_rfl) (by kernel_rfl) (by kernel_rfl) (fun _ _ _ h => h) (by kernel_rfl) (by kernel_rfl) (by kernel_rfl) (Or.inl ⟨by rfl, ?oy0a⟩) (by with_reducible exact HD0.out) ?or0a
  case oy0a => (intro w hSw; obtain ⟨q0, q1, q2, q3, q4, q5, q6, q7⟩ := Rq.e1 hSw; go_simp; try with_reducible rfl)
  try simp only [Act.put, List.setIfInBounds_toArray, List.set_cons_zero, List.set_cons_succ]
  refine anyU_one (i := 1) (by kernel_rfl) (by simp only [List.getElem?_toArray, List.getElem?_cons_succ, List.getElem?_cons_zero]; exact rfl) (fun K hK => ?_)
  try go_simp
  have HD1 := hide (HD0.out.below (kept_alloc (kept_refl _) (.cells #[.int .i64 1, .int .i64 3] 3)))
  have RS1 := hide (Row.new wd0 3 #[.int .i64 1, .int .i64 3])
  generalize wd0.alloc (.cells #[.int .i64 1, .int .i64 3] 3) = wd1 at HD1 RS1 ⊢
  generalize wd0.heap.size = p1 at RS1 ⊢
  refine hK.out _ _ (fun e _ => HD1.out) ?_
  clear hK K
  try simp only [Act.put, List.setIfInBounds_toArray, List.set_cons_zero, List.set_cons_succ]
  refine anyU_one (i := 2) (by kernel_rfl) (by simp only [List.getElem?_toArray, List.getElem?_cons_succ, List.getElem?_cons_zero]; exact rfl) (fun K hK => ?_)
  try go_simp
  refine (lat2 _ _ _ _ _ RS1.out).mono ?_
  rintro e wd2 ⟨rfl, hb⟩
  have HD2 := hide (HD1.out.below hb)
  clear hb
  refine hK.out _ _ (fun e _ => HD2.out) ?_
  clear hK K
  try simp only [Act.put, List.setIfInBounds_toArray, List.set_cons_zero, List.set_cons_succ]
  refine anyU_take (i := 3) (v := ?ov3a) (by simp only [List.getElem?_toArray, List.getElem?_cons_succ, List.getElem?_cons_zero]; exact rfl) (by kernel_rfl) (by kernel_rfl) (by kernel_rfl) (fun _ _ _ h => h) (by kernel_rfl) (by kernel_rfl) (by kernel_rfl) (Or.inl ⟨by rfl, ?oy3a⟩) (by with_reducible exact HD2.out) ?or3a
  case oy3a => (intro w hSw; skip; go_simp; try with_reducible rfl)
  try simp only [Act.put, List.setIfInBounds_toArray, List.set_cons_zero, List.set_cons_succ]
  refine anyU_take (i := 4) (v := ?ov4a) (by simp only [List.getElem?_toArray, List.getElem?_cons_succ, List.getElem?_cons_zero]; exact rfl) (by kernel_rfl) (by kernel_rfl) (by kernel_rfl) (fun _ _ _ h => h) (by kernel_rfl) (by kernel_rfl) (by kernel_rfl) (Or.inl ⟨by rfl, ?oy4a⟩) (by with_reducible exact HD2.out) ?or4a
  case oy4a => (intro w hSw; skip; go_simp; try with_reducible rfl)
  try simp only [Act.put, List.setIfInBounds_toArray, List.set_cons_zero, List.set_cons_succ]
  refine anyU_take (i := 5) (v := ?ov5a) (by simp only [List.getElem?_toArray, List.getElem?_cons_succ, List.getElem?_cons_zero]; exact rfl) (by kernel_rfl) (by kernel_rfl) (by kernel_rfl) (fun _ _ _ h => h) (by kernel_rfl) (by kernel_rfl) (by kernel_rfl) (Or.inl ⟨by rfl, ?oy5a⟩) (by with_reducible exact HD2.out) ?or5a
  case oy5a => (intro w hSw; obtain ⟨q0, q1, q2, q3, q4, q5, q6, q7⟩ := Rq.e2 hSw; go_simp; try with_reducible rfl)
  try simp only [Act.put, List.setIfInBounds_toArray, List.set_cons_zero, List.set_cons_succ]
  refine anyU_one (i := 6) (by kernel_rfl) (by simp only [List.getElem?_toArray, List.getElem?_cons_succ, List.getElem?_cons_zero]; exact rfl) (fun K hK => ?_)
  try go_simp
  have HD3 := hide (HD2.out.below (kept_alloc (kept_refl _) (.cells #[.int .i64 1] 3)))
  have RS3 := hide (Row.new wd2 3 #[.int .i64 1])
  generalize wd2.alloc (.cells #[.int .i64 1] 3) = wd3 at HD3 RS3 ⊢
  generalize wd2.heap.size = p3 at RS3 ⊢
  refine hK.out _ _ (fun e _ => HD3.out) ?_
  clear hK K
  try simp only [Act.put, List.setIfInBounds_toArray, List.set_cons_zero, List.set_cons_succ]
  refine anyU_one (i := 7) (by kernel_rfl) (by simp only [List.getElem?_toArray, List.getElem?_cons_succ, List.getElem?_cons_zero]; exact rfl) (fun K hK => ?_)
  try go_simp
  refine (lat1 _ _ _ _ RS3.out).mono ?_
  rintro e wd4 ⟨rfl, hb⟩
  have HD4 := hide (HD3.out.below hb)
  clear hb
  refine hK.out _ _ (fun e _ => HD4.out) ?_
  clear hK K
  try simp only [Act.put, List.setIfInBounds_toArray, List.set_cons_zero, List.set_cons_succ]
  refine anyU_take (i := 8) (v := ?ov8a) (by simp only [List.getElem?_toArray, List.getElem?_cons_succ, List.getElem?_cons_zero]; exact rfl) (by kernel_rfl) (by kernel_rfl) (by kernel_rfl) (fun _ _ _ h => h) (by kernel_rfl) (by kernel_rfl) (by kernel_rfl) (Or.inl ⟨by rfl, ?oy8a⟩) (by with_reducible exact HD4.out) ?or8a
  case oy8a => (intro w hSw; skip; go_simp; try with_reducible rfl)
  try simp only [Act.put, List.setIfInBounds_toArray, List.set_cons_zero, List.set_cons_succ]
  refine anyU_take (i := 9) (v := ?ov9a) (by simp only [List.getElem?_toArray, List.getElem?_cons_succ, List.getElem?_cons_zero]; exact rfl) (by kernel_rfl) (by kernel_rfl) (by kernel_rfl) (fun _ _ _ h => h) (by kernel_rfl) (by kernel_rfl) (by kernel_rfl) (Or.inl ⟨by rfl, ?oy9a⟩) (by with_reducible exact HD4.out) ?or9a
  case oy9a => (intro w hSw; skip; go_simp; try with_reducible rfl)
  try simp only [Act.put, List.setIfInBounds_toArray, List.set_cons_zero, List.set_cons_succ]
  refine anyU_take (i := 10) (v := ?ov10a) (by simp only [List.getElem?_toArray, List.getElem?_cons_succ, List.getElem?_cons_zero]; exact rfl) (by kernel_rfl) (by kernel_rfl) (by kernel_rfl) (fun _ _ _ h => h) (by kernel_rfl) (by kernel_rfl) (by kernel_rfl) (Or.inl ⟨by rfl, ?oy10a⟩) (by with_reducible exact HD4.out) ?or10a
  case oy10a => (intro w hSw; skip; go_simp; try with_reducible rfl)
  try simp only [Act.put, List.setIfInBounds_toArray, List.set_cons_zero, List.set_cons_succ]
  refine anyU_take (i := 11) (v := ?ov11a) (by simp only [List.getElem?_toArray, List.getElem?_cons_succ, List.getElem?_cons_zero]; exact rfl) (by kernel_rfl) (by kernel_rfl) (by kernel_rfl) (fun _ _ _ h => h) (by kernel_rfl) (by kernel_rfl) (by kernel_rfl) (Or.inl ⟨by rfl, ?oy11a⟩) (by with_reducible exact HD4.out) ?or11a
  case oy11a => (intro w hSw; obtain ⟨q0, q1, q2, q3, q4, q5, q6, q7⟩ := Rq.e3 hSw; go_simp; try with_reducible rfl)
  try simp only [Act.put, List.setIfInBounds_toArray, List.set_cons_zero, List.set_cons_succ]
  refine anyU_one (i := 12) (by kernel_rfl) (by simp only [List.getElem?_toArray, List.getElem?_cons_succ, List.getElem?_cons_zero]; exact rfl) (fun K hK => ?_)
  try go_simp
  have HD5 := hide (HD4.out.below (kept_alloc (kept_refl _) (.cells #[.int .i64 4] 3)))
  have RS5 := hide (Row.new wd4 3 #[.int .i64 4])
  generalize wd4.alloc (.cells #[.int .i64 4] 3) = wd5 at HD5 RS5 ⊢
  generalize wd4.heap.size = p5 at RS5 ⊢
  refine hK.out _ _ (fun e _ => HD5.out) ?_
  clear hK K
  try simp only [Act.put, List.setIfInBounds_toArray, List.set_cons_zero, List.set_cons_succ]
  refine anyU_one (i := 13) (by kernel_rfl) (by simp only [List.getElem?_toArray, List.getElem?_cons_succ, List.getElem?_cons_zero]; exact rfl) (fun K hK => ?_)
  try go_simp
  refine (lat1 _ _ _ _ RS5.out).mono ?_
  rintro e wd6 ⟨rfl, hb⟩
  have HD6 := hide (HD5.out.below hb)
  clear hb
  refine hK.out _ _ (fun e _ => HD6.out) ?_
  clear hK K
  try simp only [Act.put, List.setIfInBounds_toArray, List.set_cons_zero, List.set_cons_succ]
  refine anyU_take (i := 14) (v := ?ov14a) (by simp only [List.getElem?_toArray, List.getElem?_cons_succ, List.getElem?_cons_zero]; exact rfl) (by kernel_rfl) (by kernel_rfl) (by kernel_rfl) (fun _ _ _ h => h) (by kernel_rfl) (by kernel_rfl) (by kernel_rfl) (Or.inl ⟨by rfl, ?oy14a⟩) (by with_reducible exact HD6.out) ?or14a
  case oy14a => (intro w hSw; skip; go_simp; try with_reducible rfl)
  try simp only [Act.put, List.setIfInBounds_toArray, List.set_cons_zero, List.set_cons_succ]
  refine anyU_take (i := 15) (v := ?ov15a) (by simp only [List.getElem?_toArray, List.getElem?_cons_succ, List.getElem?_cons_zero]; exact rfl) (by kernel_rfl) (by kernel_rfl) (by kernel_rfl) (fun _ _ _ h => h) (by kernel_rfl) (by kernel_rfl) (by kernel_rfl) (Or.inl ⟨by rfl, ?oy15a⟩) (by with_reducible exact HD6.out) ?or15a
  case oy15a => (intro w hSw; skip; go_simp; try with_reducible rfl)
  try simp only [Act.put, List.setIfInBounds_toArray, List.set_cons_zero, List.set_cons_succ]
  refine anyU_take (i := 16) (v := ?ov16a) (by simp only [List.getElem?_toArray, List.getElem?_cons_succ, List.getElem?_cons_zero]; exact rfl) (by kernel_rfl) (by kernel_rfl) (by kernel_rfl) (fun _ _ _ h => h) (by kernel_rfl) (by kernel_rfl) (by kernel_rfl) (Or.inl ⟨by rfl, ?oy16a⟩) (by with_reducible exact HD6.out) ?or16a
  case oy16a => (intro w hSw; skip; go_simp; try with_reducible rfl)
  try simp only [Act.put, List.setIfInBounds_toArray, List.set_cons_zero, List.set_cons_succ]
  refine anyU_take (i := 17) (v := ?ov17a) (by simp only [List.getElem?_toArray, List.getElem?_cons_succ, List.getElem?_cons_zero]; exact rfl) (by kernel_rfl) (by kernel_rfl) (by kernel_rfl) (fun _ _ _ h => h) (by kernel_rfl) (by kernel_rfl) (by kernel_rfl) (Or.inl ⟨by rfl, ?oy17a⟩) (by with_reducible exact HD6.out) ?or17a
  case oy17a => (intro w hSw; skip; go_simp; try with_reducible rfl)
  try simp only [Act.put, List.setIfInBounds_toArray, List.set_cons_zero, List.set_cons_succ]
  refine anyU_two (i := 18) (j := 21) (by kernel_rfl) (by simp only [List.getElem?_toArray, List.getElem?_cons_succ, List.getElem?_cons_zero]; exact rfl) (by simp only [List.getElem?_toArray, List.getElem?_cons_succ, List.getElem?_cons_zero]; exact rfl) (fun K hK => ?_) (fun K hK => ?_)
  · skip
    try go_simp
    refine (at_any _ _ _).mono ?_
    rintro e wd7 ⟨rfl, hb⟩
    have HD7 := hide (HD6.out.below hb)
    clear hb
    refine hK.out _ _ (fun e _ => HD7.out) ?_
    clear hK K
    try simp only [Act.put, List.setIfInBounds_toArray, List.set_cons_zero, List.set_cons_succ]
    refine anyU_two (i := 19) (j := 21) (by kernel_rfl) (by simp only [List.getElem?_toArray, List.getElem?_cons_succ, List.getElem?_cons_zero]; exact rfl) (by simp only [List.getElem?_toArray, List.getElem?_cons_succ, List.getElem?_cons_zero]; exact rfl) (fun K hK => ?_) (fun K hK => ?_)
    · skip
      try go_simp
      refine (lof_any _ _ _ _).mono ?_
      rintro e wd8 ⟨rfl, hb⟩
      have HD8 := hide (HD7.out.below hb)
      clear hb
      refine hK.out _ _ (fun e _ => HD8.out) ?_
      clear hK K
      try simp only [Act.put, List.setIfInBounds_toArray, List.set_cons_zero, List.set_cons_succ]
      refine anyU_two (i := 20) (j := 21) (by kernel_rfl) (by simp only [List.getElem?_toArray, List.getElem?_cons_succ, List.getElem?_cons_zero]; exact rfl) (by simp only [List.getElem?_toArray, List.getElem?_cons_succ, List.getElem?_cons_zero]; exact rfl) (fun K hK => ?_) (fun K hK => ?_)
      · skip
        try go_simp
        refine (attr4 _ _ _ HD8.out.rn.px).mono ?_
        rintro e wd9 ⟨rfl, hb⟩
        have HD9 := hide (HD8.out.below hb)
        clear hb
        refine hK.out _ _ (fun e _ => HD9.out) ?_
        clear hK K
        try simp only [Act.put, List.setIfInBounds_toArray, List.set_cons_zero, List.set_cons_succ]
        refine anyU_one (i := 21) (by kernel_rfl) (by simp only [List.getElem?_toArray, List.getElem?_cons_succ, List.getElem?_cons_zero]; exact rfl) (fun K hK => ?_)
        try go_simp
        have HD10 := hide (HD9.out.below (kept_alloc (kept_refl _) (.cells #[.int .i64 9] 3)))
        have RS10 := hide (Row.new wd9 3 #[.int .i64 9])
        generalize wd9.alloc (.cells #[.int .i64 9] 3) = wd10 at HD10 RS10 ⊢
        generalize wd9.heap.size = p10 at RS10 ⊢
        refine hK.out _ _ (fun e _ => HD10.out) ?_
        clear hK K
        try simp only [Act.put, List.setIfInBounds_toArray, List.set_cons_zero, List.set_cons_succ]
        refine anyU_one (i := 22) (by kernel_rfl) (by simp only [List.getElem?_toArray, List.getElem?_cons_succ, List.getElem?_cons_zero]; exact rfl) (fun K hK => ?_)
        try go_simp
        refine (lat1 _ _ _ _ RS10.out).mono ?_
        rintro e wd11 ⟨rfl, hb⟩
        have HD11 := hide (HD10.out.below hb)
        clear hb
        refine hK.out _ _ (fun e _ => HD11.out) ?_
        clear hK K
        try simp only [Act.put, List.setIfInBounds_toArray, List.set_cons_zero, List.set_cons_succ]
        refine anyU_take (i := 23) (v := ?ov23bxxx) (by simp only [List.getElem?_toArray, List.getElem?_cons_succ, List.getElem?_cons_zero]; exact rfl) (by kernel_rfl) (by kernel_rfl) (by kernel_rfl) (fun _ _ _ h => h) (by kernel_rfl) (by kernel_rfl) (by kernel_rfl) (Or.inl ⟨by rfl, ?oy23bxxx⟩) (by with_reducible exact HD11.out) ?or23bxxx
        case oy23bxxx => (intro w hSw; skip; go_simp; try with_reducible rfl)
        try simp only [Act.put, List.setIfInBounds_toArray, List.set_cons_zero, List.set_cons_succ]
        refine anyU_take (i := 24) (v := ?ov24bxxx) (by simp only [List.getElem?_toArray, List.getElem?_cons_succ, List.getElem?_cons_zero]; exact rfl) (by kernel_rfl) (by kernel_rfl) (by kernel_rfl) (fun _ _ _ h => h) (by kernel_rfl) (by kernel_rfl) (by kernel_rfl) (Or.inl ⟨by rfl, ?oy24bxxx⟩) (by with_reducible exact HD11.out) ?or24bxxx
        case oy24bxxx => (intro w hSw; skip; go_simp; try with_reducible rfl)
        try simp only [Act.put, List.setIfInBounds_toArray, List.set_cons_zero, List.set_cons_succ]
        refine anyU_take (i := 25) (v := ?ov25bxxx) (by simp only [List.getElem?_toArray, List.getElem?_cons_succ, List.getElem?_cons_zero]; exact rfl) (by kernel_rfl) (by kernel_rfl) (by kernel_rfl) (fun _ _ _ h => h) (by kernel_rfl) (by kernel_rfl) (by kernel_rfl) (Or.inl ⟨by rfl, ?oy25bxxx⟩) (by with_reducible exact HD11.out) ?or25bxxx
        case oy25bxxx => (intro w hSw; skip; go_simp; try with_reducible rfl)
        try simp only [Act.put, List.setIfInBounds_toArray, List.set_cons_zero, List.set_cons_succ]
        refine anyU_take (i := 26) (v := ?ov26bxxx) (by simp only [List.getElem?_toArray, List.getElem?_cons_succ, List.getElem?_cons_zero]; exact rfl) (by kernel_rfl) (by kernel_rfl) (by kernel_rfl) (fun _ _ _ h => h) (by kernel_rfl) (by kernel_rfl) (by kernel_rfl) (Or.inl ⟨by rfl, ?oy26bxxx⟩) (by with_reducible exact HD11.out) ?or26bxxx
        case oy26bxxx => (intro w hSw; skip; go_simp; try with_reducible rfl)
        try simp only [Act.put, List.setIfInBounds_toArray, List.set_cons_zero, List.set_cons_succ]
        refine anyU_one (i := 27) (by kernel_rfl) (by simp only [List.getElem?_toArray, List.getElem?_cons_succ, List.getElem?_cons_zero]; exact rfl) (fun K hK => ?_)
        try go_simp
        refine (len3 _ _ _ HD11.out.rn.px).mono ?_
        rintro e wd12 ⟨rfl, hb⟩
        have HD12 := hide (HD11.out.below hb)
        clear hb
        refine hK.out _ _ (fun e _ => HD12.out) ?_
        clear hK K
        try simp only [Act.put, List.setIfInBounds_toArray, List.set_cons_zero, List.set_cons_succ]
        refine anyU_take (i := 28) (v := ?ov28bxxx) (by simp only [List.getElem?_toArray, List.getElem?_cons_succ, List.getElem?_cons_zero]; exact rfl) (by kernel_rfl) (by kernel_rfl) (by kernel_rfl) (fun _ _ _ h => h) (by kernel_rfl) (by kernel_rfl) (by kernel_rfl) (Or.inl ⟨by rfl, ?oy28bxxx⟩) (by with_reducible exact HD12.out) ?or28bxxx
        case oy28bxxx => (intro w hSw; skip; go_simp; try with_reducible rfl)
        try simp only [Act.put, List.setIfInBounds_toArray, List.set_cons_zero, List.set_cons_succ]
        refine anyU_take (i := 29) (v := ?ov29bxxx) (by simp only [List.getElem?_toArray, List.getElem?_cons_succ, List.getElem?_cons_zero]; exact rfl) (by kernel_rfl) (by kernel_rfl) (by kernel_rfl) (fun _ _ _ h => h) (by kernel_rfl) (by kernel_rfl) (by kernel_rfl) (Or.inl ⟨by rfl, ?oy29bxxx⟩) (by with_reducible exact HD12.out) ?or29bxxx
        case oy29bxxx => (intro w hSw; skip; go_simp; try with_reducible rfl)
        try simp only [Act.put, List.setIfInBounds_toArray, List.set_cons_zero, List.set_cons_succ]
        refine anyU_one (i := 30) (by kernel_rfl) (by simp only [List.getElem?_toArray, List.getElem?_cons_succ, List.getElem?_cons_zero]; exact rfl) (fun K hK => ?_)
        try go_simp
        refine hK.out _ _ (fun e _ => absurd rfl e) ?_
        clear hK K
        try simp only [Act.put, List.setIfInBounds_toArray, List.set_cons_zero, List.set_cons_succ]
        refine anyU_done (by kernel_rfl) ?_
        refine NoPanic.normal ?_
        try simp only [Act.put]
        go_wp2
        go_ret
        exact ⟨rfl, HD12.out.rn.low⟩
      · skip
        try go_simp
        have HD13 := hide (HD8.out.below (kept_alloc (kept_refl _) (.cells #[.int .i64 9] 3)))
        have RS13 := hide (Row.new wd8 3 #[.int .i64 9])
        generalize wd8.alloc (.cells #[.int .i64 9] 3) = wd13 at HD13 RS13 ⊢
        generalize wd8.heap.size = p13 at RS13 ⊢
        refine hK.out _ _ (fun e _ => HD13.out) ?_
        clear hK K
        try simp only [Act.put, List.setIfInBounds_toArray, List.set_cons_zero, List.set_cons_succ]
        refine anyU_one (i := 20) (by kernel_rfl) (by simp only [List.getElem?_toArray, List.getElem?_cons_succ, List.getElem?_cons_zero]; exact rfl) (fun K hK => ?_)
        try go_simp
        refine (attr4 _ _ _ HD13.out.rn.px).mono ?_
        rintro e wd14 ⟨rfl, hb⟩
        have HD14 := hide (HD13.out.below hb)
        replace RS13 := hide (RS13.out.below hb RS13.out.lt)
        clear hb
        refine hK.out _ _ (fun e _ => HD14.out) ?_
        clear hK K
        try simp only [Act.put, List.setIfInBounds_toArray, List.set_cons_zero, List.set_cons_succ]
        refine anyU_one (i := 22) (by kernel_rfl) (by simp only [List.getElem?_toArray, List.getElem?_cons_succ, List.getElem?_cons_zero]; exact rfl) (fun K hK => ?_)
        try go_simp
        refine (lat1 _ _ _ _ RS13.out).mono ?_
        rintro e wd15 ⟨rfl, hb⟩
        have HD15 := hide (HD14.out.below hb)
        clear hb
        refine hK.out _ _ (fun e _ => HD15.out) ?_
        clear hK K
        try simp only [Act.put, List.setIfInBounds_toArray, List.set_cons_zero, List.set_cons_succ]
        refine anyU_take (i := 23) (v := ?ov23bxxy) (by simp only [List.getElem?_toArray, List.getElem?_cons_succ, List.getElem?_cons_zero]; exact rfl) (by kernel_rfl) (by kernel_rfl) (by kernel_rfl) (fun _ _ _ h => h) (by kernel_rfl) (by kernel_rfl) (by kernel_rfl) (Or.inl ⟨by rfl, ?oy23bxxy⟩) (by with_reducible exact HD15.out) ?or23bxxy
        case oy23bxxy => (intro w hSw; skip; go_simp; try with_reducible rfl)
        try simp only [Act.put, List.setIfInBounds_toArray, List.set_cons_zero, List.set_cons_succ]
        refine anyU_take (i := 24) (v := ?ov24bxxy) (by simp only [List.getElem?_toArray, List.getElem?_cons_succ, List.getElem?_cons_zero]; exact rfl) (by kernel_rfl) (by kernel_rfl) (by kernel_rfl) (fun _ _ _ h => h) (by kernel_rfl) (by kernel_rfl) (by kernel_rfl) (Or.inl ⟨by rfl, ?oy24bxxy⟩) (by with_reducible exact HD15.out) ?or24bxxy
        case oy24bxxy => (intro w hSw; skip; go_simp; try with_reducible rfl)
        try simp only [Act.put, List.setIfInBounds_toArray, List.set_cons_zero, List.set_cons_succ]
        refine anyU_take (i := 25) (v := ?ov25bxxy) (by simp only [List.getElem?_toArray, List.getElem?_cons_succ, List.getElem?_cons_zero]; exact rfl) (by kernel_rfl) (by kernel_rfl) (by kernel_rfl) (fun _ _ _ h => h) (by kernel_rfl) (by kernel_rfl) (by kernel_rfl) (Or.inl ⟨by rfl, ?oy25bxxy⟩) (by with_reducible exact HD15.out) ?or25bxxy
        case oy25bxxy => (intro w hSw; skip; go_simp; try with_reducible rfl)
        try simp only [Act.put, List.setIfInBounds_toArray, List.set_cons_zero, List.set_cons_succ]
        refine anyU_take (i := 26) (v := ?ov26bxxy) (by simp only [List.getElem?_toArray, List.getElem?_cons_succ, List.getElem?_cons_zero]; exact rfl) (by kernel_rfl) (by kernel_rfl) (by kernel_rfl) (fun _ _ _ h => h) (by kernel_rfl) (by kernel_rfl) (by kernel_rfl) (Or.inl ⟨by rfl, ?oy26bxxy⟩) (by with_reducible exact HD15.out) ?or26bxxy
        case oy26bxxy => (intro w hSw; skip; go_simp; try with_reducible rfl)
        try simp only [Act.put, List.setIfInBounds_toArray, List.set_cons_zero, List.set_cons_succ]
        refine anyU_one (i := 27) (by kernel_rfl) (by simp only [List.getElem?_toArray, List.getElem?_cons_succ, List.getElem?_cons_zero]; exact rfl) (fun K hK => ?_)
        try go_simp
        refine (len3 _ _ _ HD15.out.rn.px).mono ?_
        rintro e wd16 ⟨rfl, hb⟩
        have HD16 := hide (HD15.out.below hb)
        clear hb
        refine hK.out _ _ (fun e _ => HD16.out) ?_
        clear hK K
        try simp only [Act.put, List.setIfInBounds_toArray, List.set_cons_zero, List.set_cons_succ]
        refine anyU_take (i := 28) (v := ?ov28bxxy) (by simp only [List.getElem?_toArray, List.getElem?_cons_succ, List.getElem?_cons_zero]; exact rfl) (by kernel_rfl) (by kernel_rfl) (by kernel_rfl) (fun _ _ _ h => h) (by kernel_rfl) (by kernel_rfl) (by kernel_rfl) (Or.inl ⟨by rfl, ?oy28bxxy⟩) (by with_reducible exact HD16.out) ?or28bxxy
        case oy28bxxy => (intro w hSw; skip; go_simp; try with_reducible rfl)
        try simp only [Act.put, List.setIfInBounds_toArray, List.set_cons_zero, List.set_cons_succ]
        refine anyU_take (i := 29) (v := ?ov29bxxy) (by simp only [List.getElem?_toArray, List.getElem?_cons_succ, List.getElem?_cons_zero]; exact rfl) (by kernel_rfl) (by kernel_rfl) (by kernel_rfl) (fun _ _ _ h => h) (by kernel_rfl) (by kernel_rfl) (by kernel_rfl) (Or.inl ⟨by rfl, ?oy29bxxy⟩) (by with_reducible exact HD16.out) ?or29bxxy
        case oy29bxxy => (intro w hSw; skip; go_simp; try with_reducible rfl)
        try simp only [Act.put, List.setIfInBounds_toArray, List.set_cons_zero, List.set_cons_succ]
        refine anyU_one (i := 30) (by kernel_rfl) (by simp only [List.getElem?_toArray, List.getElem?_cons_succ, List.getElem?_cons_zero]; exact rfl) (fun K hK => ?_)
        try go_simp
        refine hK.out _ _ (fun e _ => absurd rfl e) ?_
        clear hK K
        try simp only [Act.put, List.setIfInBounds_toArray, List.set_cons_zero, List.set_cons_succ]
        refine anyU_done (by kernel_rfl) ?_
        refine NoPanic.normal ?_
        try simp only [Act.put]
        go_wp2
        go_ret
        exact ⟨rfl, HD16.out.rn.low⟩
    · skip
      try go_simp
      have HD17 := hide (HD7.out.below (kept_alloc (kept_refl _) (.cells #[.int .i64 9] 3)))
      have RS17 := hide (Row.new wd7 3 #[.int .i64 9])
      generalize wd7.alloc (.cells #[.int .i64 9] 3) = wd17 at HD17 RS17 ⊢
      generalize wd7.heap.size = p17 at RS17 ⊢
      refine hK.out _ _ (fun e _ => HD17.out) ?_
      clear hK K
      try simp only [Act.put, List.setIfInBounds_toArray, List.set_cons_zero, List.set_cons_succ]
      refine anyU_one (i := 19) (by kernel_rfl) (by simp only [List.getElem?_toArray, List.getElem?_cons_succ, List.getElem?_cons_zero]; exact rfl) (fun K hK => ?_)
      try go_simp
      refine (lof_any _ _ _ _).mono ?_
      rintro e wd18 ⟨rfl, hb⟩
      have HD18 := hide (HD17.out.below hb)
      replace RS17 := hide (RS17.out.below hb RS17.out.lt)
      clear hb
      refine hK.out _ _ (fun e _ => HD18.out) ?_
      clear hK K
      try simp only [Act.put, List.setIfInBounds_toArray, List.set_cons_zero, List.set_cons_succ]
      refine anyU_one (i := 20) (by kernel_rfl) (by simp only [List.getElem?_toArray, List.getElem?_cons_succ, List.getElem?_cons_zero]; exact rfl) (fun K hK => ?_)
      try go_simp
      refine (attr4 _ _ _ HD18.out.rn.px).mono ?_
      rintro e wd19 ⟨rfl, hb⟩
      have HD19 := hide (HD18.out.below hb)
      replace RS17 := hide (RS17.out.below hb RS17.out.lt)
      clear hb
      refine hK.out _ _ (fun e _ => HD19.out) ?_
      clear hK K
      try simp only [Act.put, List.setIfInBounds_toArray, List.set_cons_zero, List.set_cons_succ]
      refine anyU_one (i := 22) (by kernel_rfl) (by simp only [List.getElem?_toArray, List.getElem?_cons_succ, List.getElem?_cons_zero]; exact rfl) (fun K hK => ?_)
      try go_simp
      refine (lat1 _ _ _ _ RS17.out).mono ?_
      rintro e wd20 ⟨rfl, hb⟩
      have HD20 := hide (HD19.out.below hb)
      clear hb
      refine hK.out _ _ (fun e _ => HD20.out) ?_
      clear hK K
      try simp only [Act.put, List.setIfInBounds_toArray, List.set_cons_zero, List.set_cons_succ]
      refine anyU_take (i := 23) (v := ?ov23bxy) (by simp only [List.getElem?_toArray, List.getElem?_cons_succ, List.getElem?_cons_zero]; exact rfl) (by kernel_rfl) (by kernel_rfl) (by kernel_rfl) (fun _ _ _ h => h) (by kernel_rfl) (by kernel_rfl) (by kernel_rfl) (Or.inl ⟨by rfl, ?oy23bxy⟩) (by with_reducible exact HD20.out) ?or23bxy
      case oy23bxy => (intro w hSw; skip; go_simp; try with_reducible rfl)
      try simp only [Act.put, List.setIfInBounds_toArray, List.set_cons_zero, List.set_cons_succ]
      refine anyU_take (i := 24) (v := ?ov24bxy) (by simp only [List.getElem?_toArray, List.getElem?_cons_succ, List.getElem?_cons_zero]; exact rfl) (by kernel_rfl) (by kernel_rfl) (by kernel_rfl) (fun _ _ _ h => h) (by kernel_rfl) (by kernel_rfl) (by kernel_rfl) (Or.inl ⟨by rfl, ?oy24bxy⟩) (by with_reducible exact HD20.out) ?or24bxy
      case oy24bxy => (intro w hSw; skip; go_simp; try with_reducible rfl)
      try simp only [Act.put, List.setIfInBounds_toArray, List.set_cons_zero, List.set_cons_succ]
      refine anyU_take (i := 25) (v := ?ov25bxy) (by simp only [List.getElem?_toArray, List.getElem?_cons_succ, List.getElem?_cons_zero]; exact rfl) (by kernel_rfl) (by kernel_rfl) (by kernel_rfl) (fun _ _ _ h => h) (by kernel_rfl) (by kernel_rfl) (by kernel_rfl) (Or.inl ⟨by rfl, ?oy25bxy⟩) (by with_reducible exact HD20.out) ?or25bxy
      case oy25bxy => (intro w hSw; skip; go_simp; try with_reducible rfl)
      try simp only [Act.put, List.setIfInBounds_toArray, List.set_cons_zero, List.set_cons_succ]
      refine anyU_take (i := 26) (v := ?ov26bxy) (by simp only [List.getElem?_toArray, List.getElem?_cons_succ, List.getElem?_cons_zero]; exact rfl) (by kernel_rfl) (by kernel_rfl) (by kernel_rfl) (fun _ _ _ h => h) (by kernel_rfl) (by kernel_rfl) (by kernel_rfl) (Or.inl ⟨by rfl, ?oy26bxy⟩) (by with_reducible exact HD20.out) ?or26bxy
      case oy26bxy => (intro w hSw; skip; go_simp; try with_reducible rfl)
      try simp only [Act.put, List.setIfInBounds_toArray, List.set_cons_zero, List.set_cons_succ]
      refine anyU_one (i := 27) (by kernel_rfl) (by simp only [List.getElem?_toArray, List.getElem?_cons_succ, List.getElem?_cons_zero]; exact rfl) (fun K hK => ?_)
      try go_simp
      refine (len3 _ _ _ HD20.out.rn.px).mono ?_
      rintro e wd21 ⟨rfl, hb⟩
      have HD21 := hide (HD20.out.below hb)
      clear hb
      refine hK.out _ _ (fun e _ => HD21.out) ?_
      clear hK K
      try simp only [Act.put, List.setIfInBounds_toArray, List.set_cons_zero, List.set_cons_succ]
      refine anyU_take (i := 28) (v := ?ov28bxy) (by simp only [List.getElem?_toArray, List.getElem?_cons_succ, List.getElem?_cons_zero]; exact rfl) (by kernel_rfl) (by kernel_rfl) (by kernel_rfl) (fun _ _ _ h => h) (by kernel_rfl) (by kernel_rfl) (by kernel_rfl) (Or.inl ⟨by rfl, ?oy28bxy⟩) (by with_reducible exact HD21.out) ?or28bxy
      case oy28bxy => (intro w hSw; skip; go_simp; try with_reducible rfl)
      try simp only [Act.put, List.setIfInBounds_toArray, List.set_cons_zero, List.set_cons_succ]
      refine anyU_take (i := 29) (v := ?ov29bxy) (by simp only [List.getElem?_toArray, List.getElem?_cons_succ, List.getElem?_cons_zero]; exact rfl) (by kernel_rfl) (by kernel_rfl) (by kernel_rfl) (fun _ _ _ h => h) (by kernel_rfl) (by kernel_rfl) (by kernel_rfl) (Or.inl ⟨by rfl, ?oy29bxy⟩) (by with_reducible exact HD21.out) ?or29bxy
      case oy29bxy => (intro w hSw; skip; go_simp; try with_reducible rfl)
      try simp only [Act.put, List.setIfInBounds_toArray, List.set_cons_zero, List.set_cons_succ]
      refine anyU_one (i := 30) (by kernel_rfl) (by simp only [List.getElem?_toArray, List.getElem?_cons_succ, List.getElem?_cons_zero]; exact rfl) (fun K hK => ?_)
      try go_simp
      refine hK.out _ _ (fun e _ => absurd rfl e) ?_
      clear hK K
      try simp only [Act.put, List.setIfInBounds_toArray, List.set_cons_zero, List.set_cons_succ]
      refine anyU_done (by kernel_rfl) ?_
      refine NoPanic.normal ?_
      try simp only [Act.put]
      go_wp2
      go_ret
      exact ⟨rfl, HD21.out.rn.low⟩
  · skip
    try go_simp
    have HD22 := hide (HD6.out.below (kept_alloc (kept_refl _) (.cells #[.int .i64 9] 3)))
    have RS22 := hide (Row.new wd6 3 #[.int .i64 9])
    generalize wd6.alloc (.cells #[.int .i64 9] 3) = wd22 at HD22 RS22 ⊢
    generalize wd6.heap.size = p22 at RS22 ⊢
    refine hK.out _ _ (fun e _ => HD22.out) ?_
    clear hK K
    try simp only [Act.put, List.setIfInBounds_toArray, List.set_cons_zero, List.set_cons_succ]
    refine anyU_one (i := 18) (by kernel_rfl) (by simp only [List.getElem?_toArray, List.getElem?_cons_succ, List.getElem?_cons_zero]; exact rfl) (fun K hK => ?_)
    try go_simp
    refine (at_any _ _ _).mono ?_
    rintro e wd23 ⟨rfl, hb⟩
    have HD23 := hide (HD22.out.below hb)
    replace RS22 := hide (RS22.out.below hb RS22.out.lt)
    clear hb
    refine hK.out _ _ (fun e _ => HD23.out) ?_
    clear hK K
    try simp only [Act.put, List.setIfInBounds_toArray, List.set_cons_zero, List.set_cons_succ]
    refine anyU_one (i := 19) (by kernel_rfl) (by simp only [List.getElem?_toArray, List.getElem?_cons_succ, List.getElem?_cons_zero]; exact rfl) (fun K hK => ?_)
    try go_simp
    refine (lof_any _ _ _ _).mono ?_
    rintro e wd24 ⟨rfl, hb⟩
    have HD24 := hide (HD23.out.below hb)
    replace RS22 := hide (RS22.out.below hb RS22.out.lt)
    clear hb
    refine hK.out _ _ (fun e _ => HD24.out) ?_
    clear hK K
    try simp only [Act.put, List.setIfInBounds_toArray, List.set_cons_zero, List.set_cons_succ]
    refine anyU_one (i := 20) (by kernel_rfl) (by simp only [List.getElem?_toArray, List.getElem?_cons_succ, List.getElem?_cons_zero]; exact rfl) (fun K hK => ?_)
    try go_simp
    refine (attr4 _ _ _ HD24.out.rn.px).mono ?_
    rintro e wd25 ⟨rfl, hb⟩
    have HD25 := hide (HD24.out.below hb)
    replace RS22 := hide (RS22.out.below hb RS22.out.lt)
    clear hb
    refine hK.out _ _ (fun e _ => HD25.out) ?_
    clear hK K
    try simp only [Act.put, List.setIfInBounds_toArray, List.set_cons_zero, List.set_cons_succ]
    refine anyU_one (i := 22) (by kernel_rfl) (by simp only [List.getElem?_toArray, List.getElem?_cons_succ, List.getElem?_cons_zero]; exact rfl) (fun K hK => ?_)
    try go_simp
    refine (lat1 _ _ _ _ RS22.out).mono ?_
    rintro e wd26 ⟨rfl, hb⟩
    have HD26 := hide (HD25.out.below hb)
    clear hb
    refine hK.out _ _ (fun e _ => HD26.out) ?_
    clear hK K
    try simp only [Act.put, List.setIfInBounds_toArray, List.set_cons_zero, List.set_cons_succ]
    refine anyU_take (i := 23) (v := ?ov23by) (by simp only [List.getElem?_toArray, List.getElem?_cons_succ, List.getElem?_cons_zero]; exact rfl) (by kernel_rfl) (by kernel_rfl) (by kernel_rfl) (fun _ _ _ h => h) (by kernel_rfl) (by kernel_rfl) (by kernel_rfl) (Or.inl ⟨by rfl, ?oy23by⟩) (by with_reducible exact HD26.out) ?or23by
    case oy23by => (intro w hSw; skip; go_simp; try with_reducible rfl)
    try simp only [Act.put, List.setIfInBounds_toArray, List.set_cons_zero, List.set_cons_succ]
    refine anyU_take (i := 24) (v := ?ov24by) (by simp only [List.getElem?_toArray, List.getElem?_cons_succ, List.getElem?_cons_zero]; exact rfl) (by kernel_rfl) (by kernel_rfl) (by kernel_rfl) (fun _ _ _ h => h) (by kernel_rfl) (by kernel_rfl) (by kernel_rfl) (Or.inl ⟨by rfl, ?oy24by⟩) (by with_reducible exact HD26.out) ?or24by
    case oy24by => (intro w hSw; skip; go_simp; try with_reducible rfl)
    try simp only [Act.put, List.setIfInBounds_toArray, List.set_cons_zero, List.set_cons_succ]
    refine anyU_take (i := 25) (v := ?ov25by) (by simp only [List.getElem?_toArray, List.getElem?_cons_succ, List.getElem?_cons_zero]; exact rfl) (by kernel_rfl) (by kernel_rfl) (by kernel_rfl) (fun _ _ _ h => h) (by kernel_rfl) (by kernel_rfl) (by kernel_rfl) (Or.inl ⟨by rfl, ?oy25by⟩) (by with_reducible exact HD26.out) ?or25by
    case oy25by => (intro w hSw; skip; go_simp; try with_reducible rfl)
    try simp only [Act.put, List.setIfInBounds_toArray, List.set_cons_zero, List.set_cons_succ]
    refine anyU_take (i := 26) (v := ?ov26by) (by simp only [List.getElem?_toArray, List.getElem?_cons_succ, List.getElem?_cons_zero]; exact rfl) (by kernel_rfl) (by kernel_rfl) (by kernel_rfl) (fun _ _ _ h => h) (by kernel_rfl) (by kernel_rfl) (by kernel_rfl) (Or.inl ⟨by rfl, ?oy26by⟩) (by with_reducible exact HD26.out) ?or26by
    case oy26by => (intro w hSw; skip; go_simp; try with_reducible rfl)
    try simp only [Act.put, List.setIfInBounds_toArray, List.set_cons_zero, List.set_cons_succ]
    refine anyU_one (i := 27) (by kernel_rfl) (by simp only [List.getElem?_toArray, List.getElem?_cons_succ, List.getElem?_cons_zero]; exact rfl) (fun K hK => ?_)
    try go_simp
    refine (len3 _ _ _ HD26.out.rn.px).mono ?_
    rintro e wd27 ⟨rfl, hb⟩
    have HD27 := hide (HD26.out.below hb)
    clear hb
    refine hK.out _ _ (fun e _ => HD27.out) ?_
    clear hK K
    try simp only [Act.put, List.setIfInBounds_toArray, List.set_cons_zero, List.set_cons_succ]
    refine anyU_take (i := 28) (v := ?ov28by) (by simp only [List.getElem?_toArray, List.getElem?_cons_succ, List.getElem?_cons_zero]; exact rfl) (by kernel_rfl) (by kernel_rfl) (by kernel_rfl) (fun _ _ _ h => h) (by kernel_rfl) (by kernel_rfl) (by kernel_rfl) (Or.inl ⟨by rfl, ?oy28by⟩) (by with_reducible exact HD27.out) ?or28by
    case oy28by => (intro w hSw; skip; go_simp; try with_reducible rfl)
    try simp only [Act.put, List.setIfInBounds_toArray, List.set_cons_zero, List.set_cons_succ]
    refine anyU_take (i := 29) (v := ?ov29by) (by simp only [List.getElem?_toArray, List.getElem?_cons_succ, List.getElem?_cons_zero]; exact rfl) (by kernel_rfl) (by kernel_rfl) (by kernel_rfl) (fun _ _ _ h => h) (by kernel_rfl) (by kernel_rfl) (by kernel_rfl) (Or.inl ⟨by rfl, ?oy29by⟩) (by with_reducible exact HD27.out) ?or29by
    case oy29by => (intro w hSw; skip; go_simp; try with_reducible rfl)
    try simp only [Act.put, List.setIfInBounds_toArray, List.set_cons_zero, List.set_cons_succ]
    refine anyU_one (i := 30) (by kernel_rfl) (by simp only [List.getElem?_toArray, List.getElem?_cons_succ, List.getElem?_cons_zero]; exact rfl) (fun K hK => ?_)
    try go_simp
    refine hK.out _ _ (fun e _ => absurd rfl e) ?_
    clear hK K
    try simp only [Act.put, List.setIfInBounds_toArray, List.set_cons_zero, List.set_cons_succ]
    refine anyU_done (by kernel_rfl) ?_
    refine NoPanic.normal ?_
    try simp only [Act.put]
    go_wp2
    go_ret
    exact ⟨rfl, HD27.out.rn.low⟩
end Go.Proofs.Ytfihcgimgngmhaa
