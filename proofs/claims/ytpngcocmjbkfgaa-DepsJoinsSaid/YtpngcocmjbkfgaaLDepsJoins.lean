/- Proved: the law DepsJoins returns true. Conditions: none beyond the row's own. -/
import Derived.Test.YtpngcocmjbkfgaaFrame
import Derived.Test.YtpngcocmjbkfgaaRuns
import Derived.Test.YtpngcocmjbkfgaaJoinm
import Derived.Test.YtpngcocmjbkfgaaArgs8
import Derived.Deep.DeepCutAuto
import Derived.Deep.RegionHeld3
namespace Go.Proofs.Ytpngcocmjbkfgaa.depsJoins
open Go.ChangeShapes Go.WideShapes Go.ChangeAt Go.RowKit
structure Bj (W w : World) (g : Nat) (a0 a1 a2 a3 a4 a5 a6 a7 b0 b1 b2 b3 b4 b5 b6 b7 c0 c1 c2 c3 c4 c5 c6 c7 x0 x1 x2 x3 x4 x5 x6 x7 : Int) : Prop where
  low : Below W.heap.size W w
  a : Row w W.heap.size 25 #[.int .i64 a0, .int .i64 a1, .int .i64 a2, .int .i64 a3, .int .i64 a4, .int .i64 a5, .int .i64 a6, .int .i64 a7]
  b : Row w (W.heap.size + 1) 25 #[.int .i64 b0, .int .i64 b1, .int .i64 b2, .int .i64 b3, .int .i64 b4, .int .i64 b5, .int .i64 b6, .int .i64 b7]
  c : Row w (W.heap.size + 1 + 1) 25 #[.int .i64 c0, .int .i64 c1, .int .i64 c2, .int .i64 c3, .int .i64 c4, .int .i64 c5, .int .i64 c6, .int .i64 c7]
  x : Row w g 25 #[.int .i64 x0, .int .i64 x1, .int .i64 x2, .int .i64 x3, .int .i64 x4, .int .i64 x5, .int .i64 x6, .int .i64 x7]
theorem Bj.step {W w w' : World} {g : Nat} {a0 a1 a2 a3 a4 a5 a6 a7 b0 b1 b2 b3 b4 b5 b6 b7 c0 c1 c2 c3 c4 c5 c6 c7 x0 x1 x2 x3 x4 x5 x6 x7 : Int} (h : Bj W w g a0 a1 a2 a3 a4 a5 a6 a7 b0 b1 b2 b3 b4 b5 b6 b7 c0 c1 c2 c3 c4 c5 c6 c7 x0 x1 x2 x3 x4 x5 x6 x7) (hb : Below w.heap.size w w') : Bj W w' g a0 a1 a2 a3 a4 a5 a6 a7 b0 b1 b2 b3 b4 b5 b6 b7 c0 c1 c2 c3 c4 c5 c6 c7 x0 x1 x2 x3 x4 x5 x6 x7 :=
  ⟨kept_trans h.low hb, h.a.below hb h.a.lt, h.b.below hb h.b.lt, h.c.below hb h.c.lt, h.x.below hb h.x.lt⟩
theorem Bj.drew {W w : World} {g : Nat} {a0 a1 a2 a3 a4 a5 a6 a7 b0 b1 b2 b3 b4 b5 b6 b7 c0 c1 c2 c3 c4 c5 c6 c7 x0 x1 x2 x3 x4 x5 x6 x7 : Int} (h : Bj W w g a0 a1 a2 a3 a4 a5 a6 a7 b0 b1 b2 b3 b4 b5 b6 b7 c0 c1 c2 c3 c4 c5 c6 c7 x0 x1 x2 x3 x4 x5 x6 x7) : Bj W w.drew g a0 a1 a2 a3 a4 a5 a6 a7 b0 b1 b2 b3 b4 b5 b6 b7 c0 c1 c2 c3 c4 c5 c6 c7 x0 x1 x2 x3 x4 x5 x6 x7 := h.step (kept_drewN (kept_refl w) 1)
theorem row8 {w : World} {g : Nat} {t : TypeId} {x0 x1 x2 x3 x4 x5 x6 x7 : Int} (h : Row w g t #[.int .i64 x0, .int .i64 x1, .int .i64 x2, .int .i64 x3, .int .i64 x4, .int .i64 x5, .int .i64 x6, .int .i64 x7]) : w.cell? ⟨g, 0, none⟩ = some (.int .i64 x0) ∧ w.cell? ⟨g, 1, none⟩ = some (.int .i64 x1) ∧ w.cell? ⟨g, 2, none⟩ = some (.int .i64 x2) ∧ w.cell? ⟨g, 3, none⟩ = some (.int .i64 x3) ∧
    w.cell? ⟨g, 4, none⟩ = some (.int .i64 x4) ∧ w.cell? ⟨g, 5, none⟩ = some (.int .i64 x5) ∧ w.cell? ⟨g, 6, none⟩ = some (.int .i64 x6) ∧ w.cell? ⟨g, 7, none⟩ = some (.int .i64 x7) := ⟨h.cell 0, h.cell 1, h.cell 2, h.cell 3, h.cell 4, h.cell 5, h.cell 6, h.cell 7⟩
theorem start3 (W : World) (a0 a1 a2 a3 a4 a5 a6 a7 b0 b1 b2 b3 b4 b5 b6 b7 c0 c1 c2 c3 c4 c5 c6 c7 : Int) : Below W.heap.size W (((W.alloc (.cells #[.int .i64 a0, .int .i64 a1, .int .i64 a2, .int .i64 a3, .int .i64 a4, .int .i64 a5, .int .i64 a6, .int .i64 a7] 25)).alloc (.cells #[.int .i64 b0, .int .i64 b1, .int .i64 b2, .int .i64 b3, .int .i64 b4, .int .i64 b5, .int .i64 b6, .int .i64 b7] 25)).alloc (.cells #[.int .i64 c0, .int .i64 c1, .int .i64 c2, .int .i64 c3, .int .i64 c4, .int .i64 c5, .int .i64 c6, .int .i64 c7] 25)) ∧
    Row (((W.alloc (.cells #[.int .i64 a0, .int .i64 a1, .int .i64 a2, .int .i64 a3, .int .i64 a4, .int .i64 a5, .int .i64 a6, .int .i64 a7] 25)).alloc (.cells #[.int .i64 b0, .int .i64 b1, .int .i64 b2, .int .i64 b3, .int .i64 b4, .int .i64 b5, .int .i64 b6, .int .i64 b7] 25)).alloc (.cells #[.int .i64 c0, .int .i64 c1, .int .i64 c2, .int .i64 c3, .int .i64 c4, .int .i64 c5, .int .i64 c6, .int .i64 c7] 25)) W.heap.size 25 #[.int .i64 a0, .int .i64 a1, .int .i64 a2, .int .i64 a3, .int .i64 a4, .int .i64 a5, .int .i64 a6, .int .i64 a7] ∧
    Row (((W.alloc (.cells #[.int .i64 a0, .int .i64 a1, .int .i64 a2, .int .i64 a3, .int .i64 a4, .int .i64 a5, .int .i64 a6, .int .i64 a7] 25)).alloc (.cells #[.int .i64 b0, .int .i64 b1, .int .i64 b2, .int .i64 b3, .int .i64 b4, .int .i64 b5, .int .i64 b6, .int .i64 b7] 25)).alloc (.cells #[.int .i64 c0, .int .i64 c1, .int .i64 c2, .int .i64 c3, .int .i64 c4, .int .i64 c5, .int .i64 c6, .int .i64 c7] 25)) (W.heap.size + 1) 25 #[.int .i64 b0, .int .i64 b1, .int .i64 b2, .int .i64 b3, .int .i64 b4, .int .i64 b5, .int .i64 b6, .int .i64 b7] ∧
    Row (((W.alloc (.cells #[.int .i64 a0, .int .i64 a1, .int .i64 a2, .int .i64 a3, .int .i64 a4, .int .i64 a5, .int .i64 a6, .int .i64 a7] 25)).alloc (.cells #[.int .i64 b0, .int .i64 b1, .int .i64 b2, .int .i64 b3, .int .i64 b4, .int .i64 b5, .int .i64 b6, .int .i64 b7] 25)).alloc (.cells #[.int .i64 c0, .int .i64 c1, .int .i64 c2, .int .i64 c3, .int .i64 c4, .int .i64 c5, .int .i64 c6, .int .i64 c7] 25)) (W.heap.size + 1 + 1) 25 #[.int .i64 c0, .int .i64 c1, .int .i64 c2, .int .i64 c3, .int .i64 c4, .int .i64 c5, .int .i64 c6, .int .i64 c7] := by
  have h2 := Row.new (W.alloc (.cells #[.int .i64 a0, .int .i64 a1, .int .i64 a2, .int .i64 a3, .int .i64 a4, .int .i64 a5, .int .i64 a6, .int .i64 a7] 25)) 25 #[.int .i64 b0, .int .i64 b1, .int .i64 b2, .int .i64 b3, .int .i64 b4, .int .i64 b5, .int .i64 b6, .int .i64 b7]
  have h3 := Row.new ((W.alloc (.cells #[.int .i64 a0, .int .i64 a1, .int .i64 a2, .int .i64 a3, .int .i64 a4, .int .i64 a5, .int .i64 a6, .int .i64 a7] 25)).alloc (.cells #[.int .i64 b0, .int .i64 b1, .int .i64 b2, .int .i64 b3, .int .i64 b4, .int .i64 b5, .int .i64 b6, .int .i64 b7] 25)) 25 #[.int .i64 c0, .int .i64 c1, .int .i64 c2, .int .i64 c3, .int .i64 c4, .int .i64 c5, .int .i64 c6, .int .i64 c7]
  simp only [World.size_alloc] at h2 h3
  exact ⟨kept_alloc (kept_alloc (kept_alloc (kept_refl W) _) _) _, ((Row.new W _ _).alloc _).alloc _, h2.alloc _, h3⟩
theorem all4 {x y z u : List Int} (hx : x.length = 8) (hy : y.length = 8) (hz : z.length = 8) (hu : u.length = 8) : All 8 [x, y, z, u] := All.cons_ hx (All.cons_ hy (All.cons_ hz (All.cons_ hu All.nil_)))
theorem all3 {x y z : List Int} (hx : x.length = 8) (hy : y.length = 8) (hz : z.length = 8) : All 8 [x, y, z] := All.cons_ hx (All.cons_ hy (All.cons_ hz All.nil_))
set_option maxRecDepth 100000 in
set_option maxHeartbeats 8000000 in
theorem walk (a0 a1 a2 a3 a4 a5 a6 a7 b0 b1 b2 b3 b4 b5 b6 b7 c0 c1 c2 c3 c4 c5 c6 c7 : Int) (W : World) (_ : Ok8 [a0, a1, a2, a3, a4, a5, a6, a7]) (_ : Ok8 [b0, b1, b2, b3, b4, b5, b6, b7]) (_ : Ok8 [c0, c1, c2, c3, c4, c5, c6, c7]) :
    Calls Try.prog 5 #[.agg #[.int .i64 a0, .int .i64 a1, .int .i64 a2, .int .i64 a3, .int .i64 a4, .int .i64 a5, .int .i64 a6, .int .i64 a7], .agg #[.int .i64 b0, .int .i64 b1, .int .i64 b2, .int .i64 b3, .int .i64 b4, .int .i64 b5, .int .i64 b6, .int .i64 b7], .agg #[.int .i64 c0, .int .i64 c1, .int .i64 c2, .int .i64 c3, .int .i64 c4, .int .i64 c5, .int .i64 c6, .int .i64 c7]] W fun e w' => e = .returned (.bool true) ∧ Below W.heap.size W w' := by
  obtain ⟨x0, x1, x2, x3, x4, x5, x6, x7, hx⟩ := len8 (joinL_len (all3 (x := [a0, a1, a2, a3, a4, a5, a6, a7]) (y := [b0, b1, b2, b3, b4, b5, b6, b7]) (z := [c0, c1, c2, c3, c4, c5, c6, c7]) rfl rfl rfl))
  obtain ⟨y0, y1, y2, y3, y4, y5, y6, y7, hy⟩ := len8 (joinL_len (all_of2 (x := [a0, a1, a2, a3, a4, a5, a6, a7]) (y := [b0, b1, b2, b3, b4, b5, b6, b7]) rfl rfl))
  have J1 := hide hx
  have J2 := hide ((join_turned [a0, a1, a2, a3, a4, a5, a6, a7] [b0, b1, b2, b3, b4, b5, b6, b7] [c0, c1, c2, c3, c4, c5, c6, c7]).trans hx)
  have J3 := hide hy
  have J4 : Hid (joinL [[y0, y1, y2, y3, y4, y5, y6, y7], [c0, c1, c2, c3, c4, c5, c6, c7]] = [x0, x1, x2, x3, x4, x5, x6, x7]) := by have := (join_parts [a0, a1, a2, a3, a4, a5, a6, a7] [b0, b1, b2, b3, b4, b5, b6, b7] [c0, c1, c2, c3, c4, c5, c6, c7]).trans hx; rw [hy] at this; exact this
  have J5 := hide ((join_twice [a0, a1, a2, a3, a4, a5, a6, a7] [b0, b1, b2, b3, b4, b5, b6, b7] [c0, c1, c2, c3, c4, c5, c6, c7]).trans hx)
  have hix : ∀ i, i < 8 → ix [x0, x1, x2, x3, x4, x5, x6, x7] i = max (max (ix [a0, a1, a2, a3, a4, a5, a6, a7] i) (ix [b0, b1, b2, b3, b4, b5, b6, b7] i)) (ix [c0, c1, c2, c3, c4, c5, c6, c7] i) := fun i hi => by rw [← hx]; exact join_ix _ _ _ hi
  have hge : b0 ≤ x0 := by have : x0 = max (max a0 b0) c0 := hix 0 (by omega); omega
  have cov : ∀ {d : List Int}, (∀ i, i < 8 → ix d i ≤ ix [x0, x1, x2, x3, x4, x5, x6, x7] i) → ∀ i, i < 7 → ix d.tail i ≤ ix [x1, x2, x3, x4, x5, x6, x7] i := fun {d} h i hi => by
    have := h (i + 1) (by omega)
    cases d with
    | nil => exact this
    | cons _ _ => exact this
  have hca : coversB [x1, x2, x3, x4, x5, x6, x7] [a1, a2, a3, a4, a5, a6, a7] = true := covers_iff.2 (cov (d := [a0, a1, a2, a3, a4, a5, a6, a7]) fun i hi => by rw [hix i hi]; omega)
  have hcc : coversB [x1, x2, x3, x4, x5, x6, x7] [c1, c2, c3, c4, c5, c6, c7] = true := covers_iff.2 (cov (d := [c0, c1, c2, c3, c4, c5, c6, c7]) fun i hi => by rw [hix i hi]; omega)
  have CA := hide hca
  have CC := hide hcc
  have heq1 := fun w => eql_attr x0 x1 x2 x3 x4 x5 x6 x7 x0 x1 x2 x3 x4 x5 x6 x7 w
  have heq2 := fun w => eql_attr a0 a1 a2 a3 a4 a5 a6 a7 a0 a1 a2 a3 a4 a5 a6 a7 w
  simp only [decide_true] at heq1 heq2
  clear hx hy hix cov hca hcc
  have ST := hide (start3 W a0 a1 a2 a3 a4 a5 a6 a7 b0 b1 b2 b3 b4 b5 b6 b7 c0 c1 c2 c3 c4 c5 c6 c7)
  go_enter Try.func5, Try.ntmps5
  go_upto_region 1 with (fail)
  generalize World.alloc (World.alloc (World.alloc W _) _) _ = w1 at ST ⊢
  have fa := row8 ST.out.2.1
  have fb := row8 ST.out.2.2.1
  have fc := row8 ST.out.2.2.2
  go_cut [7] (fun s7 wx => ∃ g, s7 = .pointer (some ⟨g, 0, none⟩) ∧ Bj W wx g a0 a1 a2 a3 a4 a5 a6 a7 b0 b1 b2 b3 b4 b5 b6 b7 c0 c1 c2 c3 c4 c5 c6 c7 x0 x1 x2 x3 x4 x5 x6 x7)
  case first =>
    go_wp2_with (go_at_call 13; refine (join_rows (w := w1.alloc (.cells #[.int .i64 a0, .int .i64 a1, .int .i64 a2, .int .i64 a3, .int .i64 a4, .int .i64 a5, .int .i64 a6, .int .i64 a7, .int .i64 b0, .int .i64 b1, .int .i64 b2, .int .i64 b3, .int .i64 b4, .int .i64 b5, .int .i64 b6, .int .i64 b7, .int .i64 c0, .int .i64 c1, .int .i64 c2, .int .i64 c3, .int .i64 c4, .int .i64 c5, .int .i64 c6, .int .i64 c7] 25)) (Rows.none_.more 25 #[.int .i64 a0, .int .i64 a1, .int .i64 a2, .int .i64 a3, .int .i64 a4, .int .i64 a5, .int .i64 a6, .int .i64 a7, .int .i64 b0, .int .i64 b1, .int .i64 b2, .int .i64 b3, .int .i64 b4, .int .i64 b5, .int .i64 b6, .int .i64 b7, .int .i64 c0, .int .i64 c1, .int .i64 c2, .int .i64 c3, .int .i64 c4, .int .i64 c5, .int .i64 c6, .int .i64 c7]) _ 3 [[a0, a1, a2, a3, a4, a5, a6, a7], [b0, b1, b2, b3, b4, b5, b6, b7], [c0, c1, c2, c3, c4, c5, c6, c7]] #[.int .i64 a0, .int .i64 a1, .int .i64 a2, .int .i64 a3, .int .i64 a4, .int .i64 a5, .int .i64 a6, .int .i64 a7, .int .i64 b0, .int .i64 b1, .int .i64 b2, .int .i64 b3, .int .i64 b4, .int .i64 b5, .int .i64 b6, .int .i64 b7, .int .i64 c0, .int .i64 c1, .int .i64 c2, .int .i64 c3, .int .i64 c4, .int .i64 c5, .int .i64 c6, .int .i64 c7] (by simp) rfl (all3 rfl rfl rfl) rfl J1.out (by omega)).mono ?_; rintro e w' ⟨rfl, hb⟩)
    go_meet
    have hb2 : Below w1.heap.size w1 w' := kept_trans (kept_alloc (kept_refl _) _) hb
    exact ⟨_, rfl, kept_alloc (kept_trans ST.out.1 hb2) _, (ST.out.2.1.below hb2 ST.out.2.1.lt).alloc _, (ST.out.2.2.1.below hb2 ST.out.2.2.1.lt).alloc _, (ST.out.2.2.2.below hb2 ST.out.2.2.2.lt).alloc _, Row.new _ _ _⟩
  case rest =>
  obtain ⟨g, rfl, hK⟩ := hcut
  have KR := hide hK
  clear hK ST fa fb fc
  go_upto_region 2 with (fail)
  refine wp_region_noPanic ?_
  refine wp_region_held_drew (S := (fun w' => Bj W w' g a0 a1 a2 a3 a4 a5 a6 a7 b0 b1 b2 b3 b4 b5 b6 b7 c0 c1 c2 c3 c4 c5 c6 c7 x0 x1 x2 x3 x4 x5 x6 x7)) (by kernel_rfl) KR.out.drew (fun hx => ?_)
  clear hx
  have KN := hide (And.intro KR.out.drew (Rows.none_ (w := World.drew wc)))
  generalize World.drew wc = w0 at KN ⊢
  clear KR
  have K0 := KN
  clear KN
  refine wpAnyH_take (i := 0) (v := ?hgv0) (by simp only [List.getElem?_toArray, List.getElem?_cons_zero]; exact rfl) (by kernel_rfl) (by kernel_rfl) (by kernel_rfl) (fun _ _ _ h => h) (Or.inl ⟨by rfl, ?hgy0⟩) K0.out.1 ?hgr0
  case hgy0 => (intro wh hSw; replace hSw := And.intro (row8 hSw.a) (And.intro (row8 hSw.b) (And.intro (row8 hSw.c) (row8 hSw.x))); go_simp; all_goals (with_reducible rfl))
  try simp only [Act.put, List.setIfInBounds_toArray, List.set_cons_zero, List.set_cons_succ]
  refine wpAnyH_take (i := 1) (v := ?hgv1) (by simp only [List.getElem?_toArray, List.getElem?_cons_succ, List.getElem?_cons_zero]; exact rfl) (by kernel_rfl) (by kernel_rfl) (by kernel_rfl) (fun _ _ _ h => h) (Or.inl ⟨by rfl, ?hgy1⟩) K0.out.1 ?hgr1
  case hgy1 => (intro wh hSw; replace hSw := And.intro (row8 hSw.a) (And.intro (row8 hSw.b) (And.intro (row8 hSw.c) (row8 hSw.x))); go_simp; all_goals (with_reducible rfl))
  try simp only [Act.put, List.setIfInBounds_toArray, List.set_cons_zero, List.set_cons_succ]
  refine wpAnyH_take (i := 2) (v := ?hgv2) (by simp only [List.getElem?_toArray, List.getElem?_cons_succ, List.getElem?_cons_zero]; exact rfl) (by kernel_rfl) (by kernel_rfl) (by kernel_rfl) (fun _ _ _ h => h) (Or.inl ⟨by rfl, ?hgy2⟩) K0.out.1 ?hgr2
  case hgy2 => (intro wh hSw; replace hSw := And.intro (row8 hSw.a) (And.intro (row8 hSw.b) (And.intro (row8 hSw.c) (row8 hSw.x))); go_simp; all_goals (with_reducible rfl))
  try simp only [Act.put, List.setIfInBounds_toArray, List.set_cons_zero, List.set_cons_succ]
  refine wpAnyH_take (i := 3) (v := ?hgv3) (by simp only [List.getElem?_toArray, List.getElem?_cons_succ, List.getElem?_cons_zero]; exact rfl) (by kernel_rfl) (by kernel_rfl) (by kernel_rfl) (fun _ _ _ h => h) (Or.inl ⟨by rfl, ?hgy3⟩) K0.out.1 ?hgr3
  case hgy3 => (intro wh hSw; replace hSw := And.intro (row8 hSw.a) (And.intro (row8 hSw.b) (And.intro (row8 hSw.c) (row8 hSw.x))); go_simp; all_goals (with_reducible rfl))
  try simp only [Act.put, List.setIfInBounds_toArray, List.set_cons_zero, List.set_cons_succ]
  refine wpAnyH_ready (rs := [4]) (by kernel_rfl) (by simp) ?_
  refine AllReadyH.cons (by simp only [List.getElem?_toArray, List.getElem?_cons_succ, List.getElem?_cons_zero]; exact rfl) (fun K hK => ?_) AllReadyH.nil
  go_simp
  have K1 := hide (And.intro (K0.out.1.step (kept_alloc (kept_refl _) (.cells #[.int .i64 c0, .int .i64 c1, .int .i64 c2, .int .i64 c3, .int .i64 c4, .int .i64 c5, .int .i64 c6, .int .i64 c7, .int .i64 b0, .int .i64 b1, .int .i64 b2, .int .i64 b3, .int .i64 b4, .int .i64 b5, .int .i64 b6, .int .i64 b7, .int .i64 a0, .int .i64 a1, .int .i64 a2, .int .i64 a3, .int .i64 a4, .int .i64 a5, .int .i64 a6, .int .i64 a7] 25))) (K0.out.2.more 25 #[.int .i64 c0, .int .i64 c1, .int .i64 c2, .int .i64 c3, .int .i64 c4, .int .i64 c5, .int .i64 c6, .int .i64 c7, .int .i64 b0, .int .i64 b1, .int .i64 b2, .int .i64 b3, .int .i64 b4, .int .i64 b5, .int .i64 b6, .int .i64 b7, .int .i64 a0, .int .i64 a1, .int .i64 a2, .int .i64 a3, .int .i64 a4, .int .i64 a5, .int .i64 a6, .int .i64 a7]))
  refine hK.out _ _ K1.out.1 (fun hx => ?_)
  clear hx hK K K0
  generalize World.alloc w0 _ = w1 at K1 ⊢
  generalize w0.heap.size = p4 at K1 ⊢
  clear w0
  refine wpAnyH_ready (rs := [5]) (by kernel_rfl) (by simp) ?_
  refine AllReadyH.cons (by simp only [List.getElem?_toArray, List.getElem?_cons_succ, List.getElem?_cons_zero]; exact rfl) (fun K hK => ?_) AllReadyH.nil
  go_simp
  refine (join_rows K1.out.2 p4 3 [[c0, c1, c2, c3, c4, c5, c6, c7], [b0, b1, b2, b3, b4, b5, b6, b7], [a0, a1, a2, a3, a4, a5, a6, a7]] #[.int .i64 c0, .int .i64 c1, .int .i64 c2, .int .i64 c3, .int .i64 c4, .int .i64 c5, .int .i64 c6, .int .i64 c7, .int .i64 b0, .int .i64 b1, .int .i64 b2, .int .i64 b3, .int .i64 b4, .int .i64 b5, .int .i64 b6, .int .i64 b7, .int .i64 a0, .int .i64 a1, .int .i64 a2, .int .i64 a3, .int .i64 a4, .int .i64 a5, .int .i64 a6, .int .i64 a7] (by simp) rfl (all3 rfl rfl rfl) rfl J2.out (by omega)).mono ?_
  rintro e w2 ⟨rfl, hb⟩
  have K2 := hide (And.intro (K1.out.1.step hb) (K1.out.2.below hb))
  refine hK.out _ _ K2.out.1 (fun hx => ?_)
  clear hx hK K K1 hb
  try simp only [List.setIfInBounds_toArray, List.set_cons_zero, List.set_cons_succ]
  clear w1
  refine wpAnyH_take (i := 6) (v := ?hgv6) (by simp only [List.getElem?_toArray, List.getElem?_cons_succ, List.getElem?_cons_zero]; exact rfl) (by kernel_rfl) (by kernel_rfl) (by kernel_rfl) (fun _ _ _ h => h) (Or.inl ⟨by rfl, ?hgy6⟩) K2.out.1 ?hgr6
  case hgy6 => (intro wh hSw; replace hSw := And.intro (row8 hSw.a) (And.intro (row8 hSw.b) (And.intro (row8 hSw.c) (row8 hSw.x))); go_simp; all_goals (with_reducible rfl))
  try simp only [Act.put, List.setIfInBounds_toArray, List.set_cons_zero, List.set_cons_succ]
  refine wpAnyH_take (i := 7) (v := ?hgv7) (by simp only [List.getElem?_toArray, List.getElem?_cons_succ, List.getElem?_cons_zero]; exact rfl) (by kernel_rfl) (by kernel_rfl) (by kernel_rfl) (fun _ _ _ h => h) (Or.inl ⟨by rfl, ?hgy7⟩) K2.out.1 ?hgr7
  case hgy7 => (intro wh hSw; replace hSw := And.intro (row8 hSw.a) (And.intro (row8 hSw.b) (And.intro (row8 hSw.c) (row8 hSw.x))); go_simp; all_goals (with_reducible rfl))
  try simp only [Act.put, List.setIfInBounds_toArray, List.set_cons_zero, List.set_cons_succ]
  refine wpAnyH_take (i := 8) (v := ?hgv8) (by simp only [List.getElem?_toArray, List.getElem?_cons_succ, List.getElem?_cons_zero]; exact rfl) (by kernel_rfl) (by kernel_rfl) (by kernel_rfl) (fun _ _ _ h => h) (Or.inl ⟨by rfl, ?hgy8⟩) K2.out.1 ?hgr8
  case hgy8 => (intro wh hSw; replace hSw := And.intro (row8 hSw.a) (And.intro (row8 hSw.b) (And.intro (row8 hSw.c) (row8 hSw.x))); go_simp; all_goals (with_reducible rfl))
  try simp only [Act.put, List.setIfInBounds_toArray, List.set_cons_zero, List.set_cons_succ]
  refine wpAnyH_take (i := 9) (v := ?hgv9) (by simp only [List.getElem?_toArray, List.getElem?_cons_succ, List.getElem?_cons_zero]; exact rfl) (by kernel_rfl) (by kernel_rfl) (by kernel_rfl) (fun _ _ _ h => h) (Or.inl ⟨by rfl, ?hgy9⟩) K2.out.1 ?hgr9
  case hgy9 => (intro wh hSw; replace hSw := And.intro (row8 hSw.a) (And.intro (row8 hSw.b) (And.intro (row8 hSw.c) (row8 hSw.x))); go_simp; all_goals (with_reducible rfl))
  try simp only [Act.put, List.setIfInBounds_toArray, List.set_cons_zero, List.set_cons_succ]
  refine wpAnyH_take (i := 10) (v := ?hgv10) (by simp only [List.getElem?_toArray, List.getElem?_cons_succ, List.getElem?_cons_zero]; exact rfl) (by kernel_rfl) (by kernel_rfl) (by kernel_rfl) (fun _ _ _ h => h) (Or.inl ⟨by rfl, ?hgy10⟩) K2.out.1 ?hgr10
  case hgy10 => (intro wh hSw; replace hSw := And.intro (row8 hSw.a) (And.intro (row8 hSw.b) (And.intro (row8 hSw.c) (row8 hSw.x))); go_simp; all_goals (with_reducible rfl))
  try simp only [Act.put, List.setIfInBounds_toArray, List.set_cons_zero, List.set_cons_succ]
  refine wpAnyH_take (i := 13) (v := ?hgv13) (by simp only [List.getElem?_toArray, List.getElem?_cons_succ, List.getElem?_cons_zero]; exact rfl) (by kernel_rfl) (by kernel_rfl) (by kernel_rfl) (fun _ _ _ h => h) (Or.inl ⟨by rfl, ?hgy13⟩) K2.out.1 ?hgr13
  case hgy13 => (intro wh hSw; replace hSw := And.intro (row8 hSw.a) (And.intro (row8 hSw.b) (And.intro (row8 hSw.c) (row8 hSw.x))); go_simp; all_goals (with_reducible rfl))
  try simp only [Act.put, List.setIfInBounds_toArray, List.set_cons_zero, List.set_cons_succ]
  refine wpAnyH_ready (rs := [11]) (by kernel_rfl) (by simp) ?_
  refine AllReadyH.cons (by simp only [List.getElem?_toArray, List.getElem?_cons_succ, List.getElem?_cons_zero]; exact rfl) (fun K hK => ?_) AllReadyH.nil
  go_simp
  have K3 := hide (And.intro (K2.out.1.step (kept_alloc (kept_refl _) (.cells #[.int .i64 a0, .int .i64 a1, .int .i64 a2, .int .i64 a3, .int .i64 a4, .int .i64 a5, .int .i64 a6, .int .i64 a7, .int .i64 b0, .int .i64 b1, .int .i64 b2, .int .i64 b3, .int .i64 b4, .int .i64 b5, .int .i64 b6, .int .i64 b7] 25))) (K2.out.2.more 25 #[.int .i64 a0, .int .i64 a1, .int .i64 a2, .int .i64 a3, .int .i64 a4, .int .i64 a5, .int .i64 a6, .int .i64 a7, .int .i64 b0, .int .i64 b1, .int .i64 b2, .int .i64 b3, .int .i64 b4, .int .i64 b5, .int .i64 b6, .int .i64 b7]))
  refine hK.out _ _ K3.out.1 (fun hx => ?_)
  clear hx hK K K2
  generalize World.alloc w2 _ = w3 at K3 ⊢
  generalize w2.heap.size = p11 at K3 ⊢
  clear w2
  refine wpAnyH_ready (rs := [12]) (by kernel_rfl) (by simp) ?_
  refine AllReadyH.cons (by simp only [List.getElem?_toArray, List.getElem?_cons_succ, List.getElem?_cons_zero]; exact rfl) (fun K hK => ?_) AllReadyH.nil
  go_simp
  refine (join_rows K3.out.2 p11 2 [[a0, a1, a2, a3, a4, a5, a6, a7], [b0, b1, b2, b3, b4, b5, b6, b7]] #[.int .i64 a0, .int .i64 a1, .int .i64 a2, .int .i64 a3, .int .i64 a4, .int .i64 a5, .int .i64 a6, .int .i64 a7, .int .i64 b0, .int .i64 b1, .int .i64 b2, .int .i64 b3, .int .i64 b4, .int .i64 b5, .int .i64 b6, .int .i64 b7] (by simp) rfl (all_of2 rfl rfl) rfl J3.out (by omega)).mono ?_
  rintro e w4 ⟨rfl, hb⟩
  have K4 := hide (And.intro (K3.out.1.step hb) (K3.out.2.below hb))
  refine hK.out _ _ K4.out.1 (fun hx => ?_)
  clear hx hK K K3 hb
  try simp only [List.setIfInBounds_toArray, List.set_cons_zero, List.set_cons_succ]
  clear w3
  refine wpAnyH_ready (rs := [14]) (by kernel_rfl) (by simp) ?_
  refine AllReadyH.cons (by simp only [List.getElem?_toArray, List.getElem?_cons_succ, List.getElem?_cons_zero]; exact rfl) (fun K hK => ?_) AllReadyH.nil
  go_simp
  have K5 := hide (And.intro (K4.out.1.step (kept_alloc (kept_refl _) (.cells #[.int .i64 y0, .int .i64 y1, .int .i64 y2, .int .i64 y3, .int .i64 y4, .int .i64 y5, .int .i64 y6, .int .i64 y7, .int .i64 c0, .int .i64 c1, .int .i64 c2, .int .i64 c3, .int .i64 c4, .int .i64 c5, .int .i64 c6, .int .i64 c7] 25))) (K4.out.2.more 25 #[.int .i64 y0, .int .i64 y1, .int .i64 y2, .int .i64 y3, .int .i64 y4, .int .i64 y5, .int .i64 y6, .int .i64 y7, .int .i64 c0, .int .i64 c1, .int .i64 c2, .int .i64 c3, .int .i64 c4, .int .i64 c5, .int .i64 c6, .int .i64 c7]))
  refine hK.out _ _ K5.out.1 (fun hx => ?_)
  clear hx hK K K4
  generalize World.alloc w4 _ = w5 at K5 ⊢
  generalize w4.heap.size = p14 at K5 ⊢
  clear w4
  refine wpAnyH_ready (rs := [15]) (by kernel_rfl) (by simp) ?_
  refine AllReadyH.cons (by simp only [List.getElem?_toArray, List.getElem?_cons_succ, List.getElem?_cons_zero]; exact rfl) (fun K hK => ?_) AllReadyH.nil
  go_simp
  refine (join_rows K5.out.2 p14 2 [[y0, y1, y2, y3, y4, y5, y6, y7], [c0, c1, c2, c3, c4, c5, c6, c7]] #[.int .i64 y0, .int .i64 y1, .int .i64 y2, .int .i64 y3, .int .i64 y4, .int .i64 y5, .int .i64 y6, .int .i64 y7, .int .i64 c0, .int .i64 c1, .int .i64 c2, .int .i64 c3, .int .i64 c4, .int .i64 c5, .int .i64 c6, .int .i64 c7] (by simp) rfl (all_of2 rfl rfl) rfl J4.out (by omega)).mono ?_
  rintro e w6 ⟨rfl, hb⟩
  have K6 := hide (And.intro (K5.out.1.step hb) (K5.out.2.below hb))
  refine hK.out _ _ K6.out.1 (fun hx => ?_)
  clear hx hK K K5 hb
  try simp only [List.setIfInBounds_toArray, List.set_cons_zero, List.set_cons_succ]
  clear w5
  refine wpAnyH_take (i := 16) (v := ?hgv16) (by simp only [List.getElem?_toArray, List.getElem?_cons_succ, List.getElem?_cons_zero]; exact rfl) (by kernel_rfl) (by kernel_rfl) (by kernel_rfl) (fun _ _ _ h => h) (Or.inl ⟨by rfl, ?hgy16⟩) K6.out.1 ?hgr16
  case hgy16 => (intro wh hSw; replace hSw := And.intro (row8 hSw.a) (And.intro (row8 hSw.b) (And.intro (row8 hSw.c) (row8 hSw.x))); go_simp; all_goals (with_reducible rfl))
  try simp only [Act.put, List.setIfInBounds_toArray, List.set_cons_zero, List.set_cons_succ]
  refine wpAnyH_take (i := 17) (v := ?hgv17) (by simp only [List.getElem?_toArray, List.getElem?_cons_succ, List.getElem?_cons_zero]; exact rfl) (by kernel_rfl) (by kernel_rfl) (by kernel_rfl) (fun _ _ _ h => h) (Or.inl ⟨by rfl, ?hgy17⟩) K6.out.1 ?hgr17
  case hgy17 => (intro wh hSw; replace hSw := And.intro (row8 hSw.a) (And.intro (row8 hSw.b) (And.intro (row8 hSw.c) (row8 hSw.x))); go_simp; all_goals (with_reducible rfl))
  try simp only [Act.put, List.setIfInBounds_toArray, List.set_cons_zero, List.set_cons_succ]
  refine wpAnyH_take (i := 18) (v := ?hgv18) (by simp only [List.getElem?_toArray, List.getElem?_cons_succ, List.getElem?_cons_zero]; exact rfl) (by kernel_rfl) (by kernel_rfl) (by kernel_rfl) (fun _ _ _ h => h) (Or.inl ⟨by rfl, ?hgy18⟩) K6.out.1 ?hgr18
  case hgy18 => (intro wh hSw; replace hSw := And.intro (row8 hSw.a) (And.intro (row8 hSw.b) (And.intro (row8 hSw.c) (row8 hSw.x))); go_simp; all_goals (with_reducible rfl))
  try simp only [Act.put, List.setIfInBounds_toArray, List.set_cons_zero, List.set_cons_succ]
  refine wpAnyH_take (i := 19) (v := ?hgv19) (by simp only [List.getElem?_toArray, List.getElem?_cons_succ, List.getElem?_cons_zero]; exact rfl) (by kernel_rfl) (by kernel_rfl) (by kernel_rfl) (fun _ _ _ h => h) (Or.inl ⟨by rfl, ?hgy19⟩) K6.out.1 ?hgr19
  case hgy19 => (intro wh hSw; replace hSw := And.intro (row8 hSw.a) (And.intro (row8 hSw.b) (And.intro (row8 hSw.c) (row8 hSw.x))); go_simp; all_goals (with_reducible rfl))
  try simp only [Act.put, List.setIfInBounds_toArray, List.set_cons_zero, List.set_cons_succ]
  refine wpAnyH_take (i := 20) (v := ?hgv20) (by simp only [List.getElem?_toArray, List.getElem?_cons_succ, List.getElem?_cons_zero]; exact rfl) (by kernel_rfl) (by kernel_rfl) (by kernel_rfl) (fun _ _ _ h => h) (Or.inl ⟨by rfl, ?hgy20⟩) K6.out.1 ?hgr20
  case hgy20 => (intro wh hSw; replace hSw := And.intro (row8 hSw.a) (And.intro (row8 hSw.b) (And.intro (row8 hSw.c) (row8 hSw.x))); go_simp; all_goals (with_reducible rfl))
  try simp only [Act.put, List.setIfInBounds_toArray, List.set_cons_zero, List.set_cons_succ]
  refine wpAnyH_take (i := 21) (v := ?hgv21) (by simp only [List.getElem?_toArray, List.getElem?_cons_succ, List.getElem?_cons_zero]; exact rfl) (by kernel_rfl) (by kernel_rfl) (by kernel_rfl) (fun _ _ _ h => h) (Or.inl ⟨by rfl, ?hgy21⟩) K6.out.1 ?hgr21
  case hgy21 => (intro wh hSw; replace hSw := And.intro (row8 hSw.a) (And.intro (row8 hSw.b) (And.intro (row8 hSw.c) (row8 hSw.x))); go_simp; all_goals (with_reducible rfl))
  try simp only [Act.put, List.setIfInBounds_toArray, List.set_cons_zero, List.set_cons_succ]
  refine wpAnyH_take (i := 22) (v := ?hgv22) (by simp only [List.getElem?_toArray, List.getElem?_cons_succ, List.getElem?_cons_zero]; exact rfl) (by kernel_rfl) (by kernel_rfl) (by kernel_rfl) (fun _ _ _ h => h) (Or.inl ⟨by rfl, ?hgy22⟩) K6.out.1 ?hgr22
  case hgy22 => (intro wh hSw; replace hSw := And.intro (row8 hSw.a) (And.intro (row8 hSw.b) (And.intro (row8 hSw.c) (row8 hSw.x))); go_simp; all_goals (with_reducible rfl))
  try simp only [Act.put, List.setIfInBounds_toArray, List.set_cons_zero, List.set_cons_succ]
  refine wpAnyH_take (i := 23) (v := ?hgv23) (by simp only [List.getElem?_toArray, List.getElem?_cons_succ, List.getElem?_cons_zero]; exact rfl) (by kernel_rfl) (by kernel_rfl) (by kernel_rfl) (fun _ _ _ h => h) (Or.inl ⟨by rfl, ?hgy23⟩) K6.out.1 ?hgr23
  case hgy23 => (intro wh hSw; replace hSw := And.intro (row8 hSw.a) (And.intro (row8 hSw.b) (And.intro (row8 hSw.c) (row8 hSw.x))); go_simp; all_goals (with_reducible rfl))
  try simp only [Act.put, List.setIfInBounds_toArray, List.set_cons_zero, List.set_cons_succ]
  refine wpAnyH_ready (rs := [24]) (by kernel_rfl) (by simp) ?_
  refine AllReadyH.cons (by simp only [List.getElem?_toArray, List.getElem?_cons_succ, List.getElem?_cons_zero]; exact rfl) (fun K hK => ?_) AllReadyH.nil
  go_simp
  have K7 := hide (And.intro (K6.out.1.step (kept_alloc (kept_refl _) (.cells #[.int .i64 a0, .int .i64 a1, .int .i64 a2, .int .i64 a3, .int .i64 a4, .int .i64 a5, .int .i64 a6, .int .i64 a7, .int .i64 b0, .int .i64 b1, .int .i64 b2, .int .i64 b3, .int .i64 b4, .int .i64 b5, .int .i64 b6, .int .i64 b7, .int .i64 c0, .int .i64 c1, .int .i64 c2, .int .i64 c3, .int .i64 c4, .int .i64 c5, .int .i64 c6, .int .i64 c7, .int .i64 b0, .int .i64 b1, .int .i64 b2, .int .i64 b3, .int .i64 b4, .int .i64 b5, .int .i64 b6, .int .i64 b7] 25))) (K6.out.2.more 25 #[.int .i64 a0, .int .i64 a1, .int .i64 a2, .int .i64 a3, .int .i64 a4, .int .i64 a5, .int .i64 a6, .int .i64 a7, .int .i64 b0, .int .i64 b1, .int .i64 b2, .int .i64 b3, .int .i64 b4, .int .i64 b5, .int .i64 b6, .int .i64 b7, .int .i64 c0, .int .i64 c1, .int .i64 c2, .int .i64 c3, .int .i64 c4, .int .i64 c5, .int .i64 c6, .int .i64 c7, .int .i64 b0, .int .i64 b1, .int .i64 b2, .int .i64 b3, .int .i64 b4, .int .i64 b5, .int .i64 b6, .int .i64 b7]))
  refine hK.out _ _ K7.out.1 (fun hx => ?_)
  clear hx hK K K6
  generalize World.alloc w6 _ = w7 at K7 ⊢
  generalize w6.heap.size = p24 at K7 ⊢
  clear w6
  refine wpAnyH_ready (rs := [25]) (by kernel_rfl) (by simp) ?_
  refine AllReadyH.cons (by simp only [List.getElem?_toArray, List.getElem?_cons_succ, List.getElem?_cons_zero]; exact rfl) (fun K hK => ?_) AllReadyH.nil
  go_simp
  refine (join_rows K7.out.2 p24 4 [[a0, a1, a2, a3, a4, a5, a6, a7], [b0, b1, b2, b3, b4, b5, b6, b7], [c0, c1, c2, c3, c4, c5, c6, c7], [b0, b1, b2, b3, b4, b5, b6, b7]] #[.int .i64 a0, .int .i64 a1, .int .i64 a2, .int .i64 a3, .int .i64 a4, .int .i64 a5, .int .i64 a6, .int .i64 a7, .int .i64 b0, .int .i64 b1, .int .i64 b2, .int .i64 b3, .int .i64 b4, .int .i64 b5, .int .i64 b6, .int .i64 b7, .int .i64 c0, .int .i64 c1, .int .i64 c2, .int .i64 c3, .int .i64 c4, .int .i64 c5, .int .i64 c6, .int .i64 c7, .int .i64 b0, .int .i64 b1, .int .i64 b2, .int .i64 b3, .int .i64 b4, .int .i64 b5, .int .i64 b6, .int .i64 b7] (by simp) rfl (all4 rfl rfl rfl rfl) rfl J5.out (by omega)).mono ?_
  rintro e w8 ⟨rfl, hb⟩
  have K8 := hide (And.intro (K7.out.1.step hb) (K7.out.2.below hb))
  refine hK.out _ _ K8.out.1 (fun hx => ?_)
  clear hx hK K K7 hb
  try simp only [List.setIfInBounds_toArray, List.set_cons_zero, List.set_cons_succ]
  clear w7
  refine wpAnyH_take (i := 26) (v := ?hgv26) (by simp only [List.getElem?_toArray, List.getElem?_cons_succ, List.getElem?_cons_zero]; exact rfl) (by kernel_rfl) (by kernel_rfl) (by kernel_rfl) (fun _ _ _ h => h) (Or.inl ⟨by rfl, ?hgy26⟩) K8.out.1 ?hgr26
  case hgy26 => (intro wh hSw; replace hSw := And.intro (row8 hSw.a) (And.intro (row8 hSw.b) (And.intro (row8 hSw.c) (row8 hSw.x))); go_simp; all_goals (with_reducible rfl))
  try simp only [Act.put, List.setIfInBounds_toArray, List.set_cons_zero, List.set_cons_succ]
  refine wpAnyH_take (i := 27) (v := ?hgv27) (by simp only [List.getElem?_toArray, List.getElem?_cons_succ, List.getElem?_cons_zero]; exact rfl) (by kernel_rfl) (by kernel_rfl) (by kernel_rfl) (fun _ _ _ h => h) (Or.inl ⟨by rfl, ?hgy27⟩) K8.out.1 ?hgr27
  case hgy27 => (intro wh hSw; replace hSw := And.intro (row8 hSw.a) (And.intro (row8 hSw.b) (And.intro (row8 hSw.c) (row8 hSw.x))); go_simp; all_goals (with_reducible rfl))
  try simp only [Act.put, List.setIfInBounds_toArray, List.set_cons_zero, List.set_cons_succ]
  refine wpAnyH_take (i := 28) (v := ?hgv28) (by simp only [List.getElem?_toArray, List.getElem?_cons_succ, List.getElem?_cons_zero]; exact rfl) (by kernel_rfl) (by kernel_rfl) (by kernel_rfl) (fun _ _ _ h => h) (Or.inl ⟨by rfl, ?hgy28⟩) K8.out.1 ?hgr28
  case hgy28 => (intro wh hSw; replace hSw := And.intro (row8 hSw.a) (And.intro (row8 hSw.b) (And.intro (row8 hSw.c) (row8 hSw.x))); go_simp; all_goals (with_reducible rfl))
  try simp only [Act.put, List.setIfInBounds_toArray, List.set_cons_zero, List.set_cons_succ]
  refine wpAnyH_take (i := 29) (v := ?hgv29) (by simp only [List.getElem?_toArray, List.getElem?_cons_succ, List.getElem?_cons_zero]; exact rfl) (by kernel_rfl) (by kernel_rfl) (by kernel_rfl) (fun _ _ _ h => h) (Or.inl ⟨by rfl, ?hgy29⟩) K8.out.1 ?hgr29
  case hgy29 => (intro wh hSw; replace hSw := And.intro (row8 hSw.a) (And.intro (row8 hSw.b) (And.intro (row8 hSw.c) (row8 hSw.x))); go_simp; all_goals (with_reducible rfl))
  try simp only [Act.put, List.setIfInBounds_toArray, List.set_cons_zero, List.set_cons_succ]
  refine wpAnyH_take (i := 30) (v := ?hgv30) (by simp only [List.getElem?_toArray, List.getElem?_cons_succ, List.getElem?_cons_zero]; exact rfl) (by kernel_rfl) (by kernel_rfl) (by kernel_rfl) (fun _ _ _ h => h) (Or.inl ⟨by rfl, ?hgy30⟩) K8.out.1 ?hgr30
  case hgy30 => (intro wh hSw; replace hSw := And.intro (row8 hSw.a) (And.intro (row8 hSw.b) (And.intro (row8 hSw.c) (row8 hSw.x))); go_simp; all_goals (with_reducible rfl))
  try simp only [Act.put, List.setIfInBounds_toArray, List.set_cons_zero, List.set_cons_succ]
  refine wpAnyH_take (i := 31) (v := ?hgv31) (by simp only [List.getElem?_toArray, List.getElem?_cons_succ, List.getElem?_cons_zero]; exact rfl) (by kernel_rfl) (by kernel_rfl) (by kernel_rfl) (fun _ _ _ h => h) (Or.inl ⟨by rfl, ?hgy31⟩) K8.out.1 ?hgr31
  case hgy31 => (intro wh hSw; replace hSw := And.intro (row8 hSw.a) (And.intro (row8 hSw.b) (And.intro (row8 hSw.c) (row8 hSw.x))); go_simp; all_goals (with_reducible rfl))
  try simp only [Act.put, List.setIfInBounds_toArray, List.set_cons_zero, List.set_cons_succ]
  refine wpAnyH_take (i := 32) (v := ?hgv32) (by simp only [List.getElem?_toArray, List.getElem?_cons_succ, List.getElem?_cons_zero]; exact rfl) (by kernel_rfl) (by kernel_rfl) (by kernel_rfl) (fun _ _ _ h => h) (Or.inl ⟨by rfl, ?hgy32⟩) K8.out.1 ?hgr32
  case hgy32 => (intro wh hSw; replace hSw := And.intro (row8 hSw.a) (And.intro (row8 hSw.b) (And.intro (row8 hSw.c) (row8 hSw.x))); go_simp; all_goals (with_reducible rfl))
  try simp only [Act.put, List.setIfInBounds_toArray, List.set_cons_zero, List.set_cons_succ]
  refine wpAnyH_ready (rs := [33]) (by kernel_rfl) (by simp) ?_
  refine AllReadyH.cons (by simp only [List.getElem?_toArray, List.getElem?_cons_succ, List.getElem?_cons_zero]; exact rfl) (fun K hK => ?_) AllReadyH.nil
  go_simp
  refine ((covers_any _ _ _ _ _ _ _ _ _ _ _ _ _ _ w8).mono (fun _ _ hq => And.intro (hq.1.trans (by rw [CA.out])) hq.2)).mono ?_
  rintro e w9 ⟨rfl, hb⟩
  have K9 := hide (And.intro (K8.out.1.step hb) (K8.out.2.below hb))
  refine hK.out _ _ K9.out.1 (fun hx => ?_)
  clear hx hK K K8 hb
  try simp only [List.setIfInBounds_toArray, List.set_cons_zero, List.set_cons_succ]
  clear w8
  refine wpAnyH_take (i := 34) (v := ?hgv34) (by simp only [List.getElem?_toArray, List.getElem?_cons_succ, List.getElem?_cons_zero]; exact rfl) (by kernel_rfl) (by kernel_rfl) (by kernel_rfl) (fun _ _ _ h => h) (Or.inl ⟨by rfl, ?hgy34⟩) K9.out.1 ?hgr34
  case hgy34 => (intro wh hSw; replace hSw := And.intro (row8 hSw.a) (And.intro (row8 hSw.b) (And.intro (row8 hSw.c) (row8 hSw.x))); go_simp; all_goals (with_reducible rfl))
  try simp only [Act.put, List.setIfInBounds_toArray, List.set_cons_zero, List.set_cons_succ]
  refine wpAnyH_take (i := 35) (v := ?hgv35) (by simp only [List.getElem?_toArray, List.getElem?_cons_succ, List.getElem?_cons_zero]; exact rfl) (by kernel_rfl) (by kernel_rfl) (by kernel_rfl) (fun _ _ _ h => h) (Or.inl ⟨by rfl, ?hgy35⟩) K9.out.1 ?hgr35
  case hgy35 => (intro wh hSw; replace hSw := And.intro (row8 hSw.a) (And.intro (row8 hSw.b) (And.intro (row8 hSw.c) (row8 hSw.x))); go_simp; all_goals (with_reducible rfl))
  try simp only [Act.put, List.setIfInBounds_toArray, List.set_cons_zero, List.set_cons_succ]
  refine wpAnyH_take (i := 36) (v := ?hgv36) (by simp only [List.getElem?_toArray, List.getElem?_cons_succ, List.getElem?_cons_zero]; exact rfl) (by kernel_rfl) (by kernel_rfl) (by kernel_rfl) (fun _ _ _ h => h) (Or.inl ⟨by rfl, ?hgy36⟩) K9.out.1 ?hgr36
  case hgy36 => (intro wh hSw; replace hSw := And.intro (row8 hSw.a) (And.intro (row8 hSw.b) (And.intro (row8 hSw.c) (row8 hSw.x))); go_simp; all_goals (with_reducible rfl))
  try simp only [Act.put, List.setIfInBounds_toArray, List.set_cons_zero, List.set_cons_succ]
  refine wpAnyH_take (i := 37) (v := ?hgv37) (by simp only [List.getElem?_toArray, List.getElem?_cons_succ, List.getElem?_cons_zero]; exact rfl) (by kernel_rfl) (by kernel_rfl) (by kernel_rfl) (fun _ _ _ h => h) (Or.inl ⟨by rfl, ?hgy37⟩) K9.out.1 ?hgr37
  case hgy37 => (intro wh hSw; replace hSw := And.intro (row8 hSw.a) (And.intro (row8 hSw.b) (And.intro (row8 hSw.c) (row8 hSw.x))); go_simp; all_goals (with_reducible rfl))
  try simp only [Act.put, List.setIfInBounds_toArray, List.set_cons_zero, List.set_cons_succ]
  refine wpAnyH_take (i := 38) (v := ?hgv38) (by simp only [List.getElem?_toArray, List.getElem?_cons_succ, List.getElem?_cons_zero]; exact rfl) (by kernel_rfl) (by kernel_rfl) (by kernel_rfl) (fun _ _ _ h => h) (Or.inl ⟨by rfl, ?hgy38⟩) K9.out.1 ?hgr38
  case hgy38 => (intro wh hSw; replace hSw := And.intro (row8 hSw.a) (And.intro (row8 hSw.b) (And.intro (row8 hSw.c) (row8 hSw.x))); go_simp; all_goals (with_reducible rfl))
  try simp only [Act.put, List.setIfInBounds_toArray, List.set_cons_zero, List.set_cons_succ]
  refine wpAnyH_take (i := 39) (v := ?hgv39) (by simp only [List.getElem?_toArray, List.getElem?_cons_succ, List.getElem?_cons_zero]; exact rfl) (by kernel_rfl) (by kernel_rfl) (by kernel_rfl) (fun _ _ _ h => h) (Or.inl ⟨by rfl, ?hgy39⟩) K9.out.1 ?hgr39
  case hgy39 => (intro wh hSw; replace hSw := And.intro (row8 hSw.a) (And.intro (row8 hSw.b) (And.intro (row8 hSw.c) (row8 hSw.x))); go_simp; all_goals (with_reducible rfl))
  try simp only [Act.put, List.setIfInBounds_toArray, List.set_cons_zero, List.set_cons_succ]
  refine wpAnyH_ready (rs := [40]) (by kernel_rfl) (by simp) ?_
  refine AllReadyH.cons (by simp only [List.getElem?_toArray, List.getElem?_cons_succ, List.getElem?_cons_zero]; exact rfl) (fun K hK => ?_) AllReadyH.nil
  go_simp
  refine ((covers_any _ _ _ _ _ _ _ _ _ _ _ _ _ _ w9).mono (fun _ _ hq => And.intro (hq.1.trans (by rw [CC.out])) hq.2)).mono ?_
  rintro e w10 ⟨rfl, hb⟩
  have K10 := hide (And.intro (K9.out.1.step hb) (K9.out.2.below hb))
  refine hK.out _ _ K10.out.1 (fun hx => ?_)
  clear hx hK K K9 hb
  try simp only [List.setIfInBounds_toArray, List.set_cons_zero, List.set_cons_succ]
  clear w9
  refine wpAnyH_take (i := 41) (v := ?hgv41) (by simp only [List.getElem?_toArray, List.getElem?_cons_succ, List.getElem?_cons_zero]; exact rfl) (by kernel_rfl) (by kernel_rfl) (by kernel_rfl) (fun _ _ _ h => h) (Or.inl ⟨by rfl, ?hgy41⟩) K10.out.1 ?hgr41
  case hgy41 => (intro wh hSw; replace hSw := And.intro (row8 hSw.a) (And.intro (row8 hSw.b) (And.intro (row8 hSw.c) (row8 hSw.x))); go_simp; all_goals (with_reducible rfl))
  try simp only [Act.put, List.setIfInBounds_toArray, List.set_cons_zero, List.set_cons_succ]
  refine wpAnyH_take (i := 42) (v := ?hgv42) (by simp only [List.getElem?_toArray, List.getElem?_cons_succ, List.getElem?_cons_zero]; exact rfl) (by kernel_rfl) (by kernel_rfl) (by kernel_rfl) (fun _ _ _ h => h) (Or.inl ⟨by rfl, ?hgy42⟩) K10.out.1 ?hgr42
  case hgy42 => (intro wh hSw; replace hSw := And.intro (row8 hSw.a) (And.intro (row8 hSw.b) (And.intro (row8 hSw.c) (row8 hSw.x))); go_simp; all_goals (with_reducible rfl))
  try simp only [Act.put, List.setIfInBounds_toArray, List.set_cons_zero, List.set_cons_succ]
  refine wpAnyH_take (i := 43) (v := ?hgv43) (by simp only [List.getElem?_toArray, List.getElem?_cons_succ, List.getElem?_cons_zero]; exact rfl) (by kernel_rfl) (by kernel_rfl) (by kernel_rfl) (fun _ _ _ h => h) (Or.inl ⟨by rfl, ?hgy43⟩) K10.out.1 ?hgr43
  case hgy43 => (intro wh hSw; replace hSw := And.intro (row8 hSw.a) (And.intro (row8 hSw.b) (And.intro (row8 hSw.c) (row8 hSw.x))); go_simp; all_goals (with_reducible rfl))
  try simp only [Act.put, List.setIfInBounds_toArray, List.set_cons_zero, List.set_cons_succ]
  refine wpAnyH_take (i := 44) (v := ?hgv44) (by simp only [List.getElem?_toArray, List.getElem?_cons_succ, List.getElem?_cons_zero]; exact rfl) (by kernel_rfl) (by kernel_rfl) (by kernel_rfl) (fun _ _ _ h => h) (Or.inl ⟨by rfl, ?hgy44⟩) K10.out.1 ?hgr44
  case hgy44 => (intro wh hSw; replace hSw := And.intro (row8 hSw.a) (And.intro (row8 hSw.b) (And.intro (row8 hSw.c) (row8 hSw.x))); go_simp; all_goals (with_reducible rfl))
  try simp only [Act.put, List.setIfInBounds_toArray, List.set_cons_zero, List.set_cons_succ]
  refine wpAnyH_take (i := 45) (v := ?hgv45) (by simp only [List.getElem?_toArray, List.getElem?_cons_succ, List.getElem?_cons_zero]; exact rfl) (by kernel_rfl) (by kernel_rfl) (by kernel_rfl) (fun _ _ _ h => h) (Or.inl ⟨by rfl, ?hgy45⟩) K10.out.1 ?hgr45
  case hgy45 => (intro wh hSw; replace hSw := And.intro (row8 hSw.a) (And.intro (row8 hSw.b) (And.intro (row8 hSw.c) (row8 hSw.x))); go_simp; all_goals (with_reducible rfl))
  try simp only [Act.put, List.setIfInBounds_toArray, List.set_cons_zero, List.set_cons_succ]
  refine wpAnyH_take (i := 46) (v := ?hgv46) (by simp only [List.getElem?_toArray, List.getElem?_cons_succ, List.getElem?_cons_zero]; exact rfl) (by kernel_rfl) (by kernel_rfl) (by kernel_rfl) (fun _ _ _ h => h) (Or.inl ⟨by rfl, ?hgy46⟩) K10.out.1 ?hgr46
  case hgy46 => (intro wh hSw; replace hSw := And.intro (row8 hSw.a) (And.intro (row8 hSw.b) (And.intro (row8 hSw.c) (row8 hSw.x))); go_simp; all_goals (with_reducible rfl))
  try simp only [Act.put, List.setIfInBounds_toArray, List.set_cons_zero, List.set_cons_succ]
  refine wpAnyH_take (i := 47) (v := ?hgv47) (by simp only [List.getElem?_toArray, List.getElem?_cons_succ, List.getElem?_cons_zero]; exact rfl) (by kernel_rfl) (by kernel_rfl) (by kernel_rfl) (fun _ _ _ h => h) (Or.inl ⟨by rfl, ?hgy47⟩) K10.out.1 ?hgr47
  case hgy47 => (intro wh hSw; replace hSw := And.intro (row8 hSw.a) (And.intro (row8 hSw.b) (And.intro (row8 hSw.c) (row8 hSw.x))); go_simp; all_goals (with_reducible rfl))
  try simp only [Act.put, List.setIfInBounds_toArray, List.set_cons_zero, List.set_cons_succ]
  refine wpAnyH_take (i := 48) (v := ?hgv48) (by simp only [List.getElem?_toArray, List.getElem?_cons_succ, List.getElem?_cons_zero]; exact rfl) (by kernel_rfl) (by kernel_rfl) (by kernel_rfl) (fun _ _ _ h => h) (Or.inl ⟨by rfl, ?hgy48⟩) K10.out.1 ?hgr48
  case hgy48 => (intro wh hSw; replace hSw := And.intro (row8 hSw.a) (And.intro (row8 hSw.b) (And.intro (row8 hSw.c) (row8 hSw.x))); go_simp; all_goals (with_reducible rfl))
  try simp only [Act.put, List.setIfInBounds_toArray, List.set_cons_zero, List.set_cons_succ]
  refine wpAnyH_take (i := 49) (v := ?hgv49) (by simp only [List.getElem?_toArray, List.getElem?_cons_succ, List.getElem?_cons_zero]; exact rfl) (by kernel_rfl) (by kernel_rfl) (by kernel_rfl) (fun _ _ _ h => h) (Or.inl ⟨by rfl, ?hgy49⟩) K10.out.1 ?hgr49
  case hgy49 => (intro wh hSw; replace hSw := And.intro (row8 hSw.a) (And.intro (row8 hSw.b) (And.intro (row8 hSw.c) (row8 hSw.x))); go_simp; all_goals (with_reducible rfl))
  try simp only [Act.put, List.setIfInBounds_toArray, List.set_cons_zero, List.set_cons_succ]
  refine wpAnyH_take (i := 50) (v := ?hgv50) (by simp only [List.getElem?_toArray, List.getElem?_cons_succ, List.getElem?_cons_zero]; exact rfl) (by kernel_rfl) (by kernel_rfl) (by kernel_rfl) (fun _ _ _ h => h) (Or.inl ⟨by rfl, ?hgy50⟩) K10.out.1 ?hgr50
  case hgy50 => (intro wh hSw; replace hSw := And.intro (row8 hSw.a) (And.intro (row8 hSw.b) (And.intro (row8 hSw.c) (row8 hSw.x))); go_simp; all_goals (with_reducible rfl))
  try simp only [Act.put, List.setIfInBounds_toArray, List.set_cons_zero, List.set_cons_succ]
  refine wpAnyH_take (i := 53) (v := ?hgv53) (by simp only [List.getElem?_toArray, List.getElem?_cons_succ, List.getElem?_cons_zero]; exact rfl) (by kernel_rfl) (by kernel_rfl) (by kernel_rfl) (fun _ _ _ h => h) (Or.inl ⟨by rfl, ?hgy53⟩) K10.out.1 ?hgr53
  case hgy53 => (intro wh hSw; replace hSw := And.intro (row8 hSw.a) (And.intro (row8 hSw.b) (And.intro (row8 hSw.c) (row8 hSw.x))); go_simp; all_goals (with_reducible rfl))
  try simp only [Act.put, List.setIfInBounds_toArray, List.set_cons_zero, List.set_cons_succ]
  refine wpAnyH_ready (rs := [51]) (by kernel_rfl) (by simp) ?_
  refine AllReadyH.cons (by simp only [List.getElem?_toArray, List.getElem?_cons_succ, List.getElem?_cons_zero]; exact rfl) (fun K hK => ?_) AllReadyH.nil
  go_simp
  have K11 := hide (And.intro (K10.out.1.step (kept_alloc (kept_refl _) (.cells #[.int .i64 a0, .int .i64 a1, .int .i64 a2, .int .i64 a3, .int .i64 a4, .int .i64 a5, .int .i64 a6, .int .i64 a7] 25))) (K10.out.2.more 25 #[.int .i64 a0, .int .i64 a1, .int .i64 a2, .int .i64 a3, .int .i64 a4, .int .i64 a5, .int .i64 a6, .int .i64 a7]))
  refine hK.out _ _ K11.out.1 (fun hx => ?_)
  clear hx hK K K10
  generalize World.alloc w10 _ = w11 at K11 ⊢
  generalize w10.heap.size = p51 at K11 ⊢
  clear w10
  refine wpAnyH_ready (rs := [52]) (by kernel_rfl) (by simp) ?_
  refine AllReadyH.cons (by simp only [List.getElem?_toArray, List.getElem?_cons_succ, List.getElem?_cons_zero]; exact rfl) (fun K hK => ?_) AllReadyH.nil
  go_simp
  refine (join_rows K11.out.2 p51 1 [[a0, a1, a2, a3, a4, a5, a6, a7]] #[.int .i64 a0, .int .i64 a1, .int .i64 a2, .int .i64 a3, .int .i64 a4, .int .i64 a5, .int .i64 a6, .int .i64 a7] (by simp) rfl (All.cons_ rfl All.nil_) rfl (join_one [a0, a1, a2, a3, a4, a5, a6, a7]) (by omega)).mono ?_
  rintro e w12 ⟨rfl, hb⟩
  have K12 := hide (And.intro (K11.out.1.step hb) (K11.out.2.below hb))
  refine hK.out _ _ K12.out.1 (fun hx => ?_)
  clear hx hK K K11 hb
  try simp only [List.setIfInBounds_toArray, List.set_cons_zero, List.set_cons_succ]
  clear w11
  refine wpAnyH_take (i := 54) (v := ?hgv54) (by simp only [List.getElem?_toArray, List.getElem?_cons_succ, List.getElem?_cons_zero]; exact rfl) (by kernel_rfl) (by kernel_rfl) (by kernel_rfl) (fun _ _ _ h => h) (Or.inl ⟨by rfl, ?hgy54⟩) K12.out.1 ?hgr54
  case hgy54 => (intro wh hSw; replace hSw := And.intro (row8 hSw.a) (And.intro (row8 hSw.b) (And.intro (row8 hSw.c) (row8 hSw.x))); go_simp; all_goals (with_reducible rfl))
  try simp only [Act.put, List.setIfInBounds_toArray, List.set_cons_zero, List.set_cons_succ]
  refine wpAnyH_take (i := 55) (v := ?hgv55) (by simp only [List.getElem?_toArray, List.getElem?_cons_succ, List.getElem?_cons_zero]; exact rfl) (by kernel_rfl) (by kernel_rfl) (by kernel_rfl) (fun _ _ _ h => h) (Or.inl ⟨by rfl, ?hgy55⟩) K12.out.1 ?hgr55
  case hgy55 => (intro wh hSw; replace hSw := And.intro (row8 hSw.a) (And.intro (row8 hSw.b) (And.intro (row8 hSw.c) (row8 hSw.x))); go_simp; all_goals (with_reducible rfl))
  try simp only [Act.put, List.setIfInBounds_toArray, List.set_cons_zero, List.set_cons_succ]
  refine wpAnyH_take (i := 56) (v := ?hgv56) (by simp only [List.getElem?_toArray, List.getElem?_cons_succ, List.getElem?_cons_zero]; exact rfl) (by kernel_rfl) (by kernel_rfl) (by kernel_rfl) (fun _ _ _ h => h) (Or.inl ⟨by rfl, ?hgy56⟩) K12.out.1 ?hgr56
  case hgy56 => (intro wh hSw; replace hSw := And.intro (row8 hSw.a) (And.intro (row8 hSw.b) (And.intro (row8 hSw.c) (row8 hSw.x))); go_simp; all_goals (with_reducible rfl))
  try simp only [Act.put, List.setIfInBounds_toArray, List.set_cons_zero, List.set_cons_succ]
  refine wpAnyH_ready (rs := [57]) (by kernel_rfl) (by simp) ?_
  refine AllReadyH.cons (by simp only [List.getElem?_toArray, List.getElem?_cons_succ, List.getElem?_cons_zero]; exact rfl) (fun K hK => ?_) AllReadyH.nil
  go_simp
  refine (runs_any w12).mono ?_
  rintro e w13 ⟨rfl, hb⟩
  have K13 := hide (And.intro (K12.out.1.step hb) (K12.out.2.below hb))
  refine hK.out _ _ K13.out.1 (fun hx => ?_)
  clear hx hK K K12 hb
  try simp only [List.setIfInBounds_toArray, List.set_cons_zero, List.set_cons_succ]
  clear w12
  refine wpAnyH_take (i := 58) (v := ?hgv58) (by simp only [List.getElem?_toArray, List.getElem?_cons_succ, List.getElem?_cons_zero]; exact rfl) (by kernel_rfl) (by kernel_rfl) (by kernel_rfl) (fun _ _ _ h => h) (Or.inl ⟨by rfl, ?hgy58⟩) K13.out.1 ?hgr58
  case hgy58 => (intro wh hSw; replace hSw := And.intro (row8 hSw.a) (And.intro (row8 hSw.b) (And.intro (row8 hSw.c) (row8 hSw.x))); go_simp; all_goals (with_reducible rfl))
  try simp only [Act.put, List.setIfInBounds_toArray, List.set_cons_zero, List.set_cons_succ]
  refine wpAnyH_take (i := 59) (v := ?hgv59) (by simp only [List.getElem?_toArray, List.getElem?_cons_succ, List.getElem?_cons_zero]; exact rfl) (by kernel_rfl) (by kernel_rfl) (by kernel_rfl) (fun _ _ _ h => h) (Or.inl ⟨by rfl, ?hgy59⟩) K13.out.1 ?hgr59
  case hgy59 => (intro wh hSw; replace hSw := And.intro (row8 hSw.a) (And.intro (row8 hSw.b) (And.intro (row8 hSw.c) (row8 hSw.x))); go_simp; all_goals (with_reducible rfl))
  try simp only [Act.put, List.setIfInBounds_toArray, List.set_cons_zero, List.set_cons_succ]
  refine wpAnyH_done (by kernel_rfl) ?_ _
  refine NoPanic.normal ?_
  have LW := hide K13.out.1.low
  clear K13
  go_wp2
  go_ret
  exact ⟨rfl, LW.out⟩
set_option maxRecDepth 100000 in
theorem lifted (os : Os) (started : os.Started) (H : Type) (enc : TypeId × Value → H) :
    ReturnsInHanded {} Try.checked os 5 .any (Rows.depsJoinsSpec.pre6 enc Try.prog Try.f5 Rows.depsJoinsRow.domain false) (Rows.depsJoinsSpec.post enc Try.prog Try.f5 false true false false) := by
  refine returnsInHanded_of_change (C := Try.checked) own started (by kernel_rfl) Try.func5
    (ChangeSpec.witness6 (enc := enc) (C := Try.checked) false ⟨#[], #[.agg #[.int .i64 0, .int .i64 0, .int .i64 0, .int .i64 0, .int .i64 0, .int .i64 0, .int .i64 0, .int .i64 0], .agg #[.int .i64 0, .int .i64 0, .int .i64 0, .int .i64 0, .int .i64 0, .int .i64 0, .int .i64 0, .int .i64 0], .agg #[.int .i64 0, .int .i64 0, .int .i64 0, .int .i64 0, .int .i64 0, .int .i64 0, .int .i64 0, .int .i64 0]], []⟩ 8 (by kernel_rfl) (by kernel_rfl) (by kernel_rfl) (by kernel_rfl)) ?_
  intro W base args ds gs before hval0 hW _ _
  have hval : ∀ (j : Nat) t v, Try.f5.params[j]? = some t → args[j]? = some v → Value.okWide Try.prog W .any base t v := hval0
  have hW' := hW
  obtain ⟨p, q, hA0, hV, rfl, _, _⟩ := hW
  have hA : DataW.TrodAll enc Try.prog W 0 (fun _ => true) true Try.f5.params.toList args.toList ds p := hA0
  rw [Try.params5] at hA hval
  obtain ⟨v0, vs0, d0, ds0, p0, q0, hargs, rfl, rfl, h0, r0⟩ := trodAll_cons hA
  obtain ⟨v1, vs1, d1, ds1, p1, q1, rfl, rfl, rfl, h1, r1⟩ := trodAll_cons r0
  obtain ⟨v2, vs2, d2, ds2, p2, q2, rfl, rfl, rfl, h2, r2⟩ := trodAll_cons r1
  obtain ⟨rfl, rfl, rfl⟩ := trodAll_nil r2
  obtain rfl : args = #[v0, v1, v2] := by cases args; simp_all
  obtain ⟨rfl, rfl⟩ := trodVars_none hV
  have k0 := h0
  have lt0 : ∀ x ∈ p0, x.block < W.heap.size := by obtain ⟨m, hm⟩ := k0; exact DataW.trod_lt m _ _ _ hm
  obtain ⟨e0x0, e0x1, e0x2, e0x3, e0x4, e0x5, e0x6, e0x7, rfl, s0⟩ := attr_in (hval 0 25 v0 rfl rfl) h0
  have k1 := h1
  have lt1 : ∀ x ∈ p1, x.block < W.heap.size := by obtain ⟨m, hm⟩ := k1; exact DataW.trod_lt m _ _ _ hm
  obtain ⟨e1x0, e1x1, e1x2, e1x3, e1x4, e1x5, e1x6, e1x7, rfl, s1⟩ := attr_in (hval 1 25 v1 rfl rfl) h1
  have k2 := h2
  have lt2 : ∀ x ∈ p2, x.block < W.heap.size := by obtain ⟨m, hm⟩ := k2; exact DataW.trod_lt m _ _ _ hm
  obtain ⟨e2x0, e2x1, e2x2, e2x3, e2x4, e2x5, e2x6, e2x7, rfl, s2⟩ := attr_in (hval 2 25 v2 rfl rfl) h2
  clear hA0 hval0
  refine (walk e0x0 e0x1 e0x2 e0x3 e0x4 e0x5 e0x6 e0x7 e1x0 e1x1 e1x2 e1x3 e1x4 e1x5 e1x6 e1x7 e2x0 e2x1 e2x2 e2x3 e2x4 e2x5 e2x6 e2x7 W s0 s1 s2).mono fun e W' ⟨he, bel⟩ => ?_
  subst he
  exact ⟨_, rfl, _, _, _, [], _, [], hW', trodAll_mk1 (shut_bool Try.underlying4 _), (trodAll_cons_mk (Below.trod laidOut (by kernel_rfl) (of_decide_eq_true (by kernel_rfl)) k0 bel lt0) (trodAll_cons_mk (Below.trod laidOut (by kernel_rfl) (of_decide_eq_true (by kernel_rfl)) k1 bel lt1) (trodAll_cons_mk (Below.trod laidOut (by kernel_rfl) (of_decide_eq_true (by kernel_rfl)) k2 bel lt2) trodAll_mk0))), rfl, bel.frame _, fun h => by cases h⟩
theorem over : Rows.depsJoinsRow.holds Try.pinned (OpenSpec.ofChange Rows.depsJoinsSpec) :=
  OpenClaim.holds_of_wide 5 Try.f5 rfl rfl rfl rfl rfl rfl rfl ⟨rfl, rfl, rfl, rfl, rfl⟩ rfl rfl rfl rfl rfl (by kernel_rfl) Try.func5 (by kernel_rfl)
    (of_decide_eq_true (by kernel_rfl)) (by unfold Func.isWrapper; first | (rw [if_pos (by decide +kernel)]; kernel_rfl) | (rw [if_neg (by decide +kernel)]; exact ⟨rfl, rfl⟩))
    (fun os started H enc _ => lifted os started H enc)
theorem proved : Rows.DepsJoinsSaid := over
end Go.Proofs.Ytpngcocmjbkfgaa.depsJoins
