/- The document's Join of two. No condition. -/
import Derived.Test.YtpngcocmjbkfgaaJoin
import Derived.RegionTactic
namespace Go.Proofs.Ytpngcocmjbkfgaa
open Go.RowKit
/-- While it goes on: the first one's block (it becomes the joined one), the second one's, the answer's. -/
structure Jr (W w : World) (x y : List Int) : Prop where
  low : Below W.heap.size W w
  j : Row w W.heap.size 25 (cA x)
  b : Row w (W.heap.size + 1) 25 (cA y)
  res : Row w (W.heap.size + 1 + 1) 25 (cA zero8)
theorem Jr.put {W w : World} {x y z : List Int} (h : Jr W w x y) (i : Nat) (v : Value) (he : (cA x).setIfInBounds i v = cA z) : Jr W (w.setCell ⟨W.heap.size, i, none⟩ v) z y :=
  ⟨h.low.setCell (Nat.le_refl _) v, he ▸ h.j.put i v, (Below.heap_setCell w ⟨W.heap.size, i, none⟩ v (W.heap.size + 1) (by show W.heap.size + 1 ≠ W.heap.size; omega)).trans h.b, (Below.heap_setCell w ⟨W.heap.size, i, none⟩ v (W.heap.size + 1 + 1) (by show W.heap.size + 1 + 1 ≠ W.heap.size; omega)).trans h.res⟩
theorem Jr.drew {W w : World} {x y : List Int} (h : Jr W w x y) : Jr W w.drew x y := ⟨kept_drewN h.low 1, h.j.drew, h.b.drew, h.res.drew⟩
set_option maxRecDepth 100000 in
set_option maxHeartbeats 4000000 in
theorem refjoin_any (a0 a1 a2 a3 a4 a5 a6 a7 b0 b1 b2 b3 b4 b5 b6 b7 : Int) (w : World) : Calls Try.prog 17 #[.agg #[.int .i64 a0, .int .i64 a1, .int .i64 a2, .int .i64 a3, .int .i64 a4, .int .i64 a5, .int .i64 a6, .int .i64 a7], .agg #[.int .i64 b0, .int .i64 b1, .int .i64 b2, .int .i64 b3, .int .i64 b4, .int .i64 b5, .int .i64 b6, .int .i64 b7]] w fun e w' => e = .returned (.agg (cA (maxA [a0, a1, a2, a3, a4, a5, a6, a7] [b0, b1, b2, b3, b4, b5, b6, b7]))) ∧ Below w.heap.size w w' := by
  have KW := hide (show Jr w (((w.alloc (.cells #[.int .i64 a0, .int .i64 a1, .int .i64 a2, .int .i64 a3, .int .i64 a4, .int .i64 a5, .int .i64 a6, .int .i64 a7] 25)).alloc (.cells #[.int .i64 b0, .int .i64 b1, .int .i64 b2, .int .i64 b3, .int .i64 b4, .int .i64 b5, .int .i64 b6, .int .i64 b7] 25)).alloc (.cells (cA zero8) 25)) [a0, a1, a2, a3, a4, a5, a6, a7] [b0, b1, b2, b3, b4, b5, b6, b7] from
    ⟨kept_alloc (kept_alloc (kept_alloc (kept_refl w) _) _) _, ((Row.new w _ _).alloc _).alloc _, by have h := (Row.new (w.alloc (.cells #[.int .i64 a0, .int .i64 a1, .int .i64 a2, .int .i64 a3, .int .i64 a4, .int .i64 a5, .int .i64 a6, .int .i64 a7] 25)) 25 #[.int .i64 b0, .int .i64 b1, .int .i64 b2, .int .i64 b3, .int .i64 b4, .int .i64 b5, .int .i64 b6, .int .i64 b7]).alloc (.cells (cA zero8) 25); simpa [cA, cellsR] using h,
      by have h := Row.new ((w.alloc (.cells #[.int .i64 a0, .int .i64 a1, .int .i64 a2, .int .i64 a3, .int .i64 a4, .int .i64 a5, .int .i64 a6, .int .i64 a7] 25)).alloc (.cells #[.int .i64 b0, .int .i64 b1, .int .i64 b2, .int .i64 b3, .int .i64 b4, .int .i64 b5, .int .i64 b6, .int .i64 b7] 25)) 25 (cA zero8); simpa using h⟩)
  go_enter Try.func17, Try.ntmps17
  go_upto_region 1 with (fail)
  replace KW : Hid (Jr w (((w.alloc (.cells #[.int .i64 a0, .int .i64 a1, .int .i64 a2, .int .i64 a3, .int .i64 a4, .int .i64 a5, .int .i64 a6, .int .i64 a7] 25)).alloc (.cells #[.int .i64 b0, .int .i64 b1, .int .i64 b2, .int .i64 b3, .int .i64 b4, .int .i64 b5, .int .i64 b6, .int .i64 b7] 25)).alloc (.cells #[.int .i64 0, .int .i64 0, .int .i64 0, .int .i64 0, .int .i64 0, .int .i64 0, .int .i64 0, .int .i64 0] 25)) [a0, a1, a2, a3, a4, a5, a6, a7] [b0, b1, b2, b3, b4, b5, b6, b7]) := KW
  generalize World.alloc (World.alloc (World.alloc w _) _) _ = w1 at KW ⊢
  have f0 : w1.cell? ⟨w.heap.size, 0, none⟩ = some (.int .i64 a0) := KW.out.j.cell 0
  have f1 : w1.cell? ⟨w.heap.size + 1, 0, none⟩ = some (.int .i64 b0) := KW.out.b.cell 0
  have g0 := KW.out.j.free 0
  have KJ := hide (KW.out.put 0 (.int .i64 (max a0 b0)) (set_mix0 (a := [a0, a1, a2, a3, a4, a5, a6, a7]) [b0, b1, b2, b3, b4, b5, b6, b7] rfl))
  clear KW
  go_upto_region 2 with (fail)
  generalize World.setCell w1 _ _ = w2 at KJ ⊢
  clear f0 f1 g0
  go_wp2
  go_loopw [5] (fun i wr => ∃ m : Nat, m ≤ 7 ∧ i = .int .i64 m ∧ Hid (Jr w wr (mixA [a0, a1, a2, a3, a4, a5, a6, a7] [b0, b1, b2, b3, b4, b5, b6, b7] m) [b0, b1, b2, b3, b4, b5, b6, b7])) (fun i _ => 7 - (intOf i).toNat)
  case atStart => exact ⟨0, by omega, rfl, KJ⟩
  case round =>
    clear KJ
    obtain ⟨m, hm, rfl, J2⟩ := hrel
    by_cases hm7 : m < 7
    · have f0 := row_cA J2.out.drew.j (1 + m) (by rw [len_mixA]; omega)
      have f1 := row_cA J2.out.drew.b (1 + m) (by show 1 + m < 8; omega)
      have g0 := J2.out.drew.j.free (1 + m)
      have J3 := hide (J2.out.drew.put (1 + m) _ (set_mix [a0, a1, a2, a3, a4, a5, a6, a7] [b0, b1, b2, b3, b4, b5, b6, b7] hm7))
      generalize ix [b0, b1, b2, b3, b4, b5, b6, b7] (1 + m) = q at f1 J3
      generalize ix (mixA [a0, a1, a2, a3, a4, a5, a6, a7] [b0, b1, b2, b3, b4, b5, b6, b7] m) (1 + m) = p at f0 J3
      have hm0 : (0 : Int) ≤ m := by omega
      have hm8 : (m : Int) < 7 := by omega
      clear J2
      go_wp2
      go_region
      go_wp2
      go_roundw
      case rel => exact ⟨m + 1, by omega, by go_num, J3⟩
      case measure => simp [intOf]; omega
    · obtain rfl : m = 7 := by omega
      have HZ := hide (mix_all [a0, a1, a2, a3, a4, a5, a6, a7] [b0, b1, b2, b3, b4, b5, b6, b7])
      have hz := len_mixA [a0, a1, a2, a3, a4, a5, a6, a7] [b0, b1, b2, b3, b4, b5, b6, b7] 7
      generalize mixA [a0, a1, a2, a3, a4, a5, a6, a7] [b0, b1, b2, b3, b4, b5, b6, b7] 7 = z at HZ hz J2
      obtain ⟨z0, z1, z2, z3, z4, z5, z6, z7, rfl⟩ := len8 hz
      obtain ⟨e0, e1, e2, e3, e4, e5, e6, e7⟩ := J2.out.j.eight
      replace e0 : wr.cell? ⟨w.heap.size, 0, none⟩ = some (.int .i64 z0) := e0
      replace e1 : wr.cell? ⟨w.heap.size, 1, none⟩ = some (.int .i64 z1) := e1
      replace e2 : wr.cell? ⟨w.heap.size, 2, none⟩ = some (.int .i64 z2) := e2
      replace e3 : wr.cell? ⟨w.heap.size, 3, none⟩ = some (.int .i64 z3) := e3
      replace e4 : wr.cell? ⟨w.heap.size, 4, none⟩ = some (.int .i64 z4) := e4
      replace e5 : wr.cell? ⟨w.heap.size, 5, none⟩ = some (.int .i64 z5) := e5
      replace e6 : wr.cell? ⟨w.heap.size, 6, none⟩ = some (.int .i64 z6) := e6
      replace e7 : wr.cell? ⟨w.heap.size, 7, none⟩ = some (.int .i64 z7) := e7
      obtain ⟨k0, k1, k2, k3, k4, k5, k6, k7⟩ := J2.out.res.eight
      replace k0 : wr.cell? ⟨w.heap.size + 1 + 1, 0, none⟩ = some (.int .i64 0) := k0
      replace k1 : wr.cell? ⟨w.heap.size + 1 + 1, 1, none⟩ = some (.int .i64 0) := k1
      replace k2 : wr.cell? ⟨w.heap.size + 1 + 1, 2, none⟩ = some (.int .i64 0) := k2
      replace k3 : wr.cell? ⟨w.heap.size + 1 + 1, 3, none⟩ = some (.int .i64 0) := k3
      replace k4 : wr.cell? ⟨w.heap.size + 1 + 1, 4, none⟩ = some (.int .i64 0) := k4
      replace k5 : wr.cell? ⟨w.heap.size + 1 + 1, 5, none⟩ = some (.int .i64 0) := k5
      replace k6 : wr.cell? ⟨w.heap.size + 1 + 1, 6, none⟩ = some (.int .i64 0) := k6
      replace k7 : wr.cell? ⟨w.heap.size + 1 + 1, 7, none⟩ = some (.int .i64 0) := k7
      obtain ⟨g0, g1, g2, g3, g4, g5, g6, g7⟩ := J2.out.res.free8
      clear hz
      go_wp2
      exact bodyPost_ret (results_at8 Try.results17 rfl (row_eight J2.out.res _ _ _ _ _ _ _ _)) rfl ⟨by rw [← HZ.out]; rfl, below_eight J2.out.low (by omega) _ _ _ _ _ _ _ _⟩
end Go.Proofs.Ytpngcocmjbkfgaa
