/- Proved: the law DepsCovers returns true. Conditions: none beyond the row's own. -/
import Derived.Test.YtpngcocmjbkfgaaFrame
import Derived.Test.YtpngcocmjbkfgaaRuns
import Derived.Test.YtpngcocmjbkfgaaCov
import Derived.Test.YtpngcocmjbkfgaaArgs8
import Derived.Deep.DeepCutAuto
namespace Go.Proofs.Ytpngcocmjbkfgaa.depsCovers
open Go.ChangeShapes Go.WideShapes Go.ChangeAt Go.RowKit
structure Bx (W w : World) (a1 a2 a3 a4 a5 a6 a7 b1 b2 b3 b4 b5 b6 b7 c1 c2 c3 c4 c5 c6 c7 x y : Int) : Prop where
  low : Below W.heap.size W w
  a : Row w W.heap.size 23 #[.int .i64 a1, .int .i64 a2, .int .i64 a3, .int .i64 a4, .int .i64 a5, .int .i64 a6, .int .i64 a7]
  b : Row w (W.heap.size + 1) 23 #[.int .i64 b1, .int .i64 b2, .int .i64 b3, .int .i64 b4, .int .i64 b5, .int .i64 b6, .int .i64 b7]
  c : Row w (W.heap.size + 1 + 1) 23 #[.int .i64 c1, .int .i64 c2, .int .i64 c3, .int .i64 c4, .int .i64 c5, .int .i64 c6, .int .i64 c7]
  i : Row w (W.heap.size + 1 + 1 + 1) 34 #[.int .i64 x, .int .i64 y]
theorem Bx.step {W w w' : World} {a1 a2 a3 a4 a5 a6 a7 b1 b2 b3 b4 b5 b6 b7 c1 c2 c3 c4 c5 c6 c7 x y : Int} (h : Bx W w a1 a2 a3 a4 a5 a6 a7 b1 b2 b3 b4 b5 b6 b7 c1 c2 c3 c4 c5 c6 c7 x y) (hb : Below w.heap.size w w') : Bx W w' a1 a2 a3 a4 a5 a6 a7 b1 b2 b3 b4 b5 b6 b7 c1 c2 c3 c4 c5 c6 c7 x y :=
  ⟨kept_trans h.low hb, h.a.below hb h.a.lt, h.b.below hb h.b.lt, h.c.below hb h.c.lt, h.i.below hb h.i.lt⟩
theorem Bx.start (W : World) (a1 a2 a3 a4 a5 a6 a7 b1 b2 b3 b4 b5 b6 b7 c1 c2 c3 c4 c5 c6 c7 x y : Int) : Bx W ((((W.alloc (.cells #[.int .i64 a1, .int .i64 a2, .int .i64 a3, .int .i64 a4, .int .i64 a5, .int .i64 a6, .int .i64 a7] 23)).alloc (.cells #[.int .i64 b1, .int .i64 b2, .int .i64 b3, .int .i64 b4, .int .i64 b5, .int .i64 b6, .int .i64 b7] 23)).alloc (.cells #[.int .i64 c1, .int .i64 c2, .int .i64 c3, .int .i64 c4, .int .i64 c5, .int .i64 c6, .int .i64 c7] 23)).alloc (.cells #[.int .i64 x, .int .i64 y] 34)) a1 a2 a3 a4 a5 a6 a7 b1 b2 b3 b4 b5 b6 b7 c1 c2 c3 c4 c5 c6 c7 x y := by
  have h2 := Row.new (W.alloc (.cells #[.int .i64 a1, .int .i64 a2, .int .i64 a3, .int .i64 a4, .int .i64 a5, .int .i64 a6, .int .i64 a7] 23)) 23 #[.int .i64 b1, .int .i64 b2, .int .i64 b3, .int .i64 b4, .int .i64 b5, .int .i64 b6, .int .i64 b7]
  have h3 := Row.new ((W.alloc (.cells #[.int .i64 a1, .int .i64 a2, .int .i64 a3, .int .i64 a4, .int .i64 a5, .int .i64 a6, .int .i64 a7] 23)).alloc (.cells #[.int .i64 b1, .int .i64 b2, .int .i64 b3, .int .i64 b4, .int .i64 b5, .int .i64 b6, .int .i64 b7] 23)) 23 #[.int .i64 c1, .int .i64 c2, .int .i64 c3, .int .i64 c4, .int .i64 c5, .int .i64 c6, .int .i64 c7]
  have h4 := Row.new (((W.alloc (.cells #[.int .i64 a1, .int .i64 a2, .int .i64 a3, .int .i64 a4, .int .i64 a5, .int .i64 a6, .int .i64 a7] 23)).alloc (.cells #[.int .i64 b1, .int .i64 b2, .int .i64 b3, .int .i64 b4, .int .i64 b5, .int .i64 b6, .int .i64 b7] 23)).alloc (.cells #[.int .i64 c1, .int .i64 c2, .int .i64 c3, .int .i64 c4, .int .i64 c5, .int .i64 c6, .int .i64 c7] 23)) 34 #[.int .i64 x, .int .i64 y]
  simp only [World.size_alloc] at h2 h3 h4
  exact ⟨kept_alloc (kept_alloc (kept_alloc (kept_alloc (kept_refl W) _) _) _) _, (((Row.new W _ _).alloc _).alloc _).alloc _, (h2.alloc _).alloc _, h3.alloc _, h4⟩
set_option maxRecDepth 100000 in
set_option maxHeartbeats 8000000 in
theorem walk (a1 a2 a3 a4 a5 a6 a7 b1 b2 b3 b4 b5 b6 b7 c1 c2 c3 c4 c5 c6 c7 x y : Int) (W : World) (_ : ∀ n, n ∈ [a1, a2, a3, a4, a5, a6, a7] → I64 n) (_ : ∀ n, n ∈ [b1, b2, b3, b4, b5, b6, b7] → I64 n) (_ : ∀ n, n ∈ [c1, c2, c3, c4, c5, c6, c7] → I64 n) (_ : -9223372036854775808 ≤ x ∧ x ≤ 9223372036854775807) (_ : -9223372036854775808 ≤ y ∧ y ≤ 9223372036854775807) :
    Calls Try.prog 9 #[.agg #[.int .i64 a1, .int .i64 a2, .int .i64 a3, .int .i64 a4, .int .i64 a5, .int .i64 a6, .int .i64 a7], .agg #[.int .i64 b1, .int .i64 b2, .int .i64 b3, .int .i64 b4, .int .i64 b5, .int .i64 b6, .int .i64 b7], .agg #[.int .i64 c1, .int .i64 c2, .int .i64 c3, .int .i64 c4, .int .i64 c5, .int .i64 c6, .int .i64 c7], .agg #[.int .i64 x, .int .i64 y]] W fun e w' => e = .returned (.bool true) ∧ Below W.heap.size W w' := by
  have T1 := hide (fun h k => covers_trans (a := [a1, a2, a3, a4, a5, a6, a7]) (b := [b1, b2, b3, b4, b5, b6, b7]) (c := [c1, c2, c3, c4, c5, c6, c7]) h k)
  have T2 : Hid (coversB [a1, a2, a3, a4, a5, a6, a7] [b1, b2, b3, b4, b5, b6, b7] = true → coversB [b1, b2, b3, b4, b5, b6, b7] [a1, a2, a3, a4, a5, a6, a7] = true → ∀ w, (binOp .neq 23 (.agg #[.int .i64 a1, .int .i64 a2, .int .i64 a3, .int .i64 a4, .int .i64 a5, .int .i64 a6, .int .i64 a7]) (.agg #[.int .i64 b1, .int .i64 b2, .int .i64 b3, .int .i64 b4, .int .i64 b5, .int .i64 b6, .int .i64 b7])).run Try.prog w = .ok (.bool false) w) := fun h k w => by
    rw [neq_deps, decide_eq_true (covers_same h k)]; rfl
  have T3 := hide (fun h k => covers_reach (a := [a1, a2, a3, a4, a5, a6, a7]) (b := [b1, b2, b3, b4, b5, b6, b7]) (r := x) (s := y) h k)
  have haa := covers_refl [a1, a2, a3, a4, a5, a6, a7]
  have KB := hide (Bx.start W a1 a2 a3 a4 a5 a6 a7 b1 b2 b3 b4 b5 b6 b7 c1 c2 c3 c4 c5 c6 c7 x y)
  go_enter Try.func9, Try.ntmps9
  go_upto_region 1 with (fail)
  generalize World.alloc (World.alloc (World.alloc (World.alloc W _) _) _) _ = w1 at KB ⊢
  have fa := KB.out.a.seven
  have fb := KB.out.b.seven
  have fc := KB.out.c.seven
  have fi := KB.out.i.two
  cases hab : coversB [a1, a2, a3, a4, a5, a6, a7] [b1, b2, b3, b4, b5, b6, b7] <;> cases hbc : coversB [b1, b2, b3, b4, b5, b6, b7] [c1, c2, c3, c4, c5, c6, c7] <;> cases hba : coversB [b1, b2, b3, b4, b5, b6, b7] [a1, a2, a3, a4, a5, a6, a7] <;> cases hbi : reachB [b1, b2, b3, b4, b5, b6, b7] x y
  all_goals
    first | have hac := T1.out hab hbc | skip
    first | have hne := T2.out hab hba | skip
    first | have hai := T3.out hab hbi | skip
    clear T1 T2 T3
    go_wp2_with (first
      | (go_at_call 21; (with_reducible refine (covers_any _ _ _ _ _ _ _ _ _ _ _ _ _ _ _).mono ?_); rintro e w' ⟨rfl, hb⟩; clear fa fb fc fi; replace KB := hide (KB.out.step hb); have fa := KB.out.a.seven; have fb := KB.out.b.seven; have fc := KB.out.c.seven; have fi := KB.out.i.two; clear hb)
      | (go_at_call 14; (with_reducible refine (reach_any _ _ _ _ _ _ _ _ _ _).mono ?_); rintro e w' ⟨rfl, hb⟩; clear fa fb fc fi; replace KB := hide (KB.out.step hb); have fa := KB.out.a.seven; have fb := KB.out.b.seven; have fc := KB.out.c.seven; have fi := KB.out.i.two; clear hb)
      | (go_at_call 3; (with_reducible refine (runs_any _).mono ?_); rintro e w' ⟨rfl, hb⟩; clear fa fb fc fi; replace KB := hide (KB.out.step hb); clear hb))
    go_ret
    exact ⟨rfl, KB.out.low⟩
set_option maxRecDepth 100000 in
theorem lifted (os : Os) (started : os.Started) (H : Type) (enc : TypeId × Value → H) :
    ReturnsInHanded {} Try.checked os 9 .any (Rows.depsCoversSpec.pre6 enc Try.prog Try.f9 Rows.depsCoversRow.domain false) (Rows.depsCoversSpec.post enc Try.prog Try.f9 false true false false) := by
  refine returnsInHanded_of_change (C := Try.checked) own started (by kernel_rfl) Try.func9
    (ChangeSpec.witness6 (enc := enc) (C := Try.checked) false ⟨#[], #[.agg #[.int .i64 0, .int .i64 0, .int .i64 0, .int .i64 0, .int .i64 0, .int .i64 0, .int .i64 0], .agg #[.int .i64 0, .int .i64 0, .int .i64 0, .int .i64 0, .int .i64 0, .int .i64 0, .int .i64 0], .agg #[.int .i64 0, .int .i64 0, .int .i64 0, .int .i64 0, .int .i64 0, .int .i64 0, .int .i64 0], .agg #[.int .i64 0, .int .i64 0]], []⟩ 8 (by kernel_rfl) (by kernel_rfl) (by kernel_rfl) (by kernel_rfl)) ?_
  intro W base args ds gs before hval0 hW _ _
  have hval : ∀ (j : Nat) t v, Try.f9.params[j]? = some t → args[j]? = some v → Value.okWide Try.prog W .any base t v := hval0
  have hW' := hW
  obtain ⟨p, q, hA0, hV, rfl, _, _⟩ := hW
  have hA : DataW.TrodAll enc Try.prog W 0 (fun _ => true) true Try.f9.params.toList args.toList ds p := hA0
  rw [Try.params9] at hA hval
  obtain ⟨v0, vs0, d0, ds0, p0, q0, hargs, rfl, rfl, h0, r0⟩ := trodAll_cons hA
  obtain ⟨v1, vs1, d1, ds1, p1, q1, rfl, rfl, rfl, h1, r1⟩ := trodAll_cons r0
  obtain ⟨v2, vs2, d2, ds2, p2, q2, rfl, rfl, rfl, h2, r2⟩ := trodAll_cons r1
  obtain ⟨v3, vs3, d3, ds3, p3, q3, rfl, rfl, rfl, h3, r3⟩ := trodAll_cons r2
  obtain ⟨rfl, rfl, rfl⟩ := trodAll_nil r3
  obtain rfl : args = #[v0, v1, v2, v3] := by cases args; simp_all
  obtain ⟨rfl, rfl⟩ := trodVars_none hV
  have k0 := h0
  have lt0 : ∀ x ∈ p0, x.block < W.heap.size := by obtain ⟨m, hm⟩ := k0; exact DataW.trod_lt m _ _ _ hm
  obtain ⟨e0x1, e0x2, e0x3, e0x4, e0x5, e0x6, e0x7, rfl, s0⟩ := deps_in (hval 0 23 v0 rfl rfl) h0
  have k1 := h1
  have lt1 : ∀ x ∈ p1, x.block < W.heap.size := by obtain ⟨m, hm⟩ := k1; exact DataW.trod_lt m _ _ _ hm
  obtain ⟨e1x1, e1x2, e1x3, e1x4, e1x5, e1x6, e1x7, rfl, s1⟩ := deps_in (hval 1 23 v1 rfl rfl) h1
  have k2 := h2
  have lt2 : ∀ x ∈ p2, x.block < W.heap.size := by obtain ⟨m, hm⟩ := k2; exact DataW.trod_lt m _ _ _ hm
  obtain ⟨e2x1, e2x2, e2x3, e2x4, e2x5, e2x6, e2x7, rfl, s2⟩ := deps_in (hval 2 23 v2 rfl rfl) h2
  have k3 := h3
  have lt3 : ∀ x ∈ p3, x.block < W.heap.size := by obtain ⟨m, hm⟩ := k3; exact DataW.trod_lt m _ _ _ hm
  obtain ⟨x3, y3, rfl, bx3, by3⟩ := inst_in (hval 3 34 v3 rfl rfl) h3
  clear hA0 hval0
  refine (walk e0x1 e0x2 e0x3 e0x4 e0x5 e0x6 e0x7 e1x1 e1x2 e1x3 e1x4 e1x5 e1x6 e1x7 e2x1 e2x2 e2x3 e2x4 e2x5 e2x6 e2x7 x3 y3 W s0 s1 s2 bx3 by3).mono fun e W' ⟨he, bel⟩ => ?_
  subst he
  exact ⟨_, rfl, _, _, _, [], _, [], hW', trodAll_mk1 (shut_bool Try.underlying4 _), (trodAll_cons_mk (Below.trod laidOut (by kernel_rfl) (of_decide_eq_true (by kernel_rfl)) k0 bel lt0) (trodAll_cons_mk (Below.trod laidOut (by kernel_rfl) (of_decide_eq_true (by kernel_rfl)) k1 bel lt1) (trodAll_cons_mk (Below.trod laidOut (by kernel_rfl) (of_decide_eq_true (by kernel_rfl)) k2 bel lt2) (trodAll_cons_mk (Below.trod laidOut (by kernel_rfl) (of_decide_eq_true (by kernel_rfl)) k3 bel lt3) trodAll_mk0)))), rfl, bel.frame _, fun h => by cases h⟩
theorem over : Rows.depsCoversRow.holds Try.pinned (OpenSpec.ofChange Rows.depsCoversSpec) :=
  OpenClaim.holds_of_wide 9 Try.f9 rfl rfl rfl rfl rfl rfl rfl ⟨rfl, rfl, rfl, rfl, rfl⟩ rfl rfl rfl rfl rfl (by kernel_rfl) Try.func9 (by kernel_rfl)
    (of_decide_eq_true (by kernel_rfl)) (by unfold Func.isWrapper; first | (rw [if_pos (by decide +kernel)]; kernel_rfl) | (rw [if_neg (by decide +kernel)]; exact ⟨rfl, rfl⟩))
    (fun os started H enc _ => lifted os started H enc)
theorem proved : Rows.DepsCoversSaid := over
end Go.Proofs.Ytpngcocmjbkfgaa.depsCovers
