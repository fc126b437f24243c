/- Proved: the law InstTells returns true. Conditions: none beyond the row's own. -/
import Derived.Test.YtnbknhgfjjgcjaaFrame
import Derived.Test.YtnbknhgfjjgcjaaRuns
import Derived.Test.YtnbknhgfjjgcjaaSp
import Derived.Deep.DeepCutAuto
namespace Go.Proofs.Ytnbknhgfjjgcjaa.instTells
open Go.ChangeShapes Go.WideShapes Go.ChangeAt Go.RowKit
structure P4 (W w : World) (g1 g2 g3 g4 : Nat) (a1 a2 b1 b2 x1 x2 y1 y2 : Int) : Prop where
  low : Below W.heap.size W w
  p1 : Pr w g1 a1 a2
  p2 : Pr w g2 b1 b2
  p3 : Pr w g3 x1 x2
  p4 : Pr w g4 y1 y2
theorem P4.step {W w w' : World} {g1 g2 g3 g4 : Nat} {a1 a2 b1 b2 x1 x2 y1 y2 : Int} (h : P4 W w g1 g2 g3 g4 a1 a2 b1 b2 x1 x2 y1 y2) (hb : Below w.heap.size w w') : P4 W w' g1 g2 g3 g4 a1 a2 b1 b2 x1 x2 y1 y2 :=
  ⟨kept_trans h.low hb, h.p1.kept hb, h.p2.kept hb, h.p3.kept hb, h.p4.kept hb⟩
theorem P4.drew {W w : World} {g1 g2 g3 g4 : Nat} {a1 a2 b1 b2 x1 x2 y1 y2 : Int} (h : P4 W w g1 g2 g3 g4 a1 a2 b1 b2 x1 x2 y1 y2) : P4 W w.drew g1 g2 g3 g4 a1 a2 b1 b2 x1 x2 y1 y2 :=
  ⟨kept_drewN h.low 1, h.p1.drew, h.p2.drew, h.p3.drew, h.p4.drew⟩
theorem P4.start (W : World) (a1 a2 b1 b2 x1 x2 y1 y2 : Int) (t u : TypeId) : P4 W ((((W.alloc (.cells #[.int .i64 a1, .int .i64 a2] t)).alloc (.cells #[.int .i64 b1, .int .i64 b2] t)).alloc (.cells #[.int .i64 x1, .int .i64 x2] u)).alloc (.cells #[.int .i64 y1, .int .i64 y2] u))
    W.heap.size (W.heap.size + 1) (W.heap.size + 1 + 1) (W.heap.size + 1 + 1 + 1) a1 a2 b1 b2 x1 x2 y1 y2 := by
  have h1 := Pr.new W a1 a2 t
  have h2 := Pr.new (W.alloc (.cells #[.int .i64 a1, .int .i64 a2] t)) b1 b2 t
  have h3 := Pr.new ((W.alloc (.cells #[.int .i64 a1, .int .i64 a2] t)).alloc (.cells #[.int .i64 b1, .int .i64 b2] t)) x1 x2 u
  have h4 := Pr.new (((W.alloc (.cells #[.int .i64 a1, .int .i64 a2] t)).alloc (.cells #[.int .i64 b1, .int .i64 b2] t)).alloc (.cells #[.int .i64 x1, .int .i64 x2] u)) y1 y2 u
  simp only [World.size_alloc] at h2 h3 h4
  exact ⟨kept_alloc (kept_alloc (kept_alloc (kept_alloc (kept_refl W) _) _) _) _, ((h1.alloc _).alloc _).alloc _, (h2.alloc _).alloc _, h3.alloc _, h4⟩
theorem clsI (r s : Int) : (rightI r s = true ∧ decide (0 ≤ r) = true ∧ decide (r < 7) = true ∧ decide (1 ≤ s) = true ∧ decide (s ≤ 1073741824) = true) ∨ (rightI r s = false ∧ decide (0 ≤ r) = false) ∨ (rightI r s = false ∧ decide (0 ≤ r) = true ∧ decide (r < 7) = false) ∨
    (rightI r s = false ∧ decide (0 ≤ r) = true ∧ decide (r < 7) = true ∧ decide (1 ≤ s) = false) ∨ (rightI r s = false ∧ decide (0 ≤ r) = true ∧ decide (r < 7) = true ∧ decide (1 ≤ s) = true ∧ decide (s ≤ 1073741824) = false) := by
  unfold rightI repB
  cases decide (0 ≤ r) <;> cases decide (r < 7) <;> cases decide (1 ≤ s) <;> cases decide (s ≤ 1073741824) <;> simp
set_option maxRecDepth 100000 in
set_option maxHeartbeats 4000000 in
theorem walk (a1 a2 b1 b2 x1 x2 y1 y2 r : Int) (W : World) (_ : -9223372036854775808 ≤ a1 ∧ a1 ≤ 9223372036854775807) (_ : -9223372036854775808 ≤ a2 ∧ a2 ≤ 9223372036854775807) (_ : -9223372036854775808 ≤ b1 ∧ b1 ≤ 9223372036854775807) (_ : -9223372036854775808 ≤ b2 ∧ b2 ≤ 9223372036854775807)
    (_ : -9223372036854775808 ≤ x1 ∧ x1 ≤ 9223372036854775807) (_ : -9223372036854775808 ≤ x2 ∧ x2 ≤ 9223372036854775807) (_ : -9223372036854775808 ≤ y1 ∧ y1 ≤ 9223372036854775807) (_ : -9223372036854775808 ≤ y2 ∧ y2 ≤ 9223372036854775807) (_ : -9223372036854775808 ≤ r ∧ r ≤ 9223372036854775807) :
    Calls Try.prog 4 #[.agg #[.int .i64 a1, .int .i64 a2], .agg #[.int .i64 b1, .int .i64 b2], .agg #[.int .i64 x1, .int .i64 x2], .agg #[.int .i64 y1, .int .i64 y2], .int .i64 r] W fun e w' => e = .returned (.bool true) ∧ Below W.heap.size W w' := by
  have heq := eql_ballot
  have s7 : sameB (wrap64 (x1 + 1)) r (IntKind.i64.wrap (x1 + 1)) r = true := by rw [IntWalk.i64_left]; unfold sameB; simp
  have c1 := fun w => right_any a1 a2 w
  have c2 := fun w => rightballot_any x1 x2 w
  have c3 := fun w => less_at a1 a2 b1 b2 w
  have c4 := fun w => refless_any a1 a2 b1 b2 w
  have c5 := fun w => below_any x1 x2 y1 y2 w
  have c6 := fun w => refbelow_any x1 x2 y1 y2 w
  have c7 := fun w => next_any x1 x2 r w
  have k1 := clsI a1 a2
  have HQ := hide (show rightB x1 x2 = (decide (0 ≤ x2) && decide (x2 < 7) && decide (0 ≤ x1) && decide (x1 ≤ 1073741824)) from rfl)
  generalize rightI a1 a2 = p at c1 k1
  generalize rightB x1 x2 = q at c2 HQ
  generalize ltP (a1, a2) (b1, b2) = l at c3 c4
  generalize ltP (x1, x2) (y1, y2) = m at c5 c6
  have K1 := hide k1
  have st0 := hide (P4.start W a1 a2 b1 b2 x1 x2 y1 y2 25 35)
  have C1 := hide c1
  have C2 := hide c2
  have C3 := hide c3
  have C4 := hide c4
  have C5 := hide c5
  have C6 := hide c6
  have C7 := hide c7
  clear k1 c1 c2 c3 c4 c5 c6 c7
  go_enter Try.func4, Try.ntmps4
  go_upto_region 1 with (fail)
  generalize (World.alloc (World.alloc (World.alloc (World.alloc W _) _) _) _) = w1 at st0 ⊢
  have f0 := st0.out.p3.c0
  have f1 := st0.out.p3.c1
  go_cut [11] (fun s11 wx => s11 = .bool q ∧ wx = w1)
  case first =>
    go_wp2_with fail
    all_goals go_meet
    all_goals exact ⟨congrArg Value.bool (by rw [HQ.out]; first | (simp [*]; done) | (simp [*] <;> omega)), rfl⟩
  case rest =>
    obtain ⟨rfl, rfl⟩ := hcut
    clear f0 f1
    go_upto_region 2 with (fail)
    refine wp_region_sp (fun w' => P4 W w' W.heap.size (W.heap.size + 1) (W.heap.size + 1 + 1) (W.heap.size + 1 + 1 + 1) a1 a2 b1 b2 x1 x2 y1 y2) (by kernel_rfl) (by kernel_rfl) st0.out.drew ?_
    have step : ∀ w w', P4 W w W.heap.size (W.heap.size + 1) (W.heap.size + 1 + 1) (W.heap.size + 1 + 1 + 1) a1 a2 b1 b2 x1 x2 y1 y2 → Below w.heap.size w w' → P4 W w' W.heap.size (W.heap.size + 1) (W.heap.size + 1 + 1) (W.heap.size + 1 + 1 + 1) a1 a2 b1 b2 x1 x2 y1 y2 := fun _ _ h hb => h.step hb
    generalize hS : (fun w' => P4 W w' W.heap.size (W.heap.size + 1) (W.heap.size + 1 + 1) (W.heap.size + 1 + 1 + 1) a1 a2 b1 b2 x1 x2 y1 y2) = S
    have l1 : ∀ k : Sp S, k.w.cell? ⟨W.heap.size, 0, none⟩ = some (.int .i64 a1) := by subst hS; exact fun k => k.ok.p1.c0
    have l2 : ∀ k : Sp S, k.w.cell? ⟨W.heap.size, 1, none⟩ = some (.int .i64 a2) := by subst hS; exact fun k => k.ok.p1.c1
    have l3 : ∀ k : Sp S, k.w.cell? ⟨W.heap.size + 1, 0, none⟩ = some (.int .i64 b1) := by subst hS; exact fun k => k.ok.p2.c0
    have l4 : ∀ k : Sp S, k.w.cell? ⟨W.heap.size + 1, 1, none⟩ = some (.int .i64 b2) := by subst hS; exact fun k => k.ok.p2.c1
    have l5 : ∀ k : Sp S, k.w.cell? ⟨W.heap.size + 1 + 1, 0, none⟩ = some (.int .i64 x1) := by subst hS; exact fun k => k.ok.p3.c0
    have l6 : ∀ k : Sp S, k.w.cell? ⟨W.heap.size + 1 + 1, 1, none⟩ = some (.int .i64 x2) := by subst hS; exact fun k => k.ok.p3.c1
    have l7 : ∀ k : Sp S, k.w.cell? ⟨W.heap.size + 1 + 1 + 1, 0, none⟩ = some (.int .i64 y1) := by subst hS; exact fun k => k.ok.p4.c0
    have l8 : ∀ k : Sp S, k.w.cell? ⟨W.heap.size + 1 + 1 + 1, 1, none⟩ = some (.int .i64 y2) := by subst hS; exact fun k => k.ok.p4.c1
    have ne : Nonempty (Sp S) := by subst hS; exact ⟨⟨_, st0.out⟩⟩
    have step' : ∀ w w', S w → Below w.heap.size w w' → S w' := by subst hS; exact step
    have old : ∀ k : Sp S, Below W.heap.size W k.w := by subst hS; exact fun k => k.ok.low
    have OLD := hide old
    have STEP := hide step'
    clear step step' old
    clear hS
    refine wpQuiet_cut (R := fun a' => ∃ v32 v33 v34 v35 v36 v37 v38 v39 v40 v41 v42 v43 v44 v45 v46 v47 v48 v49, a' = { tmps := List.toArray ((.agg #[.int .i64 a1, .int .i64 a2]) :: (.agg #[.int .i64 b1, .int .i64 b2]) :: (.agg #[.int .i64 x1, .int .i64 x2]) :: (.agg #[.int .i64 y1, .int .i64 y2]) :: (.int .i64 r) :: (.pointer (some ⟨W.heap.size, 0, none⟩)) :: (.pointer (some ⟨W.heap.size + 1, 0, none⟩)) :: (.pointer (some ⟨W.heap.size + 1 + 1, 0, none⟩)) :: (.pointer (some ⟨W.heap.size + 1 + 1 + 1, 0, none⟩)) :: undef :: (.bool false) :: (.bool q) :: u12 :: u13 :: u14 :: u15 :: u16 :: u17 :: u18 :: u19 :: u20 :: u21 :: u22 :: u23 :: u24 :: u25 :: u26 :: u27 :: u28 :: u29 :: (.agg #[.int .i64 a1, .int .i64 a2]) :: (.bool p) :: v32 :: v33 :: v34 :: v35 :: v36 :: v37 :: v38 :: v39 :: v40 :: v41 :: v42 :: v43 :: v44 :: v45 :: v46 :: v47 :: v48 :: v49 :: (.bool true) :: u51 :: u52 :: u53 :: u54 :: u55 :: u56 :: u57 :: u58 :: u59 :: u60 :: u61 :: u62 :: u63 :: u64 :: u65 :: u66 :: u67 :: u68 :: u69 :: u70 :: u71 :: u72 :: u73 :: u74 :: u75 :: u76 :: u77 :: u78 :: u79 :: u80 :: u81 :: u82 :: u83 :: u84 :: u85 :: u86 :: u87 :: u88 :: u89 :: u90 :: u91 :: u92 :: u93 :: []), defers := [] }) 21 _ _ ?_ ?_
    · rcases K1.out with ⟨rfl, h1, h2, h3, h4⟩ | ⟨rfl, h1⟩ | ⟨rfl, h1, h2⟩ | ⟨rfl, h1, h2, h3⟩ | ⟨rfl, h1, h2, h3, h4⟩
      all_goals
        clear K1
        generalize hac : (Act.mk _ _) = ac
        iterate 21 (
          refine wpQuiet_step (fun K hK => ?_)
          subst hac
          go_simp
          first
            | (revert hK; generalize hac : (Act.mk _ _) = ac; intro hK; refine hK _ ?_; clear hK K)
            | (apply Exists.intro; refine ⟨fun _ => ?_, ?_⟩; (first | (go_at_call 19; exact sp_call STEP.out _ (C1.out _)) | (go_at_call 22; exact sp_call STEP.out _ (C2.out _)) | (go_at_call 15; exact sp_call STEP.out _ (C3.out _)) | (go_at_call 20; exact sp_call STEP.out _ (C4.out _)) | (go_at_call 16; exact sp_call STEP.out _ (C5.out _)) | (go_at_call 21; exact sp_call STEP.out _ (C6.out _)) | (go_at_call 17; exact sp_call STEP.out _ (C7.out _)) | (go_at_call 3; exact sp_call STEP.out _ (runs_any _))); revert hK; generalize hac : (Act.mk _ _) = ac; intro hK; refine hK _ ?_; clear hK K))
        refine wpQuiet_nil ?_
        subst hac
        exact ⟨_, _, _, _, _, _, _, _, _, _, _, _, _, _, _, _, _, _, rfl⟩
    · rintro _ ⟨v32, v33, v34, v35, v36, v37, v38, v39, v40, v41, v42, v43, v44, v45, v46, v47, v48, v49, rfl⟩
      clear K1
      obtain ⟨t, ht⟩ : ∃ t, (x1 == 9223372036854775807) = t := ⟨_, rfl⟩
      generalize hac : (Act.mk _ _) = ac
      iterate 28 (
        refine wpQuiet_step (fun K hK => ?_)
        subst hac
        go_simp
        first
          | (revert hK; generalize hac : (Act.mk _ _) = ac; intro hK; refine hK _ ?_; clear hK K)
          | (apply Exists.intro; refine ⟨fun _ => ?_, ?_⟩; (first | (go_at_call 19; exact sp_call STEP.out _ (C1.out _)) | (go_at_call 22; exact sp_call STEP.out _ (C2.out _)) | (go_at_call 15; exact sp_call STEP.out _ (C3.out _)) | (go_at_call 20; exact sp_call STEP.out _ (C4.out _)) | (go_at_call 16; exact sp_call STEP.out _ (C5.out _)) | (go_at_call 21; exact sp_call STEP.out _ (C6.out _)) | (go_at_call 17; exact sp_call STEP.out _ (C7.out _)) | (go_at_call 3; exact sp_call STEP.out _ (runs_any _))); revert hK; generalize hac : (Act.mk _ _) = ac; intro hK; refine hK _ ?_; clear hK K))
      clear ht
      cases t
      all_goals
        repeat (
          refine wpQuiet_step (fun K hK => ?_)
          subst hac
          go_simp
          first
            | (revert hK; generalize hac : (Act.mk _ _) = ac; intro hK; refine hK _ ?_; clear hK K)
            | (apply Exists.intro; refine ⟨fun _ => ?_, ?_⟩; (first | (go_at_call 19; exact sp_call STEP.out _ (C1.out _)) | (go_at_call 22; exact sp_call STEP.out _ (C2.out _)) | (go_at_call 15; exact sp_call STEP.out _ (C3.out _)) | (go_at_call 20; exact sp_call STEP.out _ (C4.out _)) | (go_at_call 16; exact sp_call STEP.out _ (C5.out _)) | (go_at_call 21; exact sp_call STEP.out _ (C6.out _)) | (go_at_call 17; exact sp_call STEP.out _ (C7.out _)) | (go_at_call 3; exact sp_call STEP.out _ (runs_any _))); revert hK; generalize hac : (Act.mk _ _) = ac; intro hK; refine hK _ ?_; clear hK K))
        refine wpQuiet_nil ?_
        subst hac
        intro kk
        have OK := hide (OLD.out kk)
        generalize kk.w = wk at OK ⊢
        clear l1 l2 l3 l4 l5 l6 l7 l8 ne OLD STEP
        go_wp2
        go_ret
        exact ⟨rfl, OK.out⟩
set_option maxRecDepth 100000 in
theorem lifted (os : Os) (started : os.Started) (H : Type) (enc : TypeId × Value → H) :
    ReturnsInHanded {} Try.checked os 4 .any (Rows.instTellsSpec.pre6 enc Try.prog Try.f4 Rows.instTellsRow.domain false) (Rows.instTellsSpec.post enc Try.prog Try.f4 false true false false) := by
  refine returnsInHanded_of_change (C := Try.checked) own started (by kernel_rfl) Try.func4
    (ChangeSpec.witness6 (enc := enc) (C := Try.checked) false ⟨#[], #[.agg #[.int .i64 0, .int .i64 0], .agg #[.int .i64 0, .int .i64 0], .agg #[.int .i64 0, .int .i64 0], .agg #[.int .i64 0, .int .i64 0], .int .i64 0], []⟩ 8 (by kernel_rfl) (by kernel_rfl) (by kernel_rfl) (by kernel_rfl)) ?_
  intro W base args ds gs before hval0 hW _ _
  have hval : ∀ (j : Nat) t v, Try.f4.params[j]? = some t → args[j]? = some v → Value.okWide Try.prog W .any base t v := hval0
  have hW' := hW
  obtain ⟨p, q, hA0, hV, rfl, _, _⟩ := hW
  have hA : DataW.TrodAll enc Try.prog W 0 (fun _ => true) true Try.f4.params.toList args.toList ds p := hA0
  rw [Try.params4] at hA hval
  obtain ⟨v0, vs0, d0, ds0, p0, q0, hargs, rfl, rfl, h0, r0⟩ := trodAll_cons hA
  obtain ⟨v1, vs1, d1, ds1, p1, q1, rfl, rfl, rfl, h1, r1⟩ := trodAll_cons r0
  obtain ⟨v2, vs2, d2, ds2, p2, q2, rfl, rfl, rfl, h2, r2⟩ := trodAll_cons r1
  obtain ⟨v3, vs3, d3, ds3, p3, q3, rfl, rfl, rfl, h3, r3⟩ := trodAll_cons r2
  obtain ⟨v4, vs4, d4, ds4, p4, q4, rfl, rfl, rfl, h4, r4⟩ := trodAll_cons r3
  obtain ⟨rfl, rfl, rfl⟩ := trodAll_nil r4
  obtain rfl : args = #[v0, v1, v2, v3, v4] := by cases args; simp_all
  obtain ⟨rfl, rfl⟩ := trodVars_none hV
  have k0 := h0
  have lt0 : ∀ x ∈ p0, x.block < W.heap.size := by obtain ⟨m, hm⟩ := k0; exact DataW.trod_lt m _ _ _ hm
  obtain ⟨x0, y0, rfl, bx0, by0⟩ := inst_in (hval 0 25 v0 rfl rfl) h0
  have k1 := h1
  have lt1 : ∀ x ∈ p1, x.block < W.heap.size := by obtain ⟨m, hm⟩ := k1; exact DataW.trod_lt m _ _ _ hm
  obtain ⟨x1, y1, rfl, bx1, by1⟩ := inst_in (hval 1 25 v1 rfl rfl) h1
  have k2 := h2
  have lt2 : ∀ x ∈ p2, x.block < W.heap.size := by obtain ⟨m, hm⟩ := k2; exact DataW.trod_lt m _ _ _ hm
  obtain ⟨x2, y2, rfl, bx2, by2⟩ := ballot_in (hval 2 35 v2 rfl rfl) h2
  have k3 := h3
  have lt3 : ∀ x ∈ p3, x.block < W.heap.size := by obtain ⟨m, hm⟩ := k3; exact DataW.trod_lt m _ _ _ hm
  obtain ⟨x3, y3, rfl, bx3, by3⟩ := ballot_in (hval 3 35 v3 rfl rfl) h3
  obtain ⟨a4, rfl, rfl, rfl, w4⟩ := open_int Try.underlying3 (hval 4 3 v4 rfl rfl) h4
  clear hA0 hval0
  refine (walk x0 y0 x1 y1 x2 y2 x3 y3 a4 W bx0 by0 bx1 by1 bx2 by2 bx3 by3 (bounds_i64 w4)).mono fun e W' ⟨he, bel⟩ => ?_
  subst he
  exact ⟨_, rfl, _, _, _, [], _, [], hW', trodAll_mk1 (shut_bool Try.underlying4 _), (trodAll_cons_mk (Below.trod laidOut (by kernel_rfl) (of_decide_eq_true (by kernel_rfl)) k0 bel lt0) (trodAll_cons_mk (Below.trod laidOut (by kernel_rfl) (of_decide_eq_true (by kernel_rfl)) k1 bel lt1) (trodAll_cons_mk (Below.trod laidOut (by kernel_rfl) (of_decide_eq_true (by kernel_rfl)) k2 bel lt2) (trodAll_cons_mk (Below.trod laidOut (by kernel_rfl) (of_decide_eq_true (by kernel_rfl)) k3 bel lt3) (trodAll_cons_mk (shut_int Try.underlying3 w4) trodAll_mk0))))), rfl, bel.frame _, fun h => by cases h⟩
theorem over : Rows.instTellsRow.holds Try.pinned (OpenSpec.ofChange Rows.instTellsSpec) :=
  OpenClaim.holds_of_wide 4 Try.f4 rfl rfl rfl rfl rfl rfl rfl ⟨rfl, rfl, rfl, rfl, rfl⟩ rfl rfl rfl rfl rfl (by kernel_rfl) Try.func4 (by kernel_rfl)
    (of_decide_eq_true (by kernel_rfl)) (by unfold Func.isWrapper; first | (rw [if_pos (by decide +kernel)]; kernel_rfl) | (rw [if_neg (by decide +kernel)]; exact ⟨rfl, rfl⟩))
    (fun os started H enc _ => lifted os started H enc)
theorem proved : Rows.InstTellsSaid := over
end Go.Proofs.Ytnbknhgfjjgcjaa.instTells
