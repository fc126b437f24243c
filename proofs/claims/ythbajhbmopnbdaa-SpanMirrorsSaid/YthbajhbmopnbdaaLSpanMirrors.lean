/- Proved: the law SpanMirrors returns true. Conditions: none beyond the row's own. -/
import Derived.Test.YthbajhbmopnbdaaFrame
import Derived.Test.YthbajhbmopnbdaaRuns
import Derived.Test.YthbajhbmopnbdaaFact
import Derived.Deep.DeepCutAuto
import Derived.Deep.RegionHeld3
namespace Go.Proofs.Ythbajhbmopnbdaa.spanMirrors
open Go.ChangeShapes Go.WideShapes Go.ChangeAt Go.RowKit
theorem St.start3 (W : World) (a b c d e f : ByteArray) (t : TypeId) : St W (((W.alloc (.cells #[.string a, .string b] t)).alloc (.cells #[.string c, .string d] t)).alloc (.cells #[.string e, .string f] t)) W.heap.size (W.heap.size + 1) (W.heap.size + 1 + 1) a b c d e f := by
  have s := St.start W a b c d t
  have h3 := Two.new ((W.alloc (.cells #[.string a, .string b] t)).alloc (.cells #[.string c, .string d] t)) e f t
  simp only [World.size_alloc] at h3
  have s' := s.step ((Below.refl _ _).alloc (Nat.le_refl _) (.cells #[.string e, .string f] t))
  exact ⟨s'.one, s'.two, h3, s'.old⟩
theorem cov_ways (la ha lb hb lc hc : ByteArray) :
    covB la ha lb hb = false ∨ (covB la ha lb hb = true ∧ covB lb hb lc hc = false) ∨ (covB la ha lb hb = true ∧ covB lb hb lc hc = true ∧ covB la ha lc hc = true) ∨
    (covB la ha lb hb = true ∧ covB lb hb lc hc = true ∧ covB la ha lc hc = false ∧ emB lb hb = true) := by
  have g := cov_on la ha lb hb lc hc
  revert g
  cases covB la ha lb hb <;> cases covB lb hb lc hc <;> cases covB la ha lc hc <;> cases emB lb hb <;> simp
set_option maxRecDepth 100000 in
set_option maxHeartbeats 8000000 in
theorem walk (la ha lb hb lc hc : ByteArray) (W : World) :
    Calls Try.prog 6 #[.agg #[.string la, .string ha], .agg #[.string lb, .string hb], .agg #[.string lc, .string hc]] W fun e w' => e = .returned (.bool true) ∧ Below W.heap.size W w' := by
  go_enter Try.func6, Try.ntmps6
  go_upto_region 1 with (fail)
  go_cut [31] (fun s31 wx => s31 = .bool false ∧ St W wx W.heap.size (W.heap.size + 1) (W.heap.size + 1 + 1) la ha lb hb lc hc)
  case first =>
    have st := St.start3 W la ha lb hb lc hc 23
    generalize ((W.alloc (.cells #[.string la, .string ha] 23)).alloc (.cells #[.string lb, .string hb] 23)).alloc (.cells #[.string lc, .string hc] 23) = wx at *
    have d0 := st.one.c0
    have d1 := st.one.c1
    have d2 := st.two.c0
    have d3 := st.two.c1
    have d4 := st.three.c0
    have d5 := st.three.c1
    have e1 := meet_swap lb hb la ha
    have e2 := max_swap lb la
    have e3 := min_swap hb ha
    have e4 := meet_self la ha
    have e5 : ((!emB la ha) == emB la ha) = false := by cases emB la ha <;> rfl
    go_region_held3 (fun w' => w'.cell? ⟨W.heap.size, 0, none⟩ = some (.string la) ∧ w'.cell? ⟨W.heap.size, 1, none⟩ = some (.string ha) ∧ w'.cell? ⟨W.heap.size + 1, 0, none⟩ = some (.string lb) ∧ w'.cell? ⟨W.heap.size + 1, 1, none⟩ = some (.string hb) ∧ w'.cell? ⟨W.heap.size + 1 + 1, 0, none⟩ = some (.string lc) ∧ w'.cell? ⟨W.heap.size + 1 + 1, 1, none⟩ = some (.string hc)) (go_keep)
      (first
        | (go_at_call 12; (with_reducible refine (St.call (W := W) (k := W.heap.size) (l := W.heap.size + 1) (m := W.heap.size + 1 + 1) (a := la) (b := ha) (c := lb) (d := hb) (e := lc) (f := hc) (by first | with_reducible assumption | with_reducible exact St.drew (by with_reducible assumption)) (meets_any _ _ _ _ _)).mono ?_); rintro e w' ⟨rfl, q0, q1, q2, q3, q4, q5, st'⟩)
        | (go_at_call 11; (with_reducible refine (St.call (W := W) (k := W.heap.size) (l := W.heap.size + 1) (m := W.heap.size + 1 + 1) (a := la) (b := ha) (c := lb) (d := hb) (e := lc) (f := hc) (by first | with_reducible assumption | with_reducible exact St.drew (by with_reducible assumption)) (empty_any _ _ _)).mono ?_); rintro e w' ⟨rfl, q0, q1, q2, q3, q4, q5, st'⟩)
        | (go_at_call 14; (with_reducible refine (St.call (W := W) (k := W.heap.size) (l := W.heap.size + 1) (m := W.heap.size + 1 + 1) (a := la) (b := ha) (c := lb) (d := hb) (e := lc) (f := hc) (by first | with_reducible assumption | with_reducible exact St.drew (by with_reducible assumption)) (both_any _ _ _ _ _)).mono ?_); rintro e w' ⟨rfl, q0, q1, q2, q3, q4, q5, st'⟩))
    all_goals
      go_wp2_with fail
      go_meet
      exact ⟨rfl, st'⟩
  case rest =>
    obtain ⟨rfl, st⟩ := hcut
    go_upto_region 3 with (fail)
    go_cut [7] (fun s7 wx => s7 = .bool (meetB la ha lb hb) ∧ St W wx W.heap.size (W.heap.size + 1) (W.heap.size + 1 + 1) la ha lb hb lc hc)
    case first =>
      have d0 := st.one.c0
      have d1 := st.one.c1
      have d2 := st.two.c0
      have d3 := st.two.c1
      have d4 := st.three.c0
      have d5 := st.three.c1
      have hm := hide (meet_both la ha lb hb)
      go_wp2_with (first
        | (go_at_call 11; (with_reducible refine (St.call (W := W) (k := W.heap.size) (l := W.heap.size + 1) (m := W.heap.size + 1 + 1) (a := la) (b := ha) (c := lb) (d := hb) (e := lc) (f := hc) (by first | with_reducible assumption | with_reducible exact St.drew (by with_reducible assumption)) (empty_any _ _ _)).mono ?_); rintro e w' ⟨rfl, q0, q1, q2, q3, q4, q5, st'⟩)
        | (go_at_call 14; (with_reducible refine (St.call (W := W) (k := W.heap.size) (l := W.heap.size + 1) (m := W.heap.size + 1 + 1) (a := la) (b := ha) (c := lb) (d := hb) (e := lc) (f := hc) (by first | with_reducible assumption | with_reducible exact St.drew (by with_reducible assumption)) (both_any _ _ _ _ _)).mono ?_); rintro e w' ⟨rfl, q0, q1, q2, q3, q4, q5, st'⟩))
      all_goals go_meet
      all_goals exact ⟨congrArg Value.bool (by rw [hm.out]; simp [*]), by with_reducible assumption⟩
    case rest =>
      obtain ⟨rfl, st⟩ := hcut
      have d0 := st.one.c0
      have d1 := st.one.c1
      have d2 := st.two.c0
      have d3 := st.two.c1
      have d4 := st.three.c0
      have d5 := st.three.c1
      have e1 := cov_self la ha
      rcases cov_ways la ha lb hb lc hc with f1 | ⟨f1, f2⟩ | ⟨f1, f2, f3⟩ | ⟨f1, f2, f3, f4⟩
      all_goals
        go_wp2_with (first
            | (go_at_call 12; (with_reducible refine (St.call (W := W) (k := W.heap.size) (l := W.heap.size + 1) (m := W.heap.size + 1 + 1) (a := la) (b := ha) (c := lb) (d := hb) (e := lc) (f := hc) (by first | with_reducible assumption | with_reducible exact St.drew (by with_reducible assumption)) (meets_any _ _ _ _ _)).mono ?_); rintro e w' ⟨rfl, q0, q1, q2, q3, q4, q5, st'⟩)
            | (go_at_call 13; (with_reducible refine (St.call (W := W) (k := W.heap.size) (l := W.heap.size + 1) (m := W.heap.size + 1 + 1) (a := la) (b := ha) (c := lb) (d := hb) (e := lc) (f := hc) (by first | with_reducible assumption | with_reducible exact St.drew (by with_reducible assumption)) (covers_any _ _ _ _ _)).mono ?_); rintro e w' ⟨rfl, q0, q1, q2, q3, q4, q5, st'⟩)
            | (go_at_call 11; (with_reducible refine (St.call (W := W) (k := W.heap.size) (l := W.heap.size + 1) (m := W.heap.size + 1 + 1) (a := la) (b := ha) (c := lb) (d := hb) (e := lc) (f := hc) (by first | with_reducible assumption | with_reducible exact St.drew (by with_reducible assumption)) (empty_any _ _ _)).mono ?_); rintro e w' ⟨rfl, q0, q1, q2, q3, q4, q5, st'⟩)
            | (go_at_call 3; (with_reducible refine (St.call (W := W) (k := W.heap.size) (l := W.heap.size + 1) (m := W.heap.size + 1 + 1) (a := la) (b := ha) (c := lb) (d := hb) (e := lc) (f := hc) (by first | with_reducible assumption | with_reducible exact St.drew (by with_reducible assumption)) (runs_any _)).mono ?_); rintro e w' ⟨rfl, q0, q1, q2, q3, q4, q5, st'⟩))
        go_ret
        exact ⟨rfl, st'.old⟩
set_option maxRecDepth 100000 in
theorem lifted (os : Os) (started : os.Started) (H : Type) (enc : TypeId × Value → H) :
    ReturnsInHanded {} Try.checked os 6 .any (Rows.spanMirrorsSpec.pre6 enc Try.prog Try.f6 Rows.spanMirrorsRow.domain false) (Rows.spanMirrorsSpec.post enc Try.prog Try.f6 false true false false) := by
  refine returnsInHanded_of_change (C := Try.checked) own started (by kernel_rfl) Try.func6
    (ChangeSpec.witness6 (enc := enc) (C := Try.checked) false ⟨#[], #[.agg #[.string ⟨#[]⟩, .string ⟨#[]⟩], .agg #[.string ⟨#[]⟩, .string ⟨#[]⟩], .agg #[.string ⟨#[]⟩, .string ⟨#[]⟩]], []⟩ 8 (by kernel_rfl) (by kernel_rfl) (by kernel_rfl) (by kernel_rfl)) ?_
  intro W base args ds gs before hval0 hW _ _
  have hval : ∀ (j : Nat) t v, Try.f6.params[j]? = some t → args[j]? = some v → Value.okWide Try.prog W .any base t v := hval0
  have hW' := hW
  obtain ⟨p, q, hA0, hV, rfl, _, _⟩ := hW
  have hA : DataW.TrodAll enc Try.prog W 0 (fun _ => true) true Try.f6.params.toList args.toList ds p := hA0
  rw [Try.params6] at hA hval
  obtain ⟨v0, vs0, d0, ds0, p0, q0, hargs, rfl, rfl, h0, r0⟩ := trodAll_cons hA
  obtain ⟨v1, vs1, d1, ds1, p1, q1, rfl, rfl, rfl, h1, r1⟩ := trodAll_cons r0
  obtain ⟨v2, vs2, d2, ds2, p2, q2, rfl, rfl, rfl, h2, r2⟩ := trodAll_cons r1
  obtain ⟨rfl, rfl, rfl⟩ := trodAll_nil r2
  obtain rfl : args = #[v0, v1, v2] := by cases args; simp_all
  obtain ⟨rfl, rfl⟩ := trodVars_none hV
  have k0 := h0
  have lt0 : ∀ x ∈ p0, x.block < W.heap.size := by obtain ⟨m, hm⟩ := k0; exact DataW.trod_lt m _ _ _ hm
  obtain ⟨x0, y0, rfl⟩ := span_in (hval 0 23 v0 rfl rfl) h0
  have k1 := h1
  have lt1 : ∀ x ∈ p1, x.block < W.heap.size := by obtain ⟨m, hm⟩ := k1; exact DataW.trod_lt m _ _ _ hm
  obtain ⟨x1, y1, rfl⟩ := span_in (hval 1 23 v1 rfl rfl) h1
  have k2 := h2
  have lt2 : ∀ x ∈ p2, x.block < W.heap.size := by obtain ⟨m, hm⟩ := k2; exact DataW.trod_lt m _ _ _ hm
  obtain ⟨x2, y2, rfl⟩ := span_in (hval 2 23 v2 rfl rfl) h2
  clear hA0 hval0
  refine (walk x0 y0 x1 y1 x2 y2 W).mono fun e W' ⟨he, bel⟩ => ?_
  subst he
  exact ⟨_, rfl, _, _, _, [], _, [], hW', trodAll_mk1 (shut_bool Try.underlying4 _), (trodAll_cons_mk (Below.trod laidOut (by kernel_rfl) (of_decide_eq_true (by kernel_rfl)) k0 bel lt0) (trodAll_cons_mk (Below.trod laidOut (by kernel_rfl) (of_decide_eq_true (by kernel_rfl)) k1 bel lt1) (trodAll_cons_mk (Below.trod laidOut (by kernel_rfl) (of_decide_eq_true (by kernel_rfl)) k2 bel lt2) trodAll_mk0))), rfl, bel.frame _, fun h => by cases h⟩
theorem over : Rows.spanMirrorsRow.holds Try.pinned (OpenSpec.ofChange Rows.spanMirrorsSpec) :=
  OpenClaim.holds_of_wide 6 Try.f6 rfl rfl rfl rfl rfl rfl rfl ⟨rfl, rfl, rfl, rfl, rfl⟩ rfl rfl rfl rfl rfl (by kernel_rfl) Try.func6 (by kernel_rfl)
    (of_decide_eq_true (by kernel_rfl)) (by unfold Func.isWrapper; first | (rw [if_pos (by decide +kernel)]; kernel_rfl) | (rw [if_neg (by decide +kernel)]; exact ⟨rfl, rfl⟩))
    (fun os started H enc _ => lifted os started H enc)
theorem proved : Rows.SpanMirrorsSaid := over
end Go.Proofs.Ythbajhbmopnbdaa.spanMirrors
