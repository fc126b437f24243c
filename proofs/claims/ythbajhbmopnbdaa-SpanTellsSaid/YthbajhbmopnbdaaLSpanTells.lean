/- Proved: the law SpanTells returns true. Conditions: none beyond the row's own. -/
import Derived.Test.YthbajhbmopnbdaaFrame
import Derived.Test.YthbajhbmopnbdaaRuns
import Derived.Test.YthbajhbmopnbdaaFact
import Derived.Deep.DeepCutAuto
import Derived.Deep.RegionHeld3
namespace Go.Proofs.Ythbajhbmopnbdaa.spanTells
open Go.ChangeShapes Go.WideShapes Go.ChangeAt Go.RowKit
theorem St.start3 (W : World) (a b c d e f : ByteArray) (t : TypeId) : St W (((W.alloc (.cells #[.string a, .string b] t)).alloc (.cells #[.string c, .string d] t)).alloc (.cells #[.string e, .string f] t)) W.heap.size (W.heap.size + 1) (W.heap.size + 1 + 1) a b c d e f := by
  have s := St.start W a b c d t
  have h3 := Two.new ((W.alloc (.cells #[.string a, .string b] t)).alloc (.cells #[.string c, .string d] t)) e f t
  simp only [World.size_alloc] at h3
  have s' := s.step ((Below.refl _ _).alloc (Nat.le_refl _) (.cells #[.string e, .string f] t))
  exact ⟨s'.one, s'.two, h3, s'.old⟩
/-- The document's own come to the same. -/
theorem rempty_is (lo hi : ByteArray) (w : World) : Calls Try.prog 15 #[.agg #[.string lo, .string hi]] w fun e w' => e = .returned (.bool (emB lo hi)) ∧ Below w.heap.size w w' := by
  rw [em_ref]; exact rempty_any lo hi w
theorem rmeets_is (la ha lb hb : ByteArray) (w : World) : Calls Try.prog 17 #[.agg #[.string la, .string ha], .agg #[.string lb, .string hb]] w fun e w' => e = .returned (.bool (meetB la ha lb hb)) ∧ Below w.heap.size w w' := by
  rw [meet_ref]; exact rmeets_any la ha lb hb w
theorem rcovers_is (la ha lb hb : ByteArray) (w : World) : Calls Try.prog 18 #[.agg #[.string la, .string ha], .agg #[.string lb, .string hb]] w fun e w' => e = .returned (.bool (covB la ha lb hb)) ∧ Below w.heap.size w w' := by
  rw [cov_ref]; exact rcovers_any la ha lb hb w
theorem rhas_is (lo hi k : ByteArray) (w : World) : Calls Try.prog 16 #[.agg #[.string lo, .string hi], .string k] w fun e w' => e = .returned (.bool (hasB lo hi k)) ∧ Below w.heap.size w w' := rhas_any lo hi k w
set_option maxRecDepth 100000 in
set_option maxHeartbeats 4000000 in
theorem walk (la ha lb hb k : ByteArray) (W : World) (hk : k.size ≤ 140737488351232) :
    Calls Try.prog 4 #[.agg #[.string la, .string ha], .agg #[.string lb, .string hb], .string k] W fun e w' => e = .returned (.bool true) ∧ Below W.heap.size W w' := by
  have hm := fun ts t w => run_max_texts (P := Try.prog) w ts t la lb
  have hp := hide (min_pick ha hb)
  go_enter Try.func4, Try.ntmps4
  go_upto_region 2 with (fail)
  go_cut [30] (fun s30 wx => s30 = .bool (nilB ha || (!nilB hb && ltB hb ha)) ∧ wx = (((W.alloc (.cells #[.string la, .string ha] 23)).alloc (.cells #[.string lb, .string hb] 23)).alloc (.cells #[.string (maxT la lb), .string ha] 23)))
  case first =>
    go_wp2_with fail
    all_goals go_meet
    all_goals exact ⟨congrArg Value.bool (by simp [nilB, ltB, *]), rfl⟩
  case rest =>
    obtain ⟨rfl, rfl⟩ := hcut
    generalize (nilB ha || (!nilB hb && ltB hb ha)) = q at *
    go_upto_if 30 with (fail)
    go_cut [7] (fun s7 wx => s7 = .pointer (some ⟨W.heap.size + 1 + 1, 0, none⟩) ∧ St W wx W.heap.size (W.heap.size + 1) (W.heap.size + 1 + 1) la ha lb hb (maxT la lb) (minT ha hb))
    case first =>
      go_wp2_with fail
      all_goals go_meet
      all_goals exact ⟨rfl, by rw [← hp.out]; first | (rw [if_pos (by assumption)]; exact St.start3 _ _ _ _ _ _ _ _) | (rw [if_neg (by rw [Bool.not_eq_true]; assumption)]; exact St.start3 _ _ _ _ _ _ _ _)⟩
    case rest =>
      obtain ⟨rfl, st⟩ := hcut
      clear hm hp
      have hk' : k.size ≤ 140737488355328 := by omega
      have hl : ¬ (k.size + 1 > 9223372036854775807) := by omega
      have hn : k ++ ⟨#[0]⟩ = nextT k := rfl
      have d0 := st.one.c0
      have d1 := st.one.c1
      have d2 := st.two.c0
      have d3 := st.two.c1
      have d4 := st.three.c0
      have d5 := st.three.c1
      go_upto_region 4 with (fail)
      go_region_held3 (fun w' => w'.cell? ⟨W.heap.size, 0, none⟩ = some (.string la) ∧ w'.cell? ⟨W.heap.size, 1, none⟩ = some (.string ha) ∧ w'.cell? ⟨W.heap.size + 1, 0, none⟩ = some (.string lb) ∧ w'.cell? ⟨W.heap.size + 1, 1, none⟩ = some (.string hb) ∧
          w'.cell? ⟨W.heap.size + 1 + 1, 0, none⟩ = some (.string (maxT la lb)) ∧ w'.cell? ⟨W.heap.size + 1 + 1, 1, none⟩ = some (.string (minT ha hb))) (go_keep)
        (first
          | (go_at_call 8; (with_reducible refine (St.call (W := W) (k := W.heap.size) (l := W.heap.size + 1) (m := W.heap.size + 1 + 1) (a := la) (b := ha) (c := lb) (d := hb) (e := maxT la lb) (f := minT ha hb) (by first | with_reducible assumption | with_reducible exact St.drew (by with_reducible assumption)) (of_any _ _ (by with_reducible assumption))).mono ?_); rintro e w' ⟨rfl, q0, q1, q2, q3, q4, q5, st'⟩)
          | (go_at_call 11; (with_reducible refine (St.call (W := W) (k := W.heap.size) (l := W.heap.size + 1) (m := W.heap.size + 1 + 1) (a := la) (b := ha) (c := lb) (d := hb) (e := maxT la lb) (f := minT ha hb) (by first | with_reducible assumption | with_reducible exact St.drew (by with_reducible assumption)) (empty_any _ _ _)).mono ?_); rintro e w' ⟨rfl, q0, q1, q2, q3, q4, q5, st'⟩)
          | (go_at_call 15; (with_reducible refine (St.call (W := W) (k := W.heap.size) (l := W.heap.size + 1) (m := W.heap.size + 1 + 1) (a := la) (b := ha) (c := lb) (d := hb) (e := maxT la lb) (f := minT ha hb) (by first | with_reducible assumption | with_reducible exact St.drew (by with_reducible assumption)) (rempty_is _ _ _)).mono ?_); rintro e w' ⟨rfl, q0, q1, q2, q3, q4, q5, st'⟩)
          | (go_at_call 10; (with_reducible refine (St.call (W := W) (k := W.heap.size) (l := W.heap.size + 1) (m := W.heap.size + 1 + 1) (a := la) (b := ha) (c := lb) (d := hb) (e := maxT la lb) (f := minT ha hb) (by first | with_reducible assumption | with_reducible exact St.drew (by with_reducible assumption)) (has_any _ _ _ _)).mono ?_); rintro e w' ⟨rfl, q0, q1, q2, q3, q4, q5, st'⟩)
          | (go_at_call 16; (with_reducible refine (St.call (W := W) (k := W.heap.size) (l := W.heap.size + 1) (m := W.heap.size + 1 + 1) (a := la) (b := ha) (c := lb) (d := hb) (e := maxT la lb) (f := minT ha hb) (by first | with_reducible assumption | with_reducible exact St.drew (by with_reducible assumption)) (rhas_is _ _ _ _)).mono ?_); rintro e w' ⟨rfl, q0, q1, q2, q3, q4, q5, st'⟩)
          | (go_at_call 12; (with_reducible refine (St.call (W := W) (k := W.heap.size) (l := W.heap.size + 1) (m := W.heap.size + 1 + 1) (a := la) (b := ha) (c := lb) (d := hb) (e := maxT la lb) (f := minT ha hb) (by first | with_reducible assumption | with_reducible exact St.drew (by with_reducible assumption)) (meets_any _ _ _ _ _)).mono ?_); rintro e w' ⟨rfl, q0, q1, q2, q3, q4, q5, st'⟩)
          | (go_at_call 17; (with_reducible refine (St.call (W := W) (k := W.heap.size) (l := W.heap.size + 1) (m := W.heap.size + 1 + 1) (a := la) (b := ha) (c := lb) (d := hb) (e := maxT la lb) (f := minT ha hb) (by first | with_reducible assumption | with_reducible exact St.drew (by with_reducible assumption)) (rmeets_is _ _ _ _ _)).mono ?_); rintro e w' ⟨rfl, q0, q1, q2, q3, q4, q5, st'⟩)
          | (go_at_call 13; (with_reducible refine (St.call (W := W) (k := W.heap.size) (l := W.heap.size + 1) (m := W.heap.size + 1 + 1) (a := la) (b := ha) (c := lb) (d := hb) (e := maxT la lb) (f := minT ha hb) (by first | with_reducible assumption | with_reducible exact St.drew (by with_reducible assumption)) (covers_any _ _ _ _ _)).mono ?_); rintro e w' ⟨rfl, q0, q1, q2, q3, q4, q5, st'⟩)
          | (go_at_call 18; (with_reducible refine (St.call (W := W) (k := W.heap.size) (l := W.heap.size + 1) (m := W.heap.size + 1 + 1) (a := la) (b := ha) (c := lb) (d := hb) (e := maxT la lb) (f := minT ha hb) (by first | with_reducible assumption | with_reducible exact St.drew (by with_reducible assumption)) (rcovers_is _ _ _ _ _)).mono ?_); rintro e w' ⟨rfl, q0, q1, q2, q3, q4, q5, st'⟩)
          | (go_at_call 14; (with_reducible refine (St.call (W := W) (k := W.heap.size) (l := W.heap.size + 1) (m := W.heap.size + 1 + 1) (a := la) (b := ha) (c := lb) (d := hb) (e := maxT la lb) (f := minT ha hb) (by first | with_reducible assumption | with_reducible exact St.drew (by with_reducible assumption)) (both_any _ _ _ _ _)).mono ?_); rintro e w' ⟨rfl, q0, q1, q2, q3, q4, q5, st'⟩)
          | (go_at_call 3; (with_reducible refine (St.call (W := W) (k := W.heap.size) (l := W.heap.size + 1) (m := W.heap.size + 1 + 1) (a := la) (b := ha) (c := lb) (d := hb) (e := maxT la lb) (f := minT ha hb) (by first | with_reducible assumption | with_reducible exact St.drew (by with_reducible assumption)) (runs_any _)).mono ?_); rintro e w' ⟨rfl, q0, q1, q2, q3, q4, q5, st'⟩))
      all_goals
        go_wp2_with fail
        go_ret
        exact ⟨rfl, st'.old⟩
set_option maxRecDepth 100000 in
theorem lifted (os : Os) (started : os.Started) (H : Type) (enc : TypeId × Value → H) :
    ReturnsInHanded {} Try.checked os 4 .any (Rows.spanTellsSpec.pre6 enc Try.prog Try.f4 Rows.spanTellsRow.domain false) (Rows.spanTellsSpec.post enc Try.prog Try.f4 false true false false) := by
  refine returnsInHanded_of_change_sized (C := Try.checked) own started (by kernel_rfl) Try.func4
    (ChangeSpec.witness6 (enc := enc) (C := Try.checked) false ⟨#[], #[.agg #[.string ⟨#[]⟩, .string ⟨#[]⟩], .agg #[.string ⟨#[]⟩, .string ⟨#[]⟩], .string ⟨#[]⟩], []⟩ 8 (by kernel_rfl) (by kernel_rfl) (by kernel_rfl) (by kernel_rfl)) ?_
  intro W base args ds gs before hval0 hW _ hsz0 _
  have hval : ∀ (j : Nat) t v, Try.f4.params[j]? = some t → args[j]? = some v → Value.okWide Try.prog W .any base t v := hval0
  have hW' := hW
  obtain ⟨p, q, hA0, hV, rfl, _, _⟩ := hW
  have hA : DataW.TrodAll enc Try.prog W 0 (fun _ => true) true Try.f4.params.toList args.toList ds p := hA0
  have hsz : (DataW.weightsEach Try.prog (Try.f4.params.toList ++ Rows.spanTellsSpec.plain.varTypes Try.prog) (ds ++ gs)).all (· ≤ reachBytes) = true := hsz0
  rw [Try.params4] at hA hval hsz
  obtain ⟨v0, vs0, d0, ds0, p0, q0, hargs, rfl, rfl, h0, r0⟩ := trodAll_cons hA
  obtain ⟨v1, vs1, d1, ds1, p1, q1, rfl, rfl, rfl, h1, r1⟩ := trodAll_cons r0
  obtain ⟨v2, vs2, d2, ds2, p2, q2, rfl, rfl, rfl, h2, r2⟩ := trodAll_cons r1
  obtain ⟨rfl, rfl, rfl⟩ := trodAll_nil r2
  obtain rfl : args = #[v0, v1, v2] := by cases args; simp_all
  obtain ⟨rfl, rfl⟩ := trodVars_none hV
  have k0 := h0
  have lt0 : ∀ x ∈ p0, x.block < W.heap.size := by obtain ⟨m, hm⟩ := k0; exact DataW.trod_lt m _ _ _ hm
  obtain ⟨x0, y0, rfl⟩ := span_in (hval 0 23 v0 rfl rfl) h0
  have k1 := h1
  have lt1 : ∀ x ∈ p1, x.block < W.heap.size := by obtain ⟨m, hm⟩ := k1; exact DataW.trod_lt m _ _ _ hm
  obtain ⟨x1, y1, rfl⟩ := span_in (hval 1 23 v1 rfl rfl) h1
  have k2 := h2
  have lt2 : ∀ x ∈ p2, x.block < W.heap.size := by obtain ⟨m, hm⟩ := k2; exact DataW.trod_lt m _ _ _ hm
  obtain ⟨a2, rfl, s2⟩ := str_in (j := 2) (hval 2 9 v2 rfl rfl) h2 hsz rfl rfl
  clear hA0 hval0
  refine (walk x0 y0 x1 y1 a2 W s2).mono fun e W' ⟨he, bel⟩ => ?_
  subst he
  exact ⟨_, rfl, _, _, _, [], _, [], hW', trodAll_mk1 (shut_bool Try.underlying4 _), (trodAll_cons_mk (Below.trod laidOut (by kernel_rfl) (of_decide_eq_true (by kernel_rfl)) k0 bel lt0) (trodAll_cons_mk (Below.trod laidOut (by kernel_rfl) (of_decide_eq_true (by kernel_rfl)) k1 bel lt1) (trodAll_cons_mk (Below.trod laidOut (by kernel_rfl) (of_decide_eq_true (by kernel_rfl)) k2 bel lt2) trodAll_mk0))), rfl, bel.frame _, fun h => by cases h⟩
theorem over : Rows.spanTellsRow.holds Try.pinned (OpenSpec.ofChange Rows.spanTellsSpec) :=
  OpenClaim.holds_of_wide 4 Try.f4 rfl rfl rfl rfl rfl rfl rfl ⟨rfl, rfl, rfl, rfl, rfl⟩ rfl rfl rfl rfl rfl (by kernel_rfl) Try.func4 (by kernel_rfl)
    (of_decide_eq_true (by kernel_rfl)) (by unfold Func.isWrapper; first | (rw [if_pos (by decide +kernel)]; kernel_rfl) | (rw [if_neg (by decide +kernel)]; exact ⟨rfl, rfl⟩))
    (fun os started H enc _ => lifted os started H enc)
theorem proved : Rows.SpanTellsSaid := over
end Go.Proofs.Ythbajhbmopnbdaa.spanTells
