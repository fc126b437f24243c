/- Proved: the law SpanKeys returns true. Conditions: none beyond the row's own. -/
import Derived.Test.YthbajhbmopnbdaaFrame
import Derived.Test.YthbajhbmopnbdaaRuns
import Derived.Test.YthbajhbmopnbdaaFact
import Derived.Deep.DeepCutAuto
import Derived.Deep.RegionHeld3
namespace Go.Proofs.Ythbajhbmopnbdaa.spanKeys
open Go.ChangeShapes Go.WideShapes Go.ChangeAt Go.RowKit
theorem keys_ways (la ha lb hb k : ByteArray) :
    (hasB la ha k = true ∧ hasB lb hb k = true ∧ hasB (maxT la lb) (minT ha hb) k = true ∧ meetB la ha lb hb = true ∧ emB la ha = false ∧ (covB la ha lb hb = true ∨ covB la ha lb hb = false)) ∨
    (hasB la ha k = true ∧ hasB lb hb k = false ∧ hasB (maxT la lb) (minT ha hb) k = false ∧ emB la ha = false ∧ (covB la ha lb hb = true ∨ covB la ha lb hb = false)) ∨
    (hasB la ha k = false ∧ hasB lb hb k = true ∧ covB la ha lb hb = false ∧ (emB la ha = true ∨ emB la ha = false)) ∨
    (hasB la ha k = false ∧ hasB lb hb k = false ∧ (covB la ha lb hb = true ∨ covB la ha lb hb = false) ∧ (emB la ha = true ∨ emB la ha = false)) := by
  have g1 := both_has la ha lb hb k
  have g2 := has_meet la ha lb hb k
  have g3 := cov_has la ha lb hb k
  have g4 := em_has la ha k
  revert g1 g2 g3 g4
  generalize hasB la ha k = x
  generalize hasB lb hb k = y
  generalize hasB (maxT la lb) (minT ha hb) k = z
  generalize meetB la ha lb hb = u
  generalize emB la ha = v
  generalize covB la ha lb hb = t
  cases x <;> cases y <;> cases z <;> cases u <;> cases v <;> cases t <;> simp
theorem has_of (k : ByteArray) (w : World) : Calls Try.prog 10 #[.agg #[.string k, .string (nextT k)], .string k] w fun e w' => e = .returned (.bool true) ∧ Below w.heap.size w w' := by
  rw [← of_has k]; exact has_any _ _ _ w
theorem meets_of (lo hi k : ByteArray) (w : World) : Calls Try.prog 12 #[.agg #[.string lo, .string hi], .agg #[.string k, .string (nextT k)]] w fun e w' => e = .returned (.bool (hasB lo hi k)) ∧ Below w.heap.size w w' := by
  rw [← of_meet lo hi k]; exact meets_any _ _ _ _ w
theorem covers_of (lo hi k : ByteArray) (w : World) : Calls Try.prog 13 #[.agg #[.string lo, .string hi], .agg #[.string k, .string (nextT k)]] w fun e w' => e = .returned (.bool (hasB lo hi k)) ∧ Below w.heap.size w w' := by
  rw [← of_cov lo hi k]; exact covers_any _ _ _ _ w
set_option maxRecDepth 100000 in
set_option maxHeartbeats 4000000 in
theorem walk (la ha lb hb k : ByteArray) (W : World) (hk : k.size ≤ 140737488351232) :
    Calls Try.prog 5 #[.agg #[.string la, .string ha], .agg #[.string lb, .string hb], .string k] W fun e w' => e = .returned (.bool true) ∧ Below W.heap.size W w' := by
  have hk' : k.size ≤ 140737488355328 := by omega
  go_enter Try.func5, Try.ntmps5
  go_upto_region 1 with (fail)
  go_cut [7, 8] (fun s7 s8 wx => s7 = .bool (hasB la ha k) ∧ s8 = .bool (hasB lb hb k) ∧ St W wx W.heap.size (W.heap.size + 1) (W.heap.size + 1) la ha lb hb lb hb)
  case first =>
    have st := St.start W la ha lb hb 23
    generalize (W.alloc (.cells #[.string la, .string ha] 23)).alloc (.cells #[.string lb, .string hb] 23) = wx at *
    have d0 := st.one.c0
    have d1 := st.one.c1
    have d2 := st.two.c0
    have d3 := st.two.c1
    go_region_held3 (fun w' => w'.cell? ⟨W.heap.size, 0, none⟩ = some (.string la) ∧ w'.cell? ⟨W.heap.size, 1, none⟩ = some (.string ha) ∧ w'.cell? ⟨W.heap.size + 1, 0, none⟩ = some (.string lb) ∧ w'.cell? ⟨W.heap.size + 1, 1, none⟩ = some (.string hb)) (go_keep)
      (first
        | (go_at_call 10; (with_reducible refine (St.call (W := W) (k := W.heap.size) (l := W.heap.size + 1) (m := W.heap.size + 1) (a := la) (b := ha) (c := lb) (d := hb) (e := lb) (f := hb) (by first | with_reducible assumption | with_reducible exact St.drew (by with_reducible assumption)) (has_any _ _ _ _)).mono ?_); rintro e w' ⟨rfl, q0, q1, q2, q3, q4, q5, st'⟩))
    all_goals
      go_wp2_with fail
      go_meet
      exact ⟨rfl, rfl, st'⟩
  case rest =>
    obtain ⟨rfl, rfl, st⟩ := hcut
    go_upto_region 2 with (fail)
    go_cut [7, 8, 55] (fun s7 s8 s55 wx => s7 = .bool (hasB la ha k) ∧ s8 = .bool (hasB lb hb k) ∧ s55 = .bool false ∧ St W wx W.heap.size (W.heap.size + 1) (W.heap.size + 1) la ha lb hb lb hb)
    case first =>
      have d0 := st.one.c0
      have d1 := st.one.c1
      have d2 := st.two.c0
      have d3 := st.two.c1
      rcases keys_ways la ha lb hb k with ⟨f1, f2, f3, f4, f5, f6 | f6⟩ | ⟨f1, f2, f3, f5, f6 | f6⟩ | ⟨f1, f2, f6, f5 | f5⟩ | ⟨f1, f2, f6 | f6, f5 | f5⟩
      all_goals
        go_wp2_with (first
          | (go_at_call 10; (with_reducible refine (St.call (W := W) (k := W.heap.size) (l := W.heap.size + 1) (m := W.heap.size + 1) (a := la) (b := ha) (c := lb) (d := hb) (e := lb) (f := hb) (by first | with_reducible assumption | with_reducible exact St.drew (by with_reducible assumption)) (has_any _ _ _ _)).mono ?_); rintro e w' ⟨rfl, q0, q1, q2, q3, q4, q5, st'⟩)
          | (go_at_call 14; (with_reducible refine (St.call (W := W) (k := W.heap.size) (l := W.heap.size + 1) (m := W.heap.size + 1) (a := la) (b := ha) (c := lb) (d := hb) (e := lb) (f := hb) (by first | with_reducible assumption | with_reducible exact St.drew (by with_reducible assumption)) (both_any _ _ _ _ _)).mono ?_); rintro e w' ⟨rfl, q0, q1, q2, q3, q4, q5, st'⟩)
          | (go_at_call 12; (with_reducible refine (St.call (W := W) (k := W.heap.size) (l := W.heap.size + 1) (m := W.heap.size + 1) (a := la) (b := ha) (c := lb) (d := hb) (e := lb) (f := hb) (by first | with_reducible assumption | with_reducible exact St.drew (by with_reducible assumption)) (meets_any _ _ _ _ _)).mono ?_); rintro e w' ⟨rfl, q0, q1, q2, q3, q4, q5, st'⟩)
          | (go_at_call 13; (with_reducible refine (St.call (W := W) (k := W.heap.size) (l := W.heap.size + 1) (m := W.heap.size + 1) (a := la) (b := ha) (c := lb) (d := hb) (e := lb) (f := hb) (by first | with_reducible assumption | with_reducible exact St.drew (by with_reducible assumption)) (covers_any _ _ _ _ _)).mono ?_); rintro e w' ⟨rfl, q0, q1, q2, q3, q4, q5, st'⟩)
          | (go_at_call 11; (with_reducible refine (St.call (W := W) (k := W.heap.size) (l := W.heap.size + 1) (m := W.heap.size + 1) (a := la) (b := ha) (c := lb) (d := hb) (e := lb) (f := hb) (by first | with_reducible assumption | with_reducible exact St.drew (by with_reducible assumption)) (empty_any _ _ _)).mono ?_); rintro e w' ⟨rfl, q0, q1, q2, q3, q4, q5, st'⟩))
        go_meet
        exact ⟨congrArg Value.bool f1.symm, congrArg Value.bool f2.symm, rfl, by with_reducible assumption⟩
    case rest =>
      obtain ⟨rfl, rfl, rfl, st⟩ := hcut
      have d0 := st.one.c0
      have d1 := st.one.c1
      have d2 := st.two.c0
      have d3 := st.two.c1
      go_upto_region 4 with (fail)
      go_region_held3 (fun w' => w'.cell? ⟨W.heap.size, 0, none⟩ = some (.string la) ∧ w'.cell? ⟨W.heap.size, 1, none⟩ = some (.string ha) ∧ w'.cell? ⟨W.heap.size + 1, 0, none⟩ = some (.string lb) ∧ w'.cell? ⟨W.heap.size + 1, 1, none⟩ = some (.string hb)) (go_keep)
        (first
          | (go_at_call 8; (with_reducible refine (St.call (W := W) (k := W.heap.size) (l := W.heap.size + 1) (m := W.heap.size + 1) (a := la) (b := ha) (c := lb) (d := hb) (e := lb) (f := hb) (by first | with_reducible assumption | with_reducible exact St.drew (by with_reducible assumption)) (of_any _ _ (by with_reducible assumption))).mono ?_); rintro e w' ⟨rfl, q0, q1, q2, q3, q4, q5, st'⟩)
          | (go_at_call 10; (with_reducible refine (St.call (W := W) (k := W.heap.size) (l := W.heap.size + 1) (m := W.heap.size + 1) (a := la) (b := ha) (c := lb) (d := hb) (e := lb) (f := hb) (by first | with_reducible assumption | with_reducible exact St.drew (by with_reducible assumption)) (has_of _ _)).mono ?_); rintro e w' ⟨rfl, q0, q1, q2, q3, q4, q5, st'⟩)
          | (go_at_call 12; (with_reducible refine (St.call (W := W) (k := W.heap.size) (l := W.heap.size + 1) (m := W.heap.size + 1) (a := la) (b := ha) (c := lb) (d := hb) (e := lb) (f := hb) (by first | with_reducible assumption | with_reducible exact St.drew (by with_reducible assumption)) (meets_of _ _ _ _)).mono ?_); rintro e w' ⟨rfl, q0, q1, q2, q3, q4, q5, st'⟩)
          | (go_at_call 13; (with_reducible refine (St.call (W := W) (k := W.heap.size) (l := W.heap.size + 1) (m := W.heap.size + 1) (a := la) (b := ha) (c := lb) (d := hb) (e := lb) (f := hb) (by first | with_reducible assumption | with_reducible exact St.drew (by with_reducible assumption)) (covers_of _ _ _ _)).mono ?_); rintro e w' ⟨rfl, q0, q1, q2, q3, q4, q5, st'⟩)
          | (go_at_call 3; (with_reducible refine (St.call (W := W) (k := W.heap.size) (l := W.heap.size + 1) (m := W.heap.size + 1) (a := la) (b := ha) (c := lb) (d := hb) (e := lb) (f := hb) (by first | with_reducible assumption | with_reducible exact St.drew (by with_reducible assumption)) (runs_any _)).mono ?_); rintro e w' ⟨rfl, q0, q1, q2, q3, q4, q5, st'⟩))
      all_goals
        go_wp2_with fail
        go_ret
        exact ⟨rfl, st'.old⟩
set_option maxRecDepth 100000 in
theorem lifted (os : Os) (started : os.Started) (H : Type) (enc : TypeId × Value → H) :
    ReturnsInHanded {} Try.checked os 5 .any (Rows.spanKeysSpec.pre6 enc Try.prog Try.f5 Rows.spanKeysRow.domain false) (Rows.spanKeysSpec.post enc Try.prog Try.f5 false true false false) := by
  refine returnsInHanded_of_change_sized (C := Try.checked) own started (by kernel_rfl) Try.func5
    (ChangeSpec.witness6 (enc := enc) (C := Try.checked) false ⟨#[], #[.agg #[.string ⟨#[]⟩, .string ⟨#[]⟩], .agg #[.string ⟨#[]⟩, .string ⟨#[]⟩], .string ⟨#[]⟩], []⟩ 8 (by kernel_rfl) (by kernel_rfl) (by kernel_rfl) (by kernel_rfl)) ?_
  intro W base args ds gs before hval0 hW _ hsz0 _
  have hval : ∀ (j : Nat) t v, Try.f5.params[j]? = some t → args[j]? = some v → Value.okWide Try.prog W .any base t v := hval0
  have hW' := hW
  obtain ⟨p, q, hA0, hV, rfl, _, _⟩ := hW
  have hA : DataW.TrodAll enc Try.prog W 0 (fun _ => true) true Try.f5.params.toList args.toList ds p := hA0
  have hsz : (DataW.weightsEach Try.prog (Try.f5.params.toList ++ Rows.spanKeysSpec.plain.varTypes Try.prog) (ds ++ gs)).all (· ≤ reachBytes) = true := hsz0
  rw [Try.params5] at hA hval hsz
  obtain ⟨v0, vs0, d0, ds0, p0, q0, hargs, rfl, rfl, h0, r0⟩ := trodAll_cons hA
  obtain ⟨v1, vs1, d1, ds1, p1, q1, rfl, rfl, rfl, h1, r1⟩ := trodAll_cons r0
  obtain ⟨v2, vs2, d2, ds2, p2, q2, rfl, rfl, rfl, h2, r2⟩ := trodAll_cons r1
  obtain ⟨rfl, rfl, rfl⟩ := trodAll_nil r2
  obtain rfl : args = #[v0, v1, v2] := by cases args; simp_all
  obtain ⟨rfl, rfl⟩ := trodVars_none hV
  have k0 := h0
  have lt0 : ∀ x ∈ p0, x.block < W.heap.size := by obtain ⟨m, hm⟩ := k0; exact DataW.trod_lt m _ _ _ hm
  obtain ⟨x0, y0, rfl⟩ := span_in (hval 0 23 v0 rfl rfl) h0
  have k1 := h1
  have lt1 : ∀ x ∈ p1, x.block < W.heap.size := by obtain ⟨m, hm⟩ := k1; exact DataW.trod_lt m _ _ _ hm
  obtain ⟨x1, y1, rfl⟩ := span_in (hval 1 23 v1 rfl rfl) h1
  have k2 := h2
  have lt2 : ∀ x ∈ p2, x.block < W.heap.size := by obtain ⟨m, hm⟩ := k2; exact DataW.trod_lt m _ _ _ hm
  obtain ⟨a2, rfl, s2⟩ := str_in (j := 2) (hval 2 9 v2 rfl rfl) h2 hsz rfl rfl
  clear hA0 hval0
  refine (walk x0 y0 x1 y1 a2 W s2).mono fun e W' ⟨he, bel⟩ => ?_
  subst he
  exact ⟨_, rfl, _, _, _, [], _, [], hW', trodAll_mk1 (shut_bool Try.underlying4 _), (trodAll_cons_mk (Below.trod laidOut (by kernel_rfl) (of_decide_eq_true (by kernel_rfl)) k0 bel lt0) (trodAll_cons_mk (Below.trod laidOut (by kernel_rfl) (of_decide_eq_true (by kernel_rfl)) k1 bel lt1) (trodAll_cons_mk (Below.trod laidOut (by kernel_rfl) (of_decide_eq_true (by kernel_rfl)) k2 bel lt2) trodAll_mk0))), rfl, bel.frame _, fun h => by cases h⟩
theorem over : Rows.spanKeysRow.holds Try.pinned (OpenSpec.ofChange Rows.spanKeysSpec) :=
  OpenClaim.holds_of_wide 5 Try.f5 rfl rfl rfl rfl rfl rfl rfl ⟨rfl, rfl, rfl, rfl, rfl⟩ rfl rfl rfl rfl rfl (by kernel_rfl) Try.func5 (by kernel_rfl)
    (of_decide_eq_true (by kernel_rfl)) (by unfold Func.isWrapper; first | (rw [if_pos (by decide +kernel)]; kernel_rfl) | (rw [if_neg (by decide +kernel)]; exact ⟨rfl, rfl⟩))
    (fun os started H enc _ => lifted os started H enc)
theorem proved : Rows.SpanKeysSaid := over
end Go.Proofs.Ythbajhbmopnbdaa.spanKeys
