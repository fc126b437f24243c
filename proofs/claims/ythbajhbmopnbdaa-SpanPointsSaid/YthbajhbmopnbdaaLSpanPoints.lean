/- Proved: the law SpanPoints returns true. Conditions: none beyond the row's own. -/
import Derived.Test.YthbajhbmopnbdaaFrame
import Derived.Test.YthbajhbmopnbdaaRuns
import Derived.Test.YthbajhbmopnbdaaFact
import Derived.Deep.DeepCutAuto
import Derived.Deep.RegionHeld3
namespace Go.Proofs.Ythbajhbmopnbdaa.spanPoints
open Go.ChangeShapes Go.WideShapes Go.ChangeAt Go.RowKit
theorem St.start1 (W : World) (a b : ByteArray) (t : TypeId) : St W (W.alloc (.cells #[.string a, .string b] t)) W.heap.size W.heap.size W.heap.size a b a b a b :=
  ⟨Two.new W a b t, Two.new W a b t, Two.new W a b t, (Below.refl _ _).alloc (Nat.le_refl _) _⟩
theorem St.pair {W w : World} {g : Nat} {x y a b c d : ByteArray} (h : St W w g g g x y x y x y) (t : TypeId) :
    St W ((w.alloc (.cells #[.string a, .string b] t)).alloc (.cells #[.string c, .string d] t)) g w.heap.size (w.heap.size + 1) x y a b c d := by
  have s := St.start w a b c d t
  exact ⟨h.one.kept s.old, s.one, s.two, (h.step s.old).old⟩
theorem nil_self : nilB nilT = true := by unfold nilB; rw [nil_list]; rfl
theorem has_own (k : ByteArray) : hasB k nilT k = true := by unfold hasB inB; rw [nil_self, lt_self]; rfl
theorem has_from (k j : ByteArray) : hasB k nilT j = !ltB j k := by unfold hasB inB; rw [nil_self, Bool.true_or, Bool.and_true]
theorem has_upto (h k : ByteArray) : hasB nilT h k = (nilB h || ltB k h) := by unfold hasB inB; rw [lt_nil]; rfl
theorem covers_of (lo hi k : ByteArray) (w : World) : Calls Try.prog 13 #[.agg #[.string lo, .string hi], .agg #[.string k, .string (nextT k)]] w fun e w' => e = .returned (.bool (hasB lo hi k)) ∧ Below w.heap.size w w' := by
  rw [← of_cov lo hi k]; exact covers_any _ _ _ _ w
set_option maxRecDepth 100000 in
set_option maxHeartbeats 8000000 in
theorem walk (a b ls hs : ByteArray) (W : World) (ka : a.size ≤ 140737488351232) (kb : b.size ≤ 140737488351232) :
    Calls Try.prog 7 #[.string a, .string b, .agg #[.string ls, .string hs]] W fun e w' => e = .returned (.bool true) ∧ Below W.heap.size W w' := by
  have ka' : a.size ≤ 140737488355328 := by omega
  have kb' : b.size ≤ 140737488355328 := by omega
  go_enter Try.func7, Try.ntmps7
  go_upto_region 1 with (fail)
  go_cut [7, 8] (fun s7 s8 wx => ∃ g h, s7 = .pointer (some ⟨g, 0, none⟩) ∧ s8 = .pointer (some ⟨h, 0, none⟩) ∧ St W wx W.heap.size g h ls hs a (nextT a) b (nextT b))
  case first =>
    have st := St.start1 W ls hs 23
    generalize W.alloc (.cells #[.string ls, .string hs] 23) = wx at *
    go_wp2_with (first
      | (go_at_call 8; (with_reducible refine (St.call (W := W) (k := W.heap.size) (l := W.heap.size) (m := W.heap.size) (a := ls) (b := hs) (c := ls) (d := hs) (e := ls) (f := hs) (by with_reducible assumption) (of_any _ _ (by with_reducible assumption))).mono ?_); rintro e w' ⟨rfl, q0, q1, q2, q3, q4, q5, st'⟩))
    go_meet
    exact ⟨_, _, rfl, rfl, St.pair st' _⟩
  case rest =>
    obtain ⟨g, h, rfl, rfl, st⟩ := hcut
    have d0 := st.one.c0
    have d1 := st.one.c1
    have d2 := st.two.c0
    have d3 := st.two.c1
    have d4 := st.three.c0
    have d5 := st.three.c1
    have m1 : hasB a ⟨#[]⟩ a = true := has_own a
    have m2 : hasB a ⟨#[]⟩ b = !Op.bytesLess b.toList a.toList := has_from a b
    have m3 : hasB ⟨#[]⟩ b a = (b.toList.isEmpty || Op.bytesLess a.toList b.toList) := has_upto b a
    have m4 : meetB a (nextT a) b (nextT b) = (a.toList == b.toList) := point_meet a b
    have m5 : emB a (nextT a) = false := point_em a
    go_upto_region 2 with (fail)
    cases hn : b.toList.isEmpty
    case false =>
      go_region_held3 (fun w' => w'.cell? ⟨W.heap.size, 0, none⟩ = some (.string ls) ∧ w'.cell? ⟨W.heap.size, 1, none⟩ = some (.string hs) ∧ w'.cell? ⟨g, 0, none⟩ = some (.string a) ∧ w'.cell? ⟨g, 1, none⟩ = some (.string (nextT a)) ∧ w'.cell? ⟨h, 0, none⟩ = some (.string b) ∧ w'.cell? ⟨h, 1, none⟩ = some (.string (nextT b))) (go_keep)
        (first
          | (go_at_call 12; (with_reducible refine (St.call (W := W) (k := W.heap.size) (l := g) (m := h) (a := ls) (b := hs) (c := a) (d := nextT a) (e := b) (f := nextT b) (by first | with_reducible assumption | with_reducible exact St.drew (by with_reducible assumption)) (meets_any _ _ _ _ _)).mono ?_); rintro e w' ⟨rfl, q0, q1, q2, q3, q4, q5, st'⟩)
          | (go_at_call 11; (with_reducible refine (St.call (W := W) (k := W.heap.size) (l := g) (m := h) (a := ls) (b := hs) (c := a) (d := nextT a) (e := b) (f := nextT b) (by first | with_reducible assumption | with_reducible exact St.drew (by with_reducible assumption)) (empty_any _ _ _)).mono ?_); rintro e w' ⟨rfl, q0, q1, q2, q3, q4, q5, st'⟩)
          | (go_at_call 10; (with_reducible refine (St.call (W := W) (k := W.heap.size) (l := g) (m := h) (a := ls) (b := hs) (c := a) (d := nextT a) (e := b) (f := nextT b) (by first | with_reducible assumption | with_reducible exact St.drew (by with_reducible assumption)) (has_any _ _ _ _)).mono ?_); rintro e w' ⟨rfl, q0, q1, q2, q3, q4, q5, st'⟩)
          | (go_at_call 13; (with_reducible refine (St.call (W := W) (k := W.heap.size) (l := g) (m := h) (a := ls) (b := hs) (c := a) (d := nextT a) (e := b) (f := nextT b) (by first | with_reducible assumption | with_reducible exact St.drew (by with_reducible assumption)) (covers_of _ _ _ _)).mono ?_); rintro e w' ⟨rfl, q0, q1, q2, q3, q4, q5, st'⟩)
          | (go_at_call 3; (with_reducible refine (St.call (W := W) (k := W.heap.size) (l := g) (m := h) (a := ls) (b := hs) (c := a) (d := nextT a) (e := b) (f := nextT b) (by first | with_reducible assumption | with_reducible exact St.drew (by with_reducible assumption)) (runs_any _)).mono ?_); rintro e w' ⟨rfl, q0, q1, q2, q3, q4, q5, st'⟩))
      all_goals
        go_wp2_with fail
        go_ret
        exact ⟨rfl, st'.old⟩
    case true =>
      first
        | (go_region_held (fun w' => w'.cell? ⟨W.heap.size, 0, none⟩ = some (.string ls) ∧ w'.cell? ⟨W.heap.size, 1, none⟩ = some (.string hs) ∧ w'.cell? ⟨g, 0, none⟩ = some (.string a) ∧ w'.cell? ⟨g, 1, none⟩ = some (.string (nextT a)) ∧ w'.cell? ⟨h, 0, none⟩ = some (.string b) ∧ w'.cell? ⟨h, 1, none⟩ = some (.string (nextT b))) (go_keep)
            (first
          | (go_at_call 12; (with_reducible refine (St.call (W := W) (k := W.heap.size) (l := g) (m := h) (a := ls) (b := hs) (c := a) (d := nextT a) (e := b) (f := nextT b) (by first | with_reducible assumption | with_reducible exact St.drew (by with_reducible assumption)) (meets_any _ _ _ _ _)).mono ?_); rintro e w' ⟨rfl, q0, q1, q2, q3, q4, q5, st'⟩)
          | (go_at_call 11; (with_reducible refine (St.call (W := W) (k := W.heap.size) (l := g) (m := h) (a := ls) (b := hs) (c := a) (d := nextT a) (e := b) (f := nextT b) (by first | with_reducible assumption | with_reducible exact St.drew (by with_reducible assumption)) (empty_any _ _ _)).mono ?_); rintro e w' ⟨rfl, q0, q1, q2, q3, q4, q5, st'⟩)
          | (go_at_call 10; (with_reducible refine (St.call (W := W) (k := W.heap.size) (l := g) (m := h) (a := ls) (b := hs) (c := a) (d := nextT a) (e := b) (f := nextT b) (by first | with_reducible assumption | with_reducible exact St.drew (by with_reducible assumption)) (has_any _ _ _ _)).mono ?_); rintro e w' ⟨rfl, q0, q1, q2, q3, q4, q5, st'⟩)
          | (go_at_call 13; (with_reducible refine (St.call (W := W) (k := W.heap.size) (l := g) (m := h) (a := ls) (b := hs) (c := a) (d := nextT a) (e := b) (f := nextT b) (by first | with_reducible assumption | with_reducible exact St.drew (by with_reducible assumption)) (covers_of _ _ _ _)).mono ?_); rintro e w' ⟨rfl, q0, q1, q2, q3, q4, q5, st'⟩)
          | (go_at_call 3; (with_reducible refine (St.call (W := W) (k := W.heap.size) (l := g) (m := h) (a := ls) (b := hs) (c := a) (d := nextT a) (e := b) (f := nextT b) (by first | with_reducible assumption | with_reducible exact St.drew (by with_reducible assumption)) (runs_any _)).mono ?_); rintro e w' ⟨rfl, q0, q1, q2, q3, q4, q5, st'⟩)))
        | fail
      all_goals
        go_wp2_with fail
        go_ret
        exact ⟨rfl, st'.old⟩
set_option maxRecDepth 100000 in
theorem lifted (os : Os) (started : os.Started) (H : Type) (enc : TypeId × Value → H) :
    ReturnsInHanded {} Try.checked os 7 .any (Rows.spanPointsSpec.pre6 enc Try.prog Try.f7 Rows.spanPointsRow.domain false) (Rows.spanPointsSpec.post enc Try.prog Try.f7 false true false false) := by
  refine returnsInHanded_of_change_sized (C := Try.checked) own started (by kernel_rfl) Try.func7
    (ChangeSpec.witness6 (enc := enc) (C := Try.checked) false ⟨#[], #[.string ⟨#[]⟩, .string ⟨#[]⟩, .agg #[.string ⟨#[]⟩, .string ⟨#[]⟩]], []⟩ 8 (by kernel_rfl) (by kernel_rfl) (by kernel_rfl) (by kernel_rfl)) ?_
  intro W base args ds gs before hval0 hW _ hsz0 _
  have hval : ∀ (j : Nat) t v, Try.f7.params[j]? = some t → args[j]? = some v → Value.okWide Try.prog W .any base t v := hval0
  have hW' := hW
  obtain ⟨p, q, hA0, hV, rfl, _, _⟩ := hW
  have hA : DataW.TrodAll enc Try.prog W 0 (fun _ => true) true Try.f7.params.toList args.toList ds p := hA0
  have hsz : (DataW.weightsEach Try.prog (Try.f7.params.toList ++ Rows.spanPointsSpec.plain.varTypes Try.prog) (ds ++ gs)).all (· ≤ reachBytes) = true := hsz0
  rw [Try.params7] at hA hval hsz
  obtain ⟨v0, vs0, d0, ds0, p0, q0, hargs, rfl, rfl, h0, r0⟩ := trodAll_cons hA
  obtain ⟨v1, vs1, d1, ds1, p1, q1, rfl, rfl, rfl, h1, r1⟩ := trodAll_cons r0
  obtain ⟨v2, vs2, d2, ds2, p2, q2, rfl, rfl, rfl, h2, r2⟩ := trodAll_cons r1
  obtain ⟨rfl, rfl, rfl⟩ := trodAll_nil r2
  obtain rfl : args = #[v0, v1, v2] := by cases args; simp_all
  obtain ⟨rfl, rfl⟩ := trodVars_none hV
  have k0 := h0
  have lt0 : ∀ x ∈ p0, x.block < W.heap.size := by obtain ⟨m, hm⟩ := k0; exact DataW.trod_lt m _ _ _ hm
  obtain ⟨a0, rfl, s0⟩ := str_in (j := 0) (hval 0 9 v0 rfl rfl) h0 hsz rfl rfl
  have k1 := h1
  have lt1 : ∀ x ∈ p1, x.block < W.heap.size := by obtain ⟨m, hm⟩ := k1; exact DataW.trod_lt m _ _ _ hm
  obtain ⟨a1, rfl, s1⟩ := str_in (j := 1) (hval 1 9 v1 rfl rfl) h1 hsz rfl rfl
  have k2 := h2
  have lt2 : ∀ x ∈ p2, x.block < W.heap.size := by obtain ⟨m, hm⟩ := k2; exact DataW.trod_lt m _ _ _ hm
  obtain ⟨x2, y2, rfl⟩ := span_in (hval 2 23 v2 rfl rfl) h2
  clear hA0 hval0
  refine (walk a0 a1 x2 y2 W s0 s1).mono fun e W' ⟨he, bel⟩ => ?_
  subst he
  exact ⟨_, rfl, _, _, _, [], _, [], hW', trodAll_mk1 (shut_bool Try.underlying4 _), (trodAll_cons_mk (Below.trod laidOut (by kernel_rfl) (of_decide_eq_true (by kernel_rfl)) k0 bel lt0) (trodAll_cons_mk (Below.trod laidOut (by kernel_rfl) (of_decide_eq_true (by kernel_rfl)) k1 bel lt1) (trodAll_cons_mk (Below.trod laidOut (by kernel_rfl) (of_decide_eq_true (by kernel_rfl)) k2 bel lt2) trodAll_mk0))), rfl, bel.frame _, fun h => by cases h⟩
theorem over : Rows.spanPointsRow.holds Try.pinned (OpenSpec.ofChange Rows.spanPointsSpec) :=
  OpenClaim.holds_of_wide 7 Try.f7 rfl rfl rfl rfl rfl rfl rfl ⟨rfl, rfl, rfl, rfl, rfl⟩ rfl rfl rfl rfl rfl (by kernel_rfl) Try.func7 (by kernel_rfl)
    (of_decide_eq_true (by kernel_rfl)) (by unfold Func.isWrapper; first | (rw [if_pos (by decide +kernel)]; kernel_rfl) | (rw [if_neg (by decide +kernel)]; exact ⟨rfl, rfl⟩))
    (fun os started H enc _ => lifted os started H enc)
theorem proved : Rows.SpanPointsSaid := over
end Go.Proofs.Ythbajhbmopnbdaa.spanPoints
