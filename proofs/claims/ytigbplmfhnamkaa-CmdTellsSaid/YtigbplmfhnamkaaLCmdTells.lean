/- Proved: the law CmdTells returns true. Conditions: none beyond the row's own. -/
import Derived.Test.YtigbplmfhnamkaaFrame
import Derived.Test.YtigbplmfhnamkaaRuns
import Derived.Test.YtigbplmfhnamkaaCm
import Derived.Deep.DeepCutAuto
import Derived.Deep.RegionHeld3
namespace Go.Proofs.Ytigbplmfhnamkaa.cmdTells
open Go.ChangeShapes Go.WideShapes Go.ChangeAt Go.RowKit
theorem Both2.drew {W w : World} {x y : Cm} {g : Nat} {l h : ByteArray} {g' : Nat} {l' h' : ByteArray} (s : Both2 W w x y g l h g' l' h') : Both2 W w.drew x y g l h g' l' h' :=
  ⟨⟨⟨s.s.s.a.drew, s.s.s.b.drew, s.s.s.old.drew, s.s.s.lt⟩, s.s.t.drew⟩, s.t.drew⟩
theorem eql_span (l h l' h' : ByteArray) (w : World) : (binOp .eql 31 (.agg #[.string l, .string h]) (.agg #[.string l', .string h'])).run Try.prog w = .ok (.bool (eqB l l' && eqB h h')) w := by
  have u9 := Try.underlying9
  have a9 := Try.isAgg9
  have z9 := Try.sizeOf9
  have hS : Try.prog.underlying 31 = some (.struct (Try.prog.fieldsOf 31)) := by kernel_rfl
  have hp : Try.prog.stoodInHeld 31 = false := by kernel_rfl
  rw [run_eql_struct, show (10000 : Nat) = 9999 + 1 from rfl, run_equalIn_agg w 9999 31 _ _ hS hp]
  simp only [Program.fieldsOf, Try.underlying31]
  go_simp
  unfold eqB
  cases h1 : (l.toList == l'.toList) <;> simp_all
  cases h2 : (h.toList == h'.toList) <;> simp_all
set_option maxRecDepth 100000 in
set_option maxHeartbeats 8000000 in
theorem walk (x y : Cm) (W : World) (s : CmOk x) (t : CmOk y) :
    Calls Try.prog 4 #[.agg #[.int .i64 x.k, .int .i64 x.c, .int .i64 x.q, .string x.key, .string x.en, .string x.old, .string x.val], .agg #[.int .i64 y.k, .int .i64 y.c, .int .i64 y.q, .string y.key, .string y.en, .string y.old, .string y.val]] W
      fun e w' => e = .returned (.bool true) ∧ Below W.heap.size W w' := by
  obtain ⟨k, c, q, a, b, o, v⟩ := x
  obtain ⟨k', c', q', a', b', o', v'⟩ := y
  have ha := s.key
  have ha' := t.key
  simp only at ha ha' ⊢
  have hk1 := fun w1 => keys_any k c q a b o v w1 (by omega)
  have hk2 := fun w1 => rkeys_any k c q a b o v w1 (by omega)
  have hr1 := fun w1 => right_any k c q a b o v w1
  have hr2 := fun w1 => rright_to k c q a b o v w1
  have hw1 := fun w1 => writes_any k c q a b o v w1
  have hw2 := fun w1 => rwrites_any k c q a b o v w1
  have hc1 := fun w1 => clash_any k c q a b o v k' c' q' a' b' o' v' w1 (by omega) (by omega)
  have hc2 := fun w1 => rclash_to k c q a b o v k' c' q' a' b' o' v' w1 (by omega) (by omega)
  unfold keysV at hk1 hk2
  have st : Both W ((W.alloc (.cells #[.int .i64 k, .int .i64 c, .int .i64 q, .string a, .string b, .string o, .string v] 23)).alloc (.cells #[.int .i64 k', .int .i64 c', .int .i64 q', .string a', .string b', .string o', .string v'] 23)) ⟨k, c, q, a, b, o, v⟩ ⟨k', c', q', a', b', o', v'⟩ := Both.start W ⟨k, c, q, a, b, o, v⟩ ⟨k', c', q', a', b', o', v'⟩ 23
  simp only at hk1 hk2
  generalize rightC ⟨k, c, q, a, b, o, v⟩ = r at *
  generalize clashC ⟨k, c, q, a, b, o, v⟩ ⟨k', c', q', a', b', o', v'⟩ = cl at *
  generalize loC ⟨k, c, q, a, b, o, v⟩ = l at *
  generalize hiC ⟨k, c, q, a, b, o, v⟩ = h at *
  generalize hasC k = p at *
  generalize writesC k = u at *
  have K1 := hide hk1
  have K2 := hide hk2
  have HR := hide hr1
  have HR' := hide hr2
  have HW := hide hw1
  have HW' := hide hw2
  have HC := hide hc1
  have HC' := hide hc2
  have ST := hide st
  clear hk1 hk2 hr1 hr2 hw1 hw2 hc1 hc2 ha ha' st s t
  have heq : ∀ w, (binOp .eql 31 (.agg #[.string l, .string h]) (.agg #[.string l, .string h])).run Try.prog w = .ok (.bool true) w := fun w => by rw [eql_span, eqB_self, eqB_self]; rfl
  go_enter Try.func4, Try.ntmps4
  go_upto_region 2 with (go_at_call 13; (with_reducible refine (K1.out _).mono ?_); rintro e w1 ⟨rfl, hb1⟩; have st1 := hide (ST.out.step hb1); clear hb1)
  have st2 := hide (show Both1 W _ ⟨k, c, q, a, b, o, v⟩ ⟨k', c', q', a', b', o', v'⟩ w1.heap.size l h from ⟨st1.out.step ((Below.refl _ _).alloc (Nat.le_refl _) (.cells #[.string l, .string h] 31)), Two.new w1 l h 31⟩)
  generalize w1.heap.size = g1 at *
  generalize w1.alloc (.cells #[.string l, .string h] 31) = w2 at *
  obtain ⟨b0, b1, b2, b3, b4, b5, b6⟩ := st2.out.s.a.cells
  go_upto_region 3 with (go_at_call 14; (with_reducible refine (K2.out _).mono ?_); rintro e w3 ⟨rfl, hb3⟩; have st3 := hide (st2.out.step hb3); clear hb3)
  have st4 := hide (show Both2 W _ ⟨k, c, q, a, b, o, v⟩ ⟨k', c', q', a', b', o', v'⟩ g1 l h w3.heap.size l h from ⟨st3.out.step ((Below.refl _ _).alloc (Nat.le_refl _) (.cells #[.string l, .string h] 31)), Two.new w3 l h 31⟩)
  generalize w3.heap.size = g2 at *
  generalize w3.alloc (.cells #[.string l, .string h] 31) = w4 at *
  obtain ⟨q0, q1, q2, q3, q4, q5, q6⟩ := st4.out.s.s.a.cells
  obtain ⟨r0, r1, r2, r3, r4, r5, r6⟩ := st4.out.s.s.b.cells
  have t0 := st4.out.s.t.c0
  have t1 := st4.out.s.t.c1
  have t2 := st4.out.t.c0
  have t3 := st4.out.t.c1
  simp only at q0 q1 q2 q3 q4 q5 q6 r0 r1 r2 r3 r4 r5 r6
  clear b0 b1 b2 b3 b4 b5 b6 st1 st2 st3 ST
  have st := st4.out
  clear st4
  go_region_held3 (fun w' => w'.cell? ⟨W.heap.size, 0, none⟩ = some (.int .i64 k) ∧ w'.cell? ⟨W.heap.size, 1, none⟩ = some (.int .i64 c) ∧ w'.cell? ⟨W.heap.size, 2, none⟩ = some (.int .i64 q) ∧ w'.cell? ⟨W.heap.size, 3, none⟩ = some (.string a) ∧ w'.cell? ⟨W.heap.size, 4, none⟩ = some (.string b) ∧ w'.cell? ⟨W.heap.size, 5, none⟩ = some (.string o) ∧ w'.cell? ⟨W.heap.size, 6, none⟩ = some (.string v) ∧ w'.cell? ⟨W.heap.size + 1, 0, none⟩ = some (.int .i64 k') ∧ w'.cell? ⟨W.heap.size + 1, 1, none⟩ = some (.int .i64 c') ∧ w'.cell? ⟨W.heap.size + 1, 2, none⟩ = some (.int .i64 q') ∧ w'.cell? ⟨W.heap.size + 1, 3, none⟩ = some (.string a') ∧ w'.cell? ⟨W.heap.size + 1, 4, none⟩ = some (.string b') ∧ w'.cell? ⟨W.heap.size + 1, 5, none⟩ = some (.string o') ∧ w'.cell? ⟨W.heap.size + 1, 6, none⟩ = some (.string v') ∧ w'.cell? ⟨g1, 0, none⟩ = some (.string l) ∧ w'.cell? ⟨g1, 1, none⟩ = some (.string h) ∧ w'.cell? ⟨g2, 0, none⟩ = some (.string l) ∧ w'.cell? ⟨g2, 1, none⟩ = some (.string h)) (go_keep)
    (first
      | (go_at_call 15; (with_reducible refine (Both2.call (W := W) (x := ⟨k, c, q, a, b, o, v⟩) (y := ⟨k', c', q', a', b', o', v'⟩) (g := g1) (l := l) (h := h) (g' := g2) (l' := l) (h' := h) (by first | with_reducible assumption | with_reducible exact Both2.drew (by with_reducible assumption)) (HR.out _)).mono ?_); rintro e w' ⟨rfl, ⟨q0, q1, q2, q3, q4, q5, q6⟩, ⟨r0, r1, r2, r3, r4, r5, r6⟩, ⟨t0, t1, t2, t3⟩, st'⟩; simp only at q0 q1 q2 q3 q4 q5 q6 r0 r1 r2 r3 r4 r5 r6)
      | (go_at_call 16; (with_reducible refine (Both2.call (W := W) (x := ⟨k, c, q, a, b, o, v⟩) (y := ⟨k', c', q', a', b', o', v'⟩) (g := g1) (l := l) (h := h) (g' := g2) (l' := l) (h' := h) (by first | with_reducible assumption | with_reducible exact Both2.drew (by with_reducible assumption)) (HR'.out _)).mono ?_); rintro e w' ⟨rfl, ⟨q0, q1, q2, q3, q4, q5, q6⟩, ⟨r0, r1, r2, r3, r4, r5, r6⟩, ⟨t0, t1, t2, t3⟩, st'⟩; simp only at q0 q1 q2 q3 q4 q5 q6 r0 r1 r2 r3 r4 r5 r6)
      | (go_at_call 17; (with_reducible refine (Both2.call (W := W) (x := ⟨k, c, q, a, b, o, v⟩) (y := ⟨k', c', q', a', b', o', v'⟩) (g := g1) (l := l) (h := h) (g' := g2) (l' := l) (h' := h) (by first | with_reducible assumption | with_reducible exact Both2.drew (by with_reducible assumption)) (HW.out _)).mono ?_); rintro e w' ⟨rfl, ⟨q0, q1, q2, q3, q4, q5, q6⟩, ⟨r0, r1, r2, r3, r4, r5, r6⟩, ⟨t0, t1, t2, t3⟩, st'⟩; simp only at q0 q1 q2 q3 q4 q5 q6 r0 r1 r2 r3 r4 r5 r6)
      | (go_at_call 18; (with_reducible refine (Both2.call (W := W) (x := ⟨k, c, q, a, b, o, v⟩) (y := ⟨k', c', q', a', b', o', v'⟩) (g := g1) (l := l) (h := h) (g' := g2) (l' := l) (h' := h) (by first | with_reducible assumption | with_reducible exact Both2.drew (by with_reducible assumption)) (HW'.out _)).mono ?_); rintro e w' ⟨rfl, ⟨q0, q1, q2, q3, q4, q5, q6⟩, ⟨r0, r1, r2, r3, r4, r5, r6⟩, ⟨t0, t1, t2, t3⟩, st'⟩; simp only at q0 q1 q2 q3 q4 q5 q6 r0 r1 r2 r3 r4 r5 r6)
      | (go_at_call 10; (with_reducible refine (Both2.call (W := W) (x := ⟨k, c, q, a, b, o, v⟩) (y := ⟨k', c', q', a', b', o', v'⟩) (g := g1) (l := l) (h := h) (g' := g2) (l' := l) (h' := h) (by first | with_reducible assumption | with_reducible exact Both2.drew (by with_reducible assumption)) (HC.out _)).mono ?_); rintro e w' ⟨rfl, ⟨q0, q1, q2, q3, q4, q5, q6⟩, ⟨r0, r1, r2, r3, r4, r5, r6⟩, ⟨t0, t1, t2, t3⟩, st'⟩; simp only at q0 q1 q2 q3 q4 q5 q6 r0 r1 r2 r3 r4 r5 r6)
      | (go_at_call 19; (with_reducible refine (Both2.call (W := W) (x := ⟨k, c, q, a, b, o, v⟩) (y := ⟨k', c', q', a', b', o', v'⟩) (g := g1) (l := l) (h := h) (g' := g2) (l' := l) (h' := h) (by first | with_reducible assumption | with_reducible exact Both2.drew (by with_reducible assumption)) (HC'.out _)).mono ?_); rintro e w' ⟨rfl, ⟨q0, q1, q2, q3, q4, q5, q6⟩, ⟨r0, r1, r2, r3, r4, r5, r6⟩, ⟨t0, t1, t2, t3⟩, st'⟩; simp only at q0 q1 q2 q3 q4 q5 q6 r0 r1 r2 r3 r4 r5 r6)
      | (go_at_call 3; (with_reducible refine (Both2.call (W := W) (x := ⟨k, c, q, a, b, o, v⟩) (y := ⟨k', c', q', a', b', o', v'⟩) (g := g1) (l := l) (h := h) (g' := g2) (l' := l) (h' := h) (by first | with_reducible assumption | with_reducible exact Both2.drew (by with_reducible assumption)) (runs_any _)).mono ?_); rintro e w' ⟨rfl, ⟨q0, q1, q2, q3, q4, q5, q6⟩, ⟨r0, r1, r2, r3, r4, r5, r6⟩, ⟨t0, t1, t2, t3⟩, st'⟩; simp only at q0 q1 q2 q3 q4 q5 q6 r0 r1 r2 r3 r4 r5 r6))
  all_goals go_wp2
  all_goals go_ret
  all_goals exact ⟨rfl, Both.old (Both1.s (Both2.s (by with_reducible assumption)))⟩
set_option maxRecDepth 100000 in
theorem lifted (os : Os) (started : os.Started) (H : Type) (enc : TypeId × Value → H) :
    ReturnsInHanded {} Try.checked os 4 .any (Rows.cmdTellsSpec.pre6 enc Try.prog Try.f4 Rows.cmdTellsRow.domain false) (Rows.cmdTellsSpec.post enc Try.prog Try.f4 false true false false) := by
  refine returnsInHanded_of_change_sized (C := Try.checked) own started (by kernel_rfl) Try.func4
    (ChangeSpec.witness6 (enc := enc) (C := Try.checked) false ⟨#[], #[.agg #[.int .i64 0, .int .i64 0, .int .i64 0, .string ⟨#[]⟩, .string ⟨#[]⟩, .string ⟨#[]⟩, .string ⟨#[]⟩], .agg #[.int .i64 0, .int .i64 0, .int .i64 0, .string ⟨#[]⟩, .string ⟨#[]⟩, .string ⟨#[]⟩, .string ⟨#[]⟩]], []⟩ 8 (by kernel_rfl) (by kernel_rfl) (by kernel_rfl) (by kernel_rfl)) ?_
  intro W base args ds gs before hval0 hW _ hsz0 _
  have hval : ∀ (j : Nat) t v, Try.f4.params[j]? = some t → args[j]? = some v → Value.okWide Try.prog W .any base t v := hval0
  have hW' := hW
  obtain ⟨p, q, hA0, hV, rfl, _, _⟩ := hW
  have hA : DataW.TrodAll enc Try.prog W 0 (fun _ => true) true Try.f4.params.toList args.toList ds p := hA0
  have hsz : (DataW.weightsEach Try.prog (Try.f4.params.toList ++ Rows.cmdTellsSpec.plain.varTypes Try.prog) (ds ++ gs)).all (· ≤ reachBytes) = true := hsz0
  rw [Try.params4] at hA hval hsz
  obtain ⟨v0, vs0, d0, ds0, p0, q0, hargs, rfl, rfl, h0, r0⟩ := trodAll_cons hA
  obtain ⟨v1, vs1, d1, ds1, p1, q1, rfl, rfl, rfl, h1, r1⟩ := trodAll_cons r0
  obtain ⟨rfl, rfl, rfl⟩ := trodAll_nil r1
  obtain rfl : args = #[v0, v1] := by cases args; simp_all
  obtain ⟨rfl, rfl⟩ := trodVars_none hV
  have k0 := h0
  have lt0 : ∀ x ∈ p0, x.block < W.heap.size := by obtain ⟨m, hm⟩ := k0; exact DataW.trod_lt m _ _ _ hm
  obtain ⟨x0, rfl, s0⟩ := cmd_in (j := 0) (hval 0 23 v0 rfl rfl) h0 hsz rfl rfl
  have k1 := h1
  have lt1 : ∀ x ∈ p1, x.block < W.heap.size := by obtain ⟨m, hm⟩ := k1; exact DataW.trod_lt m _ _ _ hm
  obtain ⟨x1, rfl, s1⟩ := cmd_in (j := 1) (hval 1 23 v1 rfl rfl) h1 hsz rfl rfl
  clear hA0 hval0
  refine (walk x0 x1 W s0 s1).mono fun e W' ⟨he, bel⟩ => ?_
  subst he
  exact ⟨_, rfl, _, _, _, [], _, [], hW', trodAll_mk1 (shut_bool Try.underlying4 _), (trodAll_cons_mk (Below.trod laidOut (by kernel_rfl) (of_decide_eq_true (by kernel_rfl)) k0 bel lt0) (trodAll_cons_mk (Below.trod laidOut (by kernel_rfl) (of_decide_eq_true (by kernel_rfl)) k1 bel lt1) trodAll_mk0)), rfl, bel.frame _, fun h => by cases h⟩
theorem over : Rows.cmdTellsRow.holds Try.pinned (OpenSpec.ofChange Rows.cmdTellsSpec) :=
  OpenClaim.holds_of_wide 4 Try.f4 rfl rfl rfl rfl rfl rfl rfl ⟨rfl, rfl, rfl, rfl, rfl⟩ rfl rfl rfl rfl rfl (by kernel_rfl) Try.func4 (by kernel_rfl)
    (of_decide_eq_true (by kernel_rfl)) (by unfold Func.isWrapper; first | (rw [if_pos (by decide +kernel)]; kernel_rfl) | (rw [if_neg (by decide +kernel)]; exact ⟨rfl, rfl⟩))
    (fun os started H enc _ => lifted os started H enc)
theorem proved : Rows.CmdTellsSaid := over
end Go.Proofs.Ytigbplmfhnamkaa.cmdTells
