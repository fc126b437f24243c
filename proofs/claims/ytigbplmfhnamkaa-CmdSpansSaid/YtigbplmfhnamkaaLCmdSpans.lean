/- Proved: the law CmdSpans returns true. Conditions: none beyond the row's own. -/
import Derived.Test.YtigbplmfhnamkaaFrame
import Derived.Test.YtigbplmfhnamkaaRuns
import Derived.Test.YtigbplmfhnamkaaRz
import Derived.Test.YtigbplmfhnamkaaWithin
import Derived.Deep.DeepCutAuto
import Derived.Deep.RegionHeld3
namespace Go.Proofs.Ytigbplmfhnamkaa.cmdSpans
open Go.ChangeShapes Go.WideShapes Go.ChangeAt Go.RowKit
theorem new_at {w : World} {cs : Array Value} {t : TypeId} {g : Nat} (hg : w.heap.size = g) : Row (w.alloc (.cells cs t)) g t cs := hg ▸ Row.new w t cs
theorem clash_range {kv : Int} (key lo hi : ByteArray) (h : 2 ≤ kv ∧ kv ≤ 4) : clashC ⟨kv, 1, 0, key, ⟨#[]⟩, ⟨#[]⟩, ⟨#[]⟩⟩ ⟨5, 2, 0, lo, hi, ⟨#[]⟩, ⟨#[]⟩⟩ = hasB lo hi key := by
  unfold clashC loC hiC
  have h1 : hasC kv = true := by unfold hasC; rw [decide_eq_true (by omega), decide_eq_true (by omega)]; rfl
  have h2 : writesC kv = true := by unfold writesC; rw [decide_eq_true (by omega), decide_eq_true (by omega)]; rfl
  have h3 : hasC 5 = true := by decide
  have h4 : ¬ kv = 5 := by omega
  simp only [h1, h2, h3, if_true, if_neg h4]
  rw [meet_swap, of_meet]
  simp
theorem clash_other {kv : Int} (key lo hi : ByteArray) (h : 2 ≤ kv ∧ kv ≤ 4) : clashC ⟨5, 2, 0, lo, hi, ⟨#[]⟩, ⟨#[]⟩⟩ ⟨kv, 1, 0, key, ⟨#[]⟩, ⟨#[]⟩, ⟨#[]⟩⟩ = hasB lo hi key := by
  unfold clashC loC hiC
  have h1 : hasC kv = true := by unfold hasC; rw [decide_eq_true (by omega), decide_eq_true (by omega)]; rfl
  have h2 : writesC kv = true := by unfold writesC; rw [decide_eq_true (by omega), decide_eq_true (by omega)]; rfl
  have h3 : hasC 5 = true := by decide
  have h4 : ¬ kv = 5 := by omega
  simp only [h1, h2, h3, if_true, if_neg h4]
  rw [of_meet]
  simp
theorem clash_reads (key lo hi : ByteArray) : clashC ⟨1, 1, 0, key, ⟨#[]⟩, ⟨#[]⟩, ⟨#[]⟩⟩ ⟨5, 2, 0, lo, hi, ⟨#[]⟩, ⟨#[]⟩⟩ = false := by
  unfold clashC
  have h1 : writesC 1 = false := by decide
  have h2 : writesC 5 = false := by decide
  simp [h1, h2]
set_option maxRecDepth 100000 in
set_option maxHeartbeats 8000000 in
theorem walk (key lo hi : ByteArray) (n : Int) (W : World) (hk : key.size ≤ 140737488351232) (hlo : lo.size ≤ 140737488351232) (_hhi : hi.size ≤ 140737488351232) (_hn : -9223372036854775808 ≤ n ∧ n ≤ 9223372036854775807) :
    Calls Try.prog 8 #[.string key, .string lo, .string hi, .int .i64 n] W fun e w' => e = .returned (.bool true) ∧ Below W.heap.size W w' := by
  have hb := withinI_bounds n 0 2 (by omega)
  have HW := hide fun w1 => within_any n 0 2 w1 (by omega) (by omega) (by omega)
  generalize withinI n 0 2 = t at *
  go_enter Try.func8, Try.ntmps8
  go_upto_region 1 with (fail)
  go_cut [9] (fun s9 wx => ∃ kv g, (2 ≤ kv ∧ kv ≤ 4) ∧ s9 = .pointer (some ⟨g, 0, none⟩) ∧ Row wx g 23 (rowC ⟨kv, 1, 0, key, ⟨#[]⟩, ⟨#[]⟩, ⟨#[]⟩⟩) ∧ Below W.heap.size W wx)
  case first =>
    obtain rfl | rfl | rfl : t = 0 ∨ t = 1 ∨ t = 2 := by omega
    all_goals
      go_wp2_with (go_at_call 22; (with_reducible refine (HW.out _).mono ?_); rintro e w1 ⟨rfl, rfl⟩)
      go_meet
      refine ⟨_, _, ?_, rfl, new_at (by simp), ?_⟩
      · omega
      · repeat' first | exact Below.refl _ _ | refine bit_alloc ?_ (Nat.le_refl _) _
  case rest =>
    obtain ⟨kv, g, hkv, rfl, row, old⟩ := hcut
    have l0 := row.lt
    go_upto_region 4 with (fail)
    have st : Tri W ((wc.alloc (.cells #[.int .i64 5, .int .i64 2, .int .i64 0, .string lo, .string hi, .string ⟨#[]⟩, .string ⟨#[]⟩] 23)).alloc (.cells #[.int .i64 1, .int .i64 1, .int .i64 0, .string key, .string ⟨#[]⟩, .string ⟨#[]⟩, .string ⟨#[]⟩] 23)) g ⟨kv, 1, 0, key, ⟨#[]⟩, ⟨#[]⟩, ⟨#[]⟩⟩ wc.heap.size ⟨5, 2, 0, lo, hi, ⟨#[]⟩, ⟨#[]⟩⟩ (wc.heap.size + 1) ⟨1, 1, 0, key, ⟨#[]⟩, ⟨#[]⟩, ⟨#[]⟩⟩ := by
      have z := Both.start wc ⟨5, 2, 0, lo, hi, ⟨#[]⟩, ⟨#[]⟩⟩ ⟨1, 1, 0, key, ⟨#[]⟩, ⟨#[]⟩, ⟨#[]⟩⟩ 23
      exact ⟨seven_of (row.below z.old l0), z.a, z.b, by simp; omega, by simp; omega, by simp, old.trans (z.old.mono old.size)⟩
    generalize (wc.alloc (.cells #[.int .i64 5, .int .i64 2, .int .i64 0, .string lo, .string hi, .string ⟨#[]⟩, .string ⟨#[]⟩] 23)).alloc (.cells #[.int .i64 1, .int .i64 1, .int .i64 0, .string key, .string ⟨#[]⟩, .string ⟨#[]⟩, .string ⟨#[]⟩] 23) = w2 at *
    generalize wc.heap.size = g2 at *
    clear row old l0
    go_cut [12] (fun s12 wx => s12 = .bool (hasB lo hi key) ∧ wx = w2)
    case first =>
      go_wp2_with fail
      all_goals go_meet
      all_goals exact ⟨congrArg Value.bool (by simp [hasB, inB, nilB, ltB, *]), rfl⟩
    case rest =>
      obtain ⟨rfl, rfl⟩ := hcut
      have C1 := hide fun w1 => clash_is w1 (clash_range key lo hi hkv) (by omega) (by omega)
      have C2 := hide fun w1 => clash_is w1 (clash_other key lo hi hkv) (by omega) (by omega)
      have C3 := hide fun w1 => clash_is w1 (clash_reads key lo hi) (by omega) (by omega)
      generalize hasB lo hi key = hs at *
      obtain ⟨q0, q1, q2, q3, q4, q5, q6⟩ := st.a.cells
      obtain ⟨r0, r1, r2, r3, r4, r5, r6⟩ := st.b.cells
      obtain ⟨z0, z1, z2, z3, z4, z5, z6⟩ := st.c.cells
      simp only at q0 q1 q2 q3 q4 q5 q6 r0 r1 r2 r3 r4 r5 r6 z0 z1 z2 z3 z4 z5 z6
      clear hk hlo _hhi _hn hkv
      go_wp2_with (first
        | (go_at_call 10; (with_reducible refine (Tri.call (by with_reducible assumption) (C1.out _)).mono ?_); rintro e w' ⟨rfl, ⟨q0, q1, q2, q3, q4, q5, q6⟩, ⟨r0, r1, r2, r3, r4, r5, r6⟩, ⟨z0, z1, z2, z3, z4, z5, z6⟩, st⟩; simp only at q0 q1 q2 q3 q4 q5 q6 r0 r1 r2 r3 r4 r5 r6 z0 z1 z2 z3 z4 z5 z6)
        | (go_at_call 10; (with_reducible refine (Tri.call (by with_reducible assumption) (C2.out _)).mono ?_); rintro e w' ⟨rfl, ⟨q0, q1, q2, q3, q4, q5, q6⟩, ⟨r0, r1, r2, r3, r4, r5, r6⟩, ⟨z0, z1, z2, z3, z4, z5, z6⟩, st⟩; simp only at q0 q1 q2 q3 q4 q5 q6 r0 r1 r2 r3 r4 r5 r6 z0 z1 z2 z3 z4 z5 z6)
        | (go_at_call 10; (with_reducible refine (Tri.call (by with_reducible assumption) (C3.out _)).mono ?_); rintro e w' ⟨rfl, ⟨q0, q1, q2, q3, q4, q5, q6⟩, ⟨r0, r1, r2, r3, r4, r5, r6⟩, ⟨z0, z1, z2, z3, z4, z5, z6⟩, st⟩; simp only at q0 q1 q2 q3 q4 q5 q6 r0 r1 r2 r3 r4 r5 r6 z0 z1 z2 z3 z4 z5 z6)
        | (go_at_call 3; (with_reducible refine (runs_any _).mono ?_); rintro e w11 ⟨rfl, k11⟩))
      go_ret
      exact ⟨rfl, st.old.trans (k11.mono st.old.size)⟩
set_option maxRecDepth 100000 in
theorem lifted (os : Os) (started : os.Started) (H : Type) (enc : TypeId × Value → H) :
    ReturnsInHanded {} Try.checked os 8 .any (Rows.cmdSpansSpec.pre6 enc Try.prog Try.f8 Rows.cmdSpansRow.domain false) (Rows.cmdSpansSpec.post enc Try.prog Try.f8 false true false false) := by
  refine returnsInHanded_of_change_sized (C := Try.checked) own started (by kernel_rfl) Try.func8
    (ChangeSpec.witness6 (enc := enc) (C := Try.checked) false ⟨#[], #[.string ⟨#[]⟩, .string ⟨#[]⟩, .string ⟨#[]⟩, .int .i64 0], []⟩ 8 (by kernel_rfl) (by kernel_rfl) (by kernel_rfl) (by kernel_rfl)) ?_
  intro W base args ds gs before hval0 hW _ hsz0 _
  have hval : ∀ (j : Nat) t v, Try.f8.params[j]? = some t → args[j]? = some v → Value.okWide Try.prog W .any base t v := hval0
  have hW' := hW
  obtain ⟨p, q, hA0, hV, rfl, _, _⟩ := hW
  have hA : DataW.TrodAll enc Try.prog W 0 (fun _ => true) true Try.f8.params.toList args.toList ds p := hA0
  have hsz : (DataW.weightsEach Try.prog (Try.f8.params.toList ++ Rows.cmdSpansSpec.plain.varTypes Try.prog) (ds ++ gs)).all (· ≤ reachBytes) = true := hsz0
  rw [Try.params8] at hA hval hsz
  obtain ⟨v0, vs0, d0, ds0, p0, q0, hargs, rfl, rfl, h0, r0⟩ := trodAll_cons hA
  obtain ⟨v1, vs1, d1, ds1, p1, q1, rfl, rfl, rfl, h1, r1⟩ := trodAll_cons r0
  obtain ⟨v2, vs2, d2, ds2, p2, q2, rfl, rfl, rfl, h2, r2⟩ := trodAll_cons r1
  obtain ⟨v3, vs3, d3, ds3, p3, q3, rfl, rfl, rfl, h3, r3⟩ := trodAll_cons r2
  obtain ⟨rfl, rfl, rfl⟩ := trodAll_nil r3
  obtain rfl : args = #[v0, v1, v2, v3] := by cases args; simp_all
  obtain ⟨rfl, rfl⟩ := trodVars_none hV
  have k0 := h0
  have lt0 : ∀ x ∈ p0, x.block < W.heap.size := by obtain ⟨m, hm⟩ := k0; exact DataW.trod_lt m _ _ _ hm
  obtain ⟨a0, rfl, s0⟩ := str_in (j := 0) (hval 0 9 v0 rfl rfl) h0 hsz rfl rfl
  have k1 := h1
  have lt1 : ∀ x ∈ p1, x.block < W.heap.size := by obtain ⟨m, hm⟩ := k1; exact DataW.trod_lt m _ _ _ hm
  obtain ⟨a1, rfl, s1⟩ := str_in (j := 1) (hval 1 9 v1 rfl rfl) h1 hsz rfl rfl
  have k2 := h2
  have lt2 : ∀ x ∈ p2, x.block < W.heap.size := by obtain ⟨m, hm⟩ := k2; exact DataW.trod_lt m _ _ _ hm
  obtain ⟨a2, rfl, s2⟩ := str_in (j := 2) (hval 2 9 v2 rfl rfl) h2 hsz rfl rfl
  obtain ⟨a3, rfl, rfl, rfl, w3⟩ := open_int Try.underlying3 (hval 3 3 v3 rfl rfl) h3
  clear hA0 hval0
  refine (walk a0 a1 a2 a3 W s0 s1 s2 (bounds_i64 w3)).mono fun e W' ⟨he, bel⟩ => ?_
  subst he
  exact ⟨_, rfl, _, _, _, [], _, [], hW', trodAll_mk1 (shut_bool Try.underlying4 _), (trodAll_cons_mk (Below.trod laidOut (by kernel_rfl) (of_decide_eq_true (by kernel_rfl)) k0 bel lt0) (trodAll_cons_mk (Below.trod laidOut (by kernel_rfl) (of_decide_eq_true (by kernel_rfl)) k1 bel lt1) (trodAll_cons_mk (Below.trod laidOut (by kernel_rfl) (of_decide_eq_true (by kernel_rfl)) k2 bel lt2) (trodAll_cons_mk (shut_int Try.underlying3 w3) trodAll_mk0)))), rfl, bel.frame _, fun h => by cases h⟩
theorem over : Rows.cmdSpansRow.holds Try.pinned (OpenSpec.ofChange Rows.cmdSpansSpec) :=
  OpenClaim.holds_of_wide 8 Try.f8 rfl rfl rfl rfl rfl rfl rfl ⟨rfl, rfl, rfl, rfl, rfl⟩ rfl rfl rfl rfl rfl (by kernel_rfl) Try.func8 (by kernel_rfl)
    (of_decide_eq_true (by kernel_rfl)) (by unfold Func.isWrapper; first | (rw [if_pos (by decide +kernel)]; kernel_rfl) | (rw [if_neg (by decide +kernel)]; exact ⟨rfl, rfl⟩))
    (fun os started H enc _ => lifted os started H enc)
theorem proved : Rows.CmdSpansSaid := over
end Go.Proofs.Ytigbplmfhnamkaa.cmdSpans
