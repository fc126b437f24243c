/- Proved: the law WordBytes returns true. Conditions: none beyond the row's own. -/
import Derived.Test.YtdhlaaadliflcaaFrame
import Derived.Test.YtdhlaaadliflcaaRuns
import Derived.Test.YtdhlaaadliflcaaUse
namespace Go.Proofs.Ytdhlaaadliflcaa.wordBytes
open Go.ChangeShapes Go.WideShapes Go.ChangeAt Go.RowKit
theorem front {w : World} {A : Option Addr} {zs ys : List Int} (h : Lies w A (zs ++ ys)) : Lies w A zs := by
  have := h.take zs.length
  rwa [List.take_left] at this
theorem length_put {zs : List Int} {n : Nat} (u : Int) (M : Nat) (h : zs.length = n) : (zs ++ putL u M).length = n + M := by rw [List.length_append, length_putL, h]
theorem same_self {A B : Option Addr} {n c d : Nat} {zs : List Int} {w : World} (hn : zs.length = n) (h1 : Lies w A zs) (h2 : Lies w B zs) (ln : n ≤ 4611686018427387904) :
    Calls Try.prog 18 #[.slice A n c, .slice B n d] w fun e w' => e = .returned (.bool true) ∧ ∃ q, w' = w.drewN q := by
  have h := same_any A B n n c d zs zs w hn hn h1 h2 ln ln
  rwa [decide_eq_true rfl] at h
set_option maxHeartbeats 2000000 in
theorem walk (A : Option Addr) (n c : Nat) (zs : List Int) (a1 a2 a3 : Int) (W : World) (s : SliceIn W A n c zs) (_ : -9223372036854775808 ≤ a1 ∧ a1 ≤ 9223372036854775807) (_ : -9223372036854775808 ≤ a2 ∧ a2 ≤ 9223372036854775807) (_ : 0 ≤ a3 ∧ a3 ≤ 18446744073709551615) :
    Calls Try.prog 5 #[.slice A n c, .int .i64 a1, .int .i64 a2, .int .u64 a3] W fun e w' => e = .returned (.bool true) ∧ Below W.heap.size W w' := by
  have ln := s.le
  have lc := s.room
  go_enter Try.func5, Try.ntmps5
  have hM : putM a2 ≤ 8 := by unfold putM; omega
  go_wp2_with (first
    | (go_at_call 26; (with_reducible refine (roomy_use _ s.len s.lies (by omega)).mono ?_); rintro e w1 ⟨A1, rfl, hl1, hA1, hb1⟩)
    | (go_at_call 12; (with_reducible refine (get_any A1 n _ zs _ _ w1 s.len (front hl1) s.oct (by omega)).mono ?_); rintro e w4 ⟨rfl, rfl⟩)
    | (go_at_call 27; (with_reducible refine (rget_any A n _ zs _ _ w1 s.len (s.lies.below hb1) s.oct (by omega)).mono ?_); rintro e w4 ⟨rfl, rfl⟩)
    | (go_at_call 19; (with_reducible refine (put_use (n + putM a2) (putM a2) w1 s.len (front hl1) (fun h => absurd h hA1) (by omega) rfl rfl).mono ?_); rintro e w2 ⟨A2, rfl, hl2, hA2, hb2⟩)
    | (go_at_call 28; (with_reducible refine (rput_use w2 s.len ((s.lies.below hb1).below hb2) s.nil (by omega)).mono ?_); rintro e w3 ⟨A3, c3, rfl, hl3, hb3⟩)
    | (go_at_call 18; (with_reducible refine (same_self (length_put _ _ s.len) (hl2.below hb3) hl3 (by omega)).mono ?_); rintro e w5 ⟨rfl, q5, rfl⟩)
    | (go_at_call 29; (with_reducible refine (intact_any A1 A (n + 80) n (n + 80) c _ zs 3 _ (by rw [List.length_append, length_pad, s.len]) s.len (((hl1.below hb2).below hb3).drewN _) ((((s.lies.below hb1).below hb2).below hb3).drewN _) (by omega) (by omega) (by omega) rfl).mono ?_); rintro e w6 ⟨rfl, q6, rfl⟩)
    | (go_at_call 3; (with_reducible refine (runs_any _).mono ?_); rintro e w9 ⟨rfl, hb9⟩))
  go_ret
  exact ⟨rfl, kept_trans (kept_trans (kept_trans (kept_trans hb1 hb2) hb3) (by repeat (first | exact kept_refl _ | apply kept_drewN | apply kept_alloc))) hb9⟩
set_option maxRecDepth 100000 in
theorem lifted (os : Os) (started : os.Started) (H : Type) (enc : TypeId × Value → H) :
    ReturnsInHanded {} Try.checked os 5 .any (Rows.wordBytesSpec.pre6 enc Try.prog Try.f5 Rows.wordBytesRow.domain false) (Rows.wordBytesSpec.post enc Try.prog Try.f5 false true false false) := by
  refine returnsInHanded_of_change_sized (C := Try.checked) own started (by kernel_rfl) Try.func5
    (ChangeSpec.witness6 (enc := enc) (C := Try.checked) false ⟨#[], #[.slice none 0 0, .int .i64 0, .int .i64 0, .int .u64 0], []⟩ 8 (by kernel_rfl) (by kernel_rfl) (by kernel_rfl) (by kernel_rfl)) ?_
  intro W base args ds gs before hval0 hW _ hsz0 _
  have hval : ∀ (j : Nat) t v, Try.f5.params[j]? = some t → args[j]? = some v → Value.okWide Try.prog W .any base t v := hval0
  have hW' := hW
  obtain ⟨p, q, hA0, hV, rfl, _, _⟩ := hW
  have hA : DataW.TrodAll enc Try.prog W 0 (fun _ => true) true Try.f5.params.toList args.toList ds p := hA0
  have hsz : (DataW.weightsEach Try.prog (Try.f5.params.toList ++ Rows.wordBytesSpec.plain.varTypes Try.prog) (ds ++ gs)).all (· ≤ reachBytes) = true := hsz0
  rw [Try.params5] at hA hval hsz
  obtain ⟨v0, vs0, d0, ds0, p0, q0, hargs, rfl, rfl, h0, r0⟩ := trodAll_cons hA
  obtain ⟨v1, vs1, d1, ds1, p1, q1, rfl, rfl, rfl, h1, r1⟩ := trodAll_cons r0
  obtain ⟨v2, vs2, d2, ds2, p2, q2, rfl, rfl, rfl, h2, r2⟩ := trodAll_cons r1
  obtain ⟨v3, vs3, d3, ds3, p3, q3, rfl, rfl, rfl, h3, r3⟩ := trodAll_cons r2
  obtain ⟨rfl, rfl, rfl⟩ := trodAll_nil r3
  obtain rfl : args = #[v0, v1, v2, v3] := by cases args; simp_all
  obtain ⟨rfl, rfl⟩ := trodVars_none hV
  have k0 := h0
  have lt0 : ∀ x ∈ p0, x.block < W.heap.size := by obtain ⟨m, hm⟩ := k0; exact DataW.trod_lt m _ _ _ hm
  obtain ⟨A0, n0, c0, rfl⟩ := okWide_slice Try.underlying26 (hval 0 26 v0 rfl rfl)
  obtain ⟨z0, s0⟩ := slice_in (j := 0) h0 hsz rfl rfl
  obtain ⟨a1, rfl, rfl, rfl, w1⟩ := open_int Try.underlying3 (hval 1 3 v1 rfl rfl) h1
  obtain ⟨a2, rfl, rfl, rfl, w2⟩ := open_int Try.underlying3 (hval 2 3 v2 rfl rfl) h2
  obtain ⟨a3, rfl, rfl, rfl, w3⟩ := open_int Try.underlying22 (hval 3 22 v3 rfl rfl) h3
  clear hA0 hval0
  refine (walk A0 n0 c0 z0 a1 a2 a3 W s0 (bounds_i64 w1) (bounds_i64 w2) (bounds_u64 w3)).mono fun e W' ⟨he, bel⟩ => ?_
  subst he
  exact ⟨_, rfl, _, _, _, [], _, [], hW', trodAll_mk1 (shut_bool Try.underlying4 _), (trodAll_cons_mk (Below.trod laidOut (by kernel_rfl) (of_decide_eq_true (by kernel_rfl)) k0 bel lt0) (trodAll_cons_mk (shut_int Try.underlying3 w1) (trodAll_cons_mk (shut_int Try.underlying3 w2) (trodAll_cons_mk (shut_int Try.underlying22 w3) trodAll_mk0)))), rfl, bel.frame _, fun h => by cases h⟩
theorem over : Rows.wordBytesRow.holds Try.pinned (OpenSpec.ofChange Rows.wordBytesSpec) :=
  OpenClaim.holds_of_wide 5 Try.f5 rfl rfl rfl rfl rfl rfl rfl ⟨rfl, rfl, rfl, rfl, rfl⟩ rfl rfl rfl rfl rfl (by kernel_rfl) Try.func5 (by kernel_rfl)
    (of_decide_eq_true (by kernel_rfl)) (by unfold Func.isWrapper; first | (rw [if_pos (by decide +kernel)]; kernel_rfl) | (rw [if_neg (by decide +kernel)]; exact ⟨rfl, rfl⟩))
    (fun os started H enc _ => lifted os started H enc)
theorem proved : Rows.WordBytesSaid := over
end Go.Proofs.Ytdhlaaadliflcaa.wordBytes
