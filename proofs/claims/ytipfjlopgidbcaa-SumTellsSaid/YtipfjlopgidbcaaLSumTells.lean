/- Proved: the law SumTells returns true. Conditions: none beyond the row's own. -/
import Derived.Test.YtipfjlopgidbcaaFrame
import Derived.Test.YtipfjlopgidbcaaRuns
import Derived.Test.YtipfjlopgidbcaaRoom
namespace Go.Proofs.Ytipfjlopgidbcaa.sumTells
open Go.ChangeShapes Go.WideShapes Go.ChangeAt Go.RowKit
theorem front {w : World} {A : Option Addr} {zs ys : List Int} (h : Lies w A (zs ++ ys)) : Lies w A zs := by
  have := h.take zs.length
  rwa [List.take_left] at this
theorem octets_take {zs : List Int} (h : Octets zs) (k : Nat) : Octets (zs.take k) := fun z hz => h z (List.mem_of_mem_take hz)
set_option maxHeartbeats 2000000 in
theorem walk (a0 : Int) (A : Option Addr) (n c : Nat) (zs : List Int) (W : World) (b0 : 0 ≤ a0 ∧ a0 ≤ 4294967295) (s : SliceIn W A n c zs) :
    Calls Try.prog 4 #[.int .u32 a0, .slice A n c] W fun e w' => e = .returned (.bool true) ∧ Below W.heap.size W w' := by
  obtain ⟨X, rfl⟩ := Int.eq_ofNat_of_zero_le b0.1
  have hX : X < 4294967296 := by omega
  have lc := s.room
  have lnc := s.le
  by_cases hlen : n ≤ 500
  · have hn := hide s.len
    have hz := hide s.lies
    have ho := hide s.oct
    clear s b0
    go_enter Try.func4, Try.ntmps4
    go_wp2_with (first
      | (go_at_call 8; (with_reducible refine (roomy_any A n c zs _ W hn.out hz.out (by omega)).mono ?_); rintro e w1 ⟨rfl, hown, hb1⟩; have hl1 := hide (Lies.of_own hown); have hzb := hide (hz.out.below hb1); have HB := hide hb1; have hg := hb1.size; clear hown hb1)
      | (go_at_call 9; (with_reducible refine (on_any _ n _ zs X w1 hX hn.out (front hl1.out) ho.out (by omega)).mono ?_); rintro e w2 ⟨rfl, rfl⟩)
      | (go_at_call 10; (with_reducible refine (ron_any _ n _ zs X w1 hX hn.out hzb.out ho.out (by omega)).mono ?_); rintro e w2 ⟨rfl, rfl⟩)
      | (go_at_call 7; (with_reducible refine (of_any _ n _ zs w1 hn.out (front hl1.out) ho.out (by omega)).mono ?_); rintro e w2 ⟨rfl, rfl⟩)
      | (go_at_call 10; (with_reducible refine (ron_zero _ n _ zs w1 hn.out hzb.out ho.out (by omega)).mono ?_); rintro e w2 ⟨rfl, rfl⟩)
      | (go_at_call 11; (with_reducible refine (intact_any _ A (n + 80) n (n + 80) c _ zs 17 w1 (by rw [List.length_append, length_pad, hn.out]) hn.out hl1.out hzb.out (by omega) (by omega) (by omega) rfl).mono ?_); rintro e w3 ⟨rfl, q3, rfl⟩)
      | (go_at_call 3; (with_reducible refine (runs_any _).mono ?_); rintro e w9 ⟨rfl, hb9⟩))
    go_ret
    exact ⟨rfl, kept_trans (kept_drewN HB.out _) hb9⟩
  · have hn := hide (show (zs.take 500).length = 500 by rw [List.length_take, s.len]; omega)
    have hz := hide (s.lies.take 500)
    have ho := hide (octets_take s.oct 500)
    clear s b0
    go_enter Try.func4, Try.ntmps4
    go_wp2_with (first
      | (go_at_call 8; (with_reducible refine (roomy_any A 500 c (zs.take 500) _ W hn.out hz.out (by omega)).mono ?_); rintro e w1 ⟨rfl, hown, hb1⟩; have hl1 := hide (Lies.of_own hown); have hzb := hide (hz.out.below hb1); have HB := hide hb1; have hg := hb1.size; clear hown hb1)
      | (go_at_call 9; (with_reducible refine (on_any _ 500 _ (zs.take 500) X w1 hX hn.out (front hl1.out) ho.out (by omega)).mono ?_); rintro e w2 ⟨rfl, rfl⟩)
      | (go_at_call 10; (with_reducible refine (ron_any _ 500 _ (zs.take 500) X w1 hX hn.out hzb.out ho.out (by omega)).mono ?_); rintro e w2 ⟨rfl, rfl⟩)
      | (go_at_call 7; (with_reducible refine (of_any _ 500 _ (zs.take 500) w1 hn.out (front hl1.out) ho.out (by omega)).mono ?_); rintro e w2 ⟨rfl, rfl⟩)
      | (go_at_call 10; (with_reducible refine (ron_zero _ 500 _ (zs.take 500) w1 hn.out hzb.out ho.out (by omega)).mono ?_); rintro e w2 ⟨rfl, rfl⟩)
      | (go_at_call 11; (with_reducible refine (intact_any _ A (500 + 80) 500 (500 + 80) c _ (zs.take 500) 17 w1 (by rw [List.length_append, length_pad, hn.out]) hn.out hl1.out hzb.out (by omega) (by omega) (by omega) rfl).mono ?_); rintro e w3 ⟨rfl, q3, rfl⟩)
      | (go_at_call 3; (with_reducible refine (runs_any _).mono ?_); rintro e w9 ⟨rfl, hb9⟩))
    go_ret
    exact ⟨rfl, kept_trans (kept_drewN HB.out _) hb9⟩
set_option maxRecDepth 100000 in
theorem lifted (os : Os) (started : os.Started) (H : Type) (enc : TypeId × Value → H) :
    ReturnsInHanded {} Try.checked os 4 .any (Rows.sumTellsSpec.pre6 enc Try.prog Try.f4 Rows.sumTellsRow.domain false) (Rows.sumTellsSpec.post enc Try.prog Try.f4 false true false false) := by
  refine returnsInHanded_of_change_sized (C := Try.checked) own started (by kernel_rfl) Try.func4
    (ChangeSpec.witness6 (enc := enc) (C := Try.checked) false ⟨#[], #[.int .u32 0, .slice none 0 0], []⟩ 8 (by kernel_rfl) (by kernel_rfl) (by kernel_rfl) (by kernel_rfl)) ?_
  intro W base args ds gs before hval0 hW _ hsz0 _
  have hval : ∀ (j : Nat) t v, Try.f4.params[j]? = some t → args[j]? = some v → Value.okWide Try.prog W .any base t v := hval0
  have hW' := hW
  obtain ⟨p, q, hA0, hV, rfl, _, _⟩ := hW
  have hA : DataW.TrodAll enc Try.prog W 0 (fun _ => true) true Try.f4.params.toList args.toList ds p := hA0
  have hsz : (DataW.weightsEach Try.prog (Try.f4.params.toList ++ Rows.sumTellsSpec.plain.varTypes Try.prog) (ds ++ gs)).all (· ≤ reachBytes) = true := hsz0
  rw [Try.params4] at hA hval hsz
  obtain ⟨v0, vs0, d0, ds0, p0, q0, hargs, rfl, rfl, h0, r0⟩ := trodAll_cons hA
  obtain ⟨v1, vs1, d1, ds1, p1, q1, rfl, rfl, rfl, h1, r1⟩ := trodAll_cons r0
  obtain ⟨rfl, rfl, rfl⟩ := trodAll_nil r1
  obtain rfl : args = #[v0, v1] := by cases args; simp_all
  obtain ⟨rfl, rfl⟩ := trodVars_none hV
  obtain ⟨a0, rfl, rfl, rfl, w0⟩ := open_int Try.underlying22 (hval 0 22 v0 rfl rfl) h0
  have k1 := h1
  have lt1 : ∀ x ∈ p1, x.block < W.heap.size := by obtain ⟨m, hm⟩ := k1; exact DataW.trod_lt m _ _ _ hm
  obtain ⟨A1, n1, c1, rfl⟩ := okWide_slice Try.underlying24 (hval 1 24 v1 rfl rfl)
  obtain ⟨z1, s1⟩ := slice_in (j := 1) h1 hsz rfl rfl
  clear hA0 hval0
  refine (walk a0 A1 n1 c1 z1 W (bounds_u32 w0) s1).mono fun e W' ⟨he, bel⟩ => ?_
  subst he
  exact ⟨_, rfl, _, _, _, [], _, [], hW', trodAll_mk1 (shut_bool Try.underlying4 _), (trodAll_cons_mk (shut_int Try.underlying22 w0) (trodAll_cons_mk (Below.trod laidOut (by kernel_rfl) (of_decide_eq_true (by kernel_rfl)) k1 bel lt1) trodAll_mk0)), rfl, bel.frame _, fun h => by cases h⟩
theorem over : Rows.sumTellsRow.holds Try.pinned (OpenSpec.ofChange Rows.sumTellsSpec) :=
  OpenClaim.holds_of_wide 4 Try.f4 rfl rfl rfl rfl rfl rfl rfl ⟨rfl, rfl, rfl, rfl, rfl⟩ rfl rfl rfl rfl rfl (by kernel_rfl) Try.func4 (by kernel_rfl)
    (of_decide_eq_true (by kernel_rfl)) (by unfold Func.isWrapper; first | (rw [if_pos (by decide +kernel)]; kernel_rfl) | (rw [if_neg (by decide +kernel)]; exact ⟨rfl, rfl⟩))
    (fun os started H enc _ => lifted os started H enc)
theorem proved : Rows.SumTellsSaid := over
end Go.Proofs.Ytipfjlopgidbcaa.sumTells
