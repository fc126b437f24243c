/- Proved: the law PackStops returns true. Conditions: none beyond the row's own. -/
import Derived.Test.YtmjnidgjehlniaaFrame
import Derived.Test.YtmjnidgjehlniaaRuns
import Derived.Test.YtmjnidgjehlniaaItems
namespace Go.Proofs.Ytmjnidgjehlniaa.packStops
open Go.ChangeShapes Go.WideShapes Go.ChangeAt Go.RowKit
/-- The reader that has failed, and what was there. -/
structure Stop (W w : World) (g : Nat) (zs : List Int) : Prop where
  p : Rdr 60 w g g zs 0 4
  old : Below W.heap.size W w
  hg : W.heap.size ≤ g
section
variable {W w : World} {g : Nat} {zs : List Int}
theorem Stop.next {w' : World} {i : Nat} {e : Int} (s : Stop W w g zs) (hi : i = 0) (he : e = 4) (hp : Rdr 60 w' g g zs i e) (hg : w.grownBy w' (some g)) : Stop W w' g zs := by
  subst hi he
  have h := s.hg
  exact ⟨hp, s.old.grown hg s.old.size (fun k hk => by cases hk; exact h), h⟩
theorem num_stop (s : Stop W w g zs) : Calls Try.prog 27 #[.pointer (some ⟨g, 0, none⟩)] w fun x w' => x = .returned (.int .i64 0) ∧ Stop W w' g zs :=
  (pnum_any s.p).mono fun _ _ ⟨hx, hp, hg⟩ => ⟨hx, s.next rfl rfl hp hg⟩
theorem text_stop (s : Stop W w g zs) (m : Int) : Calls Try.prog 28 #[.pointer (some ⟨g, 0, none⟩), .int .i64 m] w fun x w' => x = .returned (.string ⟨#[]⟩) ∧ Stop W w' g zs :=
  (ptext_any s.p m).mono fun _ _ ⟨hx, hp, hg⟩ => ⟨hx, s.next rfl rfl hp hg⟩
theorem flag_stop (s : Stop W w g zs) : Calls Try.prog 29 #[.pointer (some ⟨g, 0, none⟩)] w fun x w' => x = .returned (.bool false) ∧ Stop W w' g zs :=
  (pflag_any s.p).mono fun _ _ ⟨hx, hp, hg⟩ => ⟨hx.trans (by
    have h1 : rFlgV zs 0 4 = false := by unfold rFlgV; rw [decide_eq_false_iff_not]; intro hh; have h := hh.1; unfold rFlgE at h; rw [if_neg (by decide)] at h; exact absurd h (by decide)
    rw [h1]), s.next rfl rfl hp hg⟩
theorem count_stop (s : Stop W w g zs) (m : Int) : Calls Try.prog 33 #[.pointer (some ⟨g, 0, none⟩), .int .i64 m] w fun x w' => x = .returned (.int .i64 0) ∧ Stop W w' g zs :=
  (pcount_any s.p m).mono fun _ _ ⟨hx, hp, hg⟩ => ⟨hx, s.next rfl rfl hp hg⟩
theorem end_stop (s : Stop W w g zs) : Calls Try.prog 30 #[.pointer (some ⟨g, 0, none⟩)] w fun x w' => x = .returned (.int .i64 4) ∧ Stop W w' g zs :=
  (pend_any s.p).mono fun _ _ ⟨hx, hp, hg⟩ => ⟨hx, s.next rfl rfl hp hg⟩
end
set_option maxRecDepth 100000 in
set_option maxHeartbeats 4000000 in
theorem walk (A : Option Addr) (n c : Nat) (zs : List Int) (A1 : Option Addr) (n1 c1 : Nat) (it : Nat → It) (W : World) (s : SliceIn W A n c zs) (t : ItemsIn W A1 n1 c1 it) :
    Calls Try.prog 9 #[.slice A n c, .slice A1 n1 c1] W fun e w' => e = .returned (.bool true) ∧ Below W.heap.size W w' := by
  have hnc := s.le
  have hroom := s.room
  have hR := hide (pread_any A n c zs W s.len s.lies s.oct s.nil (by omega))
  have hnc1 := t.le
  have hroom1 := t.room
  have hit := hide t.at_
  clear s t
  go_enter Try.func9, Try.ntmps9
  go_wp2_with (first
    | (go_at_call 20; (with_reducible refine hR.out.mono ?_); rintro e w1 ⟨g, rfl, hg0, p1, k1⟩; have p1 := hide p1; have k1 := hide k1)
    | (go_at_call 32; (with_reducible refine (pfail_any p1.out).mono ?_); rintro e w2 ⟨rfl, p2, k2⟩; have s2 : Hid (Stop W w2 g zs) := hide ⟨p2, (k1.out).grown k2 k1.out.size (fun k hk => by cases hk; exact hg0), hg0⟩; clear p2 k2)
    | (go_at_call 24; (with_reducible refine (pat_any s2.out.p).mono ?_); rintro e w3 ⟨rfl, rfl⟩))
  go_loopw [7] (fun i wr => ∃ k : Nat, k ≤ 20 ∧ i = .int .i64 k ∧ Hid (Stop W wr g zs)) (fun i _ => 20 - (intOf i).toNat)
  case atStart => exact ⟨0, by omega, rfl, s2⟩
  case round =>
    obtain ⟨k, hk, rfl, st⟩ := hrel
    by_cases hlt : k < n1 ∧ k < 20
    · obtain ⟨h1, h2⟩ := hlt
      obtain ⟨b, off, rfl, hbl, hx⟩ := hit.out k h1
      have q0 := (hx.below st.out.old hbl).c1
      have hx := hide hx
      go_wp2_with (first
        | (go_at_call 27; (with_reducible refine (num_stop st.out).mono ?_); rintro e w4 ⟨rfl, s4⟩; have q4 := (hx.out.below s4.old hbl).c1; have s4 := hide s4)
        | (go_at_call 28; (with_reducible refine (text_stop s4.out _).mono ?_); rintro e w5 ⟨rfl, s5⟩; have s5 := hide s5)
        | (go_at_call 29; (with_reducible refine (flag_stop s5.out).mono ?_); rintro e w6 ⟨rfl, s6⟩; have q6 := (hx.out.below s6.old hbl).c1; have s6 := hide s6)
        | (go_at_call 33; (with_reducible refine (count_stop s6.out _).mono ?_); rintro e w7 ⟨rfl, s7⟩; have s7 := hide s7)
        | (go_at_call 24; (with_reducible refine (pat_any s7.out.p).mono ?_); rintro e w8 ⟨rfl, rfl⟩))
      go_roundw
      case rel => exact ⟨k + 1, by omega, by go_num, s7⟩
      case measure => simp [intOf]; omega
    · have hc : (decide (k < n1) = false) ∨ (decide (k < n1) = true ∧ decide (k < 20) = false ∧ decide ((k : Int) < 20) = false) := by
        by_cases h1 : k < n1
        · exact .inr ⟨decide_eq_true h1, decide_eq_false (by omega), decide_eq_false (by omega)⟩
        · exact .inl (decide_eq_false h1)
      clear hlt
      rcases hc with c1 | ⟨c1, c2, c3⟩
      all_goals
        go_wp2_with (first
          | (go_at_call 23; (with_reducible refine (pwrong_any st.out.p).mono ?_); rintro e w4 ⟨rfl, rfl⟩)
          | (go_at_call 30; (with_reducible refine (end_stop st.out).mono ?_); rintro e w5 ⟨rfl, s5⟩; have s5 := hide s5)
          | (go_at_call 3; (with_reducible refine (runs_any _).mono ?_); rintro e w9 ⟨rfl, k9⟩))
        go_ret
        exact ⟨rfl, kept_trans s5.out.old k9⟩
set_option maxRecDepth 100000 in
theorem lifted (os : Os) (started : os.Started) (H : Type) (enc : TypeId × Value → H) :
    ReturnsInHanded {} Try.checked os 9 .any (Rows.packStopsSpec.pre6 enc Try.prog Try.f9 Rows.packStopsRow.domain false) (Rows.packStopsSpec.post enc Try.prog Try.f9 false true false false) := by
  refine returnsInHanded_of_change_sized (C := Try.checked) own started (by kernel_rfl) Try.func9
    (ChangeSpec.witness6 (enc := enc) (C := Try.checked) false ⟨#[], #[.slice none 0 0, .slice none 0 0], []⟩ 8 (by kernel_rfl) (by kernel_rfl) (by kernel_rfl) (by kernel_rfl)) ?_
  intro W base args ds gs before hval0 hW _ hsz0 _
  have hval : ∀ (j : Nat) t v, Try.f9.params[j]? = some t → args[j]? = some v → Value.okWide Try.prog W .any base t v := hval0
  have hW' := hW
  obtain ⟨p, q, hA0, hV, rfl, _, _⟩ := hW
  have hA : DataW.TrodAll enc Try.prog W 0 (fun _ => true) true Try.f9.params.toList args.toList ds p := hA0
  have hsz : (DataW.weightsEach Try.prog (Try.f9.params.toList ++ Rows.packStopsSpec.plain.varTypes Try.prog) (ds ++ gs)).all (· ≤ reachBytes) = true := hsz0
  rw [Try.params9] at hA hval hsz
  obtain ⟨v0, vs0, d0, ds0, p0, q0, hargs, rfl, rfl, h0, r0⟩ := trodAll_cons hA
  obtain ⟨v1, vs1, d1, ds1, p1, q1, rfl, rfl, rfl, h1, r1⟩ := trodAll_cons r0
  obtain ⟨rfl, rfl, rfl⟩ := trodAll_nil r1
  obtain rfl : args = #[v0, v1] := by cases args; simp_all
  obtain ⟨rfl, rfl⟩ := trodVars_none hV
  have k0 := h0
  have lt0 : ∀ x ∈ p0, x.block < W.heap.size := by obtain ⟨m, hm⟩ := k0; exact DataW.trod_lt m _ _ _ hm
  obtain ⟨A0, n0, c0, rfl⟩ := okWide_slice Try.underlying23 (hval 0 23 v0 rfl rfl)
  obtain ⟨z0, s0⟩ := slice_in (j := 0) h0 hsz rfl rfl
  have k1 := h1
  have lt1 : ∀ x ∈ p1, x.block < W.heap.size := by obtain ⟨m, hm⟩ := k1; exact DataW.trod_lt m _ _ _ hm
  obtain ⟨A1, n1, c1, rfl⟩ := okWide_slice Try.underlying29 (hval 1 29 v1 rfl rfl)
  obtain ⟨z1, s1⟩ := items_in h1
  clear hA0 hval0
  refine (walk A0 n0 c0 z0 A1 n1 c1 z1 W s0 s1).mono fun e W' ⟨he, bel⟩ => ?_
  subst he
  exact ⟨_, rfl, _, _, _, [], _, [], hW', trodAll_mk1 (shut_bool Try.underlying4 _), (trodAll_cons_mk (Below.trod laidOut (by kernel_rfl) (of_decide_eq_true (by kernel_rfl)) k0 bel lt0) (trodAll_cons_mk (Below.trod laidOut (by kernel_rfl) (of_decide_eq_true (by kernel_rfl)) k1 bel lt1) trodAll_mk0)), rfl, bel.frame _, fun h => by cases h⟩
theorem over : Rows.packStopsRow.holds Try.pinned (OpenSpec.ofChange Rows.packStopsSpec) :=
  OpenClaim.holds_of_wide 9 Try.f9 rfl rfl rfl rfl rfl rfl rfl ⟨rfl, rfl, rfl, rfl, rfl⟩ rfl rfl rfl rfl rfl (by kernel_rfl) Try.func9 (by kernel_rfl)
    (of_decide_eq_true (by kernel_rfl)) (by unfold Func.isWrapper; first | (rw [if_pos (by decide +kernel)]; kernel_rfl) | (rw [if_neg (by decide +kernel)]; exact ⟨rfl, rfl⟩))
    (fun os started H enc _ => lifted os started H enc)
theorem proved : Rows.PackStopsSaid := over
end Go.Proofs.Ytmjnidgjehlniaa.packStops
