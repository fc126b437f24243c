/- Proved: the law PackOne returns true. Conditions: none beyond the row's own. -/
import Derived.Test.YtmjnidgjehlniaaFrame
import Derived.Test.YtmjnidgjehlniaaRuns
namespace Go.Proofs.Ytmjnidgjehlniaa.packOne
open Go.ChangeShapes Go.WideShapes Go.ChangeAt Go.RowKit
theorem same_to {A B : Option Addr} {n m c d : Nat} {zs ys : List Int} {r : Bool} {w : World} (hn : zs.length = n) (hm : ys.length = m) (hz : Lies w A zs) (hy : Lies w B ys) (ln : n ≤ 4611686018427387904) (lm : m ≤ 4611686018427387904) (hr : decide (zs = ys) = r) :
    Calls Try.prog 10 #[.slice A n c, .slice B m d] w fun e w' => e = .returned (.bool r) ∧ ∃ q, w' = w.drewN q := by
  subst hr; exact same_any A B n m c d zs ys w hn hm hz hy ln lm
set_option maxRecDepth 100000 in
set_option maxHeartbeats 4000000 in
theorem walk (A : Option Addr) (n c : Nat) (zs : List Int) (a1 : Int) (W : World) (s : SliceIn W A n c zs) (b1 : -9223372036854775808 ≤ a1 ∧ a1 ≤ 9223372036854775807) :
    Calls Try.prog 7 #[.slice A n c, .int .i64 a1] W fun e w' => e = .returned (.bool true) ∧ Below W.heap.size W w' := by
  obtain ⟨b0, b1⟩ := b1
  have hnc := s.le
  have hroom := s.room
  have hR := hide (pread_any A n c zs W s.len s.lies s.oct s.nil (by omega))
  have hlies := hide s.lies
  have hn := hide s.len
  have hoct := hide s.oct
  have hlen : (num7 a1).length ≤ 10 := (num7_len a1).2
  obtain ⟨E, hE⟩ : ∃ E, rNumE zs 0 0 = E := ⟨_, rfl⟩
  obtain ⟨V, hV⟩ : ∃ V, rNumV zs 0 0 = V := ⟨_, rfl⟩
  obtain ⟨J, hJ⟩ : ∃ J, rNumA zs 0 0 = J := ⟨_, rfl⟩
  have hb := rd_bounds hoct.out
  have hVb : -9223372036854775808 ≤ V ∧ V ≤ 9223372036854775807 := by
    rw [← hV]; unfold rNumV rNumE; rw [List.drop_zero]; split <;> omega
  have hfact : (E ≠ 0) ∨ (E = 0 ∧ J ≤ n ∧ num7 V = zs.take J) := by
    by_cases h0 : E = 0
    · right
      rw [h0] at hE
      obtain ⟨_, h1, h2, h3⟩ := num_fine hE
      rw [List.drop_zero] at h1 h2 h3
      refine ⟨h0, by rw [← hJ, h3, ← hn.out]; omega, ?_⟩
      rw [← hV, ← hJ, h2, h3, Nat.zero_add]
      exact rd_back hoct.out h1
    · exact .inl h0
  have hN := fun (w : World) (B g : Nat) (h : Rdr 60 w B g zs 0 0) => pnum_any h
  rw [hE, hV, hJ] at hN
  have hN := hide hN
  obtain ⟨v0, v1⟩ := hVb
  clear s hb hE hV hJ
  go_enter Try.func7, Try.ntmps7
  go_wp2_with (first
    | (go_at_call 20; (with_reducible refine hR.out.mono ?_); rintro e w1 ⟨g, rfl, hg0, p1, k1⟩; have p1 := hide p1; have k1 := hide k1)
    | (go_at_call 27; (with_reducible refine (hN.out w1 g g p1.out).mono ?_); rintro e w2 ⟨rfl, p2, k2⟩; have p2 := hide p2; have k2 := hide ((k1.out).grown k2 k1.out.size (fun k hk => by cases hk; exact hg0)))
    | (go_at_call 31; (with_reducible refine (zig_any a1 _ b0 b1).mono ?_); rintro e w3 ⟨rfl, rfl⟩))
  go_loop [7, 8] (fun s u => ∃ (f v k : Nat), u = .int .u64 v ∧ s = .int .i64 ((k + 1 : Nat) : Int) ∧ Hid (k + f = 9) ∧ Hid (v < 2 * 128 ^ f) ∧ Hid ((num7 a1).length = k + (sev (f + 1) v).length)) (fun _ u => (intOf u).toNat)
  case atStart => exact ⟨9, zigN a1, 0, rfl, rfl, hide rfl, hide (room_start b0 b1), hide (by rw [Nat.zero_add]; rfl)⟩
  case round =>
    obtain ⟨f, v, k, rfl, rfl, hf, hv, hs⟩ := hrel
    have hk9 : k ≤ 9 := by have := hf.out; omega
    by_cases hlt : 128 ≤ v
    · obtain ⟨g', rfl, hg⟩ := room_step hv.out hlt
      have hg := hide hg
      have ht : decide ((128 : Int) ≤ (v : Int)) = true := by rw [decide_eq_true_iff]; omega
      have hs' := hide (show (num7 a1).length = (k + 1) + (sev (g' + 1) (v / 128)).length by rw [hs.out, sev_more hlt, List.length_cons]; omega)
      have hf' := hide (show k + 1 + g' = 9 by have := hf.out; omega)
      have hlt' := hide hlt
      clear hlt hs hf hv
      go_wp2
      go_round
      case rel => exact ⟨g', v / 128, k + 1, by go_num, by go_num, hf', hg, hs'⟩
      case measure => have := hlt'.out; simp [intOf]; omega
    · have ht : decide ((128 : Int) ≤ (v : Int)) = false := by rw [decide_eq_false_iff_not]; omega
      have hL := hide (show (num7 a1).length = k + 1 by rw [hs.out, sev_last (by omega)]; rfl)
      clear hlt hs hf hv
      rcases hfact with h0 | ⟨rfl, hJn, h1⟩
      · have t0 : (E != 0) = true := by simpa using h0
        clear h0
        go_wp2_with (first
          | (go_at_call 23; (with_reducible refine (pwrong_any p2.out).mono ?_); rintro e w4 ⟨rfl, rfl⟩)
          | (go_at_call 11; (with_reducible refine (num_nil (m := a1) (ys := num7 a1) (n := k + 1) w2 b0 b1 rfl hL.out).mono ?_); rintro e w7 ⟨A7, d7, rfl, _, _, _, k7⟩; have k7 := hide (kept_trans k2.out k7))
          | (go_at_call 3; (with_reducible refine (runs_any _).mono ?_); rintro e w9 ⟨rfl, k9⟩))
        go_ret
        exact ⟨rfl, kept_trans k7.out k9⟩
      · have hJc : (J : Int) ≤ (c : Int) := by omega
        have hVL := hide (show (num7 V).length = J by rw [h1, List.length_take, hn.out]; omega)
        have hTL := hide (show (zs.take J).length = J by rw [List.length_take, hn.out]; omega)
        have hsm := hide (show decide (num7 V = zs.take J) = true from decide_eq_true h1)
        have h1 := hide h1
        go_wp2_with (first
          | (go_at_call 23; (with_reducible refine (pwrong_any p2.out).mono ?_); rintro e w4 ⟨rfl, rfl⟩)
          | (go_at_call 11; (with_reducible refine (num_nil (m := V) (ys := num7 V) (n := J) w2 v0 v1 rfl hVL.out).mono ?_); rintro e w5 ⟨A5, d5, rfl, _, l5, _, k5⟩; have l5 := hide l5; have p5 := hide (p2.out.below k5); have k5 := hide (kept_trans k2.out k5))
          | (go_at_call 24; (with_reducible refine (pat_any p5.out).mono ?_); rintro e w6 ⟨rfl, rfl⟩)
          | (go_at_call 10; (with_reducible refine (same_to hVL.out hTL.out l5.out ((hlies.out.below k5.out).take J) (by omega) (by omega) hsm.out).mono ?_); rintro e w6 ⟨rfl, q6, rfl⟩)
          | (go_at_call 11; (with_reducible refine (num_nil (m := a1) (ys := num7 a1) (n := k + 1) (w5.drewN q6) b0 b1 rfl hL.out).mono ?_); rintro e w7 ⟨A7, d7, rfl, _, _, _, k7⟩; have k7 := hide (kept_trans (kept_drewN k5.out q6) k7))
          | (go_at_call 3; (with_reducible refine (runs_any _).mono ?_); rintro e w9 ⟨rfl, k9⟩))
        go_ret
        exact ⟨rfl, kept_trans k7.out k9⟩
set_option maxRecDepth 100000 in
theorem lifted (os : Os) (started : os.Started) (H : Type) (enc : TypeId × Value → H) :
    ReturnsInHanded {} Try.checked os 7 .any (Rows.packOneSpec.pre6 enc Try.prog Try.f7 Rows.packOneRow.domain false) (Rows.packOneSpec.post enc Try.prog Try.f7 false true false false) := by
  refine returnsInHanded_of_change_sized (C := Try.checked) own started (by kernel_rfl) Try.func7
    (ChangeSpec.witness6 (enc := enc) (C := Try.checked) false ⟨#[], #[.slice none 0 0, .int .i64 0], []⟩ 8 (by kernel_rfl) (by kernel_rfl) (by kernel_rfl) (by kernel_rfl)) ?_
  intro W base args ds gs before hval0 hW _ hsz0 _
  have hval : ∀ (j : Nat) t v, Try.f7.params[j]? = some t → args[j]? = some v → Value.okWide Try.prog W .any base t v := hval0
  have hW' := hW
  obtain ⟨p, q, hA0, hV, rfl, _, _⟩ := hW
  have hA : DataW.TrodAll enc Try.prog W 0 (fun _ => true) true Try.f7.params.toList args.toList ds p := hA0
  have hsz : (DataW.weightsEach Try.prog (Try.f7.params.toList ++ Rows.packOneSpec.plain.varTypes Try.prog) (ds ++ gs)).all (· ≤ reachBytes) = true := hsz0
  rw [Try.params7] at hA hval hsz
  obtain ⟨v0, vs0, d0, ds0, p0, q0, hargs, rfl, rfl, h0, r0⟩ := trodAll_cons hA
  obtain ⟨v1, vs1, d1, ds1, p1, q1, rfl, rfl, rfl, h1, r1⟩ := trodAll_cons r0
  obtain ⟨rfl, rfl, rfl⟩ := trodAll_nil r1
  obtain rfl : args = #[v0, v1] := by cases args; simp_all
  obtain ⟨rfl, rfl⟩ := trodVars_none hV
  have k0 := h0
  have lt0 : ∀ x ∈ p0, x.block < W.heap.size := by obtain ⟨m, hm⟩ := k0; exact DataW.trod_lt m _ _ _ hm
  obtain ⟨A0, n0, c0, rfl⟩ := okWide_slice Try.underlying23 (hval 0 23 v0 rfl rfl)
  obtain ⟨z0, s0⟩ := slice_in (j := 0) h0 hsz rfl rfl
  obtain ⟨a1, rfl, rfl, rfl, w1⟩ := open_int Try.underlying3 (hval 1 3 v1 rfl rfl) h1
  clear hA0 hval0
  refine (walk A0 n0 c0 z0 a1 W s0 (bounds_i64 w1)).mono fun e W' ⟨he, bel⟩ => ?_
  subst he
  exact ⟨_, rfl, _, _, _, [], _, [], hW', trodAll_mk1 (shut_bool Try.underlying4 _), (trodAll_cons_mk (Below.trod laidOut (by kernel_rfl) (of_decide_eq_true (by kernel_rfl)) k0 bel lt0) (trodAll_cons_mk (shut_int Try.underlying3 w1) trodAll_mk0)), rfl, bel.frame _, fun h => by cases h⟩
theorem over : Rows.packOneRow.holds Try.pinned (OpenSpec.ofChange Rows.packOneSpec) :=
  OpenClaim.holds_of_wide 7 Try.f7 rfl rfl rfl rfl rfl rfl rfl ⟨rfl, rfl, rfl, rfl, rfl⟩ rfl rfl rfl rfl rfl (by kernel_rfl) Try.func7 (by kernel_rfl)
    (of_decide_eq_true (by kernel_rfl)) (by unfold Func.isWrapper; first | (rw [if_pos (by decide +kernel)]; kernel_rfl) | (rw [if_neg (by decide +kernel)]; exact ⟨rfl, rfl⟩))
    (fun os started H enc _ => lifted os started H enc)
theorem proved : Rows.PackOneSaid := over
end Go.Proofs.Ytmjnidgjehlniaa.packOne
