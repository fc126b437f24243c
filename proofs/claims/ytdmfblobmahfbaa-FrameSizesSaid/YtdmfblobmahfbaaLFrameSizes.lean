/- Proved: the law FrameSizes returns true. Conditions: none beyond the row's own. -/
import Derived.Test.YtdmfblobmahfbaaFrame
import Derived.Test.YtdmfblobmahfbaaRuns
import Derived.Test.YtdmfblobmahfbaaWithin
namespace Go.Proofs.Ytdmfblobmahfbaa.frameSizes
open Go.ChangeShapes Go.WideShapes Go.ChangeAt Go.RowKit
theorem within_to (n : Int) : ∃ K : Nat, K ≤ 16386 ∧ ∀ w : World, Calls Try.prog 18 #[.int .i64 n, .int .i64 0, .int .i64 16386] w fun e w' => e = .returned (.int .i64 (K : Int)) ∧ w = w' := by
  have hb := withinI_bounds n 0 16386 (by omega)
  refine ⟨(withinI n 0 16386).toNat, by omega, fun w => ?_⟩
  rw [Int.toNat_of_nonneg (by omega)]
  exact within_any n 0 16386 w (by omega) (by omega) (by omega)
theorem make_zeros (u : World) (K : Nat) (hK : K ≤ 16386) : (Instr.makeSlice 22 (.int .i64 (K : Int)) (.int .i64 (K : Int))).run Try.prog u = .ok (.slice (some ⟨u.heap.size, 0, none⟩) K K) (u.alloc (.cells (cellsOf (pad K 0)).toArray 5)) := by
  obtain ⟨i0, hi, hz0, hz1, hz2⟩ := info_parts Try.info5
  have h := run_make (P := Try.prog) u 22 5 i0 (.int .u8 0) Try.underlying22 hi hz0 .i64 .i64 (K : Int) (K : Int) (by omega) (Int.le_refl _) (by rw [hz2]; omega) (by omega)
  have e : madeCells (Value.int .u8 0).cells (Int.toNat (K : Int) * 1) = (cellsOf (pad K 0)).toArray := by
    have h1 : (madeCells #[Value.int .u8 0] K).toList.toArray = (cellsOf (pad K 0)).toArray := by rw [zeros_cells]
    rw [Array.toArray_toList] at h1
    rw [Nat.mul_one]
    exact h1
  rw [hz1, e] at h
  exact h
theorem octets_pad (K : Nat) : Octets (pad K 0) := fun z hz => by
  unfold pad at hz
  rw [List.mem_replicate] at hz
  omega
theorem put_zeros {W : World} {A : Option Addr} {n c : Nat} {zs : List Int} (s : SliceIn W A n c zs) (K D : Nat) (hD : (putF zs (pad K 0)).length = D) :
    Calls Try.prog 8 #[.slice A n c, .slice (some ⟨W.heap.size, 0, none⟩) K K] (W.alloc (.cells (cellsOf (pad K 0)).toArray 5)) fun e w' => ∃ A' c', e = .returned (.slice A' D c') ∧ Below W.heap.size W w' := by
  have h1 := s.room
  have h2 := s.le
  have h := fput_any A n c zs (some ⟨W.heap.size, 0, none⟩) K K (pad K 0) (W.alloc (.cells (cellsOf (pad K 0)).toArray 5)) s.len (s.lies.alloc _) s.nil (by omega) (length_pad K 0) (lies_lit W (pad K 0) 5 (0, 0)) (fun h => by cases h) (octets_pad K)
  rw [hD] at h
  exact h.mono fun e w' ⟨A', c', he, _, hb⟩ => ⟨A', c', he, kept_trans (kept_alloc (kept_refl W) _) hb⟩
set_option maxHeartbeats 1000000 in
theorem walk (A : Option Addr) (n c : Nat) (zs : List Int) (a1 : Int) (W : World) (s : SliceIn W A n c zs) (_ : -9223372036854775808 ≤ a1 ∧ a1 ≤ 9223372036854775807) :
    Calls Try.prog 7 #[.slice A n c, .int .i64 a1] W fun e w' => e = .returned (.bool true) ∧ Below W.heap.size W w' := by
  obtain ⟨K, hK, hw⟩ := within_to a1
  have lc := s.room
  have lnc := s.le
  have ln := s.len
  have hw := hide hw
  have hmk := fun (u : World) => make_zeros u K hK
  by_cases hM : May K
  · have l0 := hM.1
    have l1 := hM.2
    have hput := hide (put_zeros s K (n + (K + 6)) (by unfold putF; rw [length_pad, if_pos hM, List.length_append, length_frm, length_pad]; omega))
    have t1 : decide ((1 : Int) ≤ (K : Int)) = true := decide_eq_true (by omega)
    have t2 : decide ((K : Int) ≤ 16384) = true := decide_eq_true (by omega)
    have e1 : ((n + (K + 6) : Nat) : Int) - (n : Int) = (K : Int) + 6 := by omega
    clear s hM
    go_enter Try.func7, Try.ntmps7
    go_wp2_with (first
      | (go_at_call 18; (with_reducible refine (hw.out _).mono ?_); rintro e w1 ⟨rfl, rfl⟩)
      | (go_at_call 8; (with_reducible refine hput.out.mono ?_); rintro e w2 ⟨A2, c2, rfl, k2⟩; have k2' := hide k2; clear k2)
      | (go_at_call 3; (with_reducible refine (runs_any _).mono ?_); rintro e w9 ⟨rfl, hb9⟩))
    go_ret
    exact ⟨rfl, kept_trans k2'.out hb9⟩
  · have hput := hide (put_zeros s K n (by unfold putF; rw [length_pad, if_neg hM, ln]))
    have t3 : ((0 : Int) == (K : Int) + 6) = false := by rw [beq_eq_false_iff_ne]; omega
    by_cases h0 : 1 ≤ K
    · have t1 : decide ((1 : Int) ≤ (K : Int)) = true := decide_eq_true (by omega)
      have t2 : decide ((K : Int) ≤ 16384) = false := decide_eq_false (by unfold May at hM; omega)
      clear s hM
      go_enter Try.func7, Try.ntmps7
      go_wp2_with (first
        | (go_at_call 18; (with_reducible refine (hw.out _).mono ?_); rintro e w1 ⟨rfl, rfl⟩)
        | (go_at_call 8; (with_reducible refine hput.out.mono ?_); rintro e w2 ⟨A2, c2, rfl, k2⟩; have k2' := hide k2; clear k2)
        | (go_at_call 3; (with_reducible refine (runs_any _).mono ?_); rintro e w9 ⟨rfl, hb9⟩))
      go_ret
      exact ⟨rfl, kept_trans k2'.out hb9⟩
    · have t1 : decide ((1 : Int) ≤ (K : Int)) = false := decide_eq_false (by omega)
      clear s hM
      go_enter Try.func7, Try.ntmps7
      go_wp2_with (first
        | (go_at_call 18; (with_reducible refine (hw.out _).mono ?_); rintro e w1 ⟨rfl, rfl⟩)
        | (go_at_call 8; (with_reducible refine hput.out.mono ?_); rintro e w2 ⟨A2, c2, rfl, k2⟩; have k2' := hide k2; clear k2)
        | (go_at_call 3; (with_reducible refine (runs_any _).mono ?_); rintro e w9 ⟨rfl, hb9⟩))
      go_ret
      exact ⟨rfl, kept_trans k2'.out hb9⟩
set_option maxRecDepth 100000 in
theorem lifted (os : Os) (started : os.Started) (H : Type) (enc : TypeId × Value → H) :
    ReturnsInHanded {} Try.checked os 7 .any (Rows.frameSizesSpec.pre6 enc Try.prog Try.f7 Rows.frameSizesRow.domain false) (Rows.frameSizesSpec.post enc Try.prog Try.f7 false true false false) := by
  refine returnsInHanded_of_change_sized (C := Try.checked) own started (by kernel_rfl) Try.func7
    (ChangeSpec.witness6 (enc := enc) (C := Try.checked) false ⟨#[], #[.slice none 0 0, .int .i64 0], []⟩ 8 (by kernel_rfl) (by kernel_rfl) (by kernel_rfl) (by kernel_rfl)) ?_
  intro W base args ds gs before hval0 hW _ hsz0 _
  have hval : ∀ (j : Nat) t v, Try.f7.params[j]? = some t → args[j]? = some v → Value.okWide Try.prog W .any base t v := hval0
  have hW' := hW
  obtain ⟨p, q, hA0, hV, rfl, _, _⟩ := hW
  have hA : DataW.TrodAll enc Try.prog W 0 (fun _ => true) true Try.f7.params.toList args.toList ds p := hA0
  have hsz : (DataW.weightsEach Try.prog (Try.f7.params.toList ++ Rows.frameSizesSpec.plain.varTypes Try.prog) (ds ++ gs)).all (· ≤ reachBytes) = true := hsz0
  rw [Try.params7] at hA hval hsz
  obtain ⟨v0, vs0, d0, ds0, p0, q0, hargs, rfl, rfl, h0, r0⟩ := trodAll_cons hA
  obtain ⟨v1, vs1, d1, ds1, p1, q1, rfl, rfl, rfl, h1, r1⟩ := trodAll_cons r0
  obtain ⟨rfl, rfl, rfl⟩ := trodAll_nil r1
  obtain rfl : args = #[v0, v1] := by cases args; simp_all
  obtain ⟨rfl, rfl⟩ := trodVars_none hV
  have k0 := h0
  have lt0 : ∀ x ∈ p0, x.block < W.heap.size := by obtain ⟨m, hm⟩ := k0; exact DataW.trod_lt m _ _ _ hm
  obtain ⟨A0, n0, c0, rfl⟩ := okWide_slice Try.underlying22 (hval 0 22 v0 rfl rfl)
  obtain ⟨z0, s0⟩ := slice_in (j := 0) h0 hsz rfl rfl
  obtain ⟨a1, rfl, rfl, rfl, w1⟩ := open_int Try.underlying3 (hval 1 3 v1 rfl rfl) h1
  clear hA0 hval0
  refine (walk A0 n0 c0 z0 a1 W s0 (bounds_i64 w1)).mono fun e W' ⟨he, bel⟩ => ?_
  subst he
  exact ⟨_, rfl, _, _, _, [], _, [], hW', trodAll_mk1 (shut_bool Try.underlying4 _), (trodAll_cons_mk (Below.trod laidOut (by kernel_rfl) (of_decide_eq_true (by kernel_rfl)) k0 bel lt0) (trodAll_cons_mk (shut_int Try.underlying3 w1) trodAll_mk0)), rfl, bel.frame _, fun h => by cases h⟩
theorem over : Rows.frameSizesRow.holds Try.pinned (OpenSpec.ofChange Rows.frameSizesSpec) :=
  OpenClaim.holds_of_wide 7 Try.f7 rfl rfl rfl rfl rfl rfl rfl ⟨rfl, rfl, rfl, rfl, rfl⟩ rfl rfl rfl rfl rfl (by kernel_rfl) Try.func7 (by kernel_rfl)
    (of_decide_eq_true (by kernel_rfl)) (by unfold Func.isWrapper; first | (rw [if_pos (by decide +kernel)]; kernel_rfl) | (rw [if_neg (by decide +kernel)]; exact ⟨rfl, rfl⟩))
    (fun os started H enc _ => lifted os started H enc)
theorem proved : Rows.FrameSizesSaid := over
end Go.Proofs.Ytdmfblobmahfbaa.frameSizes
