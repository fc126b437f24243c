/- Proved: the law FrameTurned returns true. Conditions: none beyond the row's own. -/
import Derived.Test.YtdmfblobmahfbaaFrame
import Derived.Test.YtdmfblobmahfbaaRuns
import Derived.Test.YtdmfblobmahfbaaWithin
import Derived.Test.YtdmfblobmahfbaaRnd
import Derived.Deep.DeepCutAuto
import Derived.RegionTactic
import Derived.Deep.AppendLies
namespace Go.Proofs.Ytdmfblobmahfbaa.frameTurned
open Go.ChangeShapes Go.WideShapes Go.ChangeAt Go.RowKit
theorem within_to (n : Int) (lo hi : Nat) (h : lo ≤ hi) (l : hi ≤ 4611686018427387904) : ∃ K : Nat, lo ≤ K ∧ K ≤ hi ∧ ∀ w : World, Calls Try.prog 18 #[.int .i64 n, .int .i64 (lo : Int), .int .i64 (hi : Int)] w fun e w' => e = .returned (.int .i64 (K : Int)) ∧ w = w' := by
  have hb := withinI_bounds n lo hi (by omega)
  refine ⟨(withinI n lo hi).toNat, by omega, by omega, fun w => ?_⟩
  rw [Int.toNat_of_nonneg (by omega)]
  exact within_any n lo hi w (by omega) (by omega) (by omega)
/-- The two frames, one behind the other, in a slice of the call's own. -/
theorem put_1 {W : World} {A : Option Addr} {n c : Nat} {zs : List Int} (s : SliceIn W A n c zs) {k0 : Nat} (hk : (putF [] zs).length = k0) :
    Calls Try.prog 8 #[.slice none 0 0, .slice A n c] W (Cloned W k0 (putF [] zs)) := by
  have h1 := s.room
  have h2 := s.le
  have h := fput_any none 0 0 [] A n c zs W rfl Lies.none_ (fun _ => rfl) (by omega) s.len s.lies s.nil s.oct
  rwa [hk] at h
theorem put_2 {W w1 : World} {B : Option Addr} {m d k0 c1 : Nat} {ys P : List Int} {A1 : Option Addr} (s : SliceIn W B m d ys) (hb : Below W.heap.size W w1) (ho : w1.ownsRow W.heap.size 5 1 (.slice A1 k0 c1) k0 (cellsOf P)) (hP : P.length = k0) (hk : k0 ≤ 20000) (hM : May m) {N : Nat} (hN : k0 + m + 6 = N) :
    Calls Try.prog 8 #[.slice A1 k0 c1, .slice B m d] w1 fun e w' => ∃ g cap, e = .returned (.slice (some ⟨g, 0, none⟩) N cap) ∧ W.heap.size ≤ g ∧ N ≤ cap ∧ w'.ownsRow W.heap.size 5 1 (.slice (some ⟨g, 0, none⟩) N cap) N (cellsOf (P ++ frm ys)) ∧ Below W.heap.size W w' := by
  have h1 := s.room
  have h2 := s.le
  have hl := s.len
  have h := fput_any A1 k0 c1 P B m d ys w1 hP (Lies.of_own ho) (own_nil ho) (by omega) s.len (s.lies.below hb) s.nil s.oct
  have e1 : putF P ys = P ++ frm ys := by unfold putF; rw [hl, if_pos hM]
  have e2 : (P ++ frm ys).length = N := by rw [List.length_append, length_frm]; omega
  rw [e1, e2] at h
  refine h.mono fun e w' ⟨A', c', he, ho', hb'⟩ => ?_
  have ho2 := own_mono ho' hb.size
  obtain ⟨g, cap, hv, hg, _⟩ := ho2.form (by omega)
  injection hv with v1 _ v3
  subst v1 v3
  exact ⟨g, c', he, hg, (own_len ho2).2, ho2, hb.trans (hb'.mono hb.size)⟩
set_option maxHeartbeats 2000000 in
theorem walk (A : Option Addr) (n c : Nat) (zs : List Int) (B : Option Addr) (m d : Nat) (qs : List Int) (a2 a3 : Int) (W : World) (s : SliceIn W A n c zs) (t : SliceIn W B m d qs) (_ : -9223372036854775808 ≤ a2 ∧ a2 ≤ 9223372036854775807) (b3 : 0 ≤ a3 ∧ a3 ≤ 4294967295) :
    Calls Try.prog 6 #[.slice A n c, .slice B m d, .int .i64 a2, .int .u32 a3] W fun e w' => e = .returned (.bool true) ∧ Below W.heap.size W w' := by
  obtain ⟨U, rfl⟩ := Int.eq_ofNat_of_zero_le b3.1
  have hU : U < 4294967296 := by omega
  clear b3
  by_cases h0 : 1000 < n
  · have t1 : decide ((1000 : Int) < (n : Int)) = true := decide_eq_true (by omega)
    clear s t
    go_enter Try.func6, Try.ntmps6
    go_wp2_with (go_at_call 3; (with_reducible refine (runs_any _).mono ?_); rintro e w9 ⟨rfl, hb9⟩)
    go_ret
    exact ⟨rfl, hb9⟩
  have t1 : decide ((1000 : Int) < (n : Int)) = false := decide_eq_false (by omega)
  by_cases h1 : 1000 < m
  · have t2 : decide ((1000 : Int) < (m : Int)) = true := decide_eq_true (by omega)
    clear s t
    go_enter Try.func6, Try.ntmps6
    go_wp2_with (go_at_call 3; (with_reducible refine (runs_any _).mono ?_); rintro e w9 ⟨rfl, hb9⟩)
    go_ret
    exact ⟨rfl, hb9⟩
  have t2 : decide ((1000 : Int) < (m : Int)) = false := decide_eq_false (by omega)
  by_cases h2 : m = 0
  · subst h2
    clear s t
    go_enter Try.func6, Try.ntmps6
    go_wp2_with (go_at_call 3; (with_reducible refine (runs_any _).mono ?_); rintro e w9 ⟨rfl, hb9⟩)
    go_ret
    exact ⟨rfl, hb9⟩
  have t3 : ((m : Int) == 0) = false := by rw [beq_eq_false_iff_ne]; omega
  have hMm : May m := ⟨by omega, by omega⟩
  obtain ⟨k0, hk0⟩ : ∃ k0, (putF [] zs).length = k0 := ⟨_, rfl⟩
  have hk1 : k0 ≤ 1006 := by
    rw [← hk0]
    have := s.len
    unfold putF
    split
    · rw [List.nil_append, length_frm]; omega
    · simp
  obtain ⟨N, hN⟩ : ∃ N, k0 + m + 6 = N := ⟨_, rfl⟩
  obtain ⟨T, hT0, hT, hw⟩ := within_to a2 (8 * (k0 + 2)) (8 * N - 1) (by omega) (by omega)
  have e1 : ((8 * (k0 + 2) : Nat) : Int) = 8 * ((k0 : Int) + 2) := by omega
  have e2 : ((8 * N - 1 : Nat) : Int) = 8 * (N : Int) - 1 := by omega
  rw [e1, e2] at hw
  have hw := hide hw
  have t4 : ((N : Int) != (k0 : Int) + (m : Int) + 6) = false := by
    have : (N : Int) = (k0 : Int) + (m : Int) + 6 := by omega
    rw [this]; simp
  have S := hide s
  have TT := hide t
  have hn := s.len
  have hmm := t.len
  have hput1 := hide (put_1 s hk0)
  have lm : m ≤ 1000 := by omega
  have ln : n ≤ 1000 := by omega
  have lm0 : 1 ≤ m := by omega
  clear e1 e2 s t h0 h1 h2
  have hNk := hide hN
  have lN1 : N ≤ 2012 := by omega
  have lN2 : k0 + 7 ≤ N := by omega
  clear hN
  go_enter Try.func6, Try.ntmps6
  go_wp2_with (first
    | (go_at_call 8; (with_reducible refine hput1.out.mono ?_); rintro e w1 ⟨A1, c1, rfl, o1, k1⟩; have hput2 := hide (put_2 TT.out k1 o1 hk0 (by omega) hMm hNk.out); clear o1 k1)
    | (go_at_call 8; (with_reducible refine hput2.out.mono ?_); rintro e w2 ⟨g, cap, rfl, hg, hcap, hown, hb2⟩; have hown := hide hown; have hb2 := hide hb2)
    | (go_at_call 18; (with_reducible refine (hw.out _).mono ?_); rintro e w3 ⟨rfl, rfl⟩))
  have l8 : 8 * N ≤ 16096 := by omega
  go_loopw [12, 13] (fun t i wr => ∃ (k : Nat) (ys : List Int), k ≤ 32 ∧ i = .int .i64 k ∧ t = .bool (anyB U (8 * N - T) k) ∧ Round W wr g cap N T U k (putF [] zs ++ frm qs) ys) (fun _ i _ => 32 - (intOf i).toNat)
  case atStart =>
    refine ⟨0, putF [] zs ++ frm qs, by omega, rfl, by unfold anyB; rw [took_zero]; rfl, by rw [List.length_append, length_frm, hk0, hmm]; exact hNk.out, (octets_putF (fun z hz => by cases hz) S.out.oct).append (octets_frm TT.out.oct), ?_, hown.out, hb2.out⟩
    rw [took_zero, Nat.mul_zero]; exact turned_refl _
  case round =>
    obtain ⟨k, ys, hk, rfl, rfl, hr⟩ := hrel
    have hr := hide hr
    by_cases hlt : k < 32
    · have ht := bit_test U k hU
      by_cases hone : U / 2 ^ k % 2 = 1
      · have h1 : ((bits .and .u32 ((U : Int) / 2 ^ k) 1 : Int) == 1) = true := by rw [ht, hone]; rfl
        clear ht
        by_cases hlim : T + k < 8 * N
        · have hone := hide hone
          obtain ⟨q, r, hqr, hq, hr8⟩ : ∃ q r : Nat, T + k = 8 * q + r ∧ q < N ∧ r < 8 := ⟨(T + k) / 8, (T + k) % 8, by omega, by omega, by omega⟩
          have hc := hr.out.own.cellAt q (by omega)
          rw [cellsOf_at ys (by rw [hr.out.len]; exact hq)] at hc
          have hf := hr.out.own.frozenAt q
          have e1 : IntKind.i64.wrap ((T : Int) + (k : Int)) = (T : Int) + (k : Int) := IntWalk.i64_in _ ⟨by omega, by omega⟩
          have e2 : ((T : Int) + (k : Int)).tdiv 8 = (q : Int) := by rw [Int.tdiv_eq_ediv_of_nonneg (by omega)]; omega
          have e8 : ((T : Int) + (k : Int)) / 8 = (q : Int) := by omega
          have e9 : ((T : Int) + (k : Int)) % 8 = (r : Int) := by omega
          have e3 : ((T : Int) + (k : Int)).tmod 8 = (r : Int) := by rw [Int.tmod_eq_emod_of_nonneg (by omega)]; omega
          have e4 : (0 : Int) ≤ (q : Int) := by omega
          have e5 : (q : Int) < (N : Int) := by omega
          have e6 : (0 : Int) ≤ (r : Int) := by omega
          have e7 : (r : Int) < 8 := by omega
          have HQ := hide hqr
          clear hqr
          go_wp2
          go_region
          have htk := hide (took_yes U (8 * N - T) k hone.out (by omega))
          have htp := hide (took_pos (b := U) (lim := 8 * N - T) (k := k) hone.out (by omega))
          go_wp2
          go_roundw
          case rel =>
            refine ⟨k + 1, ys.set q ((ix ys q).toNat ^^^ 2 ^ r : Nat), by omega, by go_num, ?_, ?_⟩
            · unfold anyB; rw [decide_eq_true htp.out]
            · exact Round.next hr.out hg hq hr8 (by have := HQ.out; omega) htk.out
          case measure => simp [intOf]; omega
        · have htk := hide (took_no U (8 * N - T) k (fun h => hlim (by have := h.2; omega)))
          have hone := hide hone
          go_wp2
          go_roundw
          case rel => exact ⟨k + 1, ys, by omega, by go_num, by unfold anyB; rw [htk.out], hr.out.len, hr.out.oct, by rw [htk.out]; exact hr.out.turned, hr.out.own, hr.out.old⟩
          case measure => simp [intOf]; omega
      · have h1 : ((bits .and .u32 ((U : Int) / 2 ^ k) 1 : Int) == 1) = false := by rw [ht]; generalize U / 2 ^ k % 2 = v at hone; rw [beq_eq_false_iff_ne]; omega
        have htk := hide (took_no U (8 * N - T) k (fun h => hone h.1))
        clear ht hone
        go_wp2
        go_roundw
        case rel => exact ⟨k + 1, ys, by omega, by go_num, by unfold anyB; rw [htk.out], hr.out.len, hr.out.oct, by rw [htk.out]; exact hr.out.turned, hr.out.own, hr.out.old⟩
        case measure => simp [intOf]; omega
    · obtain rfl : k = 32 := by omega
      have hta := turned_all (p := zs) (q := qs) S.out.oct TT.out.oct hr.out.oct (by omega) (by rw [hmm]; exact hMm) hk0 hr.out.turned hT0 (took_lt U (8 * N - T) 32 hU)
      have hsc := fscan_any (some ⟨g, 0, none⟩) N cap ys _ hr.out.len (Lies.of_own hr.out.own) hcap hr.out.oct (by omega)
      have hold := hide hr.out.old
      clear hr hput1 hput2 hown hb2 hw
      by_cases h0 : took U (8 * N - T) 32 = 0
      · have ha : anyB U (8 * N - T) 32 = false := by unfold anyB; rw [h0]; rfl
        obtain ⟨J, hJ, hpl⟩ := hta.1 h0
        have hsc := hide (hsc.mono fun _ _ h => h.is hJ)
        rw [hpl, hmm, hNk.out] at hsc
        rw [ha]
        clear hta h0 ha hpl hJ
        go_wp2_with (first
          | (go_at_call 12; (with_reducible refine hsc.out.mono ?_); rintro e w3 ⟨A3, c3, rfl, _, _, k3⟩; have k3 := hide k3)
          | (go_at_call 3; (with_reducible refine (runs_any _).mono ?_); rintro e w9 ⟨rfl, hb9⟩))
        go_ret
        exact ⟨rfl, kept_trans (kept_trans hold.out k3.out) hb9⟩
      · have ha : anyB U (8 * N - T) 32 = true := by unfold anyB; rw [decide_eq_true h0]
        obtain ⟨J, hJ, hpl, hcase⟩ := hta.2 h0
        have hsc := hide (hsc.mono fun _ _ h => h.is hJ)
        rw [hpl] at hsc
        rw [ha]
        clear hta h0 ha hpl hJ
        rcases hcase with ⟨hk, rfl⟩ | ⟨hk, rfl⟩
        · have hk := hide hk
          have t5 : decide ((0 : Int) < (k0 : Int)) = false := decide_eq_false (by have := hk.out; omega)
          go_wp2_with (first
            | (go_at_call 12; (with_reducible refine hsc.out.mono ?_); rintro e w3 ⟨A3, c3, rfl, _, _, k3⟩; have k3 := hide k3)
            | (go_at_call 3; (with_reducible refine (runs_any _).mono ?_); rintro e w9 ⟨rfl, hb9⟩))
          go_ret
          exact ⟨rfl, kept_trans (kept_trans hold.out k3.out) hb9⟩
        · have t5 : decide ((0 : Int) < (k0 : Int)) = true := decide_eq_true (by omega)
          go_wp2_with (first
            | (go_at_call 12; (with_reducible refine hsc.out.mono ?_); rintro e w3 ⟨A3, c3, rfl, _, _, k3⟩; have k3 := hide k3)
            | (go_at_call 3; (with_reducible refine (runs_any _).mono ?_); rintro e w9 ⟨rfl, hb9⟩))
          go_ret
          exact ⟨rfl, kept_trans (kept_trans hold.out k3.out) hb9⟩
set_option maxRecDepth 100000 in
theorem lifted (os : Os) (started : os.Started) (H : Type) (enc : TypeId × Value → H) :
    ReturnsInHanded {} Try.checked os 6 .any (Rows.frameTurnedSpec.pre6 enc Try.prog Try.f6 Rows.frameTurnedRow.domain false) (Rows.frameTurnedSpec.post enc Try.prog Try.f6 false true false false) := by
  refine returnsInHanded_of_change_sized (C := Try.checked) own started (by kernel_rfl) Try.func6
    (ChangeSpec.witness6 (enc := enc) (C := Try.checked) false ⟨#[], #[.slice none 0 0, .slice none 0 0, .int .i64 0, .int .u32 0], []⟩ 8 (by kernel_rfl) (by kernel_rfl) (by kernel_rfl) (by kernel_rfl)) ?_
  intro W base args ds gs before hval0 hW _ hsz0 _
  have hval : ∀ (j : Nat) t v, Try.f6.params[j]? = some t → args[j]? = some v → Value.okWide Try.prog W .any base t v := hval0
  have hW' := hW
  obtain ⟨p, q, hA0, hV, rfl, _, _⟩ := hW
  have hA : DataW.TrodAll enc Try.prog W 0 (fun _ => true) true Try.f6.params.toList args.toList ds p := hA0
  have hsz : (DataW.weightsEach Try.prog (Try.f6.params.toList ++ Rows.frameTurnedSpec.plain.varTypes Try.prog) (ds ++ gs)).all (· ≤ reachBytes) = true := hsz0
  rw [Try.params6] at hA hval hsz
  obtain ⟨v0, vs0, d0, ds0, p0, q0, hargs, rfl, rfl, h0, r0⟩ := trodAll_cons hA
  obtain ⟨v1, vs1, d1, ds1, p1, q1, rfl, rfl, rfl, h1, r1⟩ := trodAll_cons r0
  obtain ⟨v2, vs2, d2, ds2, p2, q2, rfl, rfl, rfl, h2, r2⟩ := trodAll_cons r1
  obtain ⟨v3, vs3, d3, ds3, p3, q3, rfl, rfl, rfl, h3, r3⟩ := trodAll_cons r2
  obtain ⟨rfl, rfl, rfl⟩ := trodAll_nil r3
  obtain rfl : args = #[v0, v1, v2, v3] := by cases args; simp_all
  obtain ⟨rfl, rfl⟩ := trodVars_none hV
  have k0 := h0
  have lt0 : ∀ x ∈ p0, x.block < W.heap.size := by obtain ⟨m, hm⟩ := k0; exact DataW.trod_lt m _ _ _ hm
  obtain ⟨A0, n0, c0, rfl⟩ := okWide_slice Try.underlying22 (hval 0 22 v0 rfl rfl)
  obtain ⟨z0, s0⟩ := slice_in (j := 0) h0 hsz rfl rfl
  have k1 := h1
  have lt1 : ∀ x ∈ p1, x.block < W.heap.size := by obtain ⟨m, hm⟩ := k1; exact DataW.trod_lt m _ _ _ hm
  obtain ⟨A1, n1, c1, rfl⟩ := okWide_slice Try.underlying22 (hval 1 22 v1 rfl rfl)
  obtain ⟨z1, s1⟩ := slice_in (j := 1) h1 hsz rfl rfl
  obtain ⟨a2, rfl, rfl, rfl, w2⟩ := open_int Try.underlying3 (hval 2 3 v2 rfl rfl) h2
  obtain ⟨a3, rfl, rfl, rfl, w3⟩ := open_int Try.underlying41 (hval 3 41 v3 rfl rfl) h3
  clear hA0 hval0
  refine (walk A0 n0 c0 z0 A1 n1 c1 z1 a2 a3 W s0 s1 (bounds_i64 w2) (bounds_u32 w3)).mono fun e W' ⟨he, bel⟩ => ?_
  subst he
  exact ⟨_, rfl, _, _, _, [], _, [], hW', trodAll_mk1 (shut_bool Try.underlying4 _), (trodAll_cons_mk (Below.trod laidOut (by kernel_rfl) (of_decide_eq_true (by kernel_rfl)) k0 bel lt0) (trodAll_cons_mk (Below.trod laidOut (by kernel_rfl) (of_decide_eq_true (by kernel_rfl)) k1 bel lt1) (trodAll_cons_mk (shut_int Try.underlying3 w2) (trodAll_cons_mk (shut_int Try.underlying41 w3) trodAll_mk0)))), rfl, bel.frame _, fun h => by cases h⟩
theorem over : Rows.frameTurnedRow.holds Try.pinned (OpenSpec.ofChange Rows.frameTurnedSpec) :=
  OpenClaim.holds_of_wide 6 Try.f6 rfl rfl rfl rfl rfl rfl rfl ⟨rfl, rfl, rfl, rfl, rfl⟩ rfl rfl rfl rfl rfl (by kernel_rfl) Try.func6 (by kernel_rfl)
    (of_decide_eq_true (by kernel_rfl)) (by unfold Func.isWrapper; first | (rw [if_pos (by decide +kernel)]; kernel_rfl) | (rw [if_neg (by decide +kernel)]; exact ⟨rfl, rfl⟩))
    (fun os started H enc _ => lifted os started H enc)
theorem proved : Rows.FrameTurnedSaid := over
end Go.Proofs.Ytdmfblobmahfbaa.frameTurned
