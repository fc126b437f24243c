/- Proved: the law FrameTells returns true, where what comes in is of bulk at most 1,048,576. Conditions: none beyond the row's own. -/
import Derived.Test.YtdmfblobmahfbaaFrame
import Derived.Test.YtdmfblobmahfbaaTel
import Derived.Test.YtdmfblobmahfbaaUpto
import Derived.Deep.DeepCutAuto
import Derived.Deep.CondSized
namespace Go.Proofs.Ytdmfblobmahfbaa.frameTells
open Go.ChangeShapes Go.WideShapes Go.ChangeAt Go.RowKit
set_option maxHeartbeats 2000000 in
theorem walk (A : Option Addr) (n c : Nat) (zs : List Int) (B : Option Addr) (m d : Nat) (ps : List Int) (a2 : Int) (W : World) (s : SliceIn W A n c zs) (t : SliceIn W B m d ps) (ba : -9223372036854775808 ≤ a2 ∧ a2 ≤ 9223372036854775807) (hk : n ≤ 1048576) (_ : m ≤ 1048576) :
    Calls Try.prog 4 #[.slice A n c, .slice B m d, .int .i64 a2] W fun e w' => e = .returned (.bool true) ∧ Below W.heap.size W w' := by
  have lnc := s.le
  have lc := s.room
  have lmd := t.le
  have ld := t.room
  have hn := hide s.len
  by_cases h5 : m ≤ 500
  · have t1 : decide ((500 : Int) < (m : Int)) = false := decide_eq_false (by omega)
    have hm := hide t.len
    have hst0 := hide s.lies
    have hoc := hide s.oct
    have hnl := hide s.nil
    have hpo := hide (t.oct)
    have hpn := hide t.nil
    have hpb := hide (t.lies)
    have hPl := hide (show (nextP zs a2).length ≤ 4611686018427387904 by have h1 := length_nextP zs a2; have h2 := hn.out; omega)
    have hEb := nextE_bounds zs a2
    have hfl := hide (show (putF zs ps).length ≤ 4611686018427387904 by have h1 := hn.out; have h2 := hm.out; unfold putF; split <;> (try rw [List.length_append, length_frm]) <;> omega)
    clear s t
    go_enter Try.func4, Try.ntmps4
    go_wp2_with (first
      | (go_at_call 10; (with_reducible refine (roomy_use 5 hn.out hst0.out (by omega)).mono ?_); rintro e w1 ⟨FA, rfl, hF0, hF1, k1⟩; have hF0 := hide hF0; have hF1 := hide hF1; have k1 := hide k1)
      | (go_at_call 10; (with_reducible refine (roomy_use 6 hm.out (hpb.out.below k1.out) (by omega)).mono ?_); rintro e w2 ⟨MA, rfl, hM0, hM1, k2⟩; have st := hide (show St W w2 FA MA zs ps from ⟨kept_trans k1.out k2, hF1.out.below k2, hM1, hF0.out, hM0⟩); clear hF0 hF1 k1 hM0 hM1 k2)
      | (go_at_call 9; (with_reducible refine ((fnext_any FA n (n + 80) zs a2 w2 hn.out (front st.out.fl) (by omega) hoc.out (by omega) ba).mono fun _ _ h => h.told).mono ?_); rintro e w3 ⟨A3, c3, rfl, x3, k3⟩; have st := hide (st.out.below k3); have x3 := hide x3; clear k3)
      | (go_at_call 11; (with_reducible refine ((rnext_any A n c zs a2 w3 hn.out (hst0.out.below st.out.old) lnc hoc.out (by omega) ba).mono fun _ _ h => h.told).mono ?_); rintro e w4 ⟨A4, c4, rfl, y4, k4⟩; have st := hide (st.out.below k4); have x4 := hide (x3.out.below k4); have y4 := hide y4; clear k4 x3)
      | (go_at_call 12; (with_reducible refine (fscan_any FA n (n + 80) zs w4 hn.out (front st.out.fl) (by omega) hoc.out (by omega)).mono ?_); rintro e w5 ⟨J, A5, c5, hJ, rfl, hc5, l5, k5⟩; have st := hide (st.out.below k5); have x5 := hide (x4.out.below k5); have y5 := hide (y4.out.below k5); have l5 := hide l5; have hJl := hide (show J ≤ 4611686018427387904 by have h1 := plc_ge J hJ.1; have h2 := plc_le J hJ.1; have h3 := hn.out; omega); have hpl := hide (show ∀ p ∈ pays zs J, p.length ≤ 4611686018427387904 from fun p hp => by have h1 := pays_le hp; have h3 := hn.out; omega); have hJ := hide hJ; clear k5 x4 y4)
      | (go_at_call 13; (with_reducible refine ((rscan_any A n c zs w5 hn.out (hst0.out.below st.out.old) lnc hoc.out (by omega)).mono fun _ _ h => h.is hJ.out).mono ?_); rintro e w6 ⟨A6, c6, rfl, hc6, m6, k6⟩; have st := hide (st.out.below k6); have x6 := hide (x5.out.below k6); have y6 := hide (y5.out.below k6); have l6 := hide (l5.out.below k6); have m6 := hide m6; clear k6 x5 y5 l5)
      | (go_at_call 8; (with_reducible refine ((fput_any FA n (n + 80) zs MA m (m + 80) ps w6 hn.out (front st.out.fl) (fun h => absurd h st.out.fn) (by omega) hm.out (front st.out.ml) (fun h => absurd h st.out.mn) hpo.out).mono fun _ _ h => h.new).mono ?_); rintro e w7 ⟨A7, c7, rfl, p7, k7⟩; have st := hide (st.out.below k7); have x7 := hide (x6.out.below k7); have y7 := hide (y6.out.below k7); have l7 := hide (l6.out.below k7); have m7 := hide (m6.out.below k7); clear x6 y6 l6 m6; have p7 := hide p7; clear k7)
      | (go_at_call 15; (with_reducible refine ((rframe_any A n c zs B m d ps w7 hn.out (hst0.out.below st.out.old) hnl.out (by omega) (by omega) hm.out (hpb.out.below st.out.old) hpn.out hpo.out).mono fun _ _ h => h.new).mono ?_); rintro e w8 ⟨A8, c8, rfl, q8, k8⟩; have st := hide (st.out.below k8); have x8 := hide (x7.out.below k8); have y8 := hide (y7.out.below k8); have l8 := hide (l7.out.below k8); have m8 := hide (m7.out.below k8); clear x7 y7 l7 m7; have p8 := hide (p7.out.below k8); have q8 := hide q8; clear k8 p7)
      | (go_at_call 14; (with_reducible refine (same_yes p8.out q8.out hfl.out).mono ?_); rintro e w9 ⟨rfl, k9⟩; have st := hide (st.out.below k9); have x9 := hide (x8.out.below k9); have y9 := hide (y8.out.below k9); have l9 := hide (l8.out.below k9); have m9 := hide (m8.out.below k9); clear x8 y8 l8 m8; clear k9)
      | (go_at_call 14; (with_reducible refine (same_yes x9.out y9.out hPl.out).mono ?_); rintro e w10 ⟨rfl, k10⟩; have st := hide (st.out.below k10); have x10 := hide (x9.out.below k10); have y10 := hide (y9.out.below k10); have l10 := hide (l9.out.below k10); have m10 := hide (m9.out.below k10); clear x9 y9 l9 m9; clear k10)
      | (go_at_call 16; (with_reducible refine (lists_yes (length_pays zs J) l10.out m10.out hc5 hc6 hJl.out hpl.out).mono ?_); rintro e w11 ⟨rfl, k11⟩; have st := hide (st.out.below k11); clear k11)
      | (go_at_call 17; (with_reducible refine (intact_yes hn.out st.out.fl (hst0.out.below st.out.old) (by omega)).mono ?_); rintro e w12 ⟨rfl, k12⟩; have st := hide (st.out.below k12); clear k12)
      | (go_at_call 17; (with_reducible refine (intact_yes hm.out st.out.ml (hpb.out.below st.out.old) (by omega)).mono ?_); rintro e w13 ⟨rfl, k13⟩; have st := hide (st.out.below k13); clear k13)
      | (go_at_call 3; (with_reducible refine (runs_any _).mono ?_); rintro e w14 ⟨rfl, k14⟩))
    go_ret
    exact ⟨rfl, kept_trans st.out.old k14⟩
  · have t1 : decide ((500 : Int) < (m : Int)) = true := decide_eq_true (by omega)
    have hm := hide (show (ps.take 500).length = 500 by rw [List.length_take, t.len]; omega)
    have hst0 := hide s.lies
    have hoc := hide s.oct
    have hnl := hide s.nil
    have hpo := hide (show Octets (ps.take 500) from fun z hz => t.oct z (List.mem_of_mem_take hz))
    have hpn := hide t.nil
    have hpb := hide (t.lies.take 500)
    have hPl := hide (show (nextP zs a2).length ≤ 4611686018427387904 by have h1 := length_nextP zs a2; have h2 := hn.out; omega)
    have hEb := nextE_bounds zs a2
    have hfl := hide (show (putF zs (ps.take 500)).length ≤ 4611686018427387904 by have h1 := hn.out; have h2 := hm.out; unfold putF; split <;> (try rw [List.length_append, length_frm]) <;> omega)
    clear s t
    go_enter Try.func4, Try.ntmps4
    go_wp2_with (first
      | (go_at_call 10; (with_reducible refine (roomy_use 5 hn.out hst0.out (by omega)).mono ?_); rintro e w1 ⟨FA, rfl, hF0, hF1, k1⟩; have hF0 := hide hF0; have hF1 := hide hF1; have k1 := hide k1)
      | (go_at_call 10; (with_reducible refine (roomy_use 6 hm.out (hpb.out.below k1.out) (by omega)).mono ?_); rintro e w2 ⟨MA, rfl, hM0, hM1, k2⟩; have st := hide (show St W w2 FA MA zs (ps.take 500) from ⟨kept_trans k1.out k2, hF1.out.below k2, hM1, hF0.out, hM0⟩); clear hF0 hF1 k1 hM0 hM1 k2)
      | (go_at_call 9; (with_reducible refine ((fnext_any FA n (n + 80) zs a2 w2 hn.out (front st.out.fl) (by omega) hoc.out (by omega) ba).mono fun _ _ h => h.told).mono ?_); rintro e w3 ⟨A3, c3, rfl, x3, k3⟩; have st := hide (st.out.below k3); have x3 := hide x3; clear k3)
      | (go_at_call 11; (with_reducible refine ((rnext_any A n c zs a2 w3 hn.out (hst0.out.below st.out.old) lnc hoc.out (by omega) ba).mono fun _ _ h => h.told).mono ?_); rintro e w4 ⟨A4, c4, rfl, y4, k4⟩; have st := hide (st.out.below k4); have x4 := hide (x3.out.below k4); have y4 := hide y4; clear k4 x3)
      | (go_at_call 12; (with_reducible refine (fscan_any FA n (n + 80) zs w4 hn.out (front st.out.fl) (by omega) hoc.out (by omega)).mono ?_); rintro e w5 ⟨J, A5, c5, hJ, rfl, hc5, l5, k5⟩; have st := hide (st.out.below k5); have x5 := hide (x4.out.below k5); have y5 := hide (y4.out.below k5); have l5 := hide l5; have hJl := hide (show J ≤ 4611686018427387904 by have h1 := plc_ge J hJ.1; have h2 := plc_le J hJ.1; have h3 := hn.out; omega); have hpl := hide (show ∀ p ∈ pays zs J, p.length ≤ 4611686018427387904 from fun p hp => by have h1 := pays_le hp; have h3 := hn.out; omega); have hJ := hide hJ; clear k5 x4 y4)
      | (go_at_call 13; (with_reducible refine ((rscan_any A n c zs w5 hn.out (hst0.out.below st.out.old) lnc hoc.out (by omega)).mono fun _ _ h => h.is hJ.out).mono ?_); rintro e w6 ⟨A6, c6, rfl, hc6, m6, k6⟩; have st := hide (st.out.below k6); have x6 := hide (x5.out.below k6); have y6 := hide (y5.out.below k6); have l6 := hide (l5.out.below k6); have m6 := hide m6; clear k6 x5 y5 l5)
      | (go_at_call 8; (with_reducible refine ((fput_any FA n (n + 80) zs MA 500 (500 + 80) (ps.take 500) w6 hn.out (front st.out.fl) (fun h => absurd h st.out.fn) (by omega) hm.out (front st.out.ml) (fun h => absurd h st.out.mn) hpo.out).mono fun _ _ h => h.new).mono ?_); rintro e w7 ⟨A7, c7, rfl, p7, k7⟩; have st := hide (st.out.below k7); have x7 := hide (x6.out.below k7); have y7 := hide (y6.out.below k7); have l7 := hide (l6.out.below k7); have m7 := hide (m6.out.below k7); clear x6 y6 l6 m6; have p7 := hide p7; clear k7)
      | (go_at_call 15; (with_reducible refine ((rframe_any A n c zs B 500 d (ps.take 500) w7 hn.out (hst0.out.below st.out.old) hnl.out (by omega) (by omega) hm.out (hpb.out.below st.out.old) hpn.out hpo.out).mono fun _ _ h => h.new).mono ?_); rintro e w8 ⟨A8, c8, rfl, q8, k8⟩; have st := hide (st.out.below k8); have x8 := hide (x7.out.below k8); have y8 := hide (y7.out.below k8); have l8 := hide (l7.out.below k8); have m8 := hide (m7.out.below k8); clear x7 y7 l7 m7; have p8 := hide (p7.out.below k8); have q8 := hide q8; clear k8 p7)
      | (go_at_call 14; (with_reducible refine (same_yes p8.out q8.out hfl.out).mono ?_); rintro e w9 ⟨rfl, k9⟩; have st := hide (st.out.below k9); have x9 := hide (x8.out.below k9); have y9 := hide (y8.out.below k9); have l9 := hide (l8.out.below k9); have m9 := hide (m8.out.below k9); clear x8 y8 l8 m8; clear k9)
      | (go_at_call 14; (with_reducible refine (same_yes x9.out y9.out hPl.out).mono ?_); rintro e w10 ⟨rfl, k10⟩; have st := hide (st.out.below k10); have x10 := hide (x9.out.below k10); have y10 := hide (y9.out.below k10); have l10 := hide (l9.out.below k10); have m10 := hide (m9.out.below k10); clear x9 y9 l9 m9; clear k10)
      | (go_at_call 16; (with_reducible refine (lists_yes (length_pays zs J) l10.out m10.out hc5 hc6 hJl.out hpl.out).mono ?_); rintro e w11 ⟨rfl, k11⟩; have st := hide (st.out.below k11); clear k11)
      | (go_at_call 17; (with_reducible refine (intact_yes hn.out st.out.fl (hst0.out.below st.out.old) (by omega)).mono ?_); rintro e w12 ⟨rfl, k12⟩; have st := hide (st.out.below k12); clear k12)
      | (go_at_call 17; (with_reducible refine (intact_yes hm.out st.out.ml (hpb.out.below st.out.old) (by omega)).mono ?_); rintro e w13 ⟨rfl, k13⟩; have st := hide (st.out.below k13); clear k13)
      | (go_at_call 3; (with_reducible refine (runs_any _).mono ?_); rintro e w14 ⟨rfl, k14⟩))
    go_ret
    exact ⟨rfl, kept_trans st.out.old k14⟩
set_option maxRecDepth 100000 in
theorem lifted (os : Os) (started : os.Started) (H : Type) (enc : TypeId × Value → H) (F : Stop.Interp) :
    ReturnsInHanded {} Try.checked os 4 .any ((Rows.OpenSpec.upto Rows.frameTellsSpec).pre6 enc Try.prog Try.f4 Rows.frameTellsUptoRow.domain false) (((Rows.OpenSpec.upto Rows.frameTellsSpec).at F).post enc Try.prog Try.f4 false true false false) := by
  refine returnsInHanded_of_cond_sized (C := Try.checked) (s := Rows.OpenSpec.upto Rows.frameTellsSpec) (k := Rows.uptoSmall) rfl own started (by kernel_rfl) Try.func4
    (OpenSpec.witness (enc := enc) (C := Try.checked) (s := Rows.OpenSpec.upto Rows.frameTellsSpec) (k := Rows.uptoSmall) rfl false ⟨#[], #[.slice none 0 0, .slice none 0 0, .int .i64 0], []⟩ 8 (by kernel_rfl) (by kernel_rfl) (by kernel_rfl)
      (x := ([.nil, .nil, .lit (.int .i64 0)], [], [])) (by kernel_rfl) rfl (by kernel_rfl)) ?_
  intro W base args ds gs before hval0 hW _ hk hsz0 _
  have hval : ∀ (j : Nat) t v, Try.f4.params[j]? = some t → args[j]? = some v → Value.okWide Try.prog W .any base t v := hval0
  have hW' := hW
  obtain ⟨p, q, hA0, hV, rfl, _, _⟩ := hW
  have hA : DataW.TrodAll enc Try.prog W 0 (fun _ => true) true Try.f4.params.toList args.toList ds p := hA0
  have hsz : (DataW.weightsEach Try.prog (Try.f4.params.toList ++ Rows.frameTellsSpec.plain.varTypes Try.prog) (ds ++ gs)).all (· ≤ reachBytes) = true := hsz0
  rw [Try.params4] at hA hval hsz
  obtain ⟨v0, vs0, d0, ds0, p0, q0, hargs, rfl, rfl, h0, r0⟩ := trodAll_cons hA
  obtain ⟨v1, vs1, d1, ds1, p1, q1, rfl, rfl, rfl, h1, r1⟩ := trodAll_cons r0
  obtain ⟨v2, vs2, d2, ds2, p2, q2, rfl, rfl, rfl, h2, r2⟩ := trodAll_cons r1
  obtain ⟨rfl, rfl, rfl⟩ := trodAll_nil r2
  obtain rfl : args = #[v0, v1, v2] := by cases args; simp_all
  obtain ⟨rfl, rfl⟩ := trodVars_none hV
  have k0 := h0
  have lt0 : ∀ x ∈ p0, x.block < W.heap.size := by obtain ⟨m, hm⟩ := k0; exact DataW.trod_lt m _ _ _ hm
  obtain ⟨A0, n0, c0, rfl⟩ := okWide_slice Try.underlying22 (hval 0 22 v0 rfl rfl)
  obtain ⟨z0, s0⟩ := slice_in (j := 0) h0 hsz rfl rfl
  have k1 := h1
  have lt1 : ∀ x ∈ p1, x.block < W.heap.size := by obtain ⟨m, hm⟩ := k1; exact DataW.trod_lt m _ _ _ hm
  obtain ⟨A1, n1, c1, rfl⟩ := okWide_slice Try.underlying22 (hval 1 22 v1 rfl rfl)
  obtain ⟨z1, s1⟩ := slice_in (j := 1) h1 hsz rfl rfl
  obtain ⟨a2, rfl, rfl, rfl, w2⟩ := open_int Try.underlying3 (hval 2 3 v2 rfl rfl) h2
  clear hA0 hval0
  refine (walk A0 n0 c0 z0 A1 n1 c1 z1 a2 W s0 s1 (bounds_i64 w2) (Nat.le_trans (slice_bulk h0) (bulk_of hk (by simp))) (Nat.le_trans (slice_bulk h1) (bulk_of hk (by simp)))).mono fun e W' ⟨he, bel⟩ => ?_
  subst he
  exact ⟨_, rfl, _, _, _, [], _, [], hW', trodAll_mk1 (shut_bool Try.underlying4 _), (trodAll_cons_mk (Below.trod laidOut (by kernel_rfl) (of_decide_eq_true (by kernel_rfl)) k0 bel lt0) (trodAll_cons_mk (Below.trod laidOut (by kernel_rfl) (of_decide_eq_true (by kernel_rfl)) k1 bel lt1) (trodAll_cons_mk (shut_int Try.underlying3 w2) trodAll_mk0))), rfl, bel.frame _, fun h => by cases h⟩
theorem proved : Rows.FrameTellsUptoSaid :=
  OpenClaim.holds_of_cond 4 Try.f4 rfl rfl rfl rfl rfl rfl rfl ⟨rfl, rfl, rfl, rfl, rfl⟩ rfl rfl rfl rfl rfl (by kernel_rfl) Try.func4 (by kernel_rfl)
    (of_decide_eq_true (by kernel_rfl)) (by unfold Func.isWrapper; first | (rw [if_pos (by decide +kernel)]; kernel_rfl) | (rw [if_neg (by decide +kernel)]; exact ⟨rfl, rfl⟩))
    (fun os started H enc _ F => lifted os started H enc F)
end Go.Proofs.Ytdmfblobmahfbaa.frameTells
