/- Proved: the law DiskTwins returns true. Conditions: none beyond the row's own. -/
import Derived.Test.YtllgjbkmemheoaaFrame
import Derived.Test.YtllgjbkmemheoaaTwin
import Derived.Deep.DeepCutAuto
import Derived.Deep.RegionHeld3
namespace Go.Proofs.Ytllgjbkmemheoaa.diskTwins
open Go.ChangeShapes Go.WideShapes Go.ChangeAt Go.RowKit
set_option maxRecDepth 100000 in
set_option maxHeartbeats 16000000 in
theorem walk (A : Option Addr) (m c : Nat) (it : Nat → As) (W : World) (h : AsksIn W A m c it) :
    Calls Try.prog 8 #[.slice A m c] W fun e w' => e = .returned (.bool true) ∧ Below W.heap.size W w' := by
  have hmx : (m : Int) ≤ 9223372036854775807 := by have := h.le; have := h.room; omega
  have HA := hide h
  clear h
  go_enter Try.func8, Try.ntmps8
  go_wp2_with (first
    | (go_at_call 10; (with_reducible refine (new_q 1048576 W (by omega)).mono ?_); rintro e w1 ⟨g1, rfl, hq, hb⟩; have L1 := hide hq; have B1 := hide hb; clear hq hb)
    | (go_at_call 10; (with_reducible refine (new_two 1048576 L1.out (by omega)).mono ?_); rintro e w2 ⟨g2, rfl, hq, hb⟩; have L2 := hide (show Lt W (fun k => k < W.heap.size) w2 g1 (newS 1048576) g2 (newS 1048576) from ⟨kept_trans B1.out hb, hq, fun _ hk => hk⟩); clear hq hb L1 B1))
  go_loopw [7] (fun i wr => ∃ (j : Nat) (d : DS), j ≤ m ∧ j ≤ 40 ∧ i = .int .i64 j ∧ Hid (Lt W (fun k => k < W.heap.size) wr g1 d g2 d) ∧ Hid (d.l.length ≤ j)) (fun i _ => m - (intOf i).toNat)
  case atStart => exact ⟨0, _, by omega, by omega, rfl, L2, Nat.le_refl _⟩
  case round =>
    clear L2
    obtain ⟨j, d, hj, hj40, rfl, hL, hD⟩ := hrel
    by_cases hlt : j < 40 ∧ j < m
    · obtain ⟨hlt1, hlt2⟩ := hlt
      obtain ⟨b, off, rfl, hbl, hat, hok⟩ := ask_at HA.out hL.out.low hlt2
      have q0 := hat.c0
      have q1 := hat.c1
      have q2 := hat.c2
      have q3 := hat.c3
      have q4 := hat.c4
      have q5 := hat.c5
      go_upto_region 9 with (fail)
      obtain ⟨lb, R⟩ := Lt.boxed hL.out (it j)
      have LB := hide lb
      unfold askRow at LB R
      clear q0 q1 q2 q3 q4 q5 hat hbl hL HA lb
      generalize (wr.alloc (.cells #[.int .i64 (it j).k, .int .i64 (it j).n, .string (it j).nm, .string (it j).tn, .slice (it j).d.A (it j).d.n (it j).d.c, .slice (it j).p.A (it j).p.n (it j).p.c] 41)) = w1 at *
      generalize wr.heap.size = gb at *
      have r0 : w1.cell? ⟨gb, 0, none⟩ = some (.int .i64 (it j).k) := R.cell 0
      have r4 : w1.cell? ⟨gb, 4, none⟩ = some (.slice (it j).d.A (it j).d.n (it j).d.c) := R.cell 4
      have r5 : w1.cell? ⟨gb, 5, none⟩ = some (.slice (it j).p.A (it j).p.n (it j).p.c) := R.cell 5
      have r4a : (w1.alloc (.cells #[] 5)).cell? ⟨gb, 4, none⟩ = some (.slice (it j).d.A (it j).d.n (it j).d.c) := (R.alloc _).cell 4
      have RB := hide (show Row w1 gb 41 (askRow (it j)) from R)
      have hdl := hok.d.le
      have hdr := hok.d.room
      have hpl := hok.p.le
      have hpr := hok.p.room
      have HOK := hide hok
      have HD1 := hide (show d.l.length ≤ j + 1 from Nat.le_succ_of_le hD.out)
      clear R hok
      by_cases e1 : 300 < (it j).d.n
      · go_wp2
        go_roundw
        case rel => exact ⟨j + 1, d, by omega, by omega, by go_num, LB.out.drop (fun _ hk => hk), HD1⟩
        case measure => simp [intOf]; omega
      by_cases e2 : 30 < (it j).p.n
      · go_wp2
        go_roundw
        case rel => exact ⟨j + 1, d, by omega, by omega, by go_num, LB.out.drop (fun _ hk => hk), HD1⟩
        case measure => simp [intOf]; omega
      obtain ⟨i0, hi, hz0, hz1, hz2⟩ := info_parts Try.info5
      have hown0 := World.ownsRow_lit (base := w1.heap.size) (e := 5) (size := 1) w1 #[] 0 (Nat.le_refl _) (by unfold maxLen; omega) rfl
      have HL0 := hide ((HOK.out.d.lies.below LB.out.low).alloc (.cells #[] 5))
      have HZ := hide HOK.out.d.len
      have HNIL := hide HOK.out.d.nil
      have hn0 : 0 + (it j).d.n ≤ 140737488355328 := by omega
      have HB0 := hide (kept_alloc (kept_refl w1) (.cells #[] 5))
      go_upto_region 11 with (at_builtin; refine wpList_append_lies rfl (.tmp 66) (.tmp 68) 27 rfl w1.heap.size 5 i0 _ Try.underlying27 hi hz0 hz1 hz2 rfl _ 0 [] rfl hown0 (it j).d.A (it j).d.n (it j).d.c (it j).d.zs rfl HZ.out HNIL.out HL0.out hn0 (alloc_le _ _) ?_; intro v1 w2 hown1 hb1; simp only [Nat.zero_add, List.nil_append] at hown1; have HM := hide (Rt.made LB.out RB.out (HB0.out.trans hb1) hown1); clear hb1 hown1 hown0 HL0 r0 r4 r5 r4a)
      obtain ⟨PA, pc, rfl, hRT⟩ := HM.out
      have RT := hide hRT
      have r0 : w2.cell? ⟨gb, 0, none⟩ = some (.int .i64 (it j).k) := hRT.box.cell 0
      clear HM hRT LB RB HB0 hn0 HNIL hi hz0 hz1 hz2
      have hln : d.l.length < 9000000000 := by have := hD.out; omega
      have hln2 : d.l.length ≤ 1000000 := by have := hD.out; omega
      have LA := hide (show (appS d (it j).nm (it j).d.zs).l.length ≤ j + 1 from Nat.le_trans (len_app ..) (Nat.succ_le_succ hD.out))
      have LS := hide (show (synS d (it j).nm).l.length ≤ j + 1 from Nat.le_trans (len_syn ..) (Nat.succ_le_succ hD.out))
      have LN := hide (show (renS d (it j).nm (it j).tn).l.length ≤ j + 1 from Nat.le_trans (len_ren ..) (Nat.succ_le_succ hD.out))
      have LC := hide (show (craS d (it j).p.zs).l.length ≤ j + 1 from by rw [cra_len]; exact HD1.out)
      clear hD
      by_cases k1 : (it j).k = 1
      · rw [k1] at r0
        go_upto_region 13 with (fail)
        clear r0
        have QQ := hide RT.out.drew
        have HO := hide HOK.out.d.oct
        have hnm := hide HOK.out.nm
        have hds := hide HOK.out.d
        clear RT
        go_region_held3 (fun w' => w'.cell? ⟨gb, 2, none⟩ = some (.string (it j).nm) ∧ w'.cell? ⟨gb, 4, none⟩ = some (.slice (it j).d.A (it j).d.n (it j).d.c)) ((with_reducible exact QQ.out.c24))
          (first
            | (go_at_call 11; (with_reducible refine (QQ.out.app (QQ.out.own HO.out HZ.out) hnm.out hln).mono ?_); rintro e w' ⟨rfl, h⟩; (have QN := hide h); clear QQ h; (have QQ := QN); clear QN)
            | (go_at_call 11; (with_reducible refine (QQ.out.app (QQ.out.came hds.out) hnm.out hln).mono ?_); rintro e w' ⟨rfl, h⟩; (have QN := hide h); clear QQ h; (have QQ := QN); clear QN))
        go_wp2_with fail
        generalize appS d (it j).nm (it j).d.zs = d1 at *
        have QP := QQ
        clear QQ
        go_loopw [10] (fun i wv => ∃ (k : Nat) (zs : List Int), k ≤ (it j).d.n ∧ i = .int .i64 k ∧ Hid (Rt W wv g1 d1 g2 d1 gb (it j) PA (it j).d.n pc zs) ∧ Hid (zs.length = (it j).d.n)) (fun i _ => (it j).d.n - (intOf i).toNat)
        case atStart => exact ⟨0, _, by omega, rfl, QP, HZ⟩
        case round =>
          clear QP
          obtain ⟨k, zs, hk, rfl, hT, hZ⟩ := hrel
          by_cases hkn : k < (it j).d.n
          · obtain ⟨b5, rfl, hc5, hf5⟩ := hT.out.at_ hZ.out hkn
            go_wp2
            go_roundw
            case rel => exact ⟨k + 1, _, by omega, by go_num, hide (hT.out.turn _), hide (List.length_set.trans hZ.out)⟩
            case measure => simp [intOf]; omega
          · have r2 := hT.out.c2
            have HRD := hide (hT.out.read hnm.out)
            clear hT hZ
            go_upto_region 20 with (go_at_call 14; (with_reducible refine HRD.out.mono ?_); rintro e w5 ⟨A5, m5, c5, y5, t5, rfl, h5, hl5, hb5⟩; have QR := hide h5; have HL5 := hide hl5; clear h5 hl5 HRD r2)
            go_wp2_with fail
            go_loopw [13] (fun i wv => ∃ (k : Nat) (zs : List Int), k ≤ m5 ∧ i = .int .i64 k ∧ Hid (Rt W wv g1 d1 g2 d1 gb (it j) A5 m5 c5 zs) ∧ Hid (zs.length = m5)) (fun i _ => m5 - (intOf i).toNat)
            case atStart => exact ⟨0, _, by omega, rfl, QR, HL5⟩
            case round =>
              clear QR
              obtain ⟨k, zs, hk, rfl, hT, hZ⟩ := hrel
              by_cases hkn : k < m5
              · obtain ⟨b5, rfl, hc5, hf5⟩ := hT.out.at_ hZ.out hkn
                go_wp2
                go_roundw
                case rel => exact ⟨k + 1, _, by omega, by go_num, hide (hT.out.turn _), hide (List.length_set.trans hZ.out)⟩
                case measure => simp [intOf]; omega
              · clear hZ
                go_wp2
                go_roundw
                case rel => exact ⟨j + 1, d1, by omega, by omega, by go_num, hide hT.out.drop, LA⟩
                case measure => simp [intOf]; omega
      by_cases k2 : (it j).k = 2
      · rw [k2] at r0
        go_upto_region 25 with (fail)
        clear r0
        have QQ := hide RT.out.drew
        have hnm := hide HOK.out.nm
        have htn := hide HOK.out.tn
        clear RT
        go_region_held3 (fun w' => w'.cell? ⟨gb, 2, none⟩ = some (.string (it j).nm)) ((with_reducible exact QQ.out.c2))
          (first
            | (go_at_call 12; (with_reducible refine (QQ.out.syn hnm.out).mono ?_); rintro e w' ⟨rfl, h⟩; (have QN := hide h); clear QQ h; (have QQ := QN); clear QN))
        go_wp2_with fail
        go_roundw
        case rel => exact ⟨j + 1, synS d (it j).nm, by omega, by omega, by go_num, hide QQ.out.drop, LS⟩
        case measure => simp [intOf]; omega
      by_cases k4 : (it j).k = 4
      · rw [k4] at r0
        go_upto_region 28 with (fail)
        clear r0
        have QQ := hide RT.out.drew
        have hnm := hide HOK.out.nm
        have htn := hide HOK.out.tn
        clear RT
        go_region_held3 (fun w' => w'.cell? ⟨gb, 2, none⟩ = some (.string (it j).nm) ∧ w'.cell? ⟨gb, 3, none⟩ = some (.string (it j).tn)) ((with_reducible exact QQ.out.c23))
          (first
            | (go_at_call 21; (with_reducible refine (QQ.out.ren hnm.out htn.out hln).mono ?_); rintro e w' ⟨rfl, h⟩; (have QN := hide h); clear QQ h; (have QQ := QN); clear QN))
        go_wp2_with fail
        go_roundw
        case rel => exact ⟨j + 1, renS d (it j).nm (it j).tn, by omega, by omega, by go_num, hide QQ.out.drop, LN⟩
        case measure => simp [intOf]; omega
      by_cases k7 : (it j).k = 7
      · rw [k7] at r0
        have hps := hide HOK.out.p
        have hp30 : (it j).p.n ≤ 30 := by omega
        have r5 := RT.out.c5
        have QQ := RT
        clear RT
        go_wp2_with (go_at_call 13; (with_reducible refine (QQ.out.cra hps.out hp30 hln2).mono ?_); rintro e w' ⟨rfl, h⟩; clear r5; have r5 := h.c5; (have QN := hide h); clear QQ h; (have QQ := QN); clear QN)
        go_roundw
        case rel => exact ⟨j + 1, craS d (it j).p.zs, by omega, by omega, by go_num, hide QQ.out.drop, LC⟩
        case measure => simp [intOf]; omega
      have b1 : ((it j).k == 1) = false := by simpa using k1
      have b2 : ((it j).k == 2) = false := by simpa using k2
      have b4 : ((it j).k == 4) = false := by simpa using k4
      have b7 : ((it j).k == 7) = false := by simpa using k7
      clear k1 k2 k4 k7
      go_wp2
      go_roundw
      case rel => exact ⟨j + 1, d, by omega, by omega, by go_num, hide RT.out.drop, HD1⟩
      case measure => simp [intOf]; omega
    · clear HA
      have hln2 : d.l.length ≤ 1000000 := by have := hD.out; omega
      have hlm : d.l.length ≤ 4611686018427387904 := by omega
      have HNB := hide (show ∀ k (hk : k < (nms d.l).length), (nms d.l)[k].size ≤ 140737488351232 from fun k hk => nms_size hL.out.two.one.ok hk)
      have hcase : ¬ j < m ∨ (j < m ∧ 40 ≤ j) := by omega
      clear hlt hD
      rcases hcase with hjm | ⟨hjm, hjk⟩
      all_goals
        go_wp2_with (first
          | (go_at_call 26; (with_reducible refine (names_q hL.out.swap.two.one hln2).mono ?_); rintro e w4 ⟨N, cN, rfl, hcN, hS, hb, _⟩; have L4 := hide (hL.out.below hb); have S4 := hide hS; clear hS hb hL)
          | (go_at_call 26; (with_reducible refine (names_q L4.out.two.one hln2).mono ?_); rintro e w5 ⟨N2, cN2, rfl, _, hS, hb, _⟩; have L5 := hide (L4.out.below hb); have S5 := hide (S4.out.below hb); have HSS := hide (sameS_yes N2 N d.l.length cN2 cN (nms d.l) w5 (length_nms _) hS (S4.out.below hb) hlm); clear hS hb L4 S4)
          | (go_at_call 27; (with_reducible refine HSS.out.mono ?_); rintro e w6 ⟨rfl, q6, rfl⟩; have L6 := hide (L5.out.below (kept_drewN (kept_refl w5) q6)); have S6 := hide (S5.out.below (kept_drewN (kept_refl w5) q6)); clear L5 S5 HSS))
        go_loopw [15] (fun i wv => ∃ k : Nat, k ≤ d.l.length ∧ i = .int .i64 k ∧ Hid (Lt W (fun k => k < W.heap.size) wv g1 d g2 d) ∧ Hid (Strs wv N (nms d.l))) (fun i _ => d.l.length - (intOf i).toNat)
        case atStart => exact ⟨0, by omega, rfl, L6, S6⟩
        case round =>
          clear L6 S6
          obtain ⟨k, hk, rfl, hT, hS⟩ := hrel
          by_cases hkn : k < d.l.length
          · have hkn' : k < (nms d.l).length := by rw [length_nms]; exact hkn
            obtain ⟨b5, o5, rfl, hl5, hc5⟩ := strs_get hS.out hkn'
            have hsz := HNB.out k hkn'
            have hdl := dat_len hT.out.two.one.ok (nms d.l)[k]
            generalize (nms d.l)[k] = x at *
            have HR1 := hide (read_run (nm := x) hT.out.one rfl hsz)
            have hbc := hide (show ∀ w', Below wr.heap.size wr w' → w'.cell? ⟨b5, o5 + k, none⟩ = some (.string x) from fun w' hb => (hb.cell (p := ⟨b5, o5 + k, none⟩) hl5).trans hc5)
            have HLE := hide (Nat.le_trans hdl (show 1048576 ≤ 4611686018427387904 by omega))
            go_wp2_with (first
              | (go_at_call 14; (with_reducible refine HR1.out.mono ?_); rintro e w7 ⟨A7, c7, rfl, h7, _, _, hb7⟩; have hc7 := hbc.out w7 hb7; have T7 := hide (hT.out.below hb7); have S7 := hide (hS.out.below hb7); have Z7 := hide h7.lies; have HR2 := hide (read_run (nm := x) T7.out.swap.one rfl hsz); clear h7 hb7 HR1 hbc hc5)
              | (go_at_call 14; (with_reducible refine HR2.out.mono ?_); rintro e w8 ⟨A8, c8, rfl, h8, _, _, hb8⟩; have T8 := hide (T7.out.below hb8); have S8 := hide (S7.out.below hb8); have HS9 := hide (same_run (k := c8) (c := c7) T8.out.one (Z7.out.below hb8) h8.lies rfl rfl HLE.out HLE.out (decide_eq_true rfl)); clear h8 hb8 HR2 Z7 T7 S7 hc7)
              | (go_at_call 16; (with_reducible refine HS9.out.mono ?_); rintro e w9 ⟨rfl, _, hb9⟩; have T9 := hide (T8.out.below hb9); have S9 := hide (S8.out.below hb9); clear hb9 HS9 T8 S8))
            go_roundw
            case rel => exact ⟨k + 1, by omega, by go_num, T9, S9⟩
            case measure => simp [intOf]; omega
          · have HRR := hide (run_run hT.out.one)
            clear hT hS HNB
            go_wp2_with (go_at_call 3; (with_reducible refine HRR.out.mono ?_); rintro e wz ⟨rfl, hbw⟩)
            go_ret
            exact ⟨rfl, hbw⟩
set_option maxRecDepth 100000 in
theorem lifted (os : Os) (started : os.Started) (H : Type) (enc : TypeId × Value → H) :
    ReturnsInHanded {} Try.checked os 8 .any (Rows.diskTwinsSpec.pre6 enc Try.prog Try.f8 Rows.diskTwinsRow.domain false) (Rows.diskTwinsSpec.post enc Try.prog Try.f8 false true false false) := by
  refine returnsInHanded_of_change_sized (C := Try.checked) own started (by kernel_rfl) Try.func8
    (ChangeSpec.witness6 (enc := enc) (C := Try.checked) false ⟨#[], #[.slice none 0 0], []⟩ 8 (by kernel_rfl) (by kernel_rfl) (by kernel_rfl) (by kernel_rfl)) ?_
  intro W base args ds gs before hval0 hW _ hsz0 _
  have hval : ∀ (j : Nat) t v, Try.f8.params[j]? = some t → args[j]? = some v → Value.okWide Try.prog W .any base t v := hval0
  have hW' := hW
  obtain ⟨p, q, hA0, hV, rfl, _, _⟩ := hW
  have hA : DataW.TrodAll enc Try.prog W 0 (fun _ => true) true Try.f8.params.toList args.toList ds p := hA0
  have hsz : (DataW.weightsEach Try.prog (Try.f8.params.toList ++ Rows.diskTwinsSpec.plain.varTypes Try.prog) (ds ++ gs)).all (· ≤ reachBytes) = true := hsz0
  rw [Try.params8] at hA hval hsz
  obtain ⟨v0, vs0, d0, ds0, p0, q0, hargs, rfl, rfl, h0, r0⟩ := trodAll_cons hA
  obtain ⟨rfl, rfl, rfl⟩ := trodAll_nil r0
  obtain rfl : args = #[v0] := by cases args; simp_all
  obtain ⟨rfl, rfl⟩ := trodVars_none hV
  have k0 := h0
  have lt0 : ∀ x ∈ p0, x.block < W.heap.size := by obtain ⟨m, hm⟩ := k0; exact DataW.trod_lt m _ _ _ hm
  obtain ⟨A0, n0, c0, rfl⟩ := okWide_slice Try.underlying35 (hval 0 35 v0 rfl rfl)
  obtain ⟨z0, s0⟩ := dasks_in (j := 0) h0 hsz rfl rfl
  clear hA0 hval0
  refine (walk A0 n0 c0 z0 W s0).mono fun e W' ⟨he, bel⟩ => ?_
  subst he
  exact ⟨_, rfl, _, _, _, [], _, [], hW', trodAll_mk1 (shut_bool Try.underlying4 _), (trodAll_cons_mk (Below.trod laidOut (by kernel_rfl) (of_decide_eq_true (by kernel_rfl)) k0 bel lt0) trodAll_mk0), rfl, bel.frame _, fun h => by cases h⟩
theorem over : Rows.diskTwinsRow.holds Try.pinned (OpenSpec.ofChange Rows.diskTwinsSpec) :=
  OpenClaim.holds_of_wide 8 Try.f8 rfl rfl rfl rfl rfl rfl rfl ⟨rfl, rfl, rfl, rfl, rfl⟩ rfl rfl rfl rfl rfl (by kernel_rfl) Try.func8 (by kernel_rfl)
    (of_decide_eq_true (by kernel_rfl)) (by unfold Func.isWrapper; first | (rw [if_pos (by decide +kernel)]; kernel_rfl) | (rw [if_neg (by decide +kernel)]; exact ⟨rfl, rfl⟩))
    (fun os started H enc _ => lifted os started H enc)
theorem proved : Rows.DiskTwinsSaid := over
end Go.Proofs.Ytllgjbkmemheoaa.diskTwins
