/- Proved: the law DedupOnce returns true: no number is New twice, and what was told is told Again, as long as nothing newer came. No condition. -/
import Derived.Test.YtjadbppcjndmlaaFrame
import Derived.Test.YtjadbppcjndmlaaOh
import Derived.Deep.DeepCutAuto
namespace Go.Proofs.Ytjadbppcjndmlaa.dedupOnce
open Go.ChangeShapes Go.WideShapes Go.ChangeAt Go.RowKit
set_option maxRecDepth 100000 in
set_option maxHeartbeats 8000000 in
theorem walk (A : Option Addr) (n c : Nat) (l : List Int) (B : Option Addr) (m d : Nat) (l' : List Int) (W : World) (h1 : EintsIn W A n c l) (h2 : EintsIn W B m d l') :
    Calls Try.prog 5 #[.slice A n c, .slice B m d] W fun e w' => e = .returned (.bool true) ∧ Below W.heap.size W w' := by
  have H1 := hide h1
  have H2 := hide h2
  have rn := h1.le
  have rm := h2.le
  have rc := h1.room
  have rd := h2.room
  have HS := hide (Hw.start W)
  clear h1 h2
  go_enter Try.func5, Try.ntmps5
  go_upto_region 4 with (fail)
  rw [zero_arr]
  generalize (W.alloc (.cells (arr zeroL) 28)).alloc (.cells #[.int .i64 0, .int .i64 0, .int .i64 0, .int .i64 0, .int .i64 0, .int .i64 0, .int .i64 0, .int .i64 0] 43) = w1 at HS ⊢
  obtain ⟨g5, e5⟩ : ∃ g, W.heap.size = g := ⟨_, rfl⟩
  obtain ⟨g7, e7⟩ : ∃ g, W.heap.size + 1 = g := ⟨_, rfl⟩
  have HS := hide (show Hw W w1 g5 g7 zeroL ((ows zeroL).map Ow.s) [] (.slice none 0 0) by rw [← e5, ← e7]; exact HS.out)
  rw [e7, e5]
  clear e5 e7
  go_wp2
  go_loopw [6, 8] (fun v i wr => ∃ (k : Nat) (vv : Value) (L : List Co) (D : List (Int × Int)), k ≤ 60 ∧ i = .int .i64 k ∧ vv = v ∧ Hid (D.length ≤ k) ∧ Hid (Hw W wr g5 g7 L ((ows L).map Ow.s) D vv) ∧ Hid (Onc (ows L) D)) (fun _ i _ => 60 - (intOf i).toNat)
  case atStart => exact ⟨0, _, zeroL, [], by omega, rfl, rfl, hide (Nat.le_refl 0), HS, Onc.start⟩
  case round =>
    obtain ⟨k, vv, L, D, hk, rfl, rfl, HD, HH, HI⟩ := hrel
    by_cases q1 : k < n
    case neg =>
      have q1' : decide ((k : Int) < (n : Int)) = false := decide_eq_false (by omega)
      have HRO := hide (by have h := rightO_any L wr HH.out.f; rw [HI.out.right] at h; exact h)
      have R5 := hide HH.out.r5
      have H8 := hide HH.out.f.1
      go_wp2_with (first | ((with_reducible refine wpList_load8 ?_ R5.out H8.out ?_); rfl) | (go_at_call 14; (with_reducible refine HRO.out.mono ?_); rintro e w20 ⟨rfl, hb20⟩) | (go_at_call 3; (with_reducible refine (runs_any _).mono ?_); rintro e w22 ⟨rfl, hb22⟩))
      go_ret
      exact ⟨rfl, kept_trans HH.out.bel (kept_trans hb20 hb22)⟩
    by_cases q2 : k < m
    case neg =>
      have q1' : decide ((k : Int) < (n : Int)) = true := decide_eq_true (by omega)
      have q2' : decide ((k : Int) < (m : Int)) = false := decide_eq_false (by omega)
      have HRO := hide (by have h := rightO_any L wr HH.out.f; rw [HI.out.right] at h; exact h)
      have R5 := hide HH.out.r5
      have H8 := hide HH.out.f.1
      go_wp2_with (first | ((with_reducible refine wpList_load8 ?_ R5.out H8.out ?_); rfl) | (go_at_call 14; (with_reducible refine HRO.out.mono ?_); rintro e w20 ⟨rfl, hb20⟩) | (go_at_call 3; (with_reducible refine (runs_any _).mono ?_); rintro e w22 ⟨rfl, hb22⟩))
      go_ret
      exact ⟨rfl, kept_trans HH.out.bel (kept_trans hb20 hb22)⟩
    by_cases q3 : k < 60
    case neg =>
      have q1' : decide ((k : Int) < (n : Int)) = true := decide_eq_true (by omega)
      have q2' : decide ((k : Int) < (m : Int)) = true := decide_eq_true (by omega)
      have q3' : decide ((k : Int) < 60) = false := decide_eq_false (by omega)
      have HRO := hide (by have h := rightO_any L wr HH.out.f; rw [HI.out.right] at h; exact h)
      have R5 := hide HH.out.r5
      have H8 := hide HH.out.f.1
      go_wp2_with (first | ((with_reducible refine wpList_load8 ?_ R5.out H8.out ?_); rfl) | (go_at_call 14; (with_reducible refine HRO.out.mono ?_); rintro e w20 ⟨rfl, hb20⟩) | (go_at_call 3; (with_reducible refine (runs_any _).mono ?_); rintro e w22 ⟨rfl, hb22⟩))
      go_ret
      exact ⟨rfl, kept_trans HH.out.bel (kept_trans hb20 hb22)⟩
    have q1' : decide ((k : Int) < (n : Int)) = true := decide_eq_true (by omega)
    have q2' : decide ((k : Int) < (m : Int)) = true := decide_eq_true (by omega)
    have q3' : decide ((k : Int) < 60) = true := decide_eq_true (by omega)
    obtain ⟨y1, b1, o1, rfl, hb1, c1⟩ := H1.out.at_ q1
    obtain ⟨y2, b2, o2, rfl, hb2, c2⟩ := H2.out.at_ q2
    replace c1 := (HH.out.bel.cell (p := ⟨b1, o1 + k, none⟩) hb1).trans c1
    replace c2 := (HH.out.bel.cell (p := ⟨b2, o2 + k, none⟩) hb2).trans c2
    have q1i : (k : Int) < (n : Int) := by omega
    have q2i : (k : Int) < (m : Int) := by omega
    have HX := hide (fun w => within_any y1 1 8 w (by omega) (by omega) (by omega))
    have HY := hide (fun w => within_any y2 1 9 w (by omega) (by omega) (by omega))
    have hx := withinI_bounds y1 1 8 (by omega)
    have hy := withinI_bounds y2 1 9 (by omega)
    generalize withinI y1 1 8 = x at HX hx
    generalize withinI y2 1 9 = s at HY hy
    go_upto_region 7 with (fail)
    go_quiet (first | (go_at_call 15; with_reducible exact quiet_l (HX.out _)) | (go_at_call 15; with_reducible exact quiet_l (HY.out _)))
    have HH := hide (HH.out.below (kept_drewN (kept_refl wr) nq))
    clear c1 c2 hb1 hb2 HX HY
    generalize wr.drewN nq = wn at HH ⊢
    obtain ⟨kx, hkx⟩ : ∃ kx : Nat, x = (kx : Int) + 1 := ⟨(x - 1).toNat, by omega⟩
    have hk8 : kx < 8 := by omega
    have hxw : IntKind.i64.wrap (x - 1) = (kx : Int) := by rw [IntKind.wrap_i64]; omega
    have hxm : x - 1 = (kx : Int) := by omega
    obtain ⟨o, ho⟩ : ∃ o, (ows L)[kx]? = some o := ⟨_, List.getElem?_eq_getElem (by rw [HI.out.len]; exact hk8)⟩
    have hcli : cliB x = true := cli_in hx
    have hlo : lookO (ows L) x s = seenO o s := by unfold lookO; rw [if_pos hcli, show (x - 1).toNat = kx by omega, ho]; rfl
    have HL := hide (look_any L x s wn HH.out.f)
    rw [hlo] at HL
    have HKX := hide hkx
    have HO := hide ho
    have HX8 := hide hx
    have HS9 := hide hy
    clear hlo hcli hkx ho
    have R5 := hide HH.out.r5
    have H8 := hide HH.out.f.1
    rcases Int.lt_trichotomy o.s s with h1 | h1 | h1
    · rw [seen1 (s := o.s) (r := o.r) h1] at HL
      have HL := hide (show Calls Try.prog 12 #[.agg (arr L), .int .i64 x, .int .i64 s] wn (fun e w' => ∃ p, e = .returned (.tuple #[.int .i64 1, .agg #[.int .i64 0, .bool false, .string { data := #[] }, .int .i64 0, p]]) ∧ Mine wn.heap.size w' p [] ∧ Below wn.heap.size wn w') from HL.out)
      have HS1 := hide h1
      clear h1
      go_upto_region 9 with (first | ((with_reducible refine wpList_load8 ?_ R5.out H8.out ?_); rfl) | (go_at_call 12; (with_reducible refine HL.out.mono ?_); rintro e w5 ⟨p, rfl, ho5, hb5⟩; obtain ⟨A5, c5, rfl, _, _, _, _⟩ := ho5.pin))
      have kb := kept_alloc (kept_refl w5) (.cells #[.int .i64 0, .bool false, .string { data := #[] }, .int .i64 0, .slice A5 0 c5] 25)
      have HH := hide (HH.out.below (kept_trans hb5 kb))
      clear HL ho5 hb5 kb R5
      generalize w5.alloc (.cells #[.int .i64 0, .bool false, .string { data := #[] }, .int .i64 0, .slice A5 0 c5] 25) = w6 at HH ⊢
      obtain ⟨AD, cD, rfl, nD, lD, hD⟩ := HH.out.form
      have HEL := hide hD
      have HND := hide nD
      clear hD nD
      have hxl := HX8.out
      have hsl := HS9.out
      have hdl := HD.out
      go_wp2
      go_loopw [13] (fun i wr2 => ∃ j : Nat, j ≤ D.length ∧ i = .int .i64 j ∧ Hid (w6 = wr2)) (fun i _ => D.length - (intOf i).toNat)
      case atStart => exact ⟨0, by omega, rfl, hide rfl⟩
      case round =>
        obtain ⟨j, hj, rfl, hw⟩ := hrel
        obtain rfl := hw.out
        by_cases hlt : j < D.length
        · obtain ⟨p, hp⟩ : ∃ p, D[j]? = some p := ⟨_, List.getElem?_eq_getElem hlt⟩
          obtain ⟨b, of, rfl, e0, e1⟩ := dV_cells HEL.out hp
          have heq := eql_inst p.1 p.2 x s
          have hfr := HI.out.fresh HO.out HS1.out p (List.mem_of_getElem? hp)
          rw [← HKX.out] at hfr
          rw [hfr] at heq
          clear hfr hp
          go_wp2
          go_roundw
          case rel => exact ⟨j + 1, by omega, by go_num, hide (by first | rfl | trivial)⟩
          case measure => simp [intOf]; omega
        · obtain rfl : j = D.length := by omega
          obtain ⟨i0, hi, hz0, hz1, hz2⟩ := inst_parts
          have kb := kept_alloc (kept_refl w6) (.cells #[.int .i64 x, .int .i64 s] 46)
          have DN := hide ((HH.out.below kb).dn)
          have LZ := hide (els_row (m := 2) (l := [[Value.int .i64 x, .int .i64 s]]) (Row.new w6 46 #[.int .i64 x, .int .i64 s]) (dV_all [(x, s)]) rfl)
          have hbs := (HH.out.below kb).bel.size
          have hav : AllV 2 [[Value.int .i64 x, .int .i64 s]] := dV_all [(x, s)]
          go_upto_region 18 with (at_builtin; refine wpList_append_els rfl (.tmp 65) (.tmp 69) 42 rfl W.heap.size 46 i0 _ 16 under_insts hi hz0 hz1 hz2 (by omega) rfl _ D.length (dV D) rfl DN.out (some ⟨w6.heap.size, 0, none⟩) 1 1 [[Value.int .i64 x, .int .i64 s]] rfl hav rfl (fun h => by cases h) LZ.out (by omega) (by omega) hbs ?_; intro v7 w7 ho7 hb7)
          have HH7 := hide (HH.out.app (p := (x, s)) kb hb7 ho7)
          clear hi hz0 hz1 hz2 kb DN LZ hbs hav ho7 hb7 HEL
          have HT := hide (show Calls Try.prog 8 #[.agg (arr L), .int .i64 x, .int .i64 s, .agg #[.int .i64 0, .bool false, .string { data := #[] }, .int .i64 (100 * x + s), .slice none 0 0]] w7 (AnsN w7 (noteO (ows L) x s (repO (100 * x + s)))) from note_any L x s (repO (100 * x + s)) none 0 w7 HH7.out.f (Pin.nil_ w7) (Nat.zero_le _))
          have R5 := hide HH7.out.r5
          go_upto_region 19 with (first | ((with_reducible refine wpList_load8 ?_ R5.out H8.out ?_); rfl) | (go_at_call 8; (with_reducible refine HT.out.mono ?_); rintro e w8 ⟨M, rfl, hM, h8, hf, hb8⟩; have S5 := hide (HH7.out.below hb8)) | ((with_reducible refine wpList_store8 ?_ ?_ S5.out.r5 H8.out h8 ?_); rfl; rfl))
          have hrep : noteO (ows L) x s (repO (100 * x + s)) = (ows L).set kx ⟨s, repO (100 * ((kx : Int) + 1) + s)⟩ := by
            unfold noteO
            rw [if_pos (cli_in HX8.out), HKX.out, show ((kx : Int) + 1 - 1).toNat = kx by omega]
          have HI2 := HI.out.next HO.out HS1.out HS9.out.2
          have hM2 := hM
          rw [hrep] at hM2
          rw [← hM2, ← HKX.out] at HI2
          have FM := fine_mine hf hM h8 (note_room (fine_room HH7.out.f) (Nat.zero_le _))
          have HH9 := S5.out.set5 FM (fun y hy => HI2.empty (List.mem_map.2 ⟨y, hy, rfl⟩))
          have HIM := hide HI2
          have HLS := hide (show ((ows L).map Ow.s).set kx s = (ows M).map Ow.s by rw [hM2, List.map_set])
          have e7 := (HH9.r7.cell kx).trans (lasA_at (ows_sat HO.out))
          have f7 := HH9.r7.free kx
          have HH9 := hide HH9
          clear HT R5 hrep HI2 hM hM2 FM hf hb8 S5 HH7
          generalize w8.setRow g5 (arr M) = w9 at e7 f7 HH9 ⊢
          go_wp2
          go_roundw
          case rel => exact ⟨k + 1, v7, M, D ++ [(x, s)], by omega, by go_num, rfl, hide (by rw [List.length_append]; show D.length + 1 ≤ k + 1; omega), hide (by have h := HH9.out.put7 kx s; rw [HLS.out] at h; exact h), HIM⟩
          case measure => simp [intOf]; omega
    · have hor : o.r = repO (100 * x + s) := by
        have h := (HI.out.own kx o HO.out).2.2.2 (by have := HS9.out.1; omega)
        rw [h, ← HKX.out, h1]
      have hsl := HS9.out
      have hxl := HX8.out
      subst h1
      rw [show seenO o o.s = (2, o.r) from seen2 o.s o.r, hor] at HL
      have HL := hide (show Calls Try.prog 12 #[.agg (arr L), .int .i64 x, .int .i64 o.s] wn (fun e w' => ∃ p, e = .returned (.tuple #[.int .i64 2, .agg #[.int .i64 0, .bool false, .string { data := #[] }, .int .i64 (100 * x + o.s), p]]) ∧ Mine wn.heap.size w' p [] ∧ Below wn.heap.size wn w') from HL.out)
      clear hor
      go_upto_region 9 with (first | ((with_reducible refine wpList_load8 ?_ R5.out H8.out ?_); rfl) | (go_at_call 12; (with_reducible refine HL.out.mono ?_); rintro e w5 ⟨p, rfl, ho5, hb5⟩; obtain ⟨A5, c5, rfl, _, _, _, _⟩ := ho5.pin))
      have kb := kept_alloc (kept_refl w5) (.cells #[.int .i64 0, .bool false, .string { data := #[] }, .int .i64 (100 * x + o.s), .slice A5 0 c5] 25)
      have HH := hide (HH.out.below (kept_trans hb5 kb))
      obtain ⟨d0, d1, d2, d3, d4⟩ := (Row.new w5 25 #[.int .i64 0, .bool false, .string { data := #[] }, .int .i64 (100 * x + o.s), .slice A5 0 c5]).five
      clear HL ho5 hb5 kb R5
      generalize w5.alloc (.cells #[.int .i64 0, .bool false, .string { data := #[] }, .int .i64 (100 * x + o.s), .slice A5 0 c5] 25) = w6 at HH d0 d1 d2 d3 d4 ⊢
      generalize w5.heap.size = g12 at d0 d1 d2 d3 d4 ⊢
      have e7 := (HH.out.r7.cell kx).trans (lasA_at (ows_sat HO.out))
      go_wp2
      go_roundw
      case rel => exact ⟨k + 1, vv, L, D, by omega, by go_num, rfl, hide (Nat.le_succ_of_le HD.out), HH, HI⟩
      case measure => simp [intOf]; omega
    · rw [show seenO o s = (3, zeroR) from seen3 (s := o.s) (r := o.r) h1] at HL
      have HL := hide (show Calls Try.prog 12 #[.agg (arr L), .int .i64 x, .int .i64 s] wn (fun e w' => ∃ p, e = .returned (.tuple #[.int .i64 3, .agg #[.int .i64 0, .bool false, .string { data := #[] }, .int .i64 0, p]]) ∧ Mine wn.heap.size w' p [] ∧ Below wn.heap.size wn w') from HL.out)
      go_upto_region 9 with (first | ((with_reducible refine wpList_load8 ?_ R5.out H8.out ?_); rfl) | (go_at_call 12; (with_reducible refine HL.out.mono ?_); rintro e w5 ⟨p, rfl, ho5, hb5⟩; obtain ⟨A5, c5, rfl, _, _, _, _⟩ := ho5.pin))
      have kb := kept_alloc (kept_refl w5) (.cells #[.int .i64 0, .bool false, .string { data := #[] }, .int .i64 0, .slice A5 0 c5] 25)
      have HH := hide (HH.out.below (kept_trans hb5 kb))
      clear HL ho5 hb5 kb R5
      generalize w5.alloc (.cells #[.int .i64 0, .bool false, .string { data := #[] }, .int .i64 0, .slice A5 0 c5] 25) = w6 at HH ⊢
      generalize w5.heap.size = g12
      have e7 := (HH.out.r7.cell kx).trans (lasA_at (ows_sat HO.out))
      have hge : decide (o.s ≤ s) = false := decide_eq_false (by omega)
      go_wp2
      go_roundw
      case rel => exact ⟨k + 1, vv, L, D, by omega, by go_num, rfl, hide (Nat.le_succ_of_le HD.out), HH, HI⟩
      case measure => simp [intOf]; omega
set_option maxRecDepth 100000 in
theorem lifted (os : Os) (started : os.Started) (H : Type) (enc : TypeId × Value → H) :
    ReturnsInHanded {} Try.checked os 5 .any (Rows.dedupOnceSpec.pre6 enc Try.prog Try.f5 Rows.dedupOnceRow.domain false) (Rows.dedupOnceSpec.post enc Try.prog Try.f5 false true false false) := by
  refine returnsInHanded_of_change_sized (C := Try.checked) own started (by kernel_rfl) Try.func5
    (ChangeSpec.witness6 (enc := enc) (C := Try.checked) false ⟨#[], #[.slice none 0 0, .slice none 0 0], []⟩ 8 (by kernel_rfl) (by kernel_rfl) (by kernel_rfl) (by kernel_rfl)) ?_
  intro W base args ds gs before hval0 hW _ hsz0 _
  have hval : ∀ (j : Nat) t v, Try.f5.params[j]? = some t → args[j]? = some v → Value.okWide Try.prog W .any base t v := hval0
  have hW' := hW
  obtain ⟨p, q, hA0, hV, rfl, _, _⟩ := hW
  have hA : DataW.TrodAll enc Try.prog W 0 (fun _ => true) true Try.f5.params.toList args.toList ds p := hA0
  have hsz : (DataW.weightsEach Try.prog (Try.f5.params.toList ++ Rows.dedupOnceSpec.plain.varTypes Try.prog) (ds ++ gs)).all (· ≤ reachBytes) = true := hsz0
  rw [Try.params5] at hA hval hsz
  obtain ⟨v0, vs0, d0, ds0, p0, q0, hargs, rfl, rfl, h0, r0⟩ := trodAll_cons hA
  obtain ⟨v1, vs1, d1, ds1, p1, q1, rfl, rfl, rfl, h1, r1⟩ := trodAll_cons r0
  obtain ⟨rfl, rfl, rfl⟩ := trodAll_nil r1
  obtain rfl : args = #[v0, v1] := by cases args; simp_all
  obtain ⟨rfl, rfl⟩ := trodVars_none hV
  have k0 := h0
  have lt0 : ∀ x ∈ p0, x.block < W.heap.size := by obtain ⟨m, hm⟩ := k0; exact DataW.trod_lt m _ _ _ hm
  obtain ⟨A0, n0, c0, rfl⟩ := okWide_slice Try.underlying41 (hval 0 41 v0 rfl rfl)
  obtain ⟨z0, s0⟩ := eints_in (j := 0) h0 hsz rfl rfl
  have k1 := h1
  have lt1 : ∀ x ∈ p1, x.block < W.heap.size := by obtain ⟨m, hm⟩ := k1; exact DataW.trod_lt m _ _ _ hm
  obtain ⟨A1, n1, c1, rfl⟩ := okWide_slice Try.underlying41 (hval 1 41 v1 rfl rfl)
  obtain ⟨z1, s1⟩ := eints_in (j := 1) h1 hsz rfl rfl
  clear hA0 hval0
  refine (walk A0 n0 c0 z0 A1 n1 c1 z1 W s0 s1).mono fun e W' ⟨he, bel⟩ => ?_
  subst he
  exact ⟨_, rfl, _, _, _, [], _, [], hW', trodAll_mk1 (shut_bool Try.underlying4 _), (trodAll_cons_mk (Below.trod laidOut (by kernel_rfl) (of_decide_eq_true (by kernel_rfl)) k0 bel lt0) (trodAll_cons_mk (Below.trod laidOut (by kernel_rfl) (of_decide_eq_true (by kernel_rfl)) k1 bel lt1) trodAll_mk0)), rfl, bel.frame _, fun h => by cases h⟩
theorem over : Rows.dedupOnceRow.holds Try.pinned (OpenSpec.ofChange Rows.dedupOnceSpec) :=
  OpenClaim.holds_of_wide 5 Try.f5 rfl rfl rfl rfl rfl rfl rfl ⟨rfl, rfl, rfl, rfl, rfl⟩ rfl rfl rfl rfl rfl (by kernel_rfl) Try.func5 (by kernel_rfl)
    (of_decide_eq_true (by kernel_rfl)) (by unfold Func.isWrapper; first | (rw [if_pos (by decide +kernel)]; kernel_rfl) | (rw [if_neg (by decide +kernel)]; exact ⟨rfl, rfl⟩))
    (fun os started H enc _ => lifted os started H enc)
theorem proved : Rows.DedupOnceSaid := over
end Go.Proofs.Ytjadbppcjndmlaa.dedupOnce
