/- Proved: the law DedupOthers returns true: noting one client's number changes no other one's, nor any other number's being new or old. No condition. -/
import Derived.Test.YtjadbppcjndmlaaFrame
import Derived.Test.YtjadbppcjndmlaaSn
namespace Go.Proofs.Ytjadbppcjndmlaa.dedupOthers
open Go.ChangeShapes Go.WideShapes Go.ChangeAt Go.RowKit
set_option maxRecDepth 100000 in
set_option maxHeartbeats 8000000 in
theorem walk (L : List Co) (a b s o : Int) (r : Re) (A : Option Addr) (q : Nat) (W : World) (hL : OwIn W L) (_ : -9223372036854775808 ≤ a ∧ a ≤ 9223372036854775807) (_ : -9223372036854775808 ≤ b ∧ b ≤ 9223372036854775807) (_ : -9223372036854775808 ≤ s ∧ s ≤ 9223372036854775807) (_ : -9223372036854775808 ≤ o ∧ o ≤ 9223372036854775807) (hr : ReOk W r A q) :
    Calls Try.prog 7 #[.agg (arr L), .int .i64 a, .int .i64 b, .int .i64 s, .int .i64 o, .agg #[.int .i64 r.why, .bool r.fnd, .string r.val, .int .i64 r.ver, .slice A r.l.length q]] W fun e w' => e = .returned (.bool true) ∧ Below W.heap.size W w' := by
  have HX := hide (fun w => within_any a 1 8 w (by omega) (by omega) (by omega))
  have HY := hide (fun w => within_any b 1 8 w (by omega) (by omega) (by omega))
  have bx := hide (withinI_bounds a 1 8 (by omega))
  have byy := hide (withinI_bounds b 1 8 (by omega))
  generalize withinI a 1 8 = x at HX bx
  generalize withinI b 1 8 = y at HY byy
  have HN := hide (B2.new W L r (.slice A r.l.length q))
  have HF := hide hL.fine
  have HP := hide hr.ps.pin
  have HL8 := hide hL.len
  have ln := hr.ps.room
  clear hL hr
  go_enter Try.func7, Try.ntmps7
  go_upto_region 1 with (fail)
  generalize ((W.alloc (.cells (arr L) 28)).alloc (.cells #[.int .i64 r.why, .bool r.fnd, .string r.val, .int .i64 r.ver, .slice A r.l.length q] 25)) = w1 at HN ⊢
  go_upto_region 2 with (first | (go_at_call 15; (with_reducible refine (HX.out _).mono ?_); rintro e w2 ⟨rfl, rfl⟩) | (go_at_call 15; (with_reducible refine (HY.out _).mono ?_); rintro e w2 ⟨rfl, rfl⟩))
  have R0 := hide HN.out.r0
  obtain ⟨d0, d1, d2, d3, d4⟩ := HN.out.r1.five
  have HT := hide (note_any L x s r A q w1 (HF.out.below HN.out.bel) (HP.out.below HN.out.bel) ln)
  go_upto_region 3 with (first | ((with_reducible refine wpList_load8 ?_ R0.out HL8.out ?_); rfl) | (go_at_call 8; (with_reducible refine HT.out.mono ?_); rintro e w3 ⟨M, rfl, hM, h8, hf, hb⟩) | ((with_reducible refine wpList_store8n ?_ ?_ h8 ?_); rfl; rfl))
  have kb := kept_alloc (kept_refl w3) (.cells (arr M) 28)
  have RM := hide (Row.new w3 28 (arr M))
  have HN4 := hide ((HN.out.below hb).below kb)
  have FM := hide ((AnsN.fine hf hM h8 (note_room (fine_room HF.out) ln)).below kb)
  have H8 := hide h8
  have HM := hide hM
  clear d0 d1 d2 d3 d4 HT R0 hb kb h8 hM hf HN
  generalize w3.alloc (.cells (arr M) 28) = w4 at RM HN4 FM ⊢
  generalize w3.heap.size = g4 at RM ⊢
  have R0 := hide HN4.out.r0
  have HLa := hide (look_any L y o w4 (HF.out.below HN4.out.bel))
  obtain ⟨V, hV⟩ : ∃ V, lookO (ows L) y o = V := ⟨_, rfl⟩
  rw [hV] at HLa
  have lV : V.2.l.length ≤ 3518437208780 := by rw [← hV]; exact look_room (fine_room HF.out) y o
  have HV := hide hV
  clear hV
  go_upto_region 4 with (first | ((with_reducible refine wpList_load8 ?_ R0.out HL8.out ?_); rfl) | (go_at_call 12; (with_reducible refine HLa.out.mono ?_); rintro e w5 ⟨p, rfl, ho5, hb5⟩; obtain ⟨A5, c5, rfl, _, _, _, _⟩ := ho5.pin))
  have kb := kept_alloc (kept_refl w5) (.cells #[.int .i64 V.2.why, .bool V.2.fnd, .string V.2.val, .int .i64 V.2.ver, .slice A5 V.2.l.length c5] 25)
  have RV := hide (Row.new w5 25 #[.int .i64 V.2.why, .bool V.2.fnd, .string V.2.val, .int .i64 V.2.ver, .slice A5 V.2.l.length c5])
  have PV := hide (ho5.pin.below kb)
  have RM := hide ((RM.out.below hb5 RM.out.lt).below kb (RM.out.below hb5 RM.out.lt).lt)
  have HN6 := hide ((HN4.out.below hb5).below kb)
  have FM := hide ((FM.out.below hb5).below kb)
  clear HLa R0 HN4 ho5 hb5 kb
  generalize w5.alloc (.cells #[.int .i64 V.2.why, .bool V.2.fnd, .string V.2.val, .int .i64 V.2.ver, .slice A5 V.2.l.length c5] 25) = w6 at RV PV RM HN6 FM ⊢
  generalize w5.heap.size = g6 at RV ⊢
  have HLb := hide (look_any M y o w6 FM.out)
  rw [HM.out] at HLb
  obtain ⟨U, hU⟩ : ∃ U, lookO (noteO (ows L) x s r) y o = U := ⟨_, rfl⟩
  rw [hU] at HLb
  have lU : U.2.l.length ≤ 3518437208780 := by rw [← hU]; exact look_room (note_room (fine_room HF.out) ln) y o
  have HU := hide hU
  clear hU
  go_upto_region 5 with (first | ((with_reducible refine wpList_load8 ?_ RM.out H8.out ?_); rfl) | (go_at_call 12; (with_reducible refine HLb.out.mono ?_); rintro e w7 ⟨p, rfl, ho7, hb7⟩; obtain ⟨A7, c7, rfl, _, _, _, _⟩ := ho7.pin))
  have kb := kept_alloc (kept_refl w7) (.cells #[.int .i64 U.2.why, .bool U.2.fnd, .string U.2.val, .int .i64 U.2.ver, .slice A7 U.2.l.length c7] 25)
  have RU := Row.new w7 25 #[.int .i64 U.2.why, .bool U.2.fnd, .string U.2.val, .int .i64 U.2.ver, .slice A7 U.2.l.length c7]
  have PU := hide (ho7.pin.below kb)
  have RV := (RV.out.below hb7 RV.out.lt).below kb (RV.out.below hb7 RV.out.lt).lt
  have PV := hide ((PV.out.below hb7).below kb)
  have HN8 := hide ((HN6.out.below hb7).below kb)
  clear HLb RM FM HN6 ho7 hb7 kb
  generalize w7.alloc (.cells #[.int .i64 U.2.why, .bool U.2.fnd, .string U.2.val, .int .i64 U.2.ver, .slice A7 U.2.l.length c7] 25) = w8 at RU RV PV PU HN8 ⊢
  generalize w7.heap.size = g8 at RU ⊢
  have HB := hide HN8.out.bel
  have PR := hide (HP.out.below HB.out)
  obtain ⟨c0, c1, c2, c3, c4⟩ := RU.five
  obtain ⟨d0, d1, d2, d3, d4⟩ := RV.five
  obtain ⟨e0, e1, e2, e3, e4⟩ := HN8.out.r1.five
  clear RU RV HN8 HP
  by_cases hxy : x = y
  · subst hxy
    have EU := hide (HU.out.symm.trans (look_self (by rw [ows_len]; exact HL8.out) bx.out))
    rcases Int.lt_trichotomy s o with h1 | h1 | h1
    · have e0 : (o == s) = false := by simp; omega
      have e1 : decide (o < s) = false := decide_eq_false (by omega)
      have EV : U = (1, zeroR) := EU.out.trans (seen1 h1)
      subst EV
      clear h1
      go_wp2_with (go_at_call 3; (with_reducible refine (runs_any _).mono ?_); rintro e w10 ⟨rfl, hb10⟩)
      go_ret
      exact ⟨rfl, kept_trans HB.out hb10⟩
    · subst h1
      have e0 : (s == s) = true := by simp
      have EV : U = (2, r) := EU.out.trans (seen2 s r)
      subst EV
      have HQ := hide (by have h := replies_any r r _ _ w8 PU.out PR.out (by omega) (by omega); rw [decide_eq_true rfl] at h; exact h)
      go_wp2_with (first | (go_at_call 13; (with_reducible refine HQ.out.mono ?_); rintro e w9 ⟨rfl, hb9⟩) | (go_at_call 3; (with_reducible refine (runs_any _).mono ?_); rintro e w10 ⟨rfl, hb10⟩))
      go_ret
      exact ⟨rfl, kept_trans HB.out (kept_trans hb9 hb10)⟩
    · have e0 : (o == s) = false := by simp; omega
      have e1 : decide (o < s) = true := decide_eq_true h1
      have EV : U = (3, zeroR) := EU.out.trans (seen3 h1)
      subst EV
      clear h1
      go_wp2_with (go_at_call 3; (with_reducible refine (runs_any _).mono ?_); rintro e w10 ⟨rfl, hb10⟩)
      go_ret
      exact ⟨rfl, kept_trans HB.out hb10⟩
  · have EU := hide (HU.out.symm.trans ((look_other bx.out.1 byy.out.1 hxy).trans HV.out))
    obtain rfl := EU.out
    have hne : (x == y) = false := by simpa using hxy
    have HQ := hide (by have h := replies_any U.2 U.2 _ _ w8 PV.out PU.out (by omega) (by omega); rw [decide_eq_true rfl] at h; exact h)
    go_wp2_with (first | (go_at_call 13; (with_reducible refine HQ.out.mono ?_); rintro e w9 ⟨rfl, hb9⟩) | (go_at_call 3; (with_reducible refine (runs_any _).mono ?_); rintro e w10 ⟨rfl, hb10⟩))
    go_ret
    exact ⟨rfl, kept_trans HB.out (kept_trans hb9 hb10)⟩
set_option maxRecDepth 100000 in
theorem lifted (os : Os) (started : os.Started) (H : Type) (enc : TypeId × Value → H) :
    ReturnsInHanded {} Try.checked os 7 .any (Rows.dedupOthersSpec.pre6 enc Try.prog Try.f7 Rows.dedupOthersRow.domain false) (Rows.dedupOthersSpec.post enc Try.prog Try.f7 false true false false) := by
  refine returnsInHanded_of_change_sized (C := Try.checked) own started (by kernel_rfl) Try.func7
    (ChangeSpec.witness6 (enc := enc) (C := Try.checked) false ⟨#[], #[.agg #[.int .i64 0, .int .i64 0, .bool false, .string ⟨#[]⟩, .int .i64 0, .slice none 0 0, .int .i64 0, .int .i64 0, .bool false, .string ⟨#[]⟩, .int .i64 0, .slice none 0 0, .int .i64 0, .int .i64 0, .bool false, .string ⟨#[]⟩, .int .i64 0, .slice none 0 0, .int .i64 0, .int .i64 0, .bool false, .string ⟨#[]⟩, .int .i64 0, .slice none 0 0, .int .i64 0, .int .i64 0, .bool false, .string ⟨#[]⟩, .int .i64 0, .slice none 0 0, .int .i64 0, .int .i64 0, .bool false, .string ⟨#[]⟩, .int .i64 0, .slice none 0 0, .int .i64 0, .int .i64 0, .bool false, .string ⟨#[]⟩, .int .i64 0, .slice none 0 0, .int .i64 0, .int .i64 0, .bool false, .string ⟨#[]⟩, .int .i64 0, .slice none 0 0], .int .i64 0, .int .i64 0, .int .i64 0, .int .i64 0, .agg #[.int .i64 0, .bool false, .string ⟨#[]⟩, .int .i64 0, .slice none 0 0]], []⟩ 8 (by kernel_rfl) (by kernel_rfl) (by kernel_rfl) (by kernel_rfl)) ?_
  intro W base args ds gs before hval0 hW _ hsz0 _
  have hval : ∀ (j : Nat) t v, Try.f7.params[j]? = some t → args[j]? = some v → Value.okWide Try.prog W .any base t v := hval0
  have hW' := hW
  obtain ⟨p, q, hA0, hV, rfl, _, _⟩ := hW
  have hA : DataW.TrodAll enc Try.prog W 0 (fun _ => true) true Try.f7.params.toList args.toList ds p := hA0
  have hsz : (DataW.weightsEach Try.prog (Try.f7.params.toList ++ Rows.dedupOthersSpec.plain.varTypes Try.prog) (ds ++ gs)).all (· ≤ reachBytes) = true := hsz0
  rw [Try.params7] at hA hval hsz
  obtain ⟨v0, vs0, d0, ds0, p0, q0, hargs, rfl, rfl, h0, r0⟩ := trodAll_cons hA
  obtain ⟨v1, vs1, d1, ds1, p1, q1, rfl, rfl, rfl, h1, r1⟩ := trodAll_cons r0
  obtain ⟨v2, vs2, d2, ds2, p2, q2, rfl, rfl, rfl, h2, r2⟩ := trodAll_cons r1
  obtain ⟨v3, vs3, d3, ds3, p3, q3, rfl, rfl, rfl, h3, r3⟩ := trodAll_cons r2
  obtain ⟨v4, vs4, d4, ds4, p4, q4, rfl, rfl, rfl, h4, r4⟩ := trodAll_cons r3
  obtain ⟨v5, vs5, d5, ds5, p5, q5, rfl, rfl, rfl, h5, r5⟩ := trodAll_cons r4
  obtain ⟨rfl, rfl, rfl⟩ := trodAll_nil r5
  obtain rfl : args = #[v0, v1, v2, v3, v4, v5] := by cases args; simp_all
  obtain ⟨rfl, rfl⟩ := trodVars_none hV
  have k0 := h0
  have lt0 : ∀ x ∈ p0, x.block < W.heap.size := by obtain ⟨m, hm⟩ := k0; exact DataW.trod_lt m _ _ _ hm
  obtain ⟨x0, rfl, s0⟩ := owners_in (j := 0) (hval 0 28 v0 rfl rfl) h0 hsz rfl rfl
  obtain ⟨a1, rfl, rfl, rfl, w1⟩ := open_int Try.underlying3 (hval 1 3 v1 rfl rfl) h1
  obtain ⟨a2, rfl, rfl, rfl, w2⟩ := open_int Try.underlying3 (hval 2 3 v2 rfl rfl) h2
  obtain ⟨a3, rfl, rfl, rfl, w3⟩ := open_int Try.underlying3 (hval 3 3 v3 rfl rfl) h3
  obtain ⟨a4, rfl, rfl, rfl, w4⟩ := open_int Try.underlying3 (hval 4 3 v4 rfl rfl) h4
  have k5 := h5
  have lt5 : ∀ x ∈ p5, x.block < W.heap.size := by obtain ⟨m, hm⟩ := k5; exact DataW.trod_lt m _ _ _ hm
  obtain ⟨x5, A5, c5, rfl, s5⟩ := reply_in (j := 5) (hval 5 25 v5 rfl rfl) h5 hsz rfl rfl
  clear hA0 hval0
  refine (walk x0 a1 a2 a3 a4 x5 A5 c5 W s0 (bounds_i64 w1) (bounds_i64 w2) (bounds_i64 w3) (bounds_i64 w4) s5).mono fun e W' ⟨he, bel⟩ => ?_
  subst he
  exact ⟨_, rfl, _, _, _, [], _, [], hW', trodAll_mk1 (shut_bool Try.underlying4 _), (trodAll_cons_mk (Below.trod laidOut (by kernel_rfl) (of_decide_eq_true (by kernel_rfl)) k0 bel lt0) (trodAll_cons_mk (shut_int Try.underlying3 w1) (trodAll_cons_mk (shut_int Try.underlying3 w2) (trodAll_cons_mk (shut_int Try.underlying3 w3) (trodAll_cons_mk (shut_int Try.underlying3 w4) (trodAll_cons_mk (Below.trod laidOut (by kernel_rfl) (of_decide_eq_true (by kernel_rfl)) k5 bel lt5) trodAll_mk0)))))), rfl, bel.frame _, fun h => by cases h⟩
theorem over : Rows.dedupOthersRow.holds Try.pinned (OpenSpec.ofChange Rows.dedupOthersSpec) :=
  OpenClaim.holds_of_wide 7 Try.f7 rfl rfl rfl rfl rfl rfl rfl ⟨rfl, rfl, rfl, rfl, rfl⟩ rfl rfl rfl rfl rfl (by kernel_rfl) Try.func7 (by kernel_rfl)
    (of_decide_eq_true (by kernel_rfl)) (by unfold Func.isWrapper; first | (rw [if_pos (by decide +kernel)]; kernel_rfl) | (rw [if_neg (by decide +kernel)]; exact ⟨rfl, rfl⟩))
    (fun os started H enc _ => lifted os started H enc)
theorem proved : Rows.DedupOthersSaid := over
end Go.Proofs.Ytjadbppcjndmlaa.dedupOthers
