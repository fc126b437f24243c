/- Proved: the law LetterBack returns true for any letter, bytes and number. No condition. -/
import Derived.Test.YtlnpfaoeockoiaaWa
import Derived.Test.YtlnpfaoeockoiaaWk
namespace Go.Proofs.Ytlnpfaoeockoiaa.letterBack
open Go.ChangeShapes Go.WideShapes Go.ChangeAt Go.RowKit
set_option maxHeartbeats 16000000 in
theorem walk (m : Lt) (A : Option Addr) (n c : Nat) (zs : List Int) (cut : Int) (W : World) (hm : LtIn m) (hs : SliceIn W A n c zs) (_ : -9223372036854775808 ≤ cut ∧ cut ≤ 9223372036854775807) :
    Calls Try.prog 6 #[.agg (ltC m), .slice A n c, .int .i64 cut] W fun e w' => e = .returned (.bool true) ∧ Below W.heap.size W w' := by
  have wf := hm.wf
  have BK := hide (show Bk W (W.alloc (.cells (ltC m) 37)) m A zs from ⟨LAt.new wf W _, hs.lies.alloc _, (Below.refl _ _).alloc (Nat.le_refl _) _⟩)
  have HL := hide (fun w => light_any m hm w)
  obtain ⟨len, hle, room, ho, _, nil⟩ := hs
  have HN := hide len
  have HO := hide ho
  have HA := hide nil
  clear len ho nil
  cases hq : lightB m
  · simp only [hq] at HL
    clear hq hm
    go_enter Try.func6, Try.ntmps6
    go_upto_region 1 with (fail)
    generalize W.alloc (.cells (ltC m) 37) = w1 at BK ⊢
    go_wp2_with (first
      | ((with_reducible refine wpList_load_lt wf ?_ ?_ BK.out.m.all ?_); rfl; rfl)
      | (go_at_call 12; (with_reducible refine (HL.out _).mono ?_); rintro e w2 ⟨rfl, hb⟩; have BK := hide (BK.out.kept hb); clear hb)
      | (go_at_call 3; (with_reducible refine (runs_any _).mono ?_); rintro e w2 ⟨rfl, hb⟩; have BK := hide (BK.out.kept hb); clear hb))
    go_ret
    exact ⟨rfl, BK.out.old⟩
  · simp only [hq] at HL
    have hlz : m.z.size < 5000 := by unfold lightB lightN at hq; have := of_decide_eq_true hq; omega
    clear hq hm
    go_enter Try.func6, Try.ntmps6
    go_upto_region 1 with (fail)
    generalize W.alloc (.cells (ltC m) 37) = w1 at BK ⊢
    go_upto_region 3 with (first
      | ((with_reducible refine wpList_load_lt wf ?_ ?_ BK.out.m.all ?_); rfl; rfl)
      | (go_at_call 12; (with_reducible refine (HL.out _).mono ?_); rintro e w2 ⟨rfl, hb⟩; have BK := hide (BK.out.kept hb); clear hb))
    have HG := hide (pgetlt_any A n c zs w2 HN.out BK.out.z HO.out HA.out (by omega))
    go_upto_region 4 with (first
      | (go_at_call 11; (with_reducible refine HG.out.mono ?_); rintro e w3 ⟨x, e0, rfl, hx, hw, hb⟩; have BK := hide (BK.out.kept hb); have HX := hide hx; have WX := hide hw; clear hb hx hw HG)
      | ((with_reducible refine wpList_store_new (vs := ltC x) ?_ ?_ (lt_allc _) ?_ ?_ ?_); exact lt_info2 WX.out; exact lt_size2 WX.out; rfl; rfl))
    try simp only [Act.put]
    have XB := hide (LAt.new WX.out w3 37)
    have BK := hide (BK.out.alloc (.cells (ltC x) 37))
    generalize w3.alloc (.cells (ltC x) 37) = w4 at XB BK ⊢
    generalize w3.heap.size = g at XB ⊢
    -- behind what was taken of any bytes
    by_cases he : e0 = 0
    · subst he
      have HE := hide ((letter_back HO.out HX.out).1)
      have HP := hide (fun w => pputlt_any x WX.out w)
      go_upto_region 6 with (first
        | ((with_reducible refine wpList_load_lt WX.out ?_ ?_ XB.out.all ?_); rfl; rfl)
        | (go_at_call 9; (with_reducible refine (HP.out _).mono ?_); rintro e w5 ⟨u5, rfl, hy, hb⟩; have BK := hide (BK.out.kept hb); rw [HE.out] at hy; obtain ⟨A5, c5, rfl, hA5, hc5, hm5, hl5⟩ := hy.form; have SM := hide (same_self A5 A zs.length n c5 c zs w5 rfl HN.out hl5 BK.out.z (by have := HN.out; omega)); clear hy hb hA5 hc5 hm5 hl5)
        | (go_at_call 10; (with_reducible refine SM.out.mono ?_); rintro e w6 ⟨rfl, hb⟩; have BK := hide (BK.out.kept hb); clear hb))
      have HP := hide (fun w => pputlt_any m wf w)
      go_upto_region 7 with (first
        | ((with_reducible refine wpList_load_lt wf ?_ ?_ BK.out.m.all ?_); rfl; rfl)
        | (go_at_call 9; (with_reducible refine (HP.out _).mono ?_); rintro e w7 ⟨u7, rfl, hy, hb⟩; have BK := hide (BK.out.kept hb); have HY := hide hy; clear hy hb))
      have HR := hide (fun w => pright_letter m wf w)
      cases hr : rightLt m
      · simp only [hr] at HR
        have e0' : encLt m = [] := by unfold encLt; rw [hr]; rfl
        rw [e0'] at HY
        clear e0' hr
        obtain ⟨A7, c7, rfl, _, _, _, _⟩ := HY.out.form
        go_wp2_with (first
          | ((with_reducible refine wpList_load_lt wf ?_ ?_ BK.out.m.all ?_); rfl; rfl)
          | (go_at_call 16; (with_reducible refine (HR.out _).mono ?_); rintro e w8 ⟨rfl, hb⟩; have BK := hide (BK.out.kept hb); clear hb)
          | (go_at_call 3; (with_reducible refine (runs_any _).mono ?_); rintro e w8 ⟨rfl, hb⟩; have BK := hide (BK.out.kept hb); clear hb))
        go_ret
        exact ⟨rfl, BK.out.old⟩
      · simp only [hr] at HR
        have OC := hide (octets_encLt m)
        have hlen := encLt_len wf
        obtain ⟨l1, hl1⟩ : ∃ l1, (encLt m).length = l1 + 1 := ⟨(encLt m).length - 1, by have := encLt_pos hr; omega⟩
        obtain ⟨K, hK, hW⟩ := within_to cut l1 (by omega)
        have HT := hide (letter_there hr wf)
        have HC := hide (letter_cut hr wf OC.out (q := K) (by omega))
        have HW := hide hW
        rw [hl1] at hlen
        have H1 := hide hl1
        clear hr hW hl1
        obtain ⟨A7, c7, rfl, hA7, hc7, hm7, hl7⟩ := HY.out.form
        have HA7 := hide hA7
        have L7 := hide hl7
        clear hA7 hl7
        rw [H1.out] at hc7 ⊢
        clear HY
        go_upto_region 9 with (first
          | ((with_reducible refine wpList_load_lt wf ?_ ?_ BK.out.m.all ?_); rfl; rfl)
          | (go_at_call 16; (with_reducible refine (HR.out _).mono ?_); rintro e w8 ⟨rfl, hb⟩; have BK := hide (BK.out.kept hb); have L7 := hide (L7.out.below hb); clear hb))
        have HG := hide (pgetlt_any A7 (l1 + 1) c7 (encLt m) w8 H1.out L7.out OC.out HA7.out (by omega))
        go_upto_region 10 with (first
          | (go_at_call 11; (with_reducible refine HG.out.mono ?_); rintro e w9 ⟨y, f, rfl, hx, hw, hb⟩; have BK := hide (BK.out.kept hb); have L7 := hide (L7.out.below hb); have HX := hide hx; have WY := hide hw; clear hb hx hw HG)
          | ((with_reducible refine wpList_store_new (vs := ltC y) ?_ ?_ (lt_allc _) ?_ ?_ ?_); exact lt_info2 WY.out; exact lt_size2 WY.out; rfl; rfl))
        try simp only [Act.put]
        obtain ⟨rfl, rfl⟩ : m = y ∧ f = 0 := by have := HT.out.symm.trans HX.out; injection this with h1 h2; exact ⟨h1, h2.symm⟩
        have YB := hide (LAt.new WY.out w9 37)
        have BK := hide (BK.out.alloc (.cells (ltC m) 37))
        have L7 := hide (L7.out.alloc (.cells (ltC m) 37))
        generalize w9.alloc (.cells (ltC m) 37) = w10 at YB BK L7 ⊢
        generalize w9.heap.size = g2 at YB ⊢
        have hKc : K ≤ c7 := by omega
        have hKi : (K : Int) ≤ (c7 : Int) := by omega
        have HG := hide (fun w (h : Lies w A7 (encLt m)) => pgetlt_any A7 K c7 ((encLt m).take K) w (by rw [List.length_take, H1.out]; omega) (h.take K) (octets_take OC.out K) HA7.out (by omega))
        go_upto_region 11 with (first
          | (go_at_call 20; (with_reducible refine (HW.out _ _ ?_).mono ?_); (push_cast; omega); rintro e w11 ⟨rfl, rfl⟩)
          | (go_at_call 11; (with_reducible refine (HG.out _ L7.out).mono ?_); rintro e w11 ⟨y2, f2, rfl, hx, hw, hb⟩; have BK := hide (BK.out.kept hb); have YB := hide (YB.out.kept hb); have HX2 := hide hx; have WZ := hide hw; clear hb hx hw HG)
          | ((with_reducible refine wpList_store_new (vs := ltC y2) ?_ ?_ (lt_allc _) ?_ ?_ ?_); exact lt_info2 WZ.out; exact lt_size2 WZ.out; rfl; rfl))
        try simp only [Act.put]
        have hf2 : f2 ≠ 0 := by have := HC.out; rw [HX2.out] at this; exact this
        have t2 : (f2 != 0) = true := by simpa using hf2
        have BK := hide (BK.out.alloc (.cells (ltC y2) 37))
        have YB := hide (YB.out.kept ((Below.refl _ _).alloc (Nat.le_refl _) (.cells (ltC y2) 37)))
        generalize w11.alloc (.cells (ltC y2) 37) = w12 at YB BK ⊢
        have heq : ∀ w : World, (binOp .eql 37 (.agg (ltC m)) (.agg (ltC m))).run Try.prog w = .ok (.bool true) w := fun w => by rw [eql_letter wf wf w, sameLt_iff.2 rfl]
        clear hf2
        go_wp2_with (first
          | ((with_reducible refine wpList_load_lt wf ?_ ?_ YB.out.all ?_); rfl; rfl)
          | ((with_reducible refine wpList_load_lt wf ?_ ?_ BK.out.m.all ?_); rfl; rfl)
          | (go_at_call 3; (with_reducible refine (runs_any _).mono ?_); rintro e w13 ⟨rfl, hb⟩; have BK := hide (BK.out.kept hb); clear hb))
        go_ret
        exact ⟨rfl, BK.out.old⟩
    · have t0 : (e0 == 0) = false := by simpa using he
      clear he
      go_upto_region 6 with (fail)
      clear t0
      have HP := hide (fun w => pputlt_any m wf w)
      go_upto_region 7 with (first
        | ((with_reducible refine wpList_load_lt wf ?_ ?_ BK.out.m.all ?_); rfl; rfl)
        | (go_at_call 9; (with_reducible refine (HP.out _).mono ?_); rintro e w7 ⟨u7, rfl, hy, hb⟩; have BK := hide (BK.out.kept hb); have HY := hide hy; clear hy hb))
      have HR := hide (fun w => pright_letter m wf w)
      cases hr : rightLt m
      · simp only [hr] at HR
        have e0' : encLt m = [] := by unfold encLt; rw [hr]; rfl
        rw [e0'] at HY
        clear e0' hr
        obtain ⟨A7, c7, rfl, _, _, _, _⟩ := HY.out.form
        go_wp2_with (first
          | ((with_reducible refine wpList_load_lt wf ?_ ?_ BK.out.m.all ?_); rfl; rfl)
          | (go_at_call 16; (with_reducible refine (HR.out _).mono ?_); rintro e w8 ⟨rfl, hb⟩; have BK := hide (BK.out.kept hb); clear hb)
          | (go_at_call 3; (with_reducible refine (runs_any _).mono ?_); rintro e w8 ⟨rfl, hb⟩; have BK := hide (BK.out.kept hb); clear hb))
        go_ret
        exact ⟨rfl, BK.out.old⟩
      · simp only [hr] at HR
        have OC := hide (octets_encLt m)
        have hlen := encLt_len wf
        obtain ⟨l1, hl1⟩ : ∃ l1, (encLt m).length = l1 + 1 := ⟨(encLt m).length - 1, by have := encLt_pos hr; omega⟩
        obtain ⟨K, hK, hW⟩ := within_to cut l1 (by omega)
        have HT := hide (letter_there hr wf)
        have HC := hide (letter_cut hr wf OC.out (q := K) (by omega))
        have HW := hide hW
        rw [hl1] at hlen
        have H1 := hide hl1
        clear hr hW hl1
        obtain ⟨A7, c7, rfl, hA7, hc7, hm7, hl7⟩ := HY.out.form
        have HA7 := hide hA7
        have L7 := hide hl7
        clear hA7 hl7
        rw [H1.out] at hc7 ⊢
        clear HY
        go_upto_region 9 with (first
          | ((with_reducible refine wpList_load_lt wf ?_ ?_ BK.out.m.all ?_); rfl; rfl)
          | (go_at_call 16; (with_reducible refine (HR.out _).mono ?_); rintro e w8 ⟨rfl, hb⟩; have BK := hide (BK.out.kept hb); have L7 := hide (L7.out.below hb); clear hb))
        have HG := hide (pgetlt_any A7 (l1 + 1) c7 (encLt m) w8 H1.out L7.out OC.out HA7.out (by omega))
        go_upto_region 10 with (first
          | (go_at_call 11; (with_reducible refine HG.out.mono ?_); rintro e w9 ⟨y, f, rfl, hx, hw, hb⟩; have BK := hide (BK.out.kept hb); have L7 := hide (L7.out.below hb); have HX := hide hx; have WY := hide hw; clear hb hx hw HG)
          | ((with_reducible refine wpList_store_new (vs := ltC y) ?_ ?_ (lt_allc _) ?_ ?_ ?_); exact lt_info2 WY.out; exact lt_size2 WY.out; rfl; rfl))
        try simp only [Act.put]
        obtain ⟨rfl, rfl⟩ : m = y ∧ f = 0 := by have := HT.out.symm.trans HX.out; injection this with h1 h2; exact ⟨h1, h2.symm⟩
        have YB := hide (LAt.new WY.out w9 37)
        have BK := hide (BK.out.alloc (.cells (ltC m) 37))
        have L7 := hide (L7.out.alloc (.cells (ltC m) 37))
        generalize w9.alloc (.cells (ltC m) 37) = w10 at YB BK L7 ⊢
        generalize w9.heap.size = g2 at YB ⊢
        have hKc : K ≤ c7 := by omega
        have hKi : (K : Int) ≤ (c7 : Int) := by omega
        have HG := hide (fun w (h : Lies w A7 (encLt m)) => pgetlt_any A7 K c7 ((encLt m).take K) w (by rw [List.length_take, H1.out]; omega) (h.take K) (octets_take OC.out K) HA7.out (by omega))
        go_upto_region 11 with (first
          | (go_at_call 20; (with_reducible refine (HW.out _ _ ?_).mono ?_); (push_cast; omega); rintro e w11 ⟨rfl, rfl⟩)
          | (go_at_call 11; (with_reducible refine (HG.out _ L7.out).mono ?_); rintro e w11 ⟨y2, f2, rfl, hx, hw, hb⟩; have BK := hide (BK.out.kept hb); have YB := hide (YB.out.kept hb); have HX2 := hide hx; have WZ := hide hw; clear hb hx hw HG)
          | ((with_reducible refine wpList_store_new (vs := ltC y2) ?_ ?_ (lt_allc _) ?_ ?_ ?_); exact lt_info2 WZ.out; exact lt_size2 WZ.out; rfl; rfl))
        try simp only [Act.put]
        have hf2 : f2 ≠ 0 := by have := HC.out; rw [HX2.out] at this; exact this
        have t2 : (f2 != 0) = true := by simpa using hf2
        have BK := hide (BK.out.alloc (.cells (ltC y2) 37))
        have YB := hide (YB.out.kept ((Below.refl _ _).alloc (Nat.le_refl _) (.cells (ltC y2) 37)))
        generalize w11.alloc (.cells (ltC y2) 37) = w12 at YB BK ⊢
        have heq : ∀ w : World, (binOp .eql 37 (.agg (ltC m)) (.agg (ltC m))).run Try.prog w = .ok (.bool true) w := fun w => by rw [eql_letter wf wf w, sameLt_iff.2 rfl]
        clear hf2
        go_wp2_with (first
          | ((with_reducible refine wpList_load_lt wf ?_ ?_ YB.out.all ?_); rfl; rfl)
          | ((with_reducible refine wpList_load_lt wf ?_ ?_ BK.out.m.all ?_); rfl; rfl)
          | (go_at_call 3; (with_reducible refine (runs_any _).mono ?_); rintro e w13 ⟨rfl, hb⟩; have BK := hide (BK.out.kept hb); clear hb))
        go_ret
        exact ⟨rfl, BK.out.old⟩
set_option maxRecDepth 100000 in
theorem lifted (os : Os) (started : os.Started) (H : Type) (enc : TypeId × Value → H) :
    ReturnsInHanded {} Try.checked os 6 .any (Rows.letterBackSpec.pre6 enc Try.prog Try.f6 Rows.letterBackRow.domain false) (Rows.letterBackSpec.post enc Try.prog Try.f6 false true false false) := by
  refine returnsInHanded_of_change_sized (C := Try.checked) own started (by kernel_rfl) Try.func6
    (ChangeSpec.witness6 (enc := enc) (C := Try.checked) false ⟨#[], #[.agg #[.int .i64 0, .int .i64 0, .int .i64 0, .int .i64 0, .int .i64 0, .int .i64 0, .int .i64 0, .int .i64 0, .int .i64 0, .int .i64 0, .string ⟨#[]⟩, .string ⟨#[]⟩, .string ⟨#[]⟩, .string ⟨#[]⟩, .int .i64 0, .int .i64 0, .int .i64 0, .int .i64 0, .int .i64 0, .int .i64 0, .int .i64 0, .int .i64 0, .int .i64 0, .int .i64 0, .int .i64 0, .int .i64 0, .int .i64 0, .int .i64 0, .int .i64 0, .int .i64 0, .string ⟨#[]⟩, .string ⟨#[]⟩, .string ⟨#[]⟩, .string ⟨#[]⟩, .int .i64 0, .int .i64 0, .int .i64 0, .int .i64 0, .int .i64 0, .int .i64 0, .int .i64 0, .int .i64 0, .bool false, .int .i64 0, .int .i64 0, .int .i64 0, .int .i64 0, .int .i64 0, .int .i64 0, .int .i64 0, .string ⟨#[]⟩], .slice none 0 0, .int .i64 0], []⟩ 8 (by kernel_rfl) (by kernel_rfl) (by kernel_rfl) (by kernel_rfl)) ?_
  intro W base args ds gs before hval0 hW _ hsz0 _
  have hval : ∀ (j : Nat) t v, Try.f6.params[j]? = some t → args[j]? = some v → Value.okWide Try.prog W .any base t v := hval0
  have hW' := hW
  obtain ⟨p, q, hA0, hV, rfl, _, _⟩ := hW
  have hA : DataW.TrodAll enc Try.prog W 0 (fun _ => true) true Try.f6.params.toList args.toList ds p := hA0
  have hsz : (DataW.weightsEach Try.prog (Try.f6.params.toList ++ Rows.letterBackSpec.plain.varTypes Try.prog) (ds ++ gs)).all (· ≤ reachBytes) = true := hsz0
  rw [Try.params6] at hA hval hsz
  obtain ⟨v0, vs0, d0, ds0, p0, q0, hargs, rfl, rfl, h0, r0⟩ := trodAll_cons hA
  obtain ⟨v1, vs1, d1, ds1, p1, q1, rfl, rfl, rfl, h1, r1⟩ := trodAll_cons r0
  obtain ⟨v2, vs2, d2, ds2, p2, q2, rfl, rfl, rfl, h2, r2⟩ := trodAll_cons r1
  obtain ⟨rfl, rfl, rfl⟩ := trodAll_nil r2
  obtain rfl : args = #[v0, v1, v2] := by cases args; simp_all
  obtain ⟨rfl, rfl⟩ := trodVars_none hV
  have k0 := h0
  have lt0 : ∀ x ∈ p0, x.block < W.heap.size := by obtain ⟨m, hm⟩ := k0; exact DataW.trod_lt m _ _ _ hm
  obtain ⟨x0, rfl, s0⟩ := letter_in (j := 0) (hval 0 37 v0 rfl rfl) h0 hsz rfl rfl
  have k1 := h1
  have lt1 : ∀ x ∈ p1, x.block < W.heap.size := by obtain ⟨m, hm⟩ := k1; exact DataW.trod_lt m _ _ _ hm
  obtain ⟨A1, n1, c1, rfl⟩ := okWide_slice Try.underlying22 (hval 1 22 v1 rfl rfl)
  obtain ⟨z1, s1⟩ := slice_in (j := 1) h1 hsz rfl rfl
  obtain ⟨a2, rfl, rfl, rfl, w2⟩ := open_int Try.underlying3 (hval 2 3 v2 rfl rfl) h2
  clear hA0 hval0
  refine (walk x0 A1 n1 c1 z1 a2 W s0 s1 (bounds_i64 w2)).mono fun e W' ⟨he, bel⟩ => ?_
  subst he
  exact ⟨_, rfl, _, _, _, [], _, [], hW', trodAll_mk1 (shut_bool Try.underlying4 _), (trodAll_cons_mk (Below.trod laidOut (by kernel_rfl) (of_decide_eq_true (by kernel_rfl)) k0 bel lt0) (trodAll_cons_mk (Below.trod laidOut (by kernel_rfl) (of_decide_eq_true (by kernel_rfl)) k1 bel lt1) (trodAll_cons_mk (shut_int Try.underlying3 w2) trodAll_mk0))), rfl, bel.frame _, fun h => by cases h⟩
theorem over : Rows.letterBackRow.holds Try.pinned (OpenSpec.ofChange Rows.letterBackSpec) :=
  OpenClaim.holds_of_wide 6 Try.f6 rfl rfl rfl rfl rfl rfl rfl ⟨rfl, rfl, rfl, rfl, rfl⟩ rfl rfl rfl rfl rfl (by kernel_rfl) Try.func6 (by kernel_rfl)
    (of_decide_eq_true (by kernel_rfl)) (by unfold Func.isWrapper; first | (rw [if_pos (by decide +kernel)]; kernel_rfl) | (rw [if_neg (by decide +kernel)]; exact ⟨rfl, rfl⟩))
    (fun os started H enc _ => lifted os started H enc)
theorem proved : Rows.LetterBackSaid := over
end Go.Proofs.Ytlnpfaoeockoiaa.letterBack
