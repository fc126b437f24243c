/- What the program's act comes to. Conditions: the pairs lie in memory, not too many; the kind is one of five. -/
import Derived.Test.YtahfpncfkcfogaaGl
import Derived.Test.YtahfpncfkcfogaaGb
namespace Go.Proofs.Ytahfpncfkcfogaa
set_option maxRecDepth 100000
open Go.RowKit
set_option maxHeartbeats 8000000 in
theorem act_any (v : Value) (l : List Pr) (x : Cm) (w : World) (h : Pin w v l) (ln : l.length ≤ 3518437208780) (h1 : 1 ≤ x.k) (h5 : x.k ≤ 5) :
    Calls Try.prog 39 #[v, valC x] w (AnsA w.heap.size w (runP l x)) := by
  obtain ⟨k, c, q, key, en, old, val⟩ := x
  show Calls Try.prog 39 #[v, .agg #[.int .i64 k, .int .i64 c, .int .i64 q, .string key, .string en, .string old, .string val]] w _
  have hk : k = 1 ∨ k = 2 ∨ k = 3 ∨ k = 4 ∨ k = 5 := by dsimp only at h1 h5; omega
  have HV := hide h
  obtain ⟨A, cp, rfl, hA, hc, hcc, hl⟩ := h
  have HL := hide hl
  clear hl
  have HG := hide (fun w1 (z : Pin w1 (.slice A l.length cp) l) => get_any (.slice A l.length cp) l key w1 z (by omega))
  have HN : Hid (R0 w ((w.alloc (.cells #[.int .i64 k, .int .i64 c, .int .i64 q, .string key, .string en, .string old, .string val] 35)).alloc (.cells #[.int .i64 0, .bool false, .string { data := #[] }, .int .i64 0, .slice none 0 0] 25)) ⟨k, c, q, key, en, old, val⟩) := hide (R0.new w ⟨k, c, q, key, en, old, val⟩)
  clear h1 h5
  go_enter Try.func39, Try.ntmps39
  go_upto_region 1 with (fail)
  generalize (w.alloc (.cells #[.int .i64 k, .int .i64 c, .int .i64 q, .string key, .string en, .string old, .string val] 35)).alloc (.cells #[.int .i64 0, .bool false, .string { data := #[] }, .int .i64 0, .slice none 0 0] 25) = w1 at HN ⊢
  have HC := hide (concat1 (t' := 22) rfl (HL.out.below HN.out.bel) hA ln)
  go_upto_region 2 with (go_at_call 72; (with_reducible refine HC.out.mono ?_); rintro e w2 ⟨v2, rfl, ho2, hb2⟩)
  have HO := hide ho2
  have HB := hide hb2
  have KB := hide (kept_trans HN.out.bel (kept_trans hb2 (kept_alloc (kept_refl w2) (.cells (reV zeroR (.slice none 0 0)) 25))))
  have N2 := hide ((HN.out.below hb2).alloc (.cells (reV zeroR (.slice none 0 0)) 25))
  have HX := hide (fun (p : Pr) (w3 : World) z => HN.out.a2 ho2 hb2 HN.out.bel.size p (w'' := w3) z)
  clear ho2 hb2 HC HN
  have hz : w2.alloc (.cells #[.int .i64 0, .bool false, .string { data := #[] }, .int .i64 0, .slice none 0 0] 25) = w2.alloc (.cells (reV zeroR (.slice none 0 0)) 25) := rfl
  rw [hz]
  clear hz
  generalize w2.alloc (.cells (reV zeroR (.slice none 0 0)) 25) = w3 at KB N2 HX ⊢
  generalize w2.heap.size = gr at HX ⊢
  obtain ⟨a0, a1, a2, a3, a4, a5, a6⟩ := (seven_of N2.out.rc).cells
  dsimp only at a0 a1 a2 a3 a4 a5 a6
  have HG1 := hide (HG.out w3 (HV.out.below KB.out))
  go_upto_region 3 with (go_at_call 75; (with_reducible refine HG1.out.mono ?_); rintro e w4 ⟨rfl, hb4⟩)
  have HP := hide (HX.out (getP l key) w4 hb4)
  have HPV := hide (HV.out.below (kept_trans KB.out (kept_alloc hb4 (.cells (prV3 (getP l key)) 47))))
  unfold prV3 at HP HPV
  clear hb4 HX N2 KB HG HG1 HO HB a0 a1 a2 a3 a4 a5 a6
  obtain ⟨p, hp⟩ : ∃ p, getP l key = p := ⟨_, rfl⟩
  obtain ⟨t, ht⟩ : ∃ t, isB l key = t := ⟨_, rfl⟩
  rw [hp] at HP HPV
  rw [hp, ht]
  have KP := hide hp
  have KT := hide ht
  clear hp ht
  generalize w4.alloc (.cells #[.string p.k, .string p.v, .int .i64 p.n] 47) = w5 at HP HPV ⊢
  generalize w4.heap.size = g at HP ⊢
  obtain ⟨⟨a0, a1, a2, a3, a4, a5, a6⟩, ⟨d0, d1, d2⟩, ⟨⟨e0, e1, e2, e3, e4⟩, f0, f1, f2, f3, f4⟩, ⟨i0, i1, i2, i3, i4⟩, j0, j1, j2, j3, j4⟩ := HP.out.a.all
  dsimp only [zeroR] at a0 a1 a2 a3 a4 a5 a6 e0 e1 e2 e3 e4
  have HW := hide (show w.heap.size ≤ w5.heap.size from HP.out.a.r0.bel.size)
  rcases hk with rfl | rfl | rfl | rfl | rfl
  · go_upto_region 21 with (fail)
    have HT := hide (HP.out.put5 ⟨0, t, p.v, p.n, []⟩ rfl)
    refine wp_region_noPanic ?_
    refine wp_region_T 3 (fun w' => w'.cell? ⟨gr, 0, none⟩ = some (.int .i64 0) ∧ w'.cell? ⟨gr, 1, none⟩ = some (.bool t) ∧ w'.cell? ⟨gr, 2, none⟩ = some (.string p.v) ∧ w'.cell? ⟨gr, 3, none⟩ = some (.int .i64 p.n) ∧ w'.cell? ⟨gr, 4, none⟩ = some (.slice none 0 0)) (by kernel_rfl) ?_
    try clear a0 a1 a2 a3 a4 a5 a6 d0 d1 d2 e0 e1 e2 e3 e4 f0 f1 f2 f3 f4 i0 i1 i2 i3 i4 j0 j1 j2 j3 j4
    have HD := hide (HT.out.drewN 1)
    replace HD : Hid (A2 _ _ (World.drew _) _ _ _ _ _ _ _ _) := HD
    generalize World.drew _ = wd at HD ⊢
    refine anyT_take (i := 0) (v := ?ov0_1) (by simp only [List.getElem?_toArray, List.getElem?_cons_zero]; exact rfl) (by kernel_rfl) (by kernel_rfl) (fun _ _ _ h => h) (by kernel_rfl) (by kernel_rfl) (Or.inl ⟨by rfl, ?oy0_1⟩) (by with_reducible exact ⟨HD.out.a.rt.five.1, HD.out.a.rt.five.2.1, HD.out.a.rt.five.2.2.1, HD.out.a.rt.five.2.2.2.1, HD.out.a.rt.five.2.2.2.2⟩) ?or0_1
    case oy0_1 => (intro w hSw; (try dsimp only at hSw); (try obtain ⟨hS1, hS2⟩ := hSw); go_simp; try with_reducible rfl)
    try simp only [Act.put, List.setIfInBounds_toArray, List.set_cons_zero, List.set_cons_succ]
    refine anyT_take (i := 1) (v := ?ov1_1) (by simp only [List.getElem?_toArray, List.getElem?_cons_succ, List.getElem?_cons_zero]; exact rfl) (by kernel_rfl) (by kernel_rfl) (fun _ _ _ h => h) (by kernel_rfl) (by kernel_rfl) (Or.inl ⟨by rfl, ?oy1_1⟩) (by with_reducible exact ⟨HD.out.a.rt.five.1, HD.out.a.rt.five.2.1, HD.out.a.rt.five.2.2.1, HD.out.a.rt.five.2.2.2.1, HD.out.a.rt.five.2.2.2.2⟩) ?or1_1
    case oy1_1 => (intro w hSw; (try dsimp only at hSw); (try obtain ⟨hS1, hS2⟩ := hSw); go_simp; try with_reducible rfl)
    try simp only [Act.put, List.setIfInBounds_toArray, List.set_cons_zero, List.set_cons_succ]
    refine anyT_one (i := 2) (by kernel_rfl) (by simp only [List.getElem?_toArray, List.getElem?_cons_succ, List.getElem?_cons_zero]; exact rfl) (fun K hK => ?_)
    go_simp
    refine hK.out _ _ (fun e => ⟨HD.out.a.rt.five.1, HD.out.a.rt.five.2.1, HD.out.a.rt.five.2.2.1, HD.out.a.rt.five.2.2.2.1, HD.out.a.rt.five.2.2.2.2⟩) ?_
    clear hK K
    try simp only [Act.put, List.setIfInBounds_toArray, List.set_cons_zero, List.set_cons_succ]
    obtain ⟨_, _, _, ⟨i0, i1, i2, i3, i4⟩, j0, j1, j2, j3, j4⟩ := HD.out.a.all
    refine anyT_one (i := 3) (by kernel_rfl) (by simp only [List.getElem?_toArray, List.getElem?_cons_succ, List.getElem?_cons_zero]; exact rfl) (fun K hK => ?_)
    go_simp
    refine hK.out _ _ (fun e => absurd rfl e) ?_
    clear hK K
    try simp only [Act.put, List.setIfInBounds_toArray, List.set_cons_zero, List.set_cons_succ]
    refine anyT_done (by kernel_rfl) ?_
    refine NoPanic.normal ?_
    try simp only [Act.put]
    go_wp2_with fail
    refine bodyPost_ret (results_look (v := _) Try.results39 rfl rfl (HD.out.a.r0.rr.five_put _ _ _ _ _)) rfl ?_
    rw [run_1, KP.out, KT.out]
    exact HD.out.done
  · have HQ := hide (put_any _ l key val w5 HPV.out ln)
    cases hf : fullB l key
    · obtain ⟨q1, q2⟩ := put_fits (value := val) hf
      rw [q1, q2] at HQ
      have HF := hide hf
      clear hf q1 q2
      go_upto_region 9 with (go_at_call 76; (with_reducible refine HQ.out.mono ?_); rintro e w6 ⟨v6, rfl, ho6, hb6⟩; obtain ⟨A6, c6, rfl, _, _, _, _⟩ := ho6.pin; have HP6 := hide (HP.out.new ho6 HW.out hb6); have HP7 := hide (HP.out.below hb6); have HO6 := hide ho6; have HB6 := hide hb6; clear ho6 hb6; obtain ⟨⟨a0, a1, a2, a3, a4, a5, a6⟩, ⟨d0, d1, d2⟩, ⟨⟨e0, e1, e2, e3, e4⟩, f0, f1, f2, f3, f4⟩, ⟨i0, i1, i2, i3, i4⟩, j0, j1, j2, j3, j4⟩ := HP7.out.a.all; dsimp only [zeroR] at a0 a1 a2 a3 a4 a5 a6 e0 e1 e2 e3 e4)
      refine wp_region_noPanic ?_
      refine wp_region_T 7 (fun w' => w'.cell? ⟨g, 1, none⟩ = some (.string p.v) ∧ w'.cell? ⟨g, 2, none⟩ = some (.int .i64 p.n)) (by kernel_rfl) ?_
      try clear a0 a1 a2 a3 a4 a5 a6 d0 d1 d2 e0 e1 e2 e3 e4 f0 f1 f2 f3 f4 i0 i1 i2 i3 i4 j0 j1 j2 j3 j4
      have HD := hide (HP6.out.drewN 1)
      replace HD : Hid (A2 _ _ (World.drew _) _ _ _ _ _ _ _ _) := HD
      generalize World.drew _ = wd at HD ⊢
      refine anyT_take (i := 0) (v := ?ov0_2) (by simp only [List.getElem?_toArray, List.getElem?_cons_zero]; exact rfl) (by kernel_rfl) (by kernel_rfl) (fun _ _ _ h => h) (by kernel_rfl) (by kernel_rfl) (Or.inl ⟨by rfl, ?oy0_2⟩) (by with_reducible exact ⟨HD.out.a.rp.three.2.1, HD.out.a.rp.three.2.2⟩) ?or0_2
      case oy0_2 => (intro w hSw; (try dsimp only at hSw); (try obtain ⟨hS1, hS2⟩ := hSw); go_simp; try with_reducible rfl)
      try simp only [Act.put, List.setIfInBounds_toArray, List.set_cons_zero, List.set_cons_succ]
      refine anyT_take (i := 1) (v := ?ov1_2) (by simp only [List.getElem?_toArray, List.getElem?_cons_succ, List.getElem?_cons_zero]; exact rfl) (by kernel_rfl) (by kernel_rfl) (fun _ _ _ h => h) (by kernel_rfl) (by kernel_rfl) (Or.inl ⟨by rfl, ?oy1_2⟩) (by with_reducible exact ⟨HD.out.a.rp.three.2.1, HD.out.a.rp.three.2.2⟩) ?or1_2
      case oy1_2 => (intro w hSw; (try dsimp only at hSw); (try obtain ⟨hS1, hS2⟩ := hSw); go_simp; try with_reducible rfl)
      try simp only [Act.put, List.setIfInBounds_toArray, List.set_cons_zero, List.set_cons_succ]
      refine anyT_take (i := 2) (v := ?ov2_2) (by simp only [List.getElem?_toArray, List.getElem?_cons_succ, List.getElem?_cons_zero]; exact rfl) (by kernel_rfl) (by kernel_rfl) (fun _ _ _ h => h) (by kernel_rfl) (by kernel_rfl) (Or.inl ⟨by rfl, ?oy2_2⟩) (by with_reducible exact ⟨HD.out.a.rp.three.2.1, HD.out.a.rp.three.2.2⟩) ?or2_2
      case oy2_2 => (intro w hSw; (try dsimp only at hSw); (try obtain ⟨hS1, hS2⟩ := hSw); go_simp; try with_reducible rfl)
      try simp only [Act.put, List.setIfInBounds_toArray, List.set_cons_zero, List.set_cons_succ]
      refine anyT_take (i := 3) (v := ?ov3_2) (by simp only [List.getElem?_toArray, List.getElem?_cons_succ, List.getElem?_cons_zero]; exact rfl) (by kernel_rfl) (by kernel_rfl) (fun _ _ _ h => h) (by kernel_rfl) (by kernel_rfl) (Or.inl ⟨by rfl, ?oy3_2⟩) (by with_reducible exact ⟨HD.out.a.rp.three.2.1, HD.out.a.rp.three.2.2⟩) ?or3_2
      case oy3_2 => (intro w hSw; (try dsimp only at hSw); (try obtain ⟨hS1, hS2⟩ := hSw); go_simp; try with_reducible rfl)
      try simp only [Act.put, List.setIfInBounds_toArray, List.set_cons_zero, List.set_cons_succ]
      refine anyT_take (i := 4) (v := ?ov4_2) (by simp only [List.getElem?_toArray, List.getElem?_cons_succ, List.getElem?_cons_zero]; exact rfl) (by kernel_rfl) (by kernel_rfl) (fun _ _ _ h => h) (by kernel_rfl) (by kernel_rfl) (Or.inl ⟨by rfl, ?oy4_2⟩) (by with_reducible exact ⟨HD.out.a.rp.three.2.1, HD.out.a.rp.three.2.2⟩) ?or4_2
      case oy4_2 => (intro w hSw; (try dsimp only at hSw); (try obtain ⟨hS1, hS2⟩ := hSw); go_simp; try with_reducible rfl)
      try simp only [Act.put, List.setIfInBounds_toArray, List.set_cons_zero, List.set_cons_succ]
      refine anyT_take (i := 5) (v := ?ov5_2) (by simp only [List.getElem?_toArray, List.getElem?_cons_succ, List.getElem?_cons_zero]; exact rfl) (by kernel_rfl) (by kernel_rfl) (fun _ _ _ h => h) (by kernel_rfl) (by kernel_rfl) (Or.inl ⟨by rfl, ?oy5_2⟩) (by with_reducible exact ⟨HD.out.a.rp.three.2.1, HD.out.a.rp.three.2.2⟩) ?or5_2
      case oy5_2 => (intro w hSw; (try dsimp only at hSw); (try obtain ⟨hS1, hS2⟩ := hSw); go_simp; try with_reducible rfl)
      try simp only [Act.put, List.setIfInBounds_toArray, List.set_cons_zero, List.set_cons_succ]
      refine anyT_one (i := 6) (by kernel_rfl) (by simp only [List.getElem?_toArray, List.getElem?_cons_succ, List.getElem?_cons_zero]; exact rfl) (fun K hK => ?_)
      go_simp
      refine hK.out _ _ (fun e => ⟨HD.out.a.rp.three.2.1, HD.out.a.rp.three.2.2⟩) ?_
      clear hK K
      try simp only [Act.put, List.setIfInBounds_toArray, List.set_cons_zero, List.set_cons_succ]
      obtain ⟨⟨a0, a1, a2, a3, a4, a5, a6⟩, ⟨d0, d1, d2⟩, ⟨⟨e0, e1, e2, e3, e4⟩, f0, f1, f2, f3, f4⟩, ⟨i0, i1, i2, i3, i4⟩, j0, j1, j2, j3, j4⟩ := HD.out.a.all
      dsimp only [zeroR] at a0 a1 a2 a3 a4 a5 a6 e0 e1 e2 e3 e4
      refine anyT_one (i := 7) (by kernel_rfl) (by simp only [List.getElem?_toArray, List.getElem?_cons_succ, List.getElem?_cons_zero]; exact rfl) (fun K hK => ?_)
      go_simp
      refine hK.out _ _ (fun e => absurd rfl e) ?_
      clear hK K
      try simp only [Act.put, List.setIfInBounds_toArray, List.set_cons_zero, List.set_cons_succ]
      refine anyT_done (by kernel_rfl) ?_
      refine NoPanic.normal ?_
      try simp only [Act.put]
      go_upto_region 21 with (fail)
      have HT := hide (HD.out.put5 ⟨0, t, { data := #[] }, IntKind.i64.wrap (p.n + 1), []⟩ rfl)
      refine wp_region_noPanic ?_
      refine wp_region_T 3 (fun w' => w'.cell? ⟨gr, 0, none⟩ = some (.int .i64 0) ∧ w'.cell? ⟨gr, 1, none⟩ = some (.bool t) ∧ w'.cell? ⟨gr, 2, none⟩ = some (.string { data := #[] }) ∧ w'.cell? ⟨gr, 3, none⟩ = some (.int .i64 (IntKind.i64.wrap (p.n + 1))) ∧ w'.cell? ⟨gr, 4, none⟩ = some (.slice none 0 0)) (by kernel_rfl) ?_
      try clear a0 a1 a2 a3 a4 a5 a6 d0 d1 d2 e0 e1 e2 e3 e4 f0 f1 f2 f3 f4 i0 i1 i2 i3 i4 j0 j1 j2 j3 j4
      have HD := hide (HT.out.drewN 1)
      replace HD : Hid (A2 _ _ (World.drew _) _ _ _ _ _ _ _ _) := HD
      generalize World.drew _ = wd at HD ⊢
      refine anyT_take (i := 0) (v := ?ov0_3) (by simp only [List.getElem?_toArray, List.getElem?_cons_zero]; exact rfl) (by kernel_rfl) (by kernel_rfl) (fun _ _ _ h => h) (by kernel_rfl) (by kernel_rfl) (Or.inl ⟨by rfl, ?oy0_3⟩) (by with_reducible exact ⟨HD.out.a.rt.five.1, HD.out.a.rt.five.2.1, HD.out.a.rt.five.2.2.1, HD.out.a.rt.five.2.2.2.1, HD.out.a.rt.five.2.2.2.2⟩) ?or0_3
      case oy0_3 => (intro w hSw; (try dsimp only at hSw); (try obtain ⟨hS1, hS2⟩ := hSw); go_simp; try with_reducible rfl)
      try simp only [Act.put, List.setIfInBounds_toArray, List.set_cons_zero, List.set_cons_succ]
      refine anyT_take (i := 1) (v := ?ov1_3) (by simp only [List.getElem?_toArray, List.getElem?_cons_succ, List.getElem?_cons_zero]; exact rfl) (by kernel_rfl) (by kernel_rfl) (fun _ _ _ h => h) (by kernel_rfl) (by kernel_rfl) (Or.inl ⟨by rfl, ?oy1_3⟩) (by with_reducible exact ⟨HD.out.a.rt.five.1, HD.out.a.rt.five.2.1, HD.out.a.rt.five.2.2.1, HD.out.a.rt.five.2.2.2.1, HD.out.a.rt.five.2.2.2.2⟩) ?or1_3
      case oy1_3 => (intro w hSw; (try dsimp only at hSw); (try obtain ⟨hS1, hS2⟩ := hSw); go_simp; try with_reducible rfl)
      try simp only [Act.put, List.setIfInBounds_toArray, List.set_cons_zero, List.set_cons_succ]
      refine anyT_one (i := 2) (by kernel_rfl) (by simp only [List.getElem?_toArray, List.getElem?_cons_succ, List.getElem?_cons_zero]; exact rfl) (fun K hK => ?_)
      go_simp
      refine hK.out _ _ (fun e => ⟨HD.out.a.rt.five.1, HD.out.a.rt.five.2.1, HD.out.a.rt.five.2.2.1, HD.out.a.rt.five.2.2.2.1, HD.out.a.rt.five.2.2.2.2⟩) ?_
      clear hK K
      try simp only [Act.put, List.setIfInBounds_toArray, List.set_cons_zero, List.set_cons_succ]
      obtain ⟨_, _, _, ⟨i0, i1, i2, i3, i4⟩, j0, j1, j2, j3, j4⟩ := HD.out.a.all
      refine anyT_one (i := 3) (by kernel_rfl) (by simp only [List.getElem?_toArray, List.getElem?_cons_succ, List.getElem?_cons_zero]; exact rfl) (fun K hK => ?_)
      go_simp
      refine hK.out _ _ (fun e => absurd rfl e) ?_
      clear hK K
      try simp only [Act.put, List.setIfInBounds_toArray, List.set_cons_zero, List.set_cons_succ]
      refine anyT_done (by kernel_rfl) ?_
      refine NoPanic.normal ?_
      try simp only [Act.put]
      go_wp2_with fail
      refine bodyPost_ret (results_look (v := _) Try.results39 rfl rfl (HD.out.a.r0.rr.five_put _ _ _ _ _)) rfl ?_
      rw [run_2, KP.out, KT.out, if_neg (by rw [HF.out]; simp)]
      exact HD.out.done
    · obtain ⟨q1, q2⟩ := put_full (value := val) hf
      rw [q1, q2] at HQ
      have HF := hide hf
      clear hf q1 q2
      go_upto_region 21 with (go_at_call 76; (with_reducible refine HQ.out.mono ?_); rintro e w6 ⟨v6, rfl, ho6, hb6⟩; obtain ⟨A6, c6, rfl, _, _, _, _⟩ := ho6.pin; have HP6 := hide (HP.out.new ho6 HW.out hb6); have HP7 := hide (HP.out.below hb6); have HO6 := hide ho6; have HB6 := hide hb6; clear ho6 hb6; obtain ⟨⟨a0, a1, a2, a3, a4, a5, a6⟩, ⟨d0, d1, d2⟩, ⟨⟨e0, e1, e2, e3, e4⟩, f0, f1, f2, f3, f4⟩, ⟨i0, i1, i2, i3, i4⟩, j0, j1, j2, j3, j4⟩ := HP7.out.a.all; dsimp only [zeroR] at a0 a1 a2 a3 a4 a5 a6 e0 e1 e2 e3 e4)
      have HT := hide ((show A2 _ _ _ _ _ ⟨7, false, { data := #[] }, 0, []⟩ _ _ _ _ _ from HP7.out.errno 7))
      refine wp_region_noPanic ?_
      refine wp_region_T 3 (fun w' => w'.cell? ⟨gr, 0, none⟩ = some (.int .i64 7) ∧ w'.cell? ⟨gr, 1, none⟩ = some (.bool false) ∧ w'.cell? ⟨gr, 2, none⟩ = some (.string { data := #[] }) ∧ w'.cell? ⟨gr, 3, none⟩ = some (.int .i64 0) ∧ w'.cell? ⟨gr, 4, none⟩ = some (.slice none 0 0)) (by kernel_rfl) ?_
      try clear a0 a1 a2 a3 a4 a5 a6 d0 d1 d2 e0 e1 e2 e3 e4 f0 f1 f2 f3 f4 i0 i1 i2 i3 i4 j0 j1 j2 j3 j4
      have HD := hide (HT.out.drewN 1)
      replace HD : Hid (A2 _ _ (World.drew _) _ _ _ _ _ _ _ _) := HD
      generalize World.drew _ = wd at HD ⊢
      refine anyT_take (i := 0) (v := ?ov0_4) (by simp only [List.getElem?_toArray, List.getElem?_cons_zero]; exact rfl) (by kernel_rfl) (by kernel_rfl) (fun _ _ _ h => h) (by kernel_rfl) (by kernel_rfl) (Or.inl ⟨by rfl, ?oy0_4⟩) (by with_reducible exact ⟨HD.out.a.rt.five.1, HD.out.a.rt.five.2.1, HD.out.a.rt.five.2.2.1, HD.out.a.rt.five.2.2.2.1, HD.out.a.rt.five.2.2.2.2⟩) ?or0_4
      case oy0_4 => (intro w hSw; (try dsimp only at hSw); (try obtain ⟨hS1, hS2⟩ := hSw); go_simp; try with_reducible rfl)
      try simp only [Act.put, List.setIfInBounds_toArray, List.set_cons_zero, List.set_cons_succ]
      refine anyT_take (i := 1) (v := ?ov1_4) (by simp only [List.getElem?_toArray, List.getElem?_cons_succ, List.getElem?_cons_zero]; exact rfl) (by kernel_rfl) (by kernel_rfl) (fun _ _ _ h => h) (by kernel_rfl) (by kernel_rfl) (Or.inl ⟨by rfl, ?oy1_4⟩) (by with_reducible exact ⟨HD.out.a.rt.five.1, HD.out.a.rt.five.2.1, HD.out.a.rt.five.2.2.1, HD.out.a.rt.five.2.2.2.1, HD.out.a.rt.five.2.2.2.2⟩) ?or1_4
      case oy1_4 => (intro w hSw; (try dsimp only at hSw); (try obtain ⟨hS1, hS2⟩ := hSw); go_simp; try with_reducible rfl)
      try simp only [Act.put, List.setIfInBounds_toArray, List.set_cons_zero, List.set_cons_succ]
      refine anyT_one (i := 2) (by kernel_rfl) (by simp only [List.getElem?_toArray, List.getElem?_cons_succ, List.getElem?_cons_zero]; exact rfl) (fun K hK => ?_)
      go_simp
      refine hK.out _ _ (fun e => ⟨HD.out.a.rt.five.1, HD.out.a.rt.five.2.1, HD.out.a.rt.five.2.2.1, HD.out.a.rt.five.2.2.2.1, HD.out.a.rt.five.2.2.2.2⟩) ?_
      clear hK K
      try simp only [Act.put, List.setIfInBounds_toArray, List.set_cons_zero, List.set_cons_succ]
      obtain ⟨_, _, _, ⟨i0, i1, i2, i3, i4⟩, j0, j1, j2, j3, j4⟩ := HD.out.a.all
      refine anyT_one (i := 3) (by kernel_rfl) (by simp only [List.getElem?_toArray, List.getElem?_cons_succ, List.getElem?_cons_zero]; exact rfl) (fun K hK => ?_)
      go_simp
      refine hK.out _ _ (fun e => absurd rfl e) ?_
      clear hK K
      try simp only [Act.put, List.setIfInBounds_toArray, List.set_cons_zero, List.set_cons_succ]
      refine anyT_done (by kernel_rfl) ?_
      refine NoPanic.normal ?_
      try simp only [Act.put]
      go_wp2_with fail
      refine bodyPost_ret (results_look (v := _) Try.results39 rfl rfl (HD.out.a.r0.rr.five_put _ _ _ _ _)) rfl ?_
      rw [run_2, if_pos HF.out]
      exact HD.out.done
  · have HQ := hide (del_any _ l key w5 HPV.out ln)
    go_upto_region 21 with (go_at_call 77; (with_reducible refine HQ.out.mono ?_); rintro e w6 ⟨v6, rfl, ho6, hb6⟩; obtain ⟨A6, c6, rfl, _, _, _, _⟩ := ho6.pin; have HP6 := hide (HP.out.new ho6 HW.out hb6); have HP7 := hide (HP.out.below hb6); have HO6 := hide ho6; have HB6 := hide hb6; clear ho6 hb6; obtain ⟨⟨a0, a1, a2, a3, a4, a5, a6⟩, ⟨d0, d1, d2⟩, ⟨⟨e0, e1, e2, e3, e4⟩, f0, f1, f2, f3, f4⟩, ⟨i0, i1, i2, i3, i4⟩, j0, j1, j2, j3, j4⟩ := HP7.out.a.all; dsimp only [zeroR] at a0 a1 a2 a3 a4 a5 a6 e0 e1 e2 e3 e4)
    have HT := hide (HP6.out.put5 ⟨0, t, { data := #[] }, p.n, []⟩ rfl)
    refine wp_region_noPanic ?_
    refine wp_region_T 3 (fun w' => w'.cell? ⟨gr, 0, none⟩ = some (.int .i64 0) ∧ w'.cell? ⟨gr, 1, none⟩ = some (.bool t) ∧ w'.cell? ⟨gr, 2, none⟩ = some (.string { data := #[] }) ∧ w'.cell? ⟨gr, 3, none⟩ = some (.int .i64 p.n) ∧ w'.cell? ⟨gr, 4, none⟩ = some (.slice none 0 0)) (by kernel_rfl) ?_
    try clear a0 a1 a2 a3 a4 a5 a6 d0 d1 d2 e0 e1 e2 e3 e4 f0 f1 f2 f3 f4 i0 i1 i2 i3 i4 j0 j1 j2 j3 j4
    have HD := hide (HT.out.drewN 1)
    replace HD : Hid (A2 _ _ (World.drew _) _ _ _ _ _ _ _ _) := HD
    generalize World.drew _ = wd at HD ⊢
    refine anyT_take (i := 0) (v := ?ov0_5) (by simp only [List.getElem?_toArray, List.getElem?_cons_zero]; exact rfl) (by kernel_rfl) (by kernel_rfl) (fun _ _ _ h => h) (by kernel_rfl) (by kernel_rfl) (Or.inl ⟨by rfl, ?oy0_5⟩) (by with_reducible exact ⟨HD.out.a.rt.five.1, HD.out.a.rt.five.2.1, HD.out.a.rt.five.2.2.1, HD.out.a.rt.five.2.2.2.1, HD.out.a.rt.five.2.2.2.2⟩) ?or0_5
    case oy0_5 => (intro w hSw; (try dsimp only at hSw); (try obtain ⟨hS1, hS2⟩ := hSw); go_simp; try with_reducible rfl)
    try simp only [Act.put, List.setIfInBounds_toArray, List.set_cons_zero, List.set_cons_succ]
    refine anyT_take (i := 1) (v := ?ov1_5) (by simp only [List.getElem?_toArray, List.getElem?_cons_succ, List.getElem?_cons_zero]; exact rfl) (by kernel_rfl) (by kernel_rfl) (fun _ _ _ h => h) (by kernel_rfl) (by kernel_rfl) (Or.inl ⟨by rfl, ?oy1_5⟩) (by with_reducible exact ⟨HD.out.a.rt.five.1, HD.out.a.rt.five.2.1, HD.out.a.rt.five.2.2.1, HD.out.a.rt.five.2.2.2.1, HD.out.a.rt.five.2.2.2.2⟩) ?or1_5
    case oy1_5 => (intro w hSw; (try dsimp only at hSw); (try obtain ⟨hS1, hS2⟩ := hSw); go_simp; try with_reducible rfl)
    try simp only [Act.put, List.setIfInBounds_toArray, List.set_cons_zero, List.set_cons_succ]
    refine anyT_one (i := 2) (by kernel_rfl) (by simp only [List.getElem?_toArray, List.getElem?_cons_succ, List.getElem?_cons_zero]; exact rfl) (fun K hK => ?_)
    go_simp
    refine hK.out _ _ (fun e => ⟨HD.out.a.rt.five.1, HD.out.a.rt.five.2.1, HD.out.a.rt.five.2.2.1, HD.out.a.rt.five.2.2.2.1, HD.out.a.rt.five.2.2.2.2⟩) ?_
    clear hK K
    try simp only [Act.put, List.setIfInBounds_toArray, List.set_cons_zero, List.set_cons_succ]
    obtain ⟨_, _, _, ⟨i0, i1, i2, i3, i4⟩, j0, j1, j2, j3, j4⟩ := HD.out.a.all
    refine anyT_one (i := 3) (by kernel_rfl) (by simp only [List.getElem?_toArray, List.getElem?_cons_succ, List.getElem?_cons_zero]; exact rfl) (fun K hK => ?_)
    go_simp
    refine hK.out _ _ (fun e => absurd rfl e) ?_
    clear hK K
    try simp only [Act.put, List.setIfInBounds_toArray, List.set_cons_zero, List.set_cons_succ]
    refine anyT_done (by kernel_rfl) ?_
    refine NoPanic.normal ?_
    try simp only [Act.put]
    go_wp2_with fail
    refine bodyPost_ret (results_look (v := _) Try.results39 rfl rfl (HD.out.a.r0.rr.five_put _ _ _ _ _)) rfl ?_
    rw [run_3, KP.out, KT.out]
    exact HD.out.done
  · go_upto_region 16 with (fail)
    have HS5 := hide (HP.out.put5 ⟨0, false, p.v, p.n, []⟩ rfl)
    have HPV6 := hide (HV.out.below (below_put5 HP.out.a.r0.bel (show w.heap.size ≤ gr by have := HP.out.a.f1; omega) (.int .i64 0) (.bool false) (.string p.v) (.int .i64 p.n) (.slice none 0 0)))
    replace HS5 : Hid (A2 _ _ (((((w5.setCell ⟨gr, 0, none⟩ (.int .i64 0)).setCell ⟨gr, 1, none⟩ (.bool false)).setCell ⟨gr, 2, none⟩ (.string p.v)).setCell ⟨gr, 3, none⟩ (.int .i64 p.n)).setCell ⟨gr, 4, none⟩ (.slice none 0 0)) _ _ _ _ _ _ _ _) := HS5
    clear a0 a1 a2 a3 a4 a5 a6 d0 d1 d2 e0 e1 e2 e3 e4 f0 f1 f2 f3 f4 i0 i1 i2 i3 i4 j0 j1 j2 j3 j4
    generalize ((((w5.setCell ⟨gr, 0, none⟩ (.int .i64 0)).setCell ⟨gr, 1, none⟩ (.bool false)).setCell ⟨gr, 2, none⟩ (.string p.v)).setCell ⟨gr, 3, none⟩ (.int .i64 p.n)).setCell ⟨gr, 4, none⟩ (.slice none 0 0) = w7 at HS5 HPV6 ⊢
    obtain ⟨⟨a0, a1, a2, a3, a4, a5, a6⟩, ⟨d0, d1, d2⟩, ⟨⟨e0, e1, e2, e3, e4⟩, f0, f1, f2, f3, f4⟩, ⟨i0, i1, i2, i3, i4⟩, j0, j1, j2, j3, j4⟩ := HS5.out.a.all
    dsimp only [zeroR] at a0 a1 a2 a3 a4 a5 a6 e0 e1 e2 e3 e4
    have HW7 := hide (show w.heap.size ≤ w7.heap.size from HS5.out.a.r0.bel.size)
    cases t
    · go_upto_region 21 with (fail)
      have HT := hide (HS5.out)
      refine wp_region_noPanic ?_
      refine wp_region_T 3 (fun w' => w'.cell? ⟨gr, 0, none⟩ = some (.int .i64 0) ∧ w'.cell? ⟨gr, 1, none⟩ = some (.bool false) ∧ w'.cell? ⟨gr, 2, none⟩ = some (.string p.v) ∧ w'.cell? ⟨gr, 3, none⟩ = some (.int .i64 p.n) ∧ w'.cell? ⟨gr, 4, none⟩ = some (.slice none 0 0)) (by kernel_rfl) ?_
      try clear a0 a1 a2 a3 a4 a5 a6 d0 d1 d2 e0 e1 e2 e3 e4 f0 f1 f2 f3 f4 i0 i1 i2 i3 i4 j0 j1 j2 j3 j4
      have HD := hide (HT.out.drewN 1)
      replace HD : Hid (A2 _ _ (World.drew _) _ _ _ _ _ _ _ _) := HD
      generalize World.drew _ = wd at HD ⊢
      refine anyT_take (i := 0) (v := ?ov0_6) (by simp only [List.getElem?_toArray, List.getElem?_cons_zero]; exact rfl) (by kernel_rfl) (by kernel_rfl) (fun _ _ _ h => h) (by kernel_rfl) (by kernel_rfl) (Or.inl ⟨by rfl, ?oy0_6⟩) (by with_reducible exact ⟨HD.out.a.rt.five.1, HD.out.a.rt.five.2.1, HD.out.a.rt.five.2.2.1, HD.out.a.rt.five.2.2.2.1, HD.out.a.rt.five.2.2.2.2⟩) ?or0_6
      case oy0_6 => (intro w hSw; (try dsimp only at hSw); (try obtain ⟨hS1, hS2⟩ := hSw); go_simp; try with_reducible rfl)
      try simp only [Act.put, List.setIfInBounds_toArray, List.set_cons_zero, List.set_cons_succ]
      refine anyT_take (i := 1) (v := ?ov1_6) (by simp only [List.getElem?_toArray, List.getElem?_cons_succ, List.getElem?_cons_zero]; exact rfl) (by kernel_rfl) (by kernel_rfl) (fun _ _ _ h => h) (by kernel_rfl) (by kernel_rfl) (Or.inl ⟨by rfl, ?oy1_6⟩) (by with_reducible exact ⟨HD.out.a.rt.five.1, HD.out.a.rt.five.2.1, HD.out.a.rt.five.2.2.1, HD.out.a.rt.five.2.2.2.1, HD.out.a.rt.five.2.2.2.2⟩) ?or1_6
      case oy1_6 => (intro w hSw; (try dsimp only at hSw); (try obtain ⟨hS1, hS2⟩ := hSw); go_simp; try with_reducible rfl)
      try simp only [Act.put, List.setIfInBounds_toArray, List.set_cons_zero, List.set_cons_succ]
      refine anyT_one (i := 2) (by kernel_rfl) (by simp only [List.getElem?_toArray, List.getElem?_cons_succ, List.getElem?_cons_zero]; exact rfl) (fun K hK => ?_)
      go_simp
      refine hK.out _ _ (fun e => ⟨HD.out.a.rt.five.1, HD.out.a.rt.five.2.1, HD.out.a.rt.five.2.2.1, HD.out.a.rt.five.2.2.2.1, HD.out.a.rt.five.2.2.2.2⟩) ?_
      clear hK K
      try simp only [Act.put, List.setIfInBounds_toArray, List.set_cons_zero, List.set_cons_succ]
      obtain ⟨_, _, _, ⟨i0, i1, i2, i3, i4⟩, j0, j1, j2, j3, j4⟩ := HD.out.a.all
      refine anyT_one (i := 3) (by kernel_rfl) (by simp only [List.getElem?_toArray, List.getElem?_cons_succ, List.getElem?_cons_zero]; exact rfl) (fun K hK => ?_)
      go_simp
      refine hK.out _ _ (fun e => absurd rfl e) ?_
      clear hK K
      try simp only [Act.put, List.setIfInBounds_toArray, List.set_cons_zero, List.set_cons_succ]
      refine anyT_done (by kernel_rfl) ?_
      refine NoPanic.normal ?_
      try simp only [Act.put]
      go_wp2_with fail
      refine bodyPost_ret (results_look (v := _) Try.results39 rfl rfl (HD.out.a.r0.rr.five_put _ _ _ _ _)) rfl ?_
      rw [run_4, KP.out, KT.out, if_neg (by simp)]
      exact HD.out.done
    · cases ho : eqB p.v old
      · have HF := hide ho
        unfold eqB at ho
        go_upto_region 21 with (fail)
        have HT := hide (HS5.out)
        refine wp_region_noPanic ?_
        refine wp_region_T 3 (fun w' => w'.cell? ⟨gr, 0, none⟩ = some (.int .i64 0) ∧ w'.cell? ⟨gr, 1, none⟩ = some (.bool false) ∧ w'.cell? ⟨gr, 2, none⟩ = some (.string p.v) ∧ w'.cell? ⟨gr, 3, none⟩ = some (.int .i64 p.n) ∧ w'.cell? ⟨gr, 4, none⟩ = some (.slice none 0 0)) (by kernel_rfl) ?_
        try clear a0 a1 a2 a3 a4 a5 a6 d0 d1 d2 e0 e1 e2 e3 e4 f0 f1 f2 f3 f4 i0 i1 i2 i3 i4 j0 j1 j2 j3 j4
        have HD := hide (HT.out.drewN 1)
        replace HD : Hid (A2 _ _ (World.drew _) _ _ _ _ _ _ _ _) := HD
        generalize World.drew _ = wd at HD ⊢
        refine anyT_take (i := 0) (v := ?ov0_7) (by simp only [List.getElem?_toArray, List.getElem?_cons_zero]; exact rfl) (by kernel_rfl) (by kernel_rfl) (fun _ _ _ h => h) (by kernel_rfl) (by kernel_rfl) (Or.inl ⟨by rfl, ?oy0_7⟩) (by with_reducible exact ⟨HD.out.a.rt.five.1, HD.out.a.rt.five.2.1, HD.out.a.rt.five.2.2.1, HD.out.a.rt.five.2.2.2.1, HD.out.a.rt.five.2.2.2.2⟩) ?or0_7
        case oy0_7 => (intro w hSw; (try dsimp only at hSw); (try obtain ⟨hS1, hS2⟩ := hSw); go_simp; try with_reducible rfl)
        try simp only [Act.put, List.setIfInBounds_toArray, List.set_cons_zero, List.set_cons_succ]
        refine anyT_take (i := 1) (v := ?ov1_7) (by simp only [List.getElem?_toArray, List.getElem?_cons_succ, List.getElem?_cons_zero]; exact rfl) (by kernel_rfl) (by kernel_rfl) (fun _ _ _ h => h) (by kernel_rfl) (by kernel_rfl) (Or.inl ⟨by rfl, ?oy1_7⟩) (by with_reducible exact ⟨HD.out.a.rt.five.1, HD.out.a.rt.five.2.1, HD.out.a.rt.five.2.2.1, HD.out.a.rt.five.2.2.2.1, HD.out.a.rt.five.2.2.2.2⟩) ?or1_7
        case oy1_7 => (intro w hSw; (try dsimp only at hSw); (try obtain ⟨hS1, hS2⟩ := hSw); go_simp; try with_reducible rfl)
        try simp only [Act.put, List.setIfInBounds_toArray, List.set_cons_zero, List.set_cons_succ]
        refine anyT_one (i := 2) (by kernel_rfl) (by simp only [List.getElem?_toArray, List.getElem?_cons_succ, List.getElem?_cons_zero]; exact rfl) (fun K hK => ?_)
        go_simp
        refine hK.out _ _ (fun e => ⟨HD.out.a.rt.five.1, HD.out.a.rt.five.2.1, HD.out.a.rt.five.2.2.1, HD.out.a.rt.five.2.2.2.1, HD.out.a.rt.five.2.2.2.2⟩) ?_
        clear hK K
        try simp only [Act.put, List.setIfInBounds_toArray, List.set_cons_zero, List.set_cons_succ]
        obtain ⟨_, _, _, ⟨i0, i1, i2, i3, i4⟩, j0, j1, j2, j3, j4⟩ := HD.out.a.all
        refine anyT_one (i := 3) (by kernel_rfl) (by simp only [List.getElem?_toArray, List.getElem?_cons_succ, List.getElem?_cons_zero]; exact rfl) (fun K hK => ?_)
        go_simp
        refine hK.out _ _ (fun e => absurd rfl e) ?_
        clear hK K
        try simp only [Act.put, List.setIfInBounds_toArray, List.set_cons_zero, List.set_cons_succ]
        refine anyT_done (by kernel_rfl) ?_
        refine NoPanic.normal ?_
        try simp only [Act.put]
        go_wp2_with fail
        refine bodyPost_ret (results_look (v := _) Try.results39 rfl rfl (HD.out.a.r0.rr.five_put _ _ _ _ _)) rfl ?_
        rw [run_4, KP.out, KT.out, if_neg (by rw [HF.out]; simp)]
        exact HD.out.done
      · have HF := hide ho
        unfold eqB at ho
        have HQ := hide (put_any _ l key val w7 HPV6.out ln)
        obtain ⟨q1, q2⟩ := put_fits (value := val) (full_is KT.out)
        rw [q1, q2] at HQ
        clear q1 q2
        go_upto_region 18 with (go_at_call 76; (with_reducible refine HQ.out.mono ?_); rintro e w6 ⟨v6, rfl, ho6, hb6⟩; obtain ⟨A6, c6, rfl, _, _, _, _⟩ := ho6.pin; have HP8 := hide (HS5.out.new ho6 HW7.out hb6); clear ho6 hb6)
        refine wp_region_noPanic ?_
        refine wp_region_T 6 (fun w' => w'.cell? ⟨g, 1, none⟩ = some (.string p.v) ∧ w'.cell? ⟨g, 2, none⟩ = some (.int .i64 p.n)) (by kernel_rfl) ?_
        try clear a0 a1 a2 a3 a4 a5 a6 d0 d1 d2 e0 e1 e2 e3 e4 f0 f1 f2 f3 f4 i0 i1 i2 i3 i4 j0 j1 j2 j3 j4
        have HD := hide (HP8.out.drewN 1)
        replace HD : Hid (A2 _ _ (World.drew _) _ _ _ _ _ _ _ _) := HD
        generalize World.drew _ = wd at HD ⊢
        have HS := hide (And.intro HD.out.a.rp.three.2.1 HD.out.a.rp.three.2.2)
        refine anyT_take (i := 0) (v := ?ov0_8) (by simp only [List.getElem?_toArray, List.getElem?_cons_zero]; exact rfl) (by kernel_rfl) (by kernel_rfl) (fun _ _ _ h => h) (by kernel_rfl) (by kernel_rfl) (Or.inl ⟨by rfl, ?oy0_8⟩) (by with_reducible exact HS.out) ?or0_8
        case oy0_8 => (intro w hSw; (try dsimp only at hSw); (try obtain ⟨hS1, hS2⟩ := hSw); go_simp; try with_reducible rfl)
        try simp only [Act.put, List.setIfInBounds_toArray, List.set_cons_zero, List.set_cons_succ]
        refine anyT_take (i := 1) (v := ?ov1_8) (by simp only [List.getElem?_toArray, List.getElem?_cons_succ, List.getElem?_cons_zero]; exact rfl) (by kernel_rfl) (by kernel_rfl) (fun _ _ _ h => h) (by kernel_rfl) (by kernel_rfl) (Or.inl ⟨by rfl, ?oy1_8⟩) (by with_reducible exact HS.out) ?or1_8
        case oy1_8 => (intro w hSw; (try dsimp only at hSw); (try obtain ⟨hS1, hS2⟩ := hSw); go_simp; try with_reducible rfl)
        try simp only [Act.put, List.setIfInBounds_toArray, List.set_cons_zero, List.set_cons_succ]
        refine anyT_take (i := 2) (v := ?ov2_8) (by simp only [List.getElem?_toArray, List.getElem?_cons_succ, List.getElem?_cons_zero]; exact rfl) (by kernel_rfl) (by kernel_rfl) (fun _ _ _ h => h) (by kernel_rfl) (by kernel_rfl) (Or.inl ⟨by rfl, ?oy2_8⟩) (by with_reducible exact HS.out) ?or2_8
        case oy2_8 => (intro w hSw; (try dsimp only at hSw); (try obtain ⟨hS1, hS2⟩ := hSw); go_simp; try with_reducible rfl)
        try simp only [Act.put, List.setIfInBounds_toArray, List.set_cons_zero, List.set_cons_succ]
        obtain ⟨⟨a0, a1, a2, a3, a4, a5, a6⟩, ⟨d0, d1, d2⟩, ⟨⟨e0, e1, e2, e3, e4⟩, f0, f1, f2, f3, f4⟩, ⟨i0, i1, i2, i3, i4⟩, j0, j1, j2, j3, j4⟩ := HD.out.a.all
        dsimp only [zeroR] at a0 a1 a2 a3 a4 a5 a6 e0 e1 e2 e3 e4
        have HT4 := hide (HD.out.a.put 1 (.bool true) (y' := ⟨0, true, p.v, p.n, []⟩) rfl)
        refine anyT_one (i := 3) (by kernel_rfl) (by simp only [List.getElem?_toArray, List.getElem?_cons_succ, List.getElem?_cons_zero]; exact rfl) (fun K hK => ?_)
        go_simp
        refine hK.out _ _ (fun e => HS.out) ?_
        clear hK K
        try simp only [Act.put, List.setIfInBounds_toArray, List.set_cons_zero, List.set_cons_succ]
        refine anyT_one (i := 4) (by kernel_rfl) (by simp only [List.getElem?_toArray, List.getElem?_cons_succ, List.getElem?_cons_zero]; exact rfl) (fun K hK => ?_)
        go_simp
        refine hK.out _ _ (fun e => And.intro HT4.out.rp.three.2.1 HT4.out.rp.three.2.2) ?_
        clear hK K
        try simp only [Act.put, List.setIfInBounds_toArray, List.set_cons_zero, List.set_cons_succ]
        refine anyT_one (i := 5) (by kernel_rfl) (by simp only [List.getElem?_toArray, List.getElem?_cons_succ, List.getElem?_cons_zero]; exact rfl) (fun K hK => ?_)
        go_simp
        refine hK.out _ _ (fun e => And.intro HT4.out.rp.three.2.1 HT4.out.rp.three.2.2) ?_
        clear hK K
        try simp only [Act.put, List.setIfInBounds_toArray, List.set_cons_zero, List.set_cons_succ]
        refine anyT_one (i := 6) (by kernel_rfl) (by simp only [List.getElem?_toArray, List.getElem?_cons_succ, List.getElem?_cons_zero]; exact rfl) (fun K hK => ?_)
        go_simp
        refine hK.out _ _ (fun e => absurd rfl e) ?_
        clear hK K
        try simp only [Act.put, List.setIfInBounds_toArray, List.set_cons_zero, List.set_cons_succ]
        refine anyT_done (by kernel_rfl) ?_
        refine NoPanic.normal ?_
        try simp only [Act.put]
        go_upto_region 21 with (fail)
        have HT := hide (HD.out.swap (IntKind.i64.wrap (p.n + 1)))
        refine wp_region_noPanic ?_
        refine wp_region_T 3 (fun w' => w'.cell? ⟨gr, 0, none⟩ = some (.int .i64 0) ∧ w'.cell? ⟨gr, 1, none⟩ = some (.bool true) ∧ w'.cell? ⟨gr, 2, none⟩ = some (.string p.v) ∧ w'.cell? ⟨gr, 3, none⟩ = some (.int .i64 (IntKind.i64.wrap (p.n + 1))) ∧ w'.cell? ⟨gr, 4, none⟩ = some (.slice none 0 0)) (by kernel_rfl) ?_
        try clear a0 a1 a2 a3 a4 a5 a6 d0 d1 d2 e0 e1 e2 e3 e4 f0 f1 f2 f3 f4 i0 i1 i2 i3 i4 j0 j1 j2 j3 j4
        have HD := hide (HT.out.drewN 1)
        replace HD : Hid (A2 _ _ (World.drew _) _ _ _ _ _ _ _ _) := HD
        generalize World.drew _ = wd at HD ⊢
        refine anyT_take (i := 0) (v := ?ov0_9) (by simp only [List.getElem?_toArray, List.getElem?_cons_zero]; exact rfl) (by kernel_rfl) (by kernel_rfl) (fun _ _ _ h => h) (by kernel_rfl) (by kernel_rfl) (Or.inl ⟨by rfl, ?oy0_9⟩) (by with_reducible exact ⟨HD.out.a.rt.five.1, HD.out.a.rt.five.2.1, HD.out.a.rt.five.2.2.1, HD.out.a.rt.five.2.2.2.1, HD.out.a.rt.five.2.2.2.2⟩) ?or0_9
        case oy0_9 => (intro w hSw; (try dsimp only at hSw); (try obtain ⟨hS1, hS2⟩ := hSw); go_simp; try with_reducible rfl)
        try simp only [Act.put, List.setIfInBounds_toArray, List.set_cons_zero, List.set_cons_succ]
        refine anyT_take (i := 1) (v := ?ov1_9) (by simp only [List.getElem?_toArray, List.getElem?_cons_succ, List.getElem?_cons_zero]; exact rfl) (by kernel_rfl) (by kernel_rfl) (fun _ _ _ h => h) (by kernel_rfl) (by kernel_rfl) (Or.inl ⟨by rfl, ?oy1_9⟩) (by with_reducible exact ⟨HD.out.a.rt.five.1, HD.out.a.rt.five.2.1, HD.out.a.rt.five.2.2.1, HD.out.a.rt.five.2.2.2.1, HD.out.a.rt.five.2.2.2.2⟩) ?or1_9
        case oy1_9 => (intro w hSw; (try dsimp only at hSw); (try obtain ⟨hS1, hS2⟩ := hSw); go_simp; try with_reducible rfl)
        try simp only [Act.put, List.setIfInBounds_toArray, List.set_cons_zero, List.set_cons_succ]
        refine anyT_one (i := 2) (by kernel_rfl) (by simp only [List.getElem?_toArray, List.getElem?_cons_succ, List.getElem?_cons_zero]; exact rfl) (fun K hK => ?_)
        go_simp
        refine hK.out _ _ (fun e => ⟨HD.out.a.rt.five.1, HD.out.a.rt.five.2.1, HD.out.a.rt.five.2.2.1, HD.out.a.rt.five.2.2.2.1, HD.out.a.rt.five.2.2.2.2⟩) ?_
        clear hK K
        try simp only [Act.put, List.setIfInBounds_toArray, List.set_cons_zero, List.set_cons_succ]
        obtain ⟨_, _, _, ⟨i0, i1, i2, i3, i4⟩, j0, j1, j2, j3, j4⟩ := HD.out.a.all
        refine anyT_one (i := 3) (by kernel_rfl) (by simp only [List.getElem?_toArray, List.getElem?_cons_succ, List.getElem?_cons_zero]; exact rfl) (fun K hK => ?_)
        go_simp
        refine hK.out _ _ (fun e => absurd rfl e) ?_
        clear hK K
        try simp only [Act.put, List.setIfInBounds_toArray, List.set_cons_zero, List.set_cons_succ]
        refine anyT_done (by kernel_rfl) ?_
        refine NoPanic.normal ?_
        try simp only [Act.put]
        go_wp2_with fail
        refine bodyPost_ret (results_look (v := _) Try.results39 rfl rfl (HD.out.a.r0.rr.five_put _ _ _ _ _)) rfl ?_
        rw [run_4, KP.out, KT.out, if_pos (by rw [HF.out]; rfl)]
        exact HD.out.done
  · have HQ := hide (range_any _ l key en w5 HPV.out (by omega))
    go_upto_region 21 with (go_at_call 78; (with_reducible refine HQ.out.mono ?_); rintro e w6 ⟨v6, rfl, ho6, hb6⟩; obtain ⟨A6, c6, rfl, _, _, _, _⟩ := ho6.pin; have HP6 := hide (HP.out.new ho6 HW.out hb6); have HP7 := hide (HP.out.below hb6); have HO6 := hide ho6; have HB6 := hide hb6; clear ho6 hb6; obtain ⟨⟨a0, a1, a2, a3, a4, a5, a6⟩, ⟨d0, d1, d2⟩, ⟨⟨e0, e1, e2, e3, e4⟩, f0, f1, f2, f3, f4⟩, ⟨i0, i1, i2, i3, i4⟩, j0, j1, j2, j3, j4⟩ := HP7.out.a.all; dsimp only [zeroR] at a0 a1 a2 a3 a4 a5 a6 e0 e1 e2 e3 e4)
    have HT := hide (HP.out.range HO6.out HW.out HB6.out (moreB l key en))
    refine wp_region_noPanic ?_
    refine wp_region_T 3 (fun w' => w'.cell? ⟨gr, 0, none⟩ = some (.int .i64 0) ∧ w'.cell? ⟨gr, 1, none⟩ = some (.bool (moreB l key en)) ∧ w'.cell? ⟨gr, 2, none⟩ = some (.string nilT) ∧ w'.cell? ⟨gr, 3, none⟩ = some (.int .i64 0) ∧ w'.cell? ⟨gr, 4, none⟩ = some (.slice A6 (rngP l key en).length c6)) (by kernel_rfl) ?_
    try clear a0 a1 a2 a3 a4 a5 a6 d0 d1 d2 e0 e1 e2 e3 e4 f0 f1 f2 f3 f4 i0 i1 i2 i3 i4 j0 j1 j2 j3 j4
    have HD := hide (HT.out.drewN 1)
    replace HD : Hid (A2 _ _ (World.drew _) _ _ _ _ _ _ _ _) := HD
    generalize World.drew _ = wd at HD ⊢
    refine anyT_take (i := 0) (v := ?ov0_10) (by simp only [List.getElem?_toArray, List.getElem?_cons_zero]; exact rfl) (by kernel_rfl) (by kernel_rfl) (fun _ _ _ h => h) (by kernel_rfl) (by kernel_rfl) (Or.inl ⟨by rfl, ?oy0_10⟩) (by with_reducible exact ⟨HD.out.a.rt.five.1, HD.out.a.rt.five.2.1, HD.out.a.rt.five.2.2.1, HD.out.a.rt.five.2.2.2.1, HD.out.a.rt.five.2.2.2.2⟩) ?or0_10
    case oy0_10 => (intro w hSw; (try dsimp only at hSw); (try obtain ⟨hS1, hS2⟩ := hSw); go_simp; try with_reducible rfl)
    try simp only [Act.put, List.setIfInBounds_toArray, List.set_cons_zero, List.set_cons_succ]
    refine anyT_take (i := 1) (v := ?ov1_10) (by simp only [List.getElem?_toArray, List.getElem?_cons_succ, List.getElem?_cons_zero]; exact rfl) (by kernel_rfl) (by kernel_rfl) (fun _ _ _ h => h) (by kernel_rfl) (by kernel_rfl) (Or.inl ⟨by rfl, ?oy1_10⟩) (by with_reducible exact ⟨HD.out.a.rt.five.1, HD.out.a.rt.five.2.1, HD.out.a.rt.five.2.2.1, HD.out.a.rt.five.2.2.2.1, HD.out.a.rt.five.2.2.2.2⟩) ?or1_10
    case oy1_10 => (intro w hSw; (try dsimp only at hSw); (try obtain ⟨hS1, hS2⟩ := hSw); go_simp; try with_reducible rfl)
    try simp only [Act.put, List.setIfInBounds_toArray, List.set_cons_zero, List.set_cons_succ]
    refine anyT_one (i := 2) (by kernel_rfl) (by simp only [List.getElem?_toArray, List.getElem?_cons_succ, List.getElem?_cons_zero]; exact rfl) (fun K hK => ?_)
    go_simp
    refine hK.out _ _ (fun e => ⟨HD.out.a.rt.five.1, HD.out.a.rt.five.2.1, HD.out.a.rt.five.2.2.1, HD.out.a.rt.five.2.2.2.1, HD.out.a.rt.five.2.2.2.2⟩) ?_
    clear hK K
    try simp only [Act.put, List.setIfInBounds_toArray, List.set_cons_zero, List.set_cons_succ]
    obtain ⟨_, _, _, ⟨i0, i1, i2, i3, i4⟩, j0, j1, j2, j3, j4⟩ := HD.out.a.all
    refine anyT_one (i := 3) (by kernel_rfl) (by simp only [List.getElem?_toArray, List.getElem?_cons_succ, List.getElem?_cons_zero]; exact rfl) (fun K hK => ?_)
    go_simp
    refine hK.out _ _ (fun e => absurd rfl e) ?_
    clear hK K
    try simp only [Act.put, List.setIfInBounds_toArray, List.set_cons_zero, List.set_cons_succ]
    refine anyT_done (by kernel_rfl) ?_
    refine NoPanic.normal ?_
    try simp only [Act.put]
    go_wp2_with fail
    refine bodyPost_ret (results_look (v := _) Try.results39 rfl rfl (HD.out.a.r0.rr.five_put _ _ _ _ _)) rfl ?_
    rw [run_5]
    exact HD.out.done
end Go.Proofs.Ytahfpncfkcfogaa
