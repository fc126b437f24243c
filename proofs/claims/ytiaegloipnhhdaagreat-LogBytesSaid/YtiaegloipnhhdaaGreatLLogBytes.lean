/- Proved: the law LogBytes returns true for any bytes, instance and cell. No condition. -/
import Derived.Test.YtiaegloipnhhdaaGreatQa
import Derived.Test.YtiaegloipnhhdaaGreatQt
import Derived.Test.YtiaegloipnhhdaaGreatQk
namespace Go.Proofs.YtiaegloipnhhdaaGreat.logBytes
open Go.ChangeShapes Go.WideShapes Go.ChangeAt Go.RowKit
open Go.Maps
/-- The law's own: the instance, the cell, the bytes. -/
structure Lb (W w : World) (bi : Nat) (i1 i2 : Int) (x : Cl) (A : Option Addr) (zs : List Int) : Prop where
  r : Row w bi 30 #[.int .i64 i1, .int .i64 i2]
  c : CeAt w (bi + 1) 38 x
  z : Lies w A zs
  old : Below W.heap.size W w
theorem Lb.kept {W w w' : World} {bi : Nat} {i1 i2 : Int} {x : Cl} {A : Option Addr} {zs : List Int} (h : Lb W w bi i1 i2 x A zs) (hb : Below w.heap.size w w') : Lb W w' bi i1 i2 x A zs := ⟨h.r.below hb h.r.lt, h.c.kept hb, h.z.below hb, kept_trans h.old hb⟩
set_option maxRecDepth 100000 in
set_option maxHeartbeats 32000000 in
theorem walk (A : Option Addr) (n c : Nat) (zs : List Int) (i1 i2 : Int) (x : Cl) (W : World) (hs : SliceIn W A n c zs) (hi1 : -9223372036854775808 ≤ i1 ∧ i1 ≤ 9223372036854775807) (hi2 : -9223372036854775808 ≤ i2 ∧ i2 ≤ 9223372036854775807) (hx : ClIn x) :
    Calls Tryz.prog 4 #[.slice A n c, .agg #[.int .i64 i1, .int .i64 i2], .agg (clC x)] W fun e w' => e = .returned (.bool true) ∧ Below W.heap.size W w' := by
  have h8 := hx.a
  have HIO := hide (show Ok (i1, i2) from ⟨hi1, hi2⟩)
  have HLI := hide (fun w => light_any x hx w)
  have hcn := CeAt.new h8 (W.alloc (.cells #[.int .i64 i1, .int .i64 i2] 30)) 38
  rw [show (W.alloc (.cells #[.int .i64 i1, .int .i64 i2] 30)).heap.size = W.heap.size + 1 by simp] at hcn
  have LB := hide (show Lb W ((W.alloc (.cells #[.int .i64 i1, .int .i64 i2] 30)).alloc (.cells (clC x) 38)) W.heap.size i1 i2 x A zs from ⟨(Row.new W _ _).alloc _, hcn, (hs.lies.alloc _).alloc _, kept_alloc (kept_alloc (kept_refl W) _) _⟩)
  have HS := hide hs
  have hle := hs.le
  have hroom := hs.room
  clear hs hi1 hi2 hx hcn
  go_enter Tryz.func4, Tryz.ntmps4
  go_upto_region 1 with (fail)
  generalize (W.alloc (.cells #[.int .i64 i1, .int .i64 i2] 30)).alloc (.cells (clC x) 38) = w1 at LB ⊢
  generalize hbi : W.heap.size = bi at LB ⊢
  go_upto_if 15 with (fail)
  go_cut [0] (fun s0 wx => ∃ k, k = min n 300 ∧ s0 = .slice A k c ∧ wx = w1)
  case first =>
    by_cases hn : 300 < n
    · have h1 : (300 : Int) < n := by omega
      have h2 : (300 : Int) ≤ c := by omega
      go_wp2
      go_meet
      exact ⟨300, by omega, rfl, rfl⟩
    · have h1 : ¬ (300 : Int) < n := by omega
      go_wp2
      go_meet
      exact ⟨n, by omega, rfl, rfl⟩
  case rest =>
  obtain ⟨k, hk, rfl, hwc⟩ := hcut
  have e := hwc.symm
  subst e
  have hkc : k ≤ c := by omega
  have hk300 : k ≤ 300 := by omega
  have YL := hide (show (zs.take k).length = k by rw [List.length_take, HS.out.len]; omega)
  have YO := hide (octets_take HS.out.oct k)
  have YN := hide HS.out.nil
  replace LB := hide (show Lb W w1 bi i1 i2 x A (zs.take k) from ⟨LB.out.r, LB.out.c, LB.out.z.take k, LB.out.old⟩)
  clear hk hle HS hroom
  generalize zs.take k = ys at YL YO LB
  have HP := hide (preplay_any A k c ys w1 YL.out LB.out.z YO.out YN.out (by omega))
  go_upto_region 4 with (first
    | (go_at_call 9; (with_reducible refine HP.out.mono ?_); rintro e wc1 ⟨a1, b1, y1, er1, rfl, hd, h8z, hb⟩; replace LB := hide (LB.out.kept hb); have HN := hide (two_new wc1); have HDR1 := hide hd; have H81 := hide h8z; clear hd h8z hb HP)
    | ((with_reducible refine wpList_store_in (p := a1) (q := b1) ?_ ?_ HN.out.r ?_); rfl; rfl; intro wy1 hn hg; replace HN := hide (HN.out.put1 hn hg); clear hn hg)
    | ((with_reducible refine wpList_store_xw (y := y1) H81.out ?_ ?_ HN.out.c ?_); rfl; rfl; intro wz1 hn hg; replace HN := hide (HN.out.put2 hn hg); clear hn hg))

  have HP1 := hide HN.out.p
  replace LB := hide (LB.out.kept HN.out.low)
  clear HN
  generalize wc1.heap.size = q1 at HP1 ⊢
  have HP := hide (rreplay_any A k c ys wz1 YL.out LB.out.z YO.out (by omega) (by omega))
  go_upto_region 5 with (first
    | (go_at_call 16; (with_reducible refine HP.out.mono ?_); rintro e wc2 ⟨a2, b2, y2, er2, rfl, hd, h8z, hb⟩; replace LB := hide (LB.out.kept hb); replace HP1 := hide (HP1.out.kept hb); have HN := hide (two_new wc2); have HDR2 := hide hd; have H82 := hide h8z; clear hd h8z hb HP)
    | ((with_reducible refine wpList_store_in (p := a2) (q := b2) ?_ ?_ HN.out.r ?_); rfl; rfl; intro wy2 hn hg; replace HN := hide (HN.out.put1 hn hg); clear hn hg)
    | ((with_reducible refine wpList_store_xw (y := y2) H82.out ?_ ?_ HN.out.c ?_); rfl; rfl; intro wz2 hn hg; replace HN := hide (HN.out.put2 hn hg); clear hn hg))

  have HP2 := hide HN.out.p
  replace LB := hide (LB.out.kept HN.out.low)
  replace HP1 := hide (HP1.out.kept HN.out.low)
  clear HN YN YO YL
  generalize wc2.heap.size = q2 at HP2 ⊢
  have HE := HDR1.out.symm.trans HDR2.out
  simp only [Prod.mk.injEq] at HE
  obtain ⟨⟨rfl, rfl⟩, rfl, rfl⟩ := HE
  clear HDR1 HDR2 H82
  have h8y := H81.out
  have e0 : wz2.cell? ⟨q1, 0, none⟩ = some (.int .i64 a1) := HP1.out.r.cell 0
  have e1 : wz2.cell? ⟨q1, 1, none⟩ = some (.int .i64 b1) := HP1.out.r.cell 1
  have f0 : wz2.cell? ⟨q2, 0, none⟩ = some (.int .i64 a1) := HP2.out.r.cell 0
  have f1 : wz2.cell? ⟨q2, 1, none⟩ = some (.int .i64 b1) := HP2.out.r.cell 1
  have hsb : sameB a1 b1 a1 b1 = true := by unfold sameB; simp
  have hni := fun w => neq_inst a1 b1 a1 b1 w
  have hei := fun w => eql_inst a1 b1 a1 b1 w
  have hnc := fun w => neq_cell (x := y1) (y := y1) h8y h8y w
  have hec := fun w => eql_cell (x := y1) (y := y1) h8y h8y w
  rw [hsb] at hni hei
  rw [show sameCl y1 y1 = true from sameCl_iff.2 rfl] at hnc hec
  simp only [Bool.not_true] at hni hnc
  clear hsb
  cases hq : lightB x
  · simp only [hq] at HLI
    clear hq
    go_wp2_with (first
      | ((with_reducible refine wpList_load_ce h8y ?_ ?_ HP1.out.c.all ?_); rfl; rfl)
      | ((with_reducible refine wpList_load_ce h8y ?_ ?_ HP2.out.c.all ?_); rfl; rfl)
      | ((with_reducible refine wpList_load_ce h8 ?_ ?_ LB.out.c.all ?_); rfl; rfl)
      | (go_at_call 6; (with_reducible refine (HLI.out _).mono ?_); rintro e w5 ⟨rfl, hb⟩; replace LB := hide (LB.out.kept hb); replace HP1 := hide (HP1.out.kept hb); replace HP2 := hide (HP2.out.kept hb); clear hb e0 e1 f0 f1; have e0 : w5.cell? ⟨q1, 0, none⟩ = some (.int .i64 a1) := HP1.out.r.cell 0; have e1 : w5.cell? ⟨q1, 1, none⟩ = some (.int .i64 b1) := HP1.out.r.cell 1; have f0 : w5.cell? ⟨q2, 0, none⟩ = some (.int .i64 a1) := HP2.out.r.cell 0; have f1 : w5.cell? ⟨q2, 1, none⟩ = some (.int .i64 b1) := HP2.out.r.cell 1)
      | (go_at_call 15; (with_reducible refine (runs_any _).mono ?_); rintro e w6 ⟨rfl, hb⟩; replace LB := hide (LB.out.kept hb); clear hb e0 e1 f0 f1))
    go_ret
    exact ⟨rfl, LB.out.old⟩
  · simp only [hq] at HLI
    have HQL := hide hq
    clear hq
    go_upto_region 7 with (first
      | ((with_reducible refine wpList_load_ce h8y ?_ ?_ HP1.out.c.all ?_); rfl; rfl)
      | ((with_reducible refine wpList_load_ce h8y ?_ ?_ HP2.out.c.all ?_); rfl; rfl)
      | ((with_reducible refine wpList_load_ce h8 ?_ ?_ LB.out.c.all ?_); rfl; rfl)
      | (go_at_call 6; (with_reducible refine (HLI.out _).mono ?_); rintro e w5 ⟨rfl, hb⟩; replace LB := hide (LB.out.kept hb); clear hb e0 e1 f0 f1))
    clear HP1 HP2 hni hei hnc hec
    have HRC := hide (fun w => rrightcell_any x h8 w)
    cases hr : rightCl x
    · rw [hr] at HRC
      clear hr
      go_wp2_with (first
        | ((with_reducible refine wpList_load_ce h8 ?_ ?_ LB.out.c.all ?_); rfl; rfl)
        | (go_at_call 17; (with_reducible refine (HRC.out _).mono ?_); rintro e w6 ⟨rfl, hb⟩; replace LB := hide (LB.out.kept hb); clear hb)
        | (go_at_call 15; (with_reducible refine (runs_any _).mono ?_); rintro e w7 ⟨rfl, hb⟩; replace LB := hide (LB.out.kept hb); clear hb))
      go_ret
      exact ⟨rfl, LB.out.old⟩
    · rw [hr] at HRC
      have HRR := hide hr
      have HSH := hide (encRec_short (i := (i1, i2)) h8 hr HQL.out)
      clear hr
      go_upto_region 9 with (first
        | ((with_reducible refine wpList_load_ce h8 ?_ ?_ LB.out.c.all ?_); rfl; rfl)
        | (go_at_call 17; (with_reducible refine (HRC.out _).mono ?_); rintro e w9 ⟨rfl, hb⟩; replace LB := hide (LB.out.kept hb); clear hb))
      have HQ := hide (fun (wz : World) (k : Below w9.heap.size w9 wz) => LB.out.kept k)
      refine wp_region_noPanic ?_
      refine wp_region_U 10 (fun wz => Below w9.heap.size w9 wz) (by kernel_rfl) ?_
      have HD := hide (show Below w9.heap.size w9 w9.drew from kept_drewN (kept_refl _) 1)
      generalize w9.drew = wd at HD ⊢
      refine anyU_take2 (i := 0) (v := .agg #[.int .i64 i1, .int .i64 i2]) (by simp only [List.getElem?_toArray, List.getElem?_cons_zero]; exact rfl) (by kernel_rfl) 12 (by kernel_rfl) (by kernel_rfl) (fun _ _ _ h => h) (by kernel_rfl) (by kernel_rfl) (by kernel_rfl) (by kernel_rfl) (Or.inl ⟨by rfl, fun w hSw => (by have x0 : w.cell? ⟨bi, 0, none⟩ = some (.int .i64 i1) := (HQ.out _ hSw).r.cell 0; have x1 : w.cell? ⟨bi, 1, none⟩ = some (.int .i64 i2) := (HQ.out _ hSw).r.cell 1; go_simp; try with_reducible rfl)⟩) (by with_reducible exact HD.out) ?_
      try simp only [Act.put, List.setIfInBounds_toArray, List.set_cons_zero, List.set_cons_succ]
      refine anyU_take2 (i := 1) (v := .agg (clC x)) (by simp only [List.getElem?_toArray, List.getElem?_cons_succ, List.getElem?_cons_zero]; exact rfl) (by kernel_rfl) 12 (by kernel_rfl) (by kernel_rfl) (fun _ _ _ h => h) (by kernel_rfl) (by kernel_rfl) (by kernel_rfl) (by kernel_rfl) (Or.inl ⟨by rfl, fun w hSw => exec_load_gp rfl rfl (HQ.out _ hSw).c.all ce_under rfl (by rw [Cl.len h8]; exact ce_info)⟩) (by with_reducible exact HD.out) ?_
      try simp only [Act.put, List.setIfInBounds_toArray, List.set_cons_zero, List.set_cons_succ]
      refine anyU_take2 (i := 3) (v := .agg #[.int .i64 i1, .int .i64 i2]) (by simp only [List.getElem?_toArray, List.getElem?_cons_succ, List.getElem?_cons_zero]; exact rfl) (by kernel_rfl) 12 (by kernel_rfl) (by kernel_rfl) (fun _ _ _ h => h) (by kernel_rfl) (by kernel_rfl) (by kernel_rfl) (by kernel_rfl) (Or.inl ⟨by rfl, fun w hSw => (by have x0 : w.cell? ⟨bi, 0, none⟩ = some (.int .i64 i1) := (HQ.out _ hSw).r.cell 0; have x1 : w.cell? ⟨bi, 1, none⟩ = some (.int .i64 i2) := (HQ.out _ hSw).r.cell 1; go_simp; try with_reducible rfl)⟩) (by with_reducible exact HD.out) ?_
      try simp only [Act.put, List.setIfInBounds_toArray, List.set_cons_zero, List.set_cons_succ]
      refine anyU_take2 (i := 4) (v := .agg (clC x)) (by simp only [List.getElem?_toArray, List.getElem?_cons_succ, List.getElem?_cons_zero]; exact rfl) (by kernel_rfl) 12 (by kernel_rfl) (by kernel_rfl) (fun _ _ _ h => h) (by kernel_rfl) (by kernel_rfl) (by kernel_rfl) (by kernel_rfl) (Or.inl ⟨by rfl, fun w hSw => exec_load_gp rfl rfl (HQ.out _ hSw).c.all ce_under rfl (by rw [Cl.len h8]; exact ce_info)⟩) (by with_reducible exact HD.out) ?_
      try simp only [Act.put, List.setIfInBounds_toArray, List.set_cons_zero, List.set_cons_succ]
      refine anyU_one (i := 2) (by kernel_rfl) (by simp only [List.getElem?_toArray, List.getElem?_cons_succ, List.getElem?_cons_zero]; exact rfl) (fun K hK => ?_)
      try go_simp
      refine (precord_any (i1, i2) x HIO.out h8 _).mono ?_
      rintro e wa ⟨y1, rfl, hy, hb⟩
      replace HD := hide (kept_trans HD.out hb)
      have Y1 := hide hy.sl
      clear hy hb
      refine hK.out _ _ (fun _ _ => HD.out) ?_
      clear hK K
      try simp only [Act.put, List.setIfInBounds_toArray, List.set_cons_zero, List.set_cons_succ]
      refine anyU_one (i := 5) (by kernel_rfl) (by simp only [List.getElem?_toArray, List.getElem?_cons_succ, List.getElem?_cons_zero]; exact rfl) (fun K hK => ?_)
      try go_simp
      refine (rrecord_any (i1, i2) x HIO.out h8 HRR.out _).mono ?_
      rintro e wb ⟨y2, rfl, hy, hb⟩
      replace HD := hide (kept_trans HD.out hb)
      replace Y1 := hide (Y1.out.below hb)
      have Y2 := hide hy.sl
      clear hy hb
      refine hK.out _ _ (fun _ _ => HD.out) ?_
      clear hK K
      try simp only [Act.put, List.setIfInBounds_toArray, List.set_cons_zero, List.set_cons_succ]
      refine anyU_one (i := 6) (by kernel_rfl) (by simp only [List.getElem?_toArray, List.getElem?_cons_succ, List.getElem?_cons_zero]; exact rfl) (fun K hK => ?_)
      try go_simp
      refine (same_made Y1.out Y2.out HSH.out).mono ?_
      rintro e wc ⟨rfl, hb⟩
      replace HD := hide (kept_trans HD.out hb)
      clear hb
      refine hK.out _ _ (fun _ _ => HD.out) ?_
      clear hK K
      try simp only [Act.put, List.setIfInBounds_toArray, List.set_cons_zero, List.set_cons_succ]
      refine anyU_take2 (i := 7) (v := .bool true) (by simp only [List.getElem?_toArray, List.getElem?_cons_succ, List.getElem?_cons_zero]; exact rfl) (by kernel_rfl) 12 (by kernel_rfl) (by kernel_rfl) (fun _ _ _ h => h) (by kernel_rfl) (by kernel_rfl) (by kernel_rfl) (by kernel_rfl) (Or.inl ⟨by rfl, fun w hSw => (by go_simp; try with_reducible rfl)⟩) (by with_reducible exact HD.out) ?_
      try simp only [Act.put, List.setIfInBounds_toArray, List.set_cons_zero, List.set_cons_succ]
      refine anyU_one (i := 8) (by kernel_rfl) (by simp only [List.getElem?_toArray, List.getElem?_cons_succ, List.getElem?_cons_zero]; exact rfl) (fun K hK => ?_)
      try go_simp
      refine (runs_any _).mono ?_
      rintro e wd2 ⟨rfl, hb⟩
      replace HD := hide (kept_trans HD.out hb)
      clear hb
      refine hK.out _ _ (fun _ _ => HD.out) ?_
      clear hK K
      try simp only [Act.put, List.setIfInBounds_toArray, List.set_cons_zero, List.set_cons_succ]
      refine anyU_take2 (i := 9) (v := .bool true) (by simp only [List.getElem?_toArray, List.getElem?_cons_succ, List.getElem?_cons_zero]; exact rfl) (by kernel_rfl) 12 (by kernel_rfl) (by kernel_rfl) (fun _ _ _ h => h) (by kernel_rfl) (by kernel_rfl) (by kernel_rfl) (by kernel_rfl) (Or.inl ⟨by rfl, fun w hSw => (by go_simp; try with_reducible rfl)⟩) (by with_reducible exact HD.out) ?_
      try simp only [Act.put, List.setIfInBounds_toArray, List.set_cons_zero, List.set_cons_succ]
      refine anyU_one (i := 10) (by kernel_rfl) (by simp only [List.getElem?_toArray, List.getElem?_cons_succ, List.getElem?_cons_zero]; exact rfl) (fun K hK => ?_)
      try go_simp
      refine hK.out _ _ (fun e _ => absurd rfl e) ?_
      clear hK K
      try simp only [Act.put]
      refine anyU_done (by kernel_rfl) ?_
      refine NoPanic.normal ?_
      try simp only [Act.put]
      go_wp2
      go_ret
      exact ⟨rfl, kept_trans LB.out.old HD.out⟩
set_option maxRecDepth 100000 in
theorem lifted (os : Os) (started : os.Started) (H : Type) (enc : TypeId × Value → H) :
    ReturnsInHanded {} Tryz.checked os 4 .any (Rows.logBytesSpec.pre6 enc Tryz.prog Tryz.f4 Rows.logBytesRow.domain false) (Rows.logBytesSpec.post enc Tryz.prog Tryz.f4 false true false false) := by
  refine returnsInHanded_of_change_sized (C := Tryz.checked) own started (by kernel_rfl) Tryz.func4
    (ChangeSpec.witness6 (enc := enc) (C := Tryz.checked) false ⟨#[], #[.slice none 0 0, .agg #[.int .i64 0, .int .i64 0], .agg #[.int .i64 0, .int .i64 0, .int .i64 0, .int .i64 0, .int .i64 0, .int .i64 0, .int .i64 0, .int .i64 0, .string ⟨#[]⟩, .string ⟨#[]⟩, .string ⟨#[]⟩, .string ⟨#[]⟩, .int .i64 0, .int .i64 0, .int .i64 0, .int .i64 0, .int .i64 0, .int .i64 0, .int .i64 0, .int .i64 0, .bool false]], []⟩ 8 (by kernel_rfl) (by kernel_rfl) (by kernel_rfl) (by kernel_rfl)) ?_
  intro W base args ds gs before hval0 hW _ hsz0 _
  have hval : ∀ (j : Nat) t v, Tryz.f4.params[j]? = some t → args[j]? = some v → Value.okWide Tryz.prog W .any base t v := hval0
  have hW' := hW
  obtain ⟨p, q, hA0, hV, rfl, _, _⟩ := hW
  have hA : DataW.TrodAll enc Tryz.prog W 0 (fun _ => true) true Tryz.f4.params.toList args.toList ds p := hA0
  have hsz : (DataW.weightsEach Tryz.prog (Tryz.f4.params.toList ++ Rows.logBytesSpec.plain.varTypes Tryz.prog) (ds ++ gs)).all (· ≤ reachBytes) = true := hsz0
  rw [Tryz.params4] at hA hval hsz
  obtain ⟨v0, vs0, d0, ds0, p0, q0, hargs, rfl, rfl, h0, r0⟩ := trodAll_cons hA
  obtain ⟨v1, vs1, d1, ds1, p1, q1, rfl, rfl, rfl, h1, r1⟩ := trodAll_cons r0
  obtain ⟨v2, vs2, d2, ds2, p2, q2, rfl, rfl, rfl, h2, r2⟩ := trodAll_cons r1
  obtain ⟨rfl, rfl, rfl⟩ := trodAll_nil r2
  obtain rfl : args = #[v0, v1, v2] := by cases args; simp_all
  obtain ⟨rfl, rfl⟩ := trodVars_none hV
  have k0 := h0
  have lt0 : ∀ x ∈ p0, x.block < W.heap.size := by obtain ⟨m, hm⟩ := k0; exact DataW.trod_lt m _ _ _ hm
  obtain ⟨A0, n0, c0, rfl⟩ := okWide_slice Tryz.underlying42 (hval 0 42 v0 rfl rfl)
  obtain ⟨z0, s0⟩ := slice_in (j := 0) h0 hsz rfl rfl
  have k1 := h1
  have lt1 : ∀ x ∈ p1, x.block < W.heap.size := by obtain ⟨m, hm⟩ := k1; exact DataW.trod_lt m _ _ _ hm
  obtain ⟨x1, y1, rfl, bx1, by1⟩ := inst_in (hval 1 30 v1 rfl rfl) h1
  have k2 := h2
  have lt2 : ∀ x ∈ p2, x.block < W.heap.size := by obtain ⟨m, hm⟩ := k2; exact DataW.trod_lt m _ _ _ hm
  obtain ⟨x2, rfl, s2⟩ := cell_in (j := 2) (hval 2 38 v2 rfl rfl) h2 hsz rfl rfl
  clear hA0 hval0
  refine (walk A0 n0 c0 z0 x1 y1 x2 W s0 bx1 by1 s2).mono fun e W' ⟨he, bel⟩ => ?_
  subst he
  exact ⟨_, rfl, _, _, _, [], _, [], hW', trodAll_mk1 (shut_bool Tryz.underlying4 _), (trodAll_cons_mk (Below.trod laidOut (by kernel_rfl) (of_decide_eq_true (by kernel_rfl)) k0 bel lt0) (trodAll_cons_mk (Below.trod laidOut (by kernel_rfl) (of_decide_eq_true (by kernel_rfl)) k1 bel lt1) (trodAll_cons_mk (Below.trod laidOut (by kernel_rfl) (of_decide_eq_true (by kernel_rfl)) k2 bel lt2) trodAll_mk0))), rfl, bel.frame _, fun h => by cases h⟩
theorem over : Rows.logBytesRow.holds Tryz.pinned (OpenSpec.ofChange Rows.logBytesSpec) :=
  OpenClaim.holds_of_wide 4 Tryz.f4 rfl rfl rfl rfl rfl rfl rfl ⟨rfl, rfl, rfl, rfl, rfl⟩ rfl rfl rfl rfl rfl (by kernel_rfl) Tryz.func4 (by kernel_rfl)
    (of_decide_eq_true (by kernel_rfl)) (by unfold Func.isWrapper; first | (rw [if_pos (by decide +kernel)]; kernel_rfl) | (rw [if_neg (by decide +kernel)]; exact ⟨rfl, rfl⟩))
    (fun os started H enc _ => lifted os started H enc)
theorem proved : Rows.LogBytesSaid := over
end Go.Proofs.YtiaegloipnhhdaaGreat.logBytes
