/- The program's Apply. Conditions: the state's lists lie in memory, its pairs rise, they are not many. -/
import Derived.Test.YtahfpncfkcfogaaGm
import Derived.Test.YtahfpncfkcfogaaGr
import Derived.Test.YtahfpncfkcfogaaGi
namespace Go.Proofs.Ytahfpncfkcfogaa
set_option maxRecDepth 100000
open Go.RowKit
theorem apply_zero {s : Sm} {x : Cm} (h : sameC x c_zeroC = true) : applyP s x = (s, zeroR) := by unfold applyP; rw [if_pos h]
theorem apply_bad {s : Sm} {x : Cm} (h : sameC x c_zeroC = false) (hr : rightC x = false) : applyP s x = (s, errR 1) := by unfold applyP; rw [if_neg (by rw [h]; simp), if_pos hr]
theorem apply_at {s : Sm} {x : Cm} (h : sameC x c_zeroC = false) (hr : rightC x = true) : applyP s x = if (lookO s.o x.c x.q).1 = 2 then (s, (lookO s.o x.c x.q).2) else if (lookO s.o x.c x.q).1 = 3 then (s, errR 9) else (⟨(runP s.l x).1, noteO s.o x.c x.q (runP s.l x).2⟩, (runP s.l x).2) := by unfold applyP; rw [if_neg (by rw [h]; simp), if_neg (by rw [hr]; simp)]
theorem look_kind (l : List Ow) {c s : Int} (h : cliB c = true) : (lookO l c s).1 = 1 ∨ (lookO l c s).1 = 2 ∨ (lookO l c s).1 = 3 := by
  unfold lookO
  rw [if_pos h]
  unfold seenO
  split
  · exact .inl rfl
  · split
    · exact .inr (.inr rfl)
    · exact .inr (.inl rfl)
theorem right_cli {x : Cm} (h : rightC x = true) (hz : sameC x c_zeroC = false) : cliB x.c = true := by
  obtain ⟨_, _, _, hc, _⟩ := rc_says h hz
  exact cli_in hc
set_option maxHeartbeats 8000000 in
theorem apply_any (p : Value) (L : List Co) (s : Sm) (x : Cm) (w : World) (h : IsS w p L s) (hu : Up s.l) (ln : s.l.length ≤ 1000) :
    Calls Try.prog 16 #[.agg (stc p L), valC x] w (AnsS true w (applyP s x)) := by
  obtain ⟨k, c, q, key, en, old, val⟩ := x
  show Calls Try.prog 16 #[.agg (stc p L), .agg #[.int .i64 k, .int .i64 c, .int .i64 q, .string key, .string en, .string old, .string val]] w _
  obtain ⟨Ap, cp, hp, _⟩ := h.pin
  subst hp
  have HS := hide h
  have H8 := hide h.fine.1
  have heq := eql_cmd k c q key en old val 0 0 0 { data := #[] } { data := #[] } { data := #[] } { data := #[] } w
  have heq := fun w => eql_cmd k c q key en old val 0 0 0 { data := #[] } { data := #[] } { data := #[] } { data := #[] } w
  have HR := hide (fun w1 => c_right_any k c q key en old val w1)
  have HN := hide (B1.new w (.slice Ap s.l.length cp) L ⟨k, c, q, key, en, old, val⟩)
  have HU := hide hu
  clear h hu
  obtain ⟨tz, hz⟩ : ∃ t, sameC ⟨k, c, q, key, en, old, val⟩ ⟨0, 0, 0, { data := #[] }, { data := #[] }, { data := #[] }, { data := #[] }⟩ = t := ⟨_, rfl⟩
  rw [hz] at heq
  have HZ := hide hz
  clear hz
  go_enter Try.func16, Try.ntmps16
  go_upto_region 1 with (fail)
  rw [zero_state]
  have hw : (((w.alloc (.cells (stc (.slice Ap s.l.length cp) L) 30)).alloc (.cells #[.int .i64 k, .int .i64 c, .int .i64 q, .string key, .string en, .string old, .string val] 35)).alloc (.cells (stc (.slice none 0 0) zeroL) 30)).alloc (.cells #[.int .i64 0, .bool false, .string { data := #[] }, .int .i64 0, .slice none 0 0] 25) = (((w.alloc (.cells (stc (.slice Ap s.l.length cp) L) 30)).alloc (.cells (rowC ⟨k, c, q, key, en, old, val⟩) 35)).alloc (.cells (stc (.slice none 0 0) zeroL) 30)).alloc (.cells (reV zeroR (.slice none 0 0)) 25) := rfl
  rw [hw]
  clear hw
  generalize (((w.alloc (.cells (stc (.slice Ap s.l.length cp) L) 30)).alloc (.cells (rowC ⟨k, c, q, key, en, old, val⟩) 35)).alloc (.cells (stc (.slice none 0 0) zeroL) 30)).alloc (.cells (reV zeroR (.slice none 0 0)) 25) = w1 at HN ⊢
  have HS1 := hide (HS.out.below HN.out.bel)
  obtain ⟨a0, a1, a2, a3, a4, a5, a6⟩ := (seven_of HN.out.rc).cells
  dsimp only at a0 a1 a2 a3 a4 a5 a6
  have G3 := hide HN.out.rr.lt
  cases tz
  case true =>
    have HA := hide (sapart_any _ L s w1 HS1.out)
    have RS := hide HN.out.rs
    go_wp2_with (first
      | ((with_reducible refine wpList_load49 ?_ RS.out H8.out ?_); rfl)
      | (go_at_call 36; (with_reducible refine HA.out.mono ?_); rintro e w8 ⟨p8, M8, rfl, hn8, hb8⟩; have FN := hide ((HN.out.below hb8).fin0 (T := true) (r := zeroR) hn8 HN.out.rr.lt rfl); have H88 := hide hn8.eight; have H81 := hide hn8.one; clear hn8 hb8)
      | ((with_reducible refine wpList_store49 ?_ ?_ H81.out FN.out.rz (L := zeroL) rfl H88.out ?_); rfl; rfl; obtain ⟨⟨i0, i1, i2, i3, i4⟩, j0, j1, j2, j3, j4⟩ := FN.out.cells))
    refine bodyPost_ret (results_sr Try.results16 rfl FN.out.row2 H88.out rfl FN.out.row3) rfl ?_
    rw [apply_zero (by exact HZ.out)]
    exact FN.out.ans
  have HR1 := hide (HR.out w1)
  obtain ⟨tr, hr⟩ : ∃ t, rightC ⟨k, c, q, key, en, old, val⟩ = t := ⟨_, rfl⟩
  rw [hr] at HR1
  have KR := hide hr
  clear hr
  cases tr
  case false =>
    go_upto_region 4 with (go_at_call 27; (with_reducible refine HR1.out.mono ?_); rintro e w2 ⟨rfl, hb2⟩)
    have HN2 := hide (HN.out.below hb2)
    have HA := hide (sapart_any _ L s w2 (HS1.out.below hb2))
    have RS := hide HN2.out.rs
    have G32 := hide HN2.out.rr.lt
    clear hb2
    go_wp2_with (first
      | ((with_reducible refine wpList_load49 ?_ RS.out H8.out ?_); rfl)
      | (go_at_call 36; (with_reducible refine HA.out.mono ?_); rintro e w8 ⟨p8, M8, rfl, hn8, hb8⟩; have FN := hide ((HN2.out.below hb8).fin0 (T := true) (r := errR 1) hn8 HN2.out.rr.lt rfl); have H88 := hide hn8.eight; have H81 := hide hn8.one; clear hn8 hb8)
      | ((with_reducible refine wpList_store49 ?_ ?_ H81.out FN.out.rz (L := zeroL) rfl H88.out ?_); rfl; rfl; obtain ⟨⟨i0, i1, i2, i3, i4⟩, j0, j1, j2, j3, j4⟩ := FN.out.cells))
    refine bodyPost_ret (results_sr Try.results16 rfl FN.out.row2 H88.out rfl FN.out.row3) rfl ?_
    rw [apply_bad (by exact HZ.out) KR.out]
    exact FN.out.ans
  go_upto_region 5 with (go_at_call 27; (with_reducible refine HR1.out.mono ?_); rintro e w2 ⟨rfl, hb2⟩)
  have HN2 := hide (HN.out.below hb2)
  have HS2 := hide (HS1.out.below hb2)
  clear hb2 HR1 HR HN HS1 a0 a1 a2 a3 a4 a5 a6 G3 heq
  obtain ⟨a0, a1, a2, a3, a4, a5, a6⟩ := (seven_of HN2.out.rc).cells
  dsimp only at a0 a1 a2 a3 a4 a5 a6
  have HL := hide (look_any L c q w2 HS2.out.fine)
  rw [HS2.out.is] at HL
  have RS := hide HN2.out.rs
  go_upto_region 6 with (first
    | ((with_reducible refine wpList_load8of ?_ RS.out H8.out ?_); rfl)
    | (go_at_call 38; (with_reducible refine HL.out.mono ?_); rintro e w3 ⟨q3, rfl, ho3, hb3⟩; obtain ⟨A3, c3, rfl, _, _, _, _⟩ := ho3.pin))
  have HB3 := hide (kept_trans hb3 (kept_alloc (kept_refl w3) (.cells (reV (lookO s.o c q).2 (.slice A3 (lookO s.o c q).2.l.length c3)) 25)))
  have HM3 := hide (ho3.below (kept_alloc (kept_refl w3) (.cells (reV (lookO s.o c q).2 (.slice A3 (lookO s.o c q).2.l.length c3)) 25)))
  have RT := hide (Row.new w3 25 (reV (lookO s.o c q).2 (.slice A3 (lookO s.o c q).2.l.length c3)))
  have HLN := hide (look_room (fine_room HS2.out.fine) c q)
  rw [HS2.out.is] at HLN
  unfold reV at HB3 HM3
  have hw : w3.alloc (.cells #[.int .i64 (lookO s.o c q).2.why, .bool (lookO s.o c q).2.fnd, .string (lookO s.o c q).2.val, .int .i64 (lookO s.o c q).2.ver, .slice A3 (lookO s.o c q).2.l.length c3] 25) = w3.alloc (.cells (reV (lookO s.o c q).2 (.slice A3 (lookO s.o c q).2.l.length c3)) 25) := rfl
  rw [hw]
  replace HB3 : Hid (Below w2.heap.size w2 (w3.alloc (.cells (reV (lookO s.o c q).2 (.slice A3 (lookO s.o c q).2.l.length c3)) 25))) := HB3
  replace HM3 : Hid (Mine w2.heap.size (w3.alloc (.cells (reV (lookO s.o c q).2 (.slice A3 (lookO s.o c q).2.l.length c3)) 25)) (.slice A3 (lookO s.o c q).2.l.length c3) (lookO s.o c q).2.l) := HM3
  have rtl : w.heap.size + 1 + 1 + 1 < w3.heap.size := Nat.lt_of_lt_of_le HN2.out.rr.lt hb3.size
  clear hw hb3 ho3
  generalize w3.alloc (.cells (reV (lookO s.o c q).2 (.slice A3 (lookO s.o c q).2.l.length c3)) 25) = w4 at HB3 HM3 RT ⊢
  have RTL := hide rtl
  clear rtl
  generalize w3.heap.size = gt at RT RTL ⊢
  have HK := look_kind s.o (c := c) (s := q) (right_cli KR.out (by exact HZ.out))
  have EA := hide (apply_at (s := s) (x := ⟨k, c, q, key, en, old, val⟩) (by exact HZ.out) KR.out)
  dsimp only at EA
  obtain ⟨V, hV⟩ : ∃ V, lookO s.o c q = V := ⟨_, rfl⟩
  rw [hV] at HM3 RT HK EA HLN
  rw [hV]
  clear hV HL
  obtain ⟨kind, told⟩ := V
  dsimp only at HM3 RT HK EA HLN ⊢
  have G3 := hide HN2.out.rr.lt
  have HN4 := hide (HN2.out.below HB3.out)
  have HS4 := hide (HS2.out.below HB3.out)
  clear HN2 HS2 RS a0 a1 a2 a3 a4 a5 a6
  obtain ⟨a0, a1, a2, a3, a4, a5, a6⟩ := (seven_of HN4.out.rc).cells
  dsimp only at a0 a1 a2 a3 a4 a5 a6
  obtain ⟨e0, e1, e2, e3, e4⟩ := RT.out.five
  rcases HK with rfl | rfl | rfl
  · have c0 := HN4.out.rs.pairs49
    obtain ⟨k1, k5⟩ : 1 ≤ k ∧ k ≤ 5 := by have := rc_says KR.out (by exact HZ.out); exact ⟨this.1, this.2.1⟩
    have HC := hide (act_any (.slice Ap s.l.length cp) s.l ⟨k, c, q, key, en, old, val⟩ w4 HS4.out.pin (by omega) k1 k5)
    have HLR := hide (run_len s.l ⟨k, c, q, key, en, old, val⟩)
    have HLL := hide (len_run HU.out ⟨k, c, q, key, en, old, val⟩)
    unfold valC at HC
    try dsimp only at HC
    obtain ⟨y, hy⟩ : ∃ y, runP s.l ⟨k, c, q, key, en, old, val⟩ = y := ⟨_, rfl⟩
    rw [hy] at HC HLR HLL EA
    clear hy k1 k5
    obtain ⟨l', R⟩ := y
    dsimp only at HLR HLL EA
    go_upto_region 12 with (go_at_call 39; (with_reducible refine HC.out.mono ?_); rintro e w5 ⟨v6, q6, rfl, hv6, hq6, hap, hb5⟩; obtain ⟨A6, c6, rfl, _, _, _, _⟩ := hv6.pin; obtain ⟨B6, d6, rfl, _, _, _, _⟩ := hq6.pin)
    have kb := kept_alloc (kept_refl w5) (.cells (reV R (.slice B6 R.l.length d6)) 25)
    have hb5s := hb5.size
    have HAP := hide hap
    have hb5s := hb5.size
    have HB5 := hide (kept_trans hb5 kb)
    have HV6 := hide (hv6.below kb)
    have HQ6 := hide (hq6.below kb)
    have RR := hide (Row.new w5 25 (reV R (.slice B6 R.l.length d6)))
    have hw : w5.alloc (.cells #[.int .i64 R.why, .bool R.fnd, .string R.val, .int .i64 R.ver, .slice B6 R.l.length d6] 25) = w5.alloc (.cells (reV R (.slice B6 R.l.length d6)) 25) := rfl
    try dsimp only
    rw [hw]
    clear hw hv6 hq6 hap hb5 kb a0 a1 a2 a3 a4 a5 a6 e0 e1 e2 e3 e4 c0 HC
    have GRL := hide hb5s
    clear hb5s
    generalize w5.alloc (.cells (reV R (.slice B6 R.l.length d6)) 25) = w6 at HB5 HV6 HQ6 RR ⊢
    generalize w5.heap.size = gr at RR GRL ⊢
    have G4 := hide HB3.out.size
    have G5 := hide HB5.out.size
    have RRL := hide (show w.heap.size + 1 + 1 + 1 < gr from by exact Nat.lt_of_lt_of_le (Nat.lt_of_lt_of_le G3.out G4.out) GRL.out)
    refine wp_region_noPanic ?_
    refine wp_region_T 12 (fun w' => Row w' w.heap.size 30 (stc (.slice Ap s.l.length cp) L) ∧ Row w' (w.heap.size + 1) 35 (rowC ⟨k, c, q, key, en, old, val⟩) ∧ Row w' gr 25 (reV R (.slice B6 R.l.length d6))) (by kernel_rfl) ?_
    have HD := hide (show (B1 w (World.drew w6) (.slice Ap s.l.length cp) L ⟨k, c, q, key, en, old, val⟩ ∧ Row (World.drew w6) gr 25 (reV R (.slice B6 R.l.length d6))) ∧ IsS (World.drew w6) (.slice Ap s.l.length cp) L s ∧ Mine w4.heap.size (World.drew w6) (.slice A6 l'.length c6) l' ∧ Mine w4.heap.size (World.drew w6) (.slice B6 R.l.length d6) R.l from ⟨⟨(HN4.out.below HB5.out).below (kept_drewN (kept_refl w6) 1), RR.out.drewN 1⟩, (HS4.out.below HB5.out).below (kept_drewN (kept_refl w6) 1), HV6.out.below (kept_drewN (kept_refl w6) 1), HQ6.out.below (kept_drewN (kept_refl w6) 1)⟩)
    have G6 := hide (show w6.heap.size ≤ (World.drew w6).heap.size from Nat.le_refl _)
    generalize World.drew _ = wd at HD G6 ⊢
    refine anyT_take (i := 0) (v := ?ov0_n) (by simp only [List.getElem?_toArray, List.getElem?_cons_zero]; exact rfl) (by kernel_rfl) (by kernel_rfl) (fun _ _ _ h => h) (by kernel_rfl) (by kernel_rfl) (Or.inl ⟨by rfl, ?oy0_n⟩) (by with_reducible exact ⟨HD.out.1.1.rs, HD.out.1.1.rc, HD.out.1.2⟩) ?or0_n
    case oy0_n => (intro w hSw; obtain ⟨a0, a1, a2, a3, a4, a5, a6⟩ := (seven_of hSw.2.1).cells; obtain ⟨e0, e1, e2, e3, e4⟩ := Row.five hSw.2.2; (try dsimp only at a0 a1 a2 a3 a4 a5 a6 e0 e1 e2 e3 e4); go_simp; try with_reducible rfl)
    try simp only [Act.put, List.setIfInBounds_toArray, List.set_cons_zero, List.set_cons_succ]
    refine anyT_take (i := 1) (v := ?ov1_n) (by simp only [List.getElem?_toArray, List.getElem?_cons_succ, List.getElem?_cons_zero]; exact rfl) (by kernel_rfl) (by kernel_rfl) (fun _ _ _ h => h) (by kernel_rfl) (by kernel_rfl) (Or.inl ⟨by rfl, ?oy1_n⟩) (by with_reducible exact ⟨HD.out.1.1.rs, HD.out.1.1.rc, HD.out.1.2⟩) ?or1_n
    case oy1_n => (intro w hSw; obtain ⟨a0, a1, a2, a3, a4, a5, a6⟩ := (seven_of hSw.2.1).cells; obtain ⟨e0, e1, e2, e3, e4⟩ := Row.five hSw.2.2; (try dsimp only at a0 a1 a2 a3 a4 a5 a6 e0 e1 e2 e3 e4); go_simp; try with_reducible rfl)
    try simp only [Act.put, List.setIfInBounds_toArray, List.set_cons_zero, List.set_cons_succ]
    refine anyT_take (i := 2) (v := .agg (arr L)) (by simp only [List.getElem?_toArray, List.getElem?_cons_succ, List.getElem?_cons_zero]; exact rfl) (by kernel_rfl) (by kernel_rfl) (fun _ _ _ h => h) (by kernel_rfl) (by kernel_rfl) (yields_load8of (x := .tmp 51) (by rfl) (by rfl) (by rfl) H8.out (fun _ h => h.1)) (by with_reducible exact ⟨HD.out.1.1.rs, HD.out.1.1.rc, HD.out.1.2⟩) ?_
    try simp only [Act.put, List.setIfInBounds_toArray, List.set_cons_zero, List.set_cons_succ]
    refine anyT_take (i := 3) (v := ?ov3_n) (by simp only [List.getElem?_toArray, List.getElem?_cons_succ, List.getElem?_cons_zero]; exact rfl) (by kernel_rfl) (by kernel_rfl) (fun _ _ _ h => h) (by kernel_rfl) (by kernel_rfl) (Or.inl ⟨by rfl, ?oy3_n⟩) (by with_reducible exact ⟨HD.out.1.1.rs, HD.out.1.1.rc, HD.out.1.2⟩) ?or3_n
    case oy3_n => (intro w hSw; obtain ⟨a0, a1, a2, a3, a4, a5, a6⟩ := (seven_of hSw.2.1).cells; obtain ⟨e0, e1, e2, e3, e4⟩ := Row.five hSw.2.2; (try dsimp only at a0 a1 a2 a3 a4 a5 a6 e0 e1 e2 e3 e4); go_simp; try with_reducible rfl)
    try simp only [Act.put, List.setIfInBounds_toArray, List.set_cons_zero, List.set_cons_succ]
    refine anyT_take (i := 4) (v := ?ov4_n) (by simp only [List.getElem?_toArray, List.getElem?_cons_succ, List.getElem?_cons_zero]; exact rfl) (by kernel_rfl) (by kernel_rfl) (fun _ _ _ h => h) (by kernel_rfl) (by kernel_rfl) (Or.inl ⟨by rfl, ?oy4_n⟩) (by with_reducible exact ⟨HD.out.1.1.rs, HD.out.1.1.rc, HD.out.1.2⟩) ?or4_n
    case oy4_n => (intro w hSw; obtain ⟨a0, a1, a2, a3, a4, a5, a6⟩ := (seven_of hSw.2.1).cells; obtain ⟨e0, e1, e2, e3, e4⟩ := Row.five hSw.2.2; (try dsimp only at a0 a1 a2 a3 a4 a5 a6 e0 e1 e2 e3 e4); go_simp; try with_reducible rfl)
    try simp only [Act.put, List.setIfInBounds_toArray, List.set_cons_zero, List.set_cons_succ]
    refine anyT_take (i := 5) (v := ?ov5_n) (by simp only [List.getElem?_toArray, List.getElem?_cons_succ, List.getElem?_cons_zero]; exact rfl) (by kernel_rfl) (by kernel_rfl) (fun _ _ _ h => h) (by kernel_rfl) (by kernel_rfl) (Or.inl ⟨by rfl, ?oy5_n⟩) (by with_reducible exact ⟨HD.out.1.1.rs, HD.out.1.1.rc, HD.out.1.2⟩) ?or5_n
    case oy5_n => (intro w hSw; obtain ⟨a0, a1, a2, a3, a4, a5, a6⟩ := (seven_of hSw.2.1).cells; obtain ⟨e0, e1, e2, e3, e4⟩ := Row.five hSw.2.2; (try dsimp only at a0 a1 a2 a3 a4 a5 a6 e0 e1 e2 e3 e4); go_simp; try with_reducible rfl)
    try simp only [Act.put, List.setIfInBounds_toArray, List.set_cons_zero, List.set_cons_succ]
    refine anyT_take (i := 6) (v := ?ov6_n) (by simp only [List.getElem?_toArray, List.getElem?_cons_succ, List.getElem?_cons_zero]; exact rfl) (by kernel_rfl) (by kernel_rfl) (fun _ _ _ h => h) (by kernel_rfl) (by kernel_rfl) (Or.inl ⟨by rfl, ?oy6_n⟩) (by with_reducible exact ⟨HD.out.1.1.rs, HD.out.1.1.rc, HD.out.1.2⟩) ?or6_n
    case oy6_n => (intro w hSw; obtain ⟨a0, a1, a2, a3, a4, a5, a6⟩ := (seven_of hSw.2.1).cells; obtain ⟨e0, e1, e2, e3, e4⟩ := Row.five hSw.2.2; (try dsimp only at a0 a1 a2 a3 a4 a5 a6 e0 e1 e2 e3 e4); go_simp; try with_reducible rfl)
    try simp only [Act.put, List.setIfInBounds_toArray, List.set_cons_zero, List.set_cons_succ]
    refine anyT_take (i := 7) (v := ?ov7_n) (by simp only [List.getElem?_toArray, List.getElem?_cons_succ, List.getElem?_cons_zero]; exact rfl) (by kernel_rfl) (by kernel_rfl) (fun _ _ _ h => h) (by kernel_rfl) (by kernel_rfl) (Or.inl ⟨by rfl, ?oy7_n⟩) (by with_reducible exact ⟨HD.out.1.1.rs, HD.out.1.1.rc, HD.out.1.2⟩) ?or7_n
    case oy7_n => (intro w hSw; obtain ⟨a0, a1, a2, a3, a4, a5, a6⟩ := (seven_of hSw.2.1).cells; obtain ⟨e0, e1, e2, e3, e4⟩ := Row.five hSw.2.2; (try dsimp only at a0 a1 a2 a3 a4 a5 a6 e0 e1 e2 e3 e4); go_simp; try with_reducible rfl)
    try simp only [Act.put, List.setIfInBounds_toArray, List.set_cons_zero, List.set_cons_succ]
    refine anyT_take (i := 10) (v := ?ov10_n) (by simp only [List.getElem?_toArray, List.getElem?_cons_succ, List.getElem?_cons_zero]; exact rfl) (by kernel_rfl) (by kernel_rfl) (fun _ _ _ h => h) (by kernel_rfl) (by kernel_rfl) (Or.inl ⟨by rfl, ?oy10_n⟩) (by with_reducible exact ⟨HD.out.1.1.rs, HD.out.1.1.rc, HD.out.1.2⟩) ?or10_n
    case oy10_n => (intro w hSw; obtain ⟨a0, a1, a2, a3, a4, a5, a6⟩ := (seven_of hSw.2.1).cells; obtain ⟨e0, e1, e2, e3, e4⟩ := Row.five hSw.2.2; (try dsimp only at a0 a1 a2 a3 a4 a5 a6 e0 e1 e2 e3 e4); go_simp; try with_reducible rfl)
    try simp only [Act.put, List.setIfInBounds_toArray, List.set_cons_zero, List.set_cons_succ]
    refine anyT_one (i := 8) (by kernel_rfl) (by simp only [List.getElem?_toArray, List.getElem?_cons_succ, List.getElem?_cons_zero]; exact rfl) (fun K hK => ?_)
    try go_simp
    refine (note_any L c q R B6 d6 wd HD.out.2.1.fine HD.out.2.2.2.pin (Nat.le_trans HLR.out (by omega))).mono ?_
    rintro e w7 ⟨M, rfl, hM, h8, hm, hb7⟩
    have HD7 := hide (show (B1 w w7 (.slice Ap s.l.length cp) L ⟨k, c, q, key, en, old, val⟩ ∧ Row w7 gr 25 (reV R (.slice B6 R.l.length d6))) from ⟨HD.out.1.1.below hb7, HD.out.1.2.below hb7 HD.out.1.2.lt⟩)
    have HRM := hide (note_room (fine_room HD.out.2.1.fine) (c := c) (s := q) (r := R) (Nat.le_trans HLR.out (by omega)))
    have HNW := hide (show NewS w4.heap.size w7 (.slice A6 l'.length c6) M ⟨l', noteO s.o c q R⟩ from ⟨HD.out.2.2.1.below hb7, Nat.le_trans HLL.out (by omega), h8, fun x hx => ⟨(hm x hx).mono (Nat.le_trans G5.out G6.out), HRM.out x.o (hM ▸ List.mem_map.2 ⟨x, hx, rfl⟩)⟩, hM.trans (by rw [HD.out.2.1.is])⟩)
    have HOF := hide (show ∀ k, (Value.slice B6 R.l.length d6).ownBlock = some k → OffS k (.slice A6 l'.length c6) M from fun k e => ⟨HAP.out k e, fun x hx => (hm x hx).offNew ((HD.out.2.2.2.blk k e).2)⟩)
    have FN := hide (HD7.out.1.fin (T := true) (s := ⟨l', noteO s.o c q R⟩) (r := R) (q := (.slice B6 R.l.length d6)) HNW.out (Nat.lt_of_lt_of_le G3.out G4.out) (HD.out.2.2.2.below hb7) (Nat.lt_of_lt_of_le G3.out G4.out) (Nat.le_trans HLR.out (by omega)) (fun _ => HOF.out))
    have H88 := hide h8
    refine hK.out _ _ (fun e => ⟨HD7.out.1.rs, HD7.out.1.rc, HD7.out.2⟩) ?_
    clear hK K
    try simp only [Act.put, List.setIfInBounds_toArray, List.set_cons_zero, List.set_cons_succ]
    refine anyT_take (i := 9) (v := .agg (stc (.slice A6 l'.length c6) M)) (by simp only [List.getElem?_toArray, List.getElem?_cons_succ, List.getElem?_cons_zero]; exact rfl) (by kernel_rfl) (by kernel_rfl) (fun _ _ _ h => h) (by kernel_rfl) (by kernel_rfl) (yields_both (x := .tmp 50) (y := .tmp 58) (by rfl) (by rfl) (by rfl) (by rfl) H88.out) (by with_reducible exact ⟨HD7.out.1.rs, HD7.out.1.rc, HD7.out.2⟩) ?_
    try simp only [Act.put, List.setIfInBounds_toArray, List.set_cons_zero, List.set_cons_succ]
    refine anyT_one (i := 11) (by kernel_rfl) (by simp only [List.getElem?_toArray, List.getElem?_cons_succ, List.getElem?_cons_zero]; exact rfl) (fun K hK => ?_)
    refine step_store49 (L := zeroL) (M := M) (by rfl) (by rfl) HNW.out.one FN.out.rz rfl H88.out ?_
    refine hK.out _ _ (fun e => ⟨HD7.out.1.rs.setRow_other (by omega) _, HD7.out.1.rc.setRow_other (by omega) _, HD7.out.2.setRow_other (by have := RRL.out; omega) _⟩) ?_
    clear hK K
    try simp only [Act.put]
    obtain ⟨⟨i0, i1, i2, i3, i4⟩, j0, j1, j2, j3, j4⟩ := FN.out.cells
    refine anyT_one (i := 12) (by kernel_rfl) (by simp only [List.getElem?_toArray, List.getElem?_cons_succ, List.getElem?_cons_zero]; exact rfl) (fun K hK => ?_)
    try go_simp
    refine hK.out _ _ (fun e => absurd rfl e) ?_
    clear hK K
    refine anyT_done (by kernel_rfl) ?_
    refine NoPanic.normal ?_
    try simp only [Act.put]
    go_wp2_with fail
    refine bodyPost_ret (results_sr Try.results16 rfl FN.out.row2 H88.out rfl FN.out.row3) rfl ?_
    rw [EA.out, if_neg (by decide), if_neg (by decide)]
    exact FN.out.ans
  · have G4 := hide HB3.out.size
    go_upto_region 8 with (fail)
    clear a0 a1 a2 a3 a4 a5 a6 e0 e1 e2 e3 e4
    refine wp_region_noPanic ?_
    refine wp_region_T 4 (fun w' => Row w' w.heap.size 30 (stc (.slice Ap s.l.length cp) L) ∧ Row w' gt 25 (reV told (.slice A3 told.l.length c3))) (by kernel_rfl) ?_
    have HD := hide (show (B1 w (World.drew w4) (.slice Ap s.l.length cp) L ⟨k, c, q, key, en, old, val⟩ ∧ Row (World.drew w4) gt 25 (reV told (.slice A3 told.l.length c3))) ∧ IsS (World.drew w4) (.slice Ap s.l.length cp) L s ∧ Mine w2.heap.size (World.drew w4) (.slice A3 told.l.length c3) told.l from ⟨⟨HN4.out.below (kept_drewN (kept_refl w4) 1), RT.out.drewN 1⟩, HS4.out.below (kept_drewN (kept_refl w4) 1), HM3.out.below (kept_drewN (kept_refl w4) 1)⟩)
    have G6 := hide (show w4.heap.size ≤ (World.drew w4).heap.size from Nat.le_refl _)
    generalize World.drew _ = wd at HD G6 ⊢
    refine anyT_take (i := 0) (v := .agg (stc (.slice Ap s.l.length cp) L)) (by simp only [List.getElem?_toArray, List.getElem?_cons_zero]; exact rfl) (by kernel_rfl) (by kernel_rfl) (fun _ _ _ h => h) (by kernel_rfl) (by kernel_rfl) (yields_load49 (x := .tmp 2) (by rfl) (by rfl) (by rfl) H8.out (fun _ h => h.1)) (by with_reducible exact ⟨HD.out.1.1.rs, HD.out.1.2⟩) ?_
    try simp only [Act.put, List.setIfInBounds_toArray, List.set_cons_zero, List.set_cons_succ]
    refine anyT_take (i := 2) (v := ?ov2_a) (by simp only [List.getElem?_toArray, List.getElem?_cons_succ, List.getElem?_cons_zero]; exact rfl) (by kernel_rfl) (by kernel_rfl) (fun _ _ _ h => h) (by kernel_rfl) (by kernel_rfl) (Or.inl ⟨by rfl, ?oy2_a⟩) (by with_reducible exact ⟨HD.out.1.1.rs, HD.out.1.2⟩) ?or2_a
    case oy2_a => (intro w hSw; obtain ⟨e0, e1, e2, e3, e4⟩ := Row.five hSw.2; (try dsimp only at e0 e1 e2 e3 e4); go_simp; try with_reducible rfl)
    try simp only [Act.put, List.setIfInBounds_toArray, List.set_cons_zero, List.set_cons_succ]
    refine anyT_one (i := 1) (by kernel_rfl) (by simp only [List.getElem?_toArray, List.getElem?_cons_succ, List.getElem?_cons_zero]; exact rfl) (fun K hK => ?_)
    try go_simp
    refine (sapart_any _ L s wd HD.out.2.1).mono ?_
    rintro e w8 ⟨p8, M8, rfl, hn8, hb8⟩
    have HD7 := hide (show (B1 w w8 (.slice Ap s.l.length cp) L ⟨k, c, q, key, en, old, val⟩ ∧ Row w8 gt 25 (reV told (.slice A3 told.l.length c3))) from ⟨HD.out.1.1.below hb8, HD.out.1.2.below hb8 HD.out.1.2.lt⟩)
    have FN := hide (HD7.out.1.fin (T := true) (s := s) (r := told) hn8 (Nat.lt_of_lt_of_le (Nat.lt_of_lt_of_le G3.out G4.out) G6.out) (HD.out.2.2.below hb8) G3.out HLN.out (fun _ k e => hn8.offNew ((HD.out.2.2.blk k e).2)))
    have H88 := hide hn8.eight
    have H81 := hide hn8.one
    clear hn8
    refine hK.out _ _ (fun e => ⟨HD7.out.1.rs, HD7.out.2⟩) ?_
    clear hK K
    try simp only [Act.put, List.setIfInBounds_toArray, List.set_cons_zero, List.set_cons_succ]
    refine anyT_one (i := 3) (by kernel_rfl) (by simp only [List.getElem?_toArray, List.getElem?_cons_succ, List.getElem?_cons_zero]; exact rfl) (fun K hK => ?_)
    refine step_store49 (L := zeroL) (M := M8) (by rfl) (by rfl) H81.out FN.out.rz rfl H88.out ?_
    refine hK.out _ _ (fun e => ⟨HD7.out.1.rs.setRow_other (by omega) _, HD7.out.2.setRow_other (by have := RTL.out; omega) _⟩) ?_
    clear hK K
    try simp only [Act.put]
    obtain ⟨⟨i0, i1, i2, i3, i4⟩, j0, j1, j2, j3, j4⟩ := FN.out.cells
    refine anyT_one (i := 4) (by kernel_rfl) (by simp only [List.getElem?_toArray, List.getElem?_cons_succ, List.getElem?_cons_zero]; exact rfl) (fun K hK => ?_)
    try go_simp
    refine hK.out _ _ (fun e => absurd rfl e) ?_
    clear hK K
    refine anyT_done (by kernel_rfl) ?_
    refine NoPanic.normal ?_
    try simp only [Act.put]
    go_wp2_with fail
    refine bodyPost_ret (results_sr Try.results16 rfl FN.out.row2 H88.out rfl FN.out.row3) rfl ?_
    rw [EA.out]
    first | rw [if_pos trivial] | rw [if_pos rfl]
    exact FN.out.ans
  · have HA := hide (sapart_any _ L s w4 HS4.out)
    have RS := hide HN4.out.rs
    clear e0 e1 e2 e3 e4
    go_wp2_with (first
      | ((with_reducible refine wpList_load49 ?_ RS.out H8.out ?_); rfl)
      | (go_at_call 36; (with_reducible refine HA.out.mono ?_); rintro e w8 ⟨p8, M8, rfl, hn8, hb8⟩; have FN := hide ((HN4.out.below hb8).fin0 (T := true) (r := errR 9) hn8 HN4.out.rr.lt rfl); have H88 := hide hn8.eight; have H81 := hide hn8.one; clear hn8 hb8)
      | ((with_reducible refine wpList_store49 ?_ ?_ H81.out FN.out.rz (L := zeroL) rfl H88.out ?_); rfl; rfl; obtain ⟨⟨i0, i1, i2, i3, i4⟩, j0, j1, j2, j3, j4⟩ := FN.out.cells))
    refine bodyPost_ret (results_sr Try.results16 rfl FN.out.row2 H88.out rfl FN.out.row3) rfl ?_
    rw [EA.out, if_neg (by decide)]
    first | rw [if_pos trivial] | rw [if_pos rfl]
    exact FN.out.ans
end Go.Proofs.Ytahfpncfkcfogaa
/- Replies in a row of the call's own; commands in a slice; what many commands leave. No condition: nothing here speaks of a function. -/
namespace Go.Proofs.Ytahfpncfkcfogaa
set_option maxRecDepth 100000
open Go.RowKit
/-- A reply with its slice of pairs. -/
structure Cr where
  r : Re
  A : Option Addr
  c : Nat
def Cr.p (x : Cr) : Value := .slice x.A x.r.l.length x.c
def Cr.cs (x : Cr) : List Value := [.int .i64 x.r.why, .bool x.r.fnd, .string x.r.val, .int .i64 x.r.ver, x.p]
def crV (R : List Cr) : List (List Value) := R.map Cr.cs
theorem crV_all (R : List Cr) : AllV 5 (crV R) := fun x hx => by
  unfold crV at hx
  obtain ⟨p, _, rfl⟩ := List.mem_map.1 hx
  exact ⟨rfl, fun u hu => by simp [Cr.cs, Cr.p] at hu; rcases hu with rfl | rfl | rfl | rfl | rfl <;> rfl⟩
theorem crV_len (R : List Cr) : (crV R).length = R.length := List.length_map _
theorem crV_at {R : List Cr} {k : Nat} {x : Cr} (h : R[k]? = some x) : (crV R)[k]? = some x.cs := by unfold crV; rw [List.getElem?_map, h]; rfl
theorem crV_append (R T : List Cr) : crV (R ++ T) = crV R ++ crV T := List.map_append
theorem own_unlike {B : Nat} {v u : Value} {n m k l : Nat} {e f : TypeId} {xs ys : List Value} {w : World} (hne : e ≠ f) (h : w.ownsRow B e k v n xs) (g : w.ownsRow B f l u m ys) : v.ownBlock = none ∨ v.ownBlock ≠ u.ownBlock := by
  rcases h.2 with ⟨rfl, _⟩ | ⟨g1, c1, cur1, rfl, _, h1, _⟩
  · exact .inl rfl
  rcases g.2 with ⟨rfl, _⟩ | ⟨g2, c2, cur2, rfl, _, h2, _⟩
  · exact .inr (fun e => by cases e)
  · refine .inr (fun e => ?_)
    have e : some g1 = some g2 := e
    cases e
    rw [h1] at h2
    cases h2
    exact hne rfl
/-- An own row of replies. -/
structure Rps (b : Nat) (w : World) (v : Value) (R : List Cr) : Prop where
  row : w.ownsRow b 25 5 v R.length (cellsV (crV R))
  own : ∀ x, x ∈ R → Mine b w x.p x.r.l ∧ x.r.l.length ≤ 3518437208780
section
variable {b b' g : Nat} {w w' : World} {v : Value} {R : List Cr}
theorem Rps.nil_ (b : Nat) (w : World) : Rps b w (.slice none 0 0) [] := ⟨⟨rfl, .inl ⟨rfl, rfl⟩⟩, fun x hx => by cases hx⟩
theorem Rps.below (h : Rps b w v R) (hb : Below w.heap.size w w') : Rps b w' v R := ⟨h.row.kept (grown_below hb) (by cases v.ownBlock <;> simp), fun x hx => ⟨(h.own x hx).1.below hb, (h.own x hx).2⟩⟩
theorem Rps.mono (h : Rps b' w v R) (hb : b ≤ b') : Rps b w v R := ⟨⟨h.row.1, by
  rcases h.row.2 with h1 | ⟨g1, c1, cur1, e, h2, h3⟩
  · exact .inl h1
  · exact .inr ⟨g1, c1, cur1, e, Nat.le_trans hb h2, h3⟩⟩, fun x hx => ⟨(h.own x hx).1.mono hb, (h.own x hx).2⟩⟩
theorem Rps.blk (h : Rps b w v R) : ∀ k, v.ownBlock = some k → b ≤ k ∧ k < w.heap.size := fun k e => by
  rcases h.row.2 with ⟨rfl, _⟩ | ⟨g1, c1, cur1, rfl, hb, h1, _⟩
  · cases e
  · have e : some g1 = some k := e
    cases e
    exact ⟨hb, (Array.getElem?_eq_some_iff.1 h1).1⟩
/-- Through a write into a block that no part of it is. -/
theorem Rps.grownOff (h : Rps b w v R) (hg : w.grownBy w' (some g)) (h0 : v.ownBlock ≠ some g) (h1 : ∀ x, x ∈ R → Off x.p g) : Rps b w' v R :=
  ⟨h.row.kept hg (.inr h0), fun x hx => ⟨(h.own x hx).1.grownOff hg (h1 x hx), (h.own x hx).2⟩⟩
theorem Rps.apart (h : Rps b w v R) (hg : w.grownBy w' (some g)) (hlt : g < b) : Rps b w' v R :=
  h.grownOff hg (fun e => by have := (h.blk g e).1; omega) (fun x hx => (h.own x hx).1.offNew hlt)
/-- One more. -/
theorem Rps.more (h : Rps b w v R) {x : Cr} (hx : Mine b w x.p x.r.l) (ln : x.r.l.length ≤ 3518437208780) {v' : Value} (ho : w'.ownsRow b 25 5 v' (R.length + 1) (cellsV (crV R ++ crV [x]))) (hg : w.grownBy w' v.ownBlock) : Rps b w' v' (R ++ [x]) := by
  refine ⟨by rw [crV_append, List.length_append]; exact ho, fun y hy => ?_⟩
  have key : ∀ z : Cr, Mine b w z.p z.r.l → Mine b w' z.p z.r.l := fun z hz => by
    unfold Mine at hz ⊢
    exact hz.kept hg (own_unlike (by decide) hz h.row)
  rcases List.mem_append.1 hy with hy | hy
  · exact ⟨key y (h.own y hy).1, (h.own y hy).2⟩
  · obtain rfl := List.mem_singleton.1 hy
    exact ⟨key _ hx, ln⟩
/-- The cells of one. -/
theorem Rps.at_ (h : Rps b w v R) {k : Nat} {x : Cr} (hx : R[k]? = some x) : ∃ g c, v = .slice (some ⟨g, 0, none⟩) R.length c ∧ k < R.length ∧ R.length ≤ c ∧ c ≤ 9223372036854775807 ∧ g < w.heap.size ∧ w.cell? ⟨g, 0 + k * 5, none⟩ = some (.int .i64 x.r.why) ∧ w.cell? ⟨g, 0 + k * 5 + 1, none⟩ = some (.bool x.r.fnd) ∧ w.cell? ⟨g, 0 + k * 5 + 2, none⟩ = some (.string x.r.val) ∧ w.cell? ⟨g, 0 + k * 5 + 3, none⟩ = some (.int .i64 x.r.ver) ∧ w.cell? ⟨g, 0 + k * 5 + 4, none⟩ = some x.p := by
  have hk : k < R.length := by
    rcases Nat.lt_or_ge k R.length with h1 | h1
    · exact h1
    · rw [List.getElem?_eq_none h1] at hx; cases hx
  obtain ⟨A, c, e, hA, hn, hc, hz⟩ := own_form h.row
  subst e
  obtain ⟨he, _⟩ := els_own h.row (crV_all R) (by decide)
  obtain ⟨b0, o0, e0, hlt, hcell⟩ := he.at_ (crV_at hx)
  subst e0
  have := (hz _ rfl).2
  dsimp only at this
  subst this
  have hmx : maxLen ≤ 9223372036854775807 := by unfold maxLen; omega
  exact ⟨b0, c, rfl, hk, hn, Nat.le_trans hc hmx, hlt, hcell 0 (by omega), hcell 1 (by omega), hcell 2 (by omega), hcell 3 (by omega), hcell 4 (by omega)⟩
theorem Rps.form (h : Rps b w v R) : ∃ A c, v = .slice A R.length c ∧ (A = none → c = 0) ∧ R.length ≤ c ∧ c ≤ 9223372036854775807 := by
  obtain ⟨A, c, e, hA, hn, hc, hz⟩ := own_form h.row
  have hmx : maxLen ≤ 9223372036854775807 := by unfold maxLen; omega
  exact ⟨A, c, e, hA, hn, Nat.le_trans hc hmx⟩
end
theorem reply_parts : ∃ i, Try.prog.info? 25 = some i ∧ i.zero = some (.agg #[.int .i64 0, .bool false, .string ⟨#[]⟩, .int .i64 0, .slice none 0 0]) ∧ i.size = 5 ∧ i.bytes = 64 := 
  info_parts (show (Try.prog.info? 25).map (fun i => (i.zero, i.size, i.bytes)) = some (some (.agg #[.int .i64 0, .bool false, .string ⟨#[]⟩, .int .i64 0, .slice none 0 0]), 5, 64) by kernel_rfl)
theorem under_replies : Try.prog.underlying 31 = some (.slice 25) := by kernel_rfl
/-- append of one reply onto an own row, as a step of a drawn region. -/
theorem step_append_reply {ops : Array Oper} {o : Oper} {a : Act} {K : Act → World → Prop} {Q : Exit → Act → World → Prop} {E : Prop} {w : World} (hgd : o.guard = none) (s x : Operand)
    (ho : o.op = .call { callee := .builtin .append, args := #[s, x], argTypes := #[31, 31] })
    {b g : Nat} {v : Value} {R : List Cr} {y : Cr} {t : TypeId} (hs : a.eval s = v) (h : Rps b w v R) (hx : a.eval x = .slice (some ⟨g, 0, none⟩) 1 1) (hr : Row w g t #[.int .i64 y.r.why, .bool y.r.fnd, .string y.r.val, .int .i64 y.r.ver, y.p]) (hy : Mine b w y.p y.r.l) (ln : y.r.l.length ≤ 3518437208780) (hb : R.length ≤ 100000) (hbase : b ≤ w.heap.size)
    (hk : ∀ v' w', Rps b w' v' (R ++ [y]) → w.grownBy w' v.ownBlock → K (a.put o.dst v') w') : if Region.wanted o (yielded ops a.tmps) = true then Oper.wp Try.prog o a w K Q else E := by
  obtain ⟨i0, hi, hz0, hz1, hz2⟩ := reply_parts
  refine step_append_els hgd s x 31 ho b 25 i0 _ 64 under_replies hi hz0 hz1 hz2 (by omega) rfl v R.length (crV R) hs h.row (some ⟨g, 0, none⟩) 1 1 (crV [y]) hx (crV_all _) rfl (fun e => by cases e) (els_row hr (crV_all [y]) rfl) (by omega) (by omega) hbase ?_
  intro v' w' h1 h2
  exact hk v' w' (h.more hy ln h1 h2) h2
/-- Commands in a slice. -/
def cmV (cs : List Cm) : List (List Value) := cs.map Cm.l
theorem cmV_len (cs : List Cm) : (cmV cs).length = cs.length := List.length_map _
theorem cmV_at {cs : List Cm} {k : Nat} {x : Cm} (h : cs[k]? = some x) : (cmV cs)[k]? = some x.l := by unfold cmV; rw [List.getElem?_map, h]; rfl
theorem cmV_all (cs : List Cm) : AllV 7 (cmV cs) := fun x hx => by
  unfold cmV at hx
  obtain ⟨p, _, rfl⟩ := List.mem_map.1 hx
  exact ⟨rfl, fun u hu => by simp [Cm.l] at hu; rcases hu with rfl | rfl | rfl | rfl | rfl | rfl | rfl <;> rfl⟩
def CmL (w : World) (A : Option Addr) (cs : List Cm) : Prop := Els 7 w A (cmV cs)
theorem CmL.below {w w' : World} {A : Option Addr} {cs : List Cm} (h : CmL w A cs) (hb : Below w.heap.size w w') : CmL w' A cs := Els.below h hb
theorem CmL.at_ {w : World} {A : Option Addr} {cs : List Cm} (h : CmL w A cs) {k : Nat} {x : Cm} (hx : cs[k]? = some x) : ∃ b off, A = some ⟨b, off, none⟩ ∧ b < w.heap.size ∧ CmAt w b off k x := by
  obtain ⟨b, off, e, hlt, hc⟩ := Els.at_ h (cmV_at hx)
  exact ⟨b, off, e, hlt, hc 0 (by omega), hc 1 (by omega), hc 2 (by omega), hc 3 (by omega), hc 4 (by omega), hc 5 (by omega), hc 6 (by omega)⟩
def cmsL (it : Nat → Cm) (n : Nat) : List Cm := (List.range n).map it
theorem cmsL_len (it : Nat → Cm) (n : Nat) : (cmsL it n).length = n := by unfold cmsL; rw [List.length_map, List.length_range]
theorem cmsL_at (it : Nat → Cm) {n k : Nat} (h : k < n) : (cmsL it n)[k]? = some (it k) := by unfold cmsL; rw [List.getElem?_map, List.getElem?_range h]; rfl
theorem cmsL_take (it : Nat → Cm) {n m : Nat} (h : m ≤ n) : (cmsL it n).take m = cmsL it m := by unfold cmsL; rw [← List.map_take, List.take_range, Nat.min_eq_left h]
theorem CmsIn.cml {w : World} {A : Option Addr} {n c : Nat} {it : Nat → Cm} (h : CmsIn w A n c it) (m : Nat) (hm : m ≤ n) : CmL w A (cmsL it m) := fun hn => by
  have hm0 : 0 < m := by rw [cmV_len, cmsL_len] at hn; exact hn
  obtain ⟨b, off, e, hlt, _⟩ := h.at_ 0 (by omega)
  refine ⟨b, off, e, hlt, fun k x hk i hi => ?_⟩
  have hkm : k < m := by
    rcases Nat.lt_or_ge k m with h1 | h1
    · exact h1
    · rw [List.getElem?_eq_none (by rw [cmV_len, cmsL_len]; exact h1)] at hk; cases hk
  rw [cmV_at (cmsL_at it hkm)] at hk
  cases hk
  obtain ⟨b', off', e', _, ca⟩ := h.at_ k (by omega)
  rw [e] at e'
  cases e'
  match i, hi with
  | 0, _ => exact ca.c0
  | 1, _ => exact ca.c1
  | 2, _ => exact ca.c2
  | 3, _ => exact ca.c3
  | 4, _ => exact ca.c4
  | 5, _ => exact ca.c5
  | 6, _ => exact ca.c6
/-! ### What many commands leave -/
theorem apply_up {s : Sm} (h : Up s.l) (c : Cm) : Up (applyP s c).1.l ∧ (applyP s c).1.l.length ≤ s.l.length + 1 := by
  unfold applyP
  split
  · exact ⟨h, Nat.le_succ _⟩
  split
  · exact ⟨h, Nat.le_succ _⟩
  split
  · exact ⟨h, Nat.le_succ _⟩
  split
  · exact ⟨h, Nat.le_succ _⟩
  · exact ⟨up_run h c, len_run h c⟩
theorem play_snoc (cs : List Cm) (s : Sm) (c : Cm) : playP s (cs ++ [c]) = ((applyP (playP s cs).1 c).1, (playP s cs).2 ++ [(applyP (playP s cs).1 c).2]) := Prod.ext (playP_append cs [c] s).1 (playP_append cs [c] s).2
theorem play_up : ∀ (cs : List Cm) {s : Sm}, Up s.l → Up (playP s cs).1.l ∧ (playP s cs).1.l.length ≤ s.l.length + cs.length
  | [], _, h => ⟨h, Nat.le_refl _⟩
  | c :: r, s, h => by
    have h1 := apply_up h c
    have h2 := play_up r h1.1
    exact ⟨h2.1, by have := h1.2; have := h2.2; simp only [List.length_cons]; show (playP (applyP s c).1 r).1.l.length ≤ _; omega⟩
theorem take_snoc {cs : List Cm} {k : Nat} {x : Cm} (h : cs[k]? = some x) : cs.take (k + 1) = cs.take k ++ [x] := by rw [List.take_add_one, h]; rfl
theorem play_next {cs : List Cm} {k : Nat} {x : Cm} (s : Sm) (h : cs[k]? = some x) : playP s (cs.take (k + 1)) = ((applyP (playP s (cs.take k)).1 x).1, (playP s (cs.take k)).2 ++ [(applyP (playP s (cs.take k)).1 x).2]) := by rw [take_snoc h, play_snoc]
end Go.Proofs.Ytahfpncfkcfogaa
