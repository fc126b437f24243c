/- The document's PutLetter. Conditions: the lists are as long as they are. -/
import Derived.Test.YtlnpfaoeockoiaaWrv
import Derived.Test.YtlnpfaoeockoiaaWe
namespace Go.Proofs.Ytlnpfaoeockoiaa
set_option maxRecDepth 100000
open Go.RowKit
set_option maxHeartbeats 8000000 in
theorem rputletter_any (m : Lt) (wf : LtWf m) (w : World) : Calls Try.prog 18 #[.agg (ltC m)] w (MadeB w (encLt m)) := by
  have L0 := hide (LAt.new wf w 37)
  have HB := hide ((Below.refl w.heap.size w).alloc (Nat.le_refl _) (.cells (ltC m) 37))
  have HR := hide (fun w => rrightletter_any m wf w)
  cases hr : rightLt m
  · simp only [hr] at HR
    go_enter Try.func18, Try.ntmps18
    go_upto_region 1 with (fail)
    generalize w.alloc (.cells (ltC m) 37) = w1 at L0 HB ⊢
    go_wp2_with (first
      | ((with_reducible refine wpList_load_lt wf ?_ ?_ L0.out.all ?_); rfl; rfl)
      | (go_at_call 17; (with_reducible refine (HR.out _).mono ?_); rintro e w2 ⟨rfl, hb⟩; have HB := hide (kept_trans HB.out hb); clear hb))
    go_ret
    have e : encLt m = [] := by unfold encLt; rw [hr]; rfl
    rw [e]
    exact ⟨_, rfl, By.nil_ _ _, HB.out⟩
  · simp only [hr] at HR
    have ok := hide (rightLt_says hr)
    rw [encLt_right hr]
    go_enter Try.func18, Try.ntmps18
    go_upto_region 1 with (fail)
    generalize w.alloc (.cells (ltC m) 37) = w1 at L0 HB ⊢
    go_upto_region 3 with (first
      | ((with_reducible refine wpList_load_lt wf ?_ ?_ L0.out.all ?_); rfl; rfl)
      | (go_at_call 17; (with_reducible refine (HR.out _).mono ?_); rintro e w2 ⟨rfl, hb⟩; have HB := hide (kept_trans HB.out hb); have L0 := hide (L0.out.kept hb); clear hb))
    generalize (Value.agg (ltC m)) = va
    refine wp_region_noPanic ?_
    refine wp_region_T 9 (fun w' => LAt w' w.heap.size 37 m) (by kernel_rfl) ?_
    have HD := hide (show (fun w' => LAt w' w.heap.size 37 m) w2.drew ∧ By w.heap.size w2.drew (.slice none 0 0) [] ∧ Below w.heap.size w w2.drew from ⟨L0.out.kept (Below.refl _ _).drew, By.nil_ _ _, HB.out.drew⟩)
    have HL := hide (show ([] : List Int).length ≤ 140737488354000 from by simp)
    generalize World.drew _ = wda at HD ⊢
    refine anyT_take (i := 0) (v := ?ov0a) (by simp only [List.getElem?_toArray, List.getElem?_cons_zero]; exact rfl) (by kernel_rfl) (by kernel_rfl) (fun _ _ _ h => h) (by kernel_rfl) (by kernel_rfl) (Or.inl ⟨by rfl, ?oy0a⟩) (by with_reducible exact HD.out.1) ?or0a
    case oy0a => (intro w hSw; skip; go_simp; try with_reducible rfl)
    try simp only [Act.put, List.setIfInBounds_toArray, List.set_cons_zero, List.set_cons_succ]
    refine anyT_take (i := 1) (v := ?ov1a) (by simp only [List.getElem?_toArray, List.getElem?_cons_succ, List.getElem?_cons_zero]; exact rfl) (by kernel_rfl) (by kernel_rfl) (fun _ _ _ h => h) (by kernel_rfl) (by kernel_rfl) (Or.inl ⟨by rfl, ?oy1a⟩) (by with_reducible exact HD.out.1) ?or1a
    case oy1a => (intro w hSw; have c0 := hSw.k1; have c1 := hSw.f1; have c2 := hSw.t1; go_simp; try with_reducible rfl)
    try simp only [Act.put, List.setIfInBounds_toArray, List.set_cons_zero, List.set_cons_succ]
    refine anyT_take (i := 3) (v := ?ov3a) (by simp only [List.getElem?_toArray, List.getElem?_cons_succ, List.getElem?_cons_zero]; exact rfl) (by kernel_rfl) (by kernel_rfl) (fun _ _ _ h => h) (by kernel_rfl) (by kernel_rfl) (Or.inl ⟨by rfl, ?oy3a⟩) (by with_reducible exact HD.out.1) ?or3a
    case oy3a => (intro w hSw; skip; go_simp; try with_reducible rfl)
    try simp only [Act.put, List.setIfInBounds_toArray, List.set_cons_zero, List.set_cons_succ]
    refine anyT_take (i := 4) (v := ?ov4a) (by simp only [List.getElem?_toArray, List.getElem?_cons_succ, List.getElem?_cons_zero]; exact rfl) (by kernel_rfl) (by kernel_rfl) (fun _ _ _ h => h) (by kernel_rfl) (by kernel_rfl) (Or.inl ⟨by rfl, ?oy4a⟩) (by with_reducible exact HD.out.1) ?or4a
    case oy4a => (intro w hSw; have c0 := hSw.k1; have c1 := hSw.f1; have c2 := hSw.t1; go_simp; try with_reducible rfl)
    try simp only [Act.put, List.setIfInBounds_toArray, List.set_cons_zero, List.set_cons_succ]
    refine anyT_take (i := 6) (v := ?ov6a) (by simp only [List.getElem?_toArray, List.getElem?_cons_succ, List.getElem?_cons_zero]; exact rfl) (by kernel_rfl) (by kernel_rfl) (fun _ _ _ h => h) (by kernel_rfl) (by kernel_rfl) (Or.inl ⟨by rfl, ?oy6a⟩) (by with_reducible exact HD.out.1) ?or6a
    case oy6a => (intro w hSw; skip; go_simp; try with_reducible rfl)
    try simp only [Act.put, List.setIfInBounds_toArray, List.set_cons_zero, List.set_cons_succ]
    refine anyT_take (i := 7) (v := ?ov7a) (by simp only [List.getElem?_toArray, List.getElem?_cons_succ, List.getElem?_cons_zero]; exact rfl) (by kernel_rfl) (by kernel_rfl) (fun _ _ _ h => h) (by kernel_rfl) (by kernel_rfl) (Or.inl ⟨by rfl, ?oy7a⟩) (by with_reducible exact HD.out.1) ?or7a
    case oy7a => (intro w hSw; have c0 := hSw.k1; have c1 := hSw.f1; have c2 := hSw.t1; go_simp; try with_reducible rfl)
    try simp only [Act.put, List.setIfInBounds_toArray, List.set_cons_zero, List.set_cons_succ]
    refine anyT_one (i := 2) (by kernel_rfl) (by simp only [List.getElem?_toArray, List.getElem?_cons_succ, List.getElem?_cons_zero]; exact rfl) (fun K hK => ?_)
    try go_simp
    refine (rbnum HD.out.2.1 m.k HL.out (by have := ok.out.k; omega) (by have := ok.out.k; omega)).mono ?_
    rintro e w2a ⟨y2a, rfl, hy, hb⟩
    have HD := hide (show (fun w' => LAt w' w.heap.size 37 m) w2a ∧ By w.heap.size w2a y2a ([] ++ num7 m.k) ∧ Below w.heap.size w w2a from ⟨(fun hb h => LAt.kept h hb) hb HD.out.1, hy.mono HD.out.2.2.size, kept_trans HD.out.2.2 hb⟩)
    have HL := hide (show ([] ++ num7 m.k).length ≤ 140737488354000 from by rw [len_two]; simp only [List.length_nil]; have := (num7_len m.k).2; have := (num7_len m.f).2; have := (num7_len m.t).2; omega)
    clear hy hb
    refine hK.out _ _ (fun _ => HD.out.1) ?_
    clear hK K
    try simp only [Act.put, List.setIfInBounds_toArray, List.set_cons_zero, List.set_cons_succ]
    refine anyT_one (i := 5) (by kernel_rfl) (by simp only [List.getElem?_toArray, List.getElem?_cons_succ, List.getElem?_cons_zero]; exact rfl) (fun K hK => ?_)
    try go_simp
    refine (rbnum HD.out.2.1 m.f HL.out (by have := ok.out.f; omega) (by have := ok.out.f; omega)).mono ?_
    rintro e w5a ⟨y5a, rfl, hy, hb⟩
    have HD := hide (show (fun w' => LAt w' w.heap.size 37 m) w5a ∧ By w.heap.size w5a y5a (([] ++ num7 m.k) ++ num7 m.f) ∧ Below w.heap.size w w5a from ⟨(fun hb h => LAt.kept h hb) hb HD.out.1, hy.mono HD.out.2.2.size, kept_trans HD.out.2.2 hb⟩)
    have HL := hide (show (([] ++ num7 m.k) ++ num7 m.f).length ≤ 140737488354000 from by rw [len_two, len_two]; simp only [List.length_nil]; have := (num7_len m.k).2; have := (num7_len m.f).2; have := (num7_len m.t).2; omega)
    clear hy hb
    refine hK.out _ _ (fun _ => HD.out.1) ?_
    clear hK K
    try simp only [Act.put, List.setIfInBounds_toArray, List.set_cons_zero, List.set_cons_succ]
    refine anyT_one (i := 8) (by kernel_rfl) (by simp only [List.getElem?_toArray, List.getElem?_cons_succ, List.getElem?_cons_zero]; exact rfl) (fun K hK => ?_)
    try go_simp
    refine (rbnum HD.out.2.1 m.t HL.out (by have := ok.out.t; omega) (by have := ok.out.t; omega)).mono ?_
    rintro e w8a ⟨y8a, rfl, hy, hb⟩
    have HD := hide (show (fun w' => LAt w' w.heap.size 37 m) w8a ∧ By w.heap.size w8a y8a ((([] ++ num7 m.k) ++ num7 m.f) ++ num7 m.t) ∧ Below w.heap.size w w8a from ⟨(fun hb h => LAt.kept h hb) hb HD.out.1, hy.mono HD.out.2.2.size, kept_trans HD.out.2.2 hb⟩)
    have HL := hide (show ((([] ++ num7 m.k) ++ num7 m.f) ++ num7 m.t).length ≤ 140737488354000 from by rw [len_two, len_two, len_two]; simp only [List.length_nil]; have := (num7_len m.k).2; have := (num7_len m.f).2; have := (num7_len m.t).2; omega)
    clear hy hb
    refine hK.out _ _ (fun _ => HD.out.1) ?_
    clear hK K
    try simp only [Act.put, List.setIfInBounds_toArray, List.set_cons_zero, List.set_cons_succ]
    refine anyT_one (i := 9) (by kernel_rfl) (by simp only [List.getElem?_toArray, List.getElem?_cons_succ, List.getElem?_cons_zero]; exact rfl) (fun K hK => ?_)
    try go_simp
    refine hK.out _ _ (fun e => absurd rfl e) ?_
    clear hK K
    refine anyT_done (by kernel_rfl) ?_
    refine NoPanic.normal ?_
    try simp only [Act.put]
    generalize w8a = w3, y8a = u3 at HD ⊢
    have HL0 := hide (show ((([] ++ num7 m.k) ++ num7 m.f) ++ num7 m.t).length ≤ 100 from by rw [len_two, len_two, len_two]; simp only [List.length_nil]; have := (num7_len m.k).2; have := (num7_len m.f).2; have := (num7_len m.t).2; omega)
    clear HL HB L0 HR
    have EM := hide (show encM m = ((([] ++ num7 m.k) ++ num7 m.f) ++ num7 m.t) ++ ((if nmI m.k then encB m.i else []) ++ ((if nmB m.k then encB m.b else []) ++ encR m)) from by unfold encM; simp [List.append_assoc])
    generalize ((([] ++ num7 m.k) ++ num7 m.f) ++ num7 m.t) = z3 at HD HL0 EM
    obtain hk | hk | hk | hk | hk | hk | hk | hk | hk | hk | hk : m.k = 1 ∨ m.k = 2 ∨ m.k = 3 ∨ m.k = 4 ∨ m.k = 5 ∨ m.k = 6 ∨ m.k = 7 ∨ m.k = 8 ∨ m.k = 9 ∨ m.k = 10 ∨ m.k = 11 := by have := ok.out.k; omega
    · have c0 : w3.cell? ⟨w.heap.size, 0, none⟩ = some (.int .i64 1) := HD.out.1.k1.trans (by rw [hk])
      have HZ := hide (show z3.length ≤ 140737488353500 from by have := HL0.out; omega)
      obtain ⟨⟨⟨ia, ib⟩, ic, id⟩, ⟨ba, bb⟩, bc, bd⟩ := ok.out.i (by simp [nmI, hk])
      have HC := hide (rinst_by HD.out.2.1 HZ.out m.i (small ia (by omega)) (small (by omega) id) HD.out.2.2.size)
      have HZ := hide (show (z3 ++ encB m.i).length ≤ 140737488353500 from by simp only [List.length_append]; have := HL0.out; have := encB_len m.i; have := encB_len m.b; have := packC_len m.c; have := (encN_len m.a).2; have := wf.a; have := (encX_len wf.x).2; omega)
      go_upto_region 6 with (first | ((with_reducible refine wpList_load_in ?_ ?_ HD.out.1.i ?_); rfl; rfl) | ((with_reducible refine wpList_load_bal ?_ ?_ HD.out.1.b1 ?_); rfl; rfl) | ((with_reducible refine wpList_load_at wf.a ?_ ?_ HD.out.1.a ?_); rfl; rfl) | ((with_reducible refine wpList_load_ce wf.x ?_ ?_ HD.out.1.x ?_); rfl; rfl) | (go_at_call 57; (with_reducible refine HC.out.mono ?_); rintro e w3 ⟨u3, rfl, hy, hb⟩; have HD := hide (show LAt w3 w.heap.size 37 m ∧ By w.heap.size w3 u3 (z3 ++ encB m.i) ∧ Below w.heap.size w w3 from ⟨HD.out.1.kept hb, hy, kept_trans HD.out.2.2 hb⟩); have c0 : w3.cell? ⟨w.heap.size, 0, none⟩ = some (.int .i64 1) := HD.out.1.k1.trans (by rw [hk]); clear hy hb HC))
      have HC := hide (rballot_by HD.out.2.1 HZ.out m.b (small ba bb) (small bc (by omega)) HD.out.2.2.size)
      have HZ := hide (show ((z3 ++ encB m.i) ++ encB m.b).length ≤ 140737488353500 from by simp only [List.length_append]; have := HL0.out; have := encB_len m.i; have := encB_len m.b; have := packC_len m.c; have := (encN_len m.a).2; have := wf.a; have := (encX_len wf.x).2; omega)
      go_upto_region 8 with (first | ((with_reducible refine wpList_load_in ?_ ?_ HD.out.1.i ?_); rfl; rfl) | ((with_reducible refine wpList_load_bal ?_ ?_ HD.out.1.b1 ?_); rfl; rfl) | ((with_reducible refine wpList_load_at wf.a ?_ ?_ HD.out.1.a ?_); rfl; rfl) | ((with_reducible refine wpList_load_ce wf.x ?_ ?_ HD.out.1.x ?_); rfl; rfl) | (go_at_call 42; (with_reducible refine HC.out.mono ?_); rintro e w3 ⟨u3, rfl, hy, hb⟩; have HD := hide (show LAt w3 w.heap.size 37 m ∧ By w.heap.size w3 u3 ((z3 ++ encB m.i) ++ encB m.b) ∧ Below w.heap.size w w3 from ⟨HD.out.1.kept hb, hy, kept_trans HD.out.2.2 hb⟩); have c0 : w3.cell? ⟨w.heap.size, 0, none⟩ = some (.int .i64 1) := HD.out.1.k1.trans (by rw [hk]); clear hy hb HC))
      go_upto_region 12 with (fail)
      clear c0
      have HL := hide (show ((z3 ++ encB m.i) ++ encB m.b).length ≤ 140737488354000 from by have := HZ.out; omega)
      have HQ := hide HD.out
      clear HD
      refine wp_region_noPanic ?_
      refine wp_region_T 7 (fun w' => LAt w' w.heap.size 37 m) (by kernel_rfl) ?_
      have HD := hide (show (fun w' => LAt w' w.heap.size 37 m) w3.drew ∧ By w.heap.size w3.drew u3 ((z3 ++ encB m.i) ++ encB m.b) ∧ Below w.heap.size w w3.drew from ⟨HQ.out.1.kept (Below.refl _ _).drew, HQ.out.2.1.below (Below.refl _ _).drew, HQ.out.2.2.drew⟩)
      generalize World.drew _ = wdk1 at HD ⊢
      refine anyT_take (i := 0) (v := ?ov0k1) (by simp only [List.getElem?_toArray, List.getElem?_cons_zero]; exact rfl) (by kernel_rfl) (by kernel_rfl) (fun _ _ _ h => h) (by kernel_rfl) (by kernel_rfl) (Or.inl ⟨by rfl, ?oy0k1⟩) (by with_reducible exact HD.out.1) ?or0k1
      case oy0k1 => (intro w hSw; skip; go_simp; try with_reducible rfl)
      try simp only [Act.put, List.setIfInBounds_toArray, List.set_cons_zero, List.set_cons_succ]
      refine anyT_take (i := 1) (v := ?ov1k1) (by simp only [List.getElem?_toArray, List.getElem?_cons_succ, List.getElem?_cons_zero]; exact rfl) (by kernel_rfl) (by kernel_rfl) (fun _ _ _ h => h) (by kernel_rfl) (by kernel_rfl) (Or.inl ⟨by rfl, ?oy1k1⟩) (by with_reducible exact HD.out.1) ?or1k1
      case oy1k1 => (intro w hSw; skip; go_simp; try with_reducible rfl)
      try simp only [Act.put, List.setIfInBounds_toArray, List.set_cons_zero, List.set_cons_succ]
      refine anyT_take (i := 2) (v := .agg #[.int .i64 m.c.k, .int .i64 m.c.c, .int .i64 m.c.q, .string m.c.key, .string m.c.en, .string m.c.old, .string m.c.val]) (by simp only [List.getElem?_toArray, List.getElem?_cons_succ, List.getElem?_cons_zero]; exact rfl) (by kernel_rfl) (by kernel_rfl) (fun _ _ _ h => h) (by kernel_rfl) (by kernel_rfl) (Or.inl ⟨by rfl, fun w hSw => exec_load_g rfl rfl hSw.c cm_under rfl cm_info⟩) (by with_reducible exact HD.out.1) ?_
      try simp only [Act.put, List.setIfInBounds_toArray, List.set_cons_zero, List.set_cons_succ]
      refine anyT_take (i := 4) (v := ?ov4k1) (by simp only [List.getElem?_toArray, List.getElem?_cons_succ, List.getElem?_cons_zero]; exact rfl) (by kernel_rfl) (by kernel_rfl) (fun _ _ _ h => h) (by kernel_rfl) (by kernel_rfl) (Or.inl ⟨by rfl, ?oy4k1⟩) (by with_reducible exact HD.out.1) ?or4k1
      case oy4k1 => (intro w hSw; skip; go_simp; try with_reducible rfl)
      try simp only [Act.put, List.setIfInBounds_toArray, List.set_cons_zero, List.set_cons_succ]
      refine anyT_take (i := 5) (v := .agg (cA m.a)) (by simp only [List.getElem?_toArray, List.getElem?_cons_succ, List.getElem?_cons_zero]; exact rfl) (by kernel_rfl) (by kernel_rfl) (fun _ _ _ h => h) (by kernel_rfl) (by kernel_rfl) (Or.inl ⟨by rfl, fun w hSw => exec_load_g rfl rfl hSw.a at_under rfl (by rw [length_cellsR, wf.a]; exact at_info)⟩) (by with_reducible exact HD.out.1) ?_
      try simp only [Act.put, List.setIfInBounds_toArray, List.set_cons_zero, List.set_cons_succ]
      refine anyT_one (i := 3) (by kernel_rfl) (by simp only [List.getElem?_toArray, List.getElem?_cons_succ, List.getElem?_cons_zero]; exact rfl) (fun K hK => ?_)
      try go_simp
      refine (rcommand_by HD.out.2.1 (by have := HZ.out; omega) m.c ok.out.c HD.out.2.2.size).mono ?_
      rintro e w3k1 ⟨y3k1, rfl, hy, hb⟩
      have HD := hide (show (fun w' => LAt w' w.heap.size 37 m) w3k1 ∧ By w.heap.size w3k1 y3k1 (((z3 ++ encB m.i) ++ encB m.b) ++ packC m.c) ∧ Below w.heap.size w w3k1 from ⟨(fun hb h => LAt.kept h hb) hb HD.out.1, hy, kept_trans HD.out.2.2 hb⟩)
      have HL := hide (show (((z3 ++ encB m.i) ++ encB m.b) ++ packC m.c).length ≤ 140737488354000 from by simp only [List.length_append]; have := HL0.out; have := encB_len m.i; have := encB_len m.b; have := packC_len m.c; have := (encN_len m.a).2; have := wf.a; have := (encX_len wf.x).2; omega)
      clear hy hb
      refine hK.out _ _ (fun _ => HD.out.1) ?_
      clear hK K
      try simp only [Act.put, List.setIfInBounds_toArray, List.set_cons_zero, List.set_cons_succ]
      refine anyT_one (i := 6) (by kernel_rfl) (by simp only [List.getElem?_toArray, List.getElem?_cons_succ, List.getElem?_cons_zero]; exact rfl) (fun K hK => ?_)
      try go_simp
      refine (rattr_by HD.out.2.1 (by simp only [List.length_append]; have := HL0.out; have := encB_len m.i; have := encB_len m.b; have := packC_len m.c; have := (encN_len m.a).2; have := wf.a; have := (encX_len wf.x).2; omega) wf.a (rightAl_says ok.out.a wf.a) HD.out.2.2.size).mono ?_
      rintro e w6k1 ⟨y6k1, rfl, hy, hb⟩
      have HD := hide (show (fun w' => LAt w' w.heap.size 37 m) w6k1 ∧ By w.heap.size w6k1 y6k1 ((((z3 ++ encB m.i) ++ encB m.b) ++ packC m.c) ++ encN m.a) ∧ Below w.heap.size w w6k1 from ⟨(fun hb h => LAt.kept h hb) hb HD.out.1, hy, kept_trans HD.out.2.2 hb⟩)
      have HL := hide (show ((((z3 ++ encB m.i) ++ encB m.b) ++ packC m.c) ++ encN m.a).length ≤ 140737488354000 from by simp only [List.length_append]; have := HL0.out; have := encB_len m.i; have := encB_len m.b; have := packC_len m.c; have := (encN_len m.a).2; have := wf.a; have := (encX_len wf.x).2; omega)
      clear hy hb
      refine hK.out _ _ (fun _ => HD.out.1) ?_
      clear hK K
      try simp only [Act.put, List.setIfInBounds_toArray, List.set_cons_zero, List.set_cons_succ]
      refine anyT_one (i := 7) (by kernel_rfl) (by simp only [List.getElem?_toArray, List.getElem?_cons_succ, List.getElem?_cons_zero]; exact rfl) (fun K hK => ?_)
      try go_simp
      refine hK.out _ _ (fun e => absurd rfl e) ?_
      clear hK K
      refine anyT_done (by kernel_rfl) ?_
      refine NoPanic.normal ?_
      try simp only [Act.put]
      go_wp2
      go_ret
      refine ⟨_, rfl, ?_, HD.out.2.2⟩
      have e : encM m = ((((z3 ++ encB m.i) ++ encB m.b) ++ packC m.c) ++ encN m.a) := by rw [EM.out]; unfold encR; simp [nmI, nmB, nmC, nmA, nmX, nmD, nmZ, hk, List.append_assoc]
      rw [e]
      exact HD.out.2.1
    · have c0 : w3.cell? ⟨w.heap.size, 0, none⟩ = some (.int .i64 2) := HD.out.1.k1.trans (by rw [hk])
      have HZ := hide (show z3.length ≤ 140737488353500 from by have := HL0.out; omega)
      obtain ⟨⟨⟨ia, ib⟩, ic, id⟩, ⟨ba, bb⟩, bc, bd⟩ := ok.out.i (by simp [nmI, hk])
      have HC := hide (rinst_by HD.out.2.1 HZ.out m.i (small ia (by omega)) (small (by omega) id) HD.out.2.2.size)
      have HZ := hide (show (z3 ++ encB m.i).length ≤ 140737488353500 from by simp only [List.length_append]; have := HL0.out; have := encB_len m.i; have := encB_len m.b; have := packC_len m.c; have := (encN_len m.a).2; have := wf.a; have := (encX_len wf.x).2; omega)
      go_upto_region 6 with (first | ((with_reducible refine wpList_load_in ?_ ?_ HD.out.1.i ?_); rfl; rfl) | ((with_reducible refine wpList_load_bal ?_ ?_ HD.out.1.b1 ?_); rfl; rfl) | ((with_reducible refine wpList_load_at wf.a ?_ ?_ HD.out.1.a ?_); rfl; rfl) | ((with_reducible refine wpList_load_ce wf.x ?_ ?_ HD.out.1.x ?_); rfl; rfl) | (go_at_call 57; (with_reducible refine HC.out.mono ?_); rintro e w3 ⟨u3, rfl, hy, hb⟩; have HD := hide (show LAt w3 w.heap.size 37 m ∧ By w.heap.size w3 u3 (z3 ++ encB m.i) ∧ Below w.heap.size w w3 from ⟨HD.out.1.kept hb, hy, kept_trans HD.out.2.2 hb⟩); have c0 : w3.cell? ⟨w.heap.size, 0, none⟩ = some (.int .i64 2) := HD.out.1.k1.trans (by rw [hk]); clear hy hb HC))
      have HC := hide (rballot_by HD.out.2.1 HZ.out m.b (small ba bb) (small bc (by omega)) HD.out.2.2.size)
      have HZ := hide (show ((z3 ++ encB m.i) ++ encB m.b).length ≤ 140737488353500 from by simp only [List.length_append]; have := HL0.out; have := encB_len m.i; have := encB_len m.b; have := packC_len m.c; have := (encN_len m.a).2; have := wf.a; have := (encX_len wf.x).2; omega)
      go_upto_region 8 with (first | ((with_reducible refine wpList_load_in ?_ ?_ HD.out.1.i ?_); rfl; rfl) | ((with_reducible refine wpList_load_bal ?_ ?_ HD.out.1.b1 ?_); rfl; rfl) | ((with_reducible refine wpList_load_at wf.a ?_ ?_ HD.out.1.a ?_); rfl; rfl) | ((with_reducible refine wpList_load_ce wf.x ?_ ?_ HD.out.1.x ?_); rfl; rfl) | (go_at_call 42; (with_reducible refine HC.out.mono ?_); rintro e w3 ⟨u3, rfl, hy, hb⟩; have HD := hide (show LAt w3 w.heap.size 37 m ∧ By w.heap.size w3 u3 ((z3 ++ encB m.i) ++ encB m.b) ∧ Below w.heap.size w w3 from ⟨HD.out.1.kept hb, hy, kept_trans HD.out.2.2 hb⟩); have c0 : w3.cell? ⟨w.heap.size, 0, none⟩ = some (.int .i64 2) := HD.out.1.k1.trans (by rw [hk]); clear hy hb HC))
      have HC := hide (rattr_by HD.out.2.1 HZ.out wf.a (rightAl_says ok.out.a wf.a) HD.out.2.2.size)
      have HZ := hide (show (((z3 ++ encB m.i) ++ encB m.b) ++ encN m.a).length ≤ 140737488353500 from by simp only [List.length_append]; have := HL0.out; have := encB_len m.i; have := encB_len m.b; have := packC_len m.c; have := (encN_len m.a).2; have := wf.a; have := (encX_len wf.x).2; omega)
      go_wp2_with (first | ((with_reducible refine wpList_load_in ?_ ?_ HD.out.1.i ?_); rfl; rfl) | ((with_reducible refine wpList_load_bal ?_ ?_ HD.out.1.b1 ?_); rfl; rfl) | ((with_reducible refine wpList_load_at wf.a ?_ ?_ HD.out.1.a ?_); rfl; rfl) | ((with_reducible refine wpList_load_ce wf.x ?_ ?_ HD.out.1.x ?_); rfl; rfl) | (go_at_call 45; (with_reducible refine HC.out.mono ?_); rintro e w3 ⟨u3, rfl, hy, hb⟩; have HD := hide (show LAt w3 w.heap.size 37 m ∧ By w.heap.size w3 u3 (((z3 ++ encB m.i) ++ encB m.b) ++ encN m.a) ∧ Below w.heap.size w w3 from ⟨HD.out.1.kept hb, hy, kept_trans HD.out.2.2 hb⟩); have c0 : w3.cell? ⟨w.heap.size, 0, none⟩ = some (.int .i64 2) := HD.out.1.k1.trans (by rw [hk]); clear hy hb HC))
      go_ret
      refine ⟨_, rfl, ?_, HD.out.2.2⟩
      have e : encM m = (((z3 ++ encB m.i) ++ encB m.b) ++ encN m.a) := by rw [EM.out]; unfold encR; simp [nmI, nmB, nmC, nmA, nmX, nmD, nmZ, hk, List.append_assoc]
      rw [e]
      exact HD.out.2.1
    · have c0 : w3.cell? ⟨w.heap.size, 0, none⟩ = some (.int .i64 3) := HD.out.1.k1.trans (by rw [hk])
      have HZ := hide (show z3.length ≤ 140737488353500 from by have := HL0.out; omega)
      obtain ⟨⟨⟨ia, ib⟩, ic, id⟩, ⟨ba, bb⟩, bc, bd⟩ := ok.out.i (by simp [nmI, hk])
      have HC := hide (rinst_by HD.out.2.1 HZ.out m.i (small ia (by omega)) (small (by omega) id) HD.out.2.2.size)
      have HZ := hide (show (z3 ++ encB m.i).length ≤ 140737488353500 from by simp only [List.length_append]; have := HL0.out; have := encB_len m.i; have := encB_len m.b; have := packC_len m.c; have := (encN_len m.a).2; have := wf.a; have := (encX_len wf.x).2; omega)
      go_upto_region 6 with (first | ((with_reducible refine wpList_load_in ?_ ?_ HD.out.1.i ?_); rfl; rfl) | ((with_reducible refine wpList_load_bal ?_ ?_ HD.out.1.b1 ?_); rfl; rfl) | ((with_reducible refine wpList_load_at wf.a ?_ ?_ HD.out.1.a ?_); rfl; rfl) | ((with_reducible refine wpList_load_ce wf.x ?_ ?_ HD.out.1.x ?_); rfl; rfl) | (go_at_call 57; (with_reducible refine HC.out.mono ?_); rintro e w3 ⟨u3, rfl, hy, hb⟩; have HD := hide (show LAt w3 w.heap.size 37 m ∧ By w.heap.size w3 u3 (z3 ++ encB m.i) ∧ Below w.heap.size w w3 from ⟨HD.out.1.kept hb, hy, kept_trans HD.out.2.2 hb⟩); have c0 : w3.cell? ⟨w.heap.size, 0, none⟩ = some (.int .i64 3) := HD.out.1.k1.trans (by rw [hk]); clear hy hb HC))
      have HC := hide (rballot_by HD.out.2.1 HZ.out m.b (small ba bb) (small bc (by omega)) HD.out.2.2.size)
      have HZ := hide (show ((z3 ++ encB m.i) ++ encB m.b).length ≤ 140737488353500 from by simp only [List.length_append]; have := HL0.out; have := encB_len m.i; have := encB_len m.b; have := packC_len m.c; have := (encN_len m.a).2; have := wf.a; have := (encX_len wf.x).2; omega)
      go_upto_region 8 with (first | ((with_reducible refine wpList_load_in ?_ ?_ HD.out.1.i ?_); rfl; rfl) | ((with_reducible refine wpList_load_bal ?_ ?_ HD.out.1.b1 ?_); rfl; rfl) | ((with_reducible refine wpList_load_at wf.a ?_ ?_ HD.out.1.a ?_); rfl; rfl) | ((with_reducible refine wpList_load_ce wf.x ?_ ?_ HD.out.1.x ?_); rfl; rfl) | (go_at_call 42; (with_reducible refine HC.out.mono ?_); rintro e w3 ⟨u3, rfl, hy, hb⟩; have HD := hide (show LAt w3 w.heap.size 37 m ∧ By w.heap.size w3 u3 ((z3 ++ encB m.i) ++ encB m.b) ∧ Below w.heap.size w w3 from ⟨HD.out.1.kept hb, hy, kept_trans HD.out.2.2 hb⟩); have c0 : w3.cell? ⟨w.heap.size, 0, none⟩ = some (.int .i64 3) := HD.out.1.k1.trans (by rw [hk]); clear hy hb HC))
      go_upto_region 12 with (fail)
      clear c0
      have HL := hide (show ((z3 ++ encB m.i) ++ encB m.b).length ≤ 140737488354000 from by have := HZ.out; omega)
      have HQ := hide HD.out
      clear HD
      refine wp_region_noPanic ?_
      refine wp_region_T 7 (fun w' => LAt w' w.heap.size 37 m) (by kernel_rfl) ?_
      have HD := hide (show (fun w' => LAt w' w.heap.size 37 m) w3.drew ∧ By w.heap.size w3.drew u3 ((z3 ++ encB m.i) ++ encB m.b) ∧ Below w.heap.size w w3.drew from ⟨HQ.out.1.kept (Below.refl _ _).drew, HQ.out.2.1.below (Below.refl _ _).drew, HQ.out.2.2.drew⟩)
      generalize World.drew _ = wdk3 at HD ⊢
      refine anyT_take (i := 0) (v := ?ov0k3) (by simp only [List.getElem?_toArray, List.getElem?_cons_zero]; exact rfl) (by kernel_rfl) (by kernel_rfl) (fun _ _ _ h => h) (by kernel_rfl) (by kernel_rfl) (Or.inl ⟨by rfl, ?oy0k3⟩) (by with_reducible exact HD.out.1) ?or0k3
      case oy0k3 => (intro w hSw; skip; go_simp; try with_reducible rfl)
      try simp only [Act.put, List.setIfInBounds_toArray, List.set_cons_zero, List.set_cons_succ]
      refine anyT_take (i := 1) (v := ?ov1k3) (by simp only [List.getElem?_toArray, List.getElem?_cons_succ, List.getElem?_cons_zero]; exact rfl) (by kernel_rfl) (by kernel_rfl) (fun _ _ _ h => h) (by kernel_rfl) (by kernel_rfl) (Or.inl ⟨by rfl, ?oy1k3⟩) (by with_reducible exact HD.out.1) ?or1k3
      case oy1k3 => (intro w hSw; skip; go_simp; try with_reducible rfl)
      try simp only [Act.put, List.setIfInBounds_toArray, List.set_cons_zero, List.set_cons_succ]
      refine anyT_take (i := 2) (v := .agg #[.int .i64 m.c.k, .int .i64 m.c.c, .int .i64 m.c.q, .string m.c.key, .string m.c.en, .string m.c.old, .string m.c.val]) (by simp only [List.getElem?_toArray, List.getElem?_cons_succ, List.getElem?_cons_zero]; exact rfl) (by kernel_rfl) (by kernel_rfl) (fun _ _ _ h => h) (by kernel_rfl) (by kernel_rfl) (Or.inl ⟨by rfl, fun w hSw => exec_load_g rfl rfl hSw.c cm_under rfl cm_info⟩) (by with_reducible exact HD.out.1) ?_
      try simp only [Act.put, List.setIfInBounds_toArray, List.set_cons_zero, List.set_cons_succ]
      refine anyT_take (i := 4) (v := ?ov4k3) (by simp only [List.getElem?_toArray, List.getElem?_cons_succ, List.getElem?_cons_zero]; exact rfl) (by kernel_rfl) (by kernel_rfl) (fun _ _ _ h => h) (by kernel_rfl) (by kernel_rfl) (Or.inl ⟨by rfl, ?oy4k3⟩) (by with_reducible exact HD.out.1) ?or4k3
      case oy4k3 => (intro w hSw; skip; go_simp; try with_reducible rfl)
      try simp only [Act.put, List.setIfInBounds_toArray, List.set_cons_zero, List.set_cons_succ]
      refine anyT_take (i := 5) (v := .agg (cA m.a)) (by simp only [List.getElem?_toArray, List.getElem?_cons_succ, List.getElem?_cons_zero]; exact rfl) (by kernel_rfl) (by kernel_rfl) (fun _ _ _ h => h) (by kernel_rfl) (by kernel_rfl) (Or.inl ⟨by rfl, fun w hSw => exec_load_g rfl rfl hSw.a at_under rfl (by rw [length_cellsR, wf.a]; exact at_info)⟩) (by with_reducible exact HD.out.1) ?_
      try simp only [Act.put, List.setIfInBounds_toArray, List.set_cons_zero, List.set_cons_succ]
      refine anyT_one (i := 3) (by kernel_rfl) (by simp only [List.getElem?_toArray, List.getElem?_cons_succ, List.getElem?_cons_zero]; exact rfl) (fun K hK => ?_)
      try go_simp
      refine (rcommand_by HD.out.2.1 (by have := HZ.out; omega) m.c ok.out.c HD.out.2.2.size).mono ?_
      rintro e w3k3 ⟨y3k3, rfl, hy, hb⟩
      have HD := hide (show (fun w' => LAt w' w.heap.size 37 m) w3k3 ∧ By w.heap.size w3k3 y3k3 (((z3 ++ encB m.i) ++ encB m.b) ++ packC m.c) ∧ Below w.heap.size w w3k3 from ⟨(fun hb h => LAt.kept h hb) hb HD.out.1, hy, kept_trans HD.out.2.2 hb⟩)
      have HL := hide (show (((z3 ++ encB m.i) ++ encB m.b) ++ packC m.c).length ≤ 140737488354000 from by simp only [List.length_append]; have := HL0.out; have := encB_len m.i; have := encB_len m.b; have := packC_len m.c; have := (encN_len m.a).2; have := wf.a; have := (encX_len wf.x).2; omega)
      clear hy hb
      refine hK.out _ _ (fun _ => HD.out.1) ?_
      clear hK K
      try simp only [Act.put, List.setIfInBounds_toArray, List.set_cons_zero, List.set_cons_succ]
      refine anyT_one (i := 6) (by kernel_rfl) (by simp only [List.getElem?_toArray, List.getElem?_cons_succ, List.getElem?_cons_zero]; exact rfl) (fun K hK => ?_)
      try go_simp
      refine (rattr_by HD.out.2.1 (by simp only [List.length_append]; have := HL0.out; have := encB_len m.i; have := encB_len m.b; have := packC_len m.c; have := (encN_len m.a).2; have := wf.a; have := (encX_len wf.x).2; omega) wf.a (rightAl_says ok.out.a wf.a) HD.out.2.2.size).mono ?_
      rintro e w6k3 ⟨y6k3, rfl, hy, hb⟩
      have HD := hide (show (fun w' => LAt w' w.heap.size 37 m) w6k3 ∧ By w.heap.size w6k3 y6k3 ((((z3 ++ encB m.i) ++ encB m.b) ++ packC m.c) ++ encN m.a) ∧ Below w.heap.size w w6k3 from ⟨(fun hb h => LAt.kept h hb) hb HD.out.1, hy, kept_trans HD.out.2.2 hb⟩)
      have HL := hide (show ((((z3 ++ encB m.i) ++ encB m.b) ++ packC m.c) ++ encN m.a).length ≤ 140737488354000 from by simp only [List.length_append]; have := HL0.out; have := encB_len m.i; have := encB_len m.b; have := packC_len m.c; have := (encN_len m.a).2; have := wf.a; have := (encX_len wf.x).2; omega)
      clear hy hb
      refine hK.out _ _ (fun _ => HD.out.1) ?_
      clear hK K
      try simp only [Act.put, List.setIfInBounds_toArray, List.set_cons_zero, List.set_cons_succ]
      refine anyT_one (i := 7) (by kernel_rfl) (by simp only [List.getElem?_toArray, List.getElem?_cons_succ, List.getElem?_cons_zero]; exact rfl) (fun K hK => ?_)
      try go_simp
      refine hK.out _ _ (fun e => absurd rfl e) ?_
      clear hK K
      refine anyT_done (by kernel_rfl) ?_
      refine NoPanic.normal ?_
      try simp only [Act.put]
      go_wp2
      go_ret
      refine ⟨_, rfl, ?_, HD.out.2.2⟩
      have e : encM m = ((((z3 ++ encB m.i) ++ encB m.b) ++ packC m.c) ++ encN m.a) := by rw [EM.out]; unfold encR; simp [nmI, nmB, nmC, nmA, nmX, nmD, nmZ, hk, List.append_assoc]
      rw [e]
      exact HD.out.2.1
    · have c0 : w3.cell? ⟨w.heap.size, 0, none⟩ = some (.int .i64 4) := HD.out.1.k1.trans (by rw [hk])
      have HZ := hide (show z3.length ≤ 140737488353500 from by have := HL0.out; omega)
      obtain ⟨⟨⟨ia, ib⟩, ic, id⟩, ⟨ba, bb⟩, bc, bd⟩ := ok.out.i (by simp [nmI, hk])
      have HC := hide (rinst_by HD.out.2.1 HZ.out m.i (small ia (by omega)) (small (by omega) id) HD.out.2.2.size)
      have HZ := hide (show (z3 ++ encB m.i).length ≤ 140737488353500 from by simp only [List.length_append]; have := HL0.out; have := encB_len m.i; have := encB_len m.b; have := packC_len m.c; have := (encN_len m.a).2; have := wf.a; have := (encX_len wf.x).2; omega)
      go_upto_region 6 with (first | ((with_reducible refine wpList_load_in ?_ ?_ HD.out.1.i ?_); rfl; rfl) | ((with_reducible refine wpList_load_bal ?_ ?_ HD.out.1.b1 ?_); rfl; rfl) | ((with_reducible refine wpList_load_at wf.a ?_ ?_ HD.out.1.a ?_); rfl; rfl) | ((with_reducible refine wpList_load_ce wf.x ?_ ?_ HD.out.1.x ?_); rfl; rfl) | (go_at_call 57; (with_reducible refine HC.out.mono ?_); rintro e w3 ⟨u3, rfl, hy, hb⟩; have HD := hide (show LAt w3 w.heap.size 37 m ∧ By w.heap.size w3 u3 (z3 ++ encB m.i) ∧ Below w.heap.size w w3 from ⟨HD.out.1.kept hb, hy, kept_trans HD.out.2.2 hb⟩); have c0 : w3.cell? ⟨w.heap.size, 0, none⟩ = some (.int .i64 4) := HD.out.1.k1.trans (by rw [hk]); clear hy hb HC))
      have HC := hide (rballot_by HD.out.2.1 HZ.out m.b (small ba bb) (small bc (by omega)) HD.out.2.2.size)
      have HZ := hide (show ((z3 ++ encB m.i) ++ encB m.b).length ≤ 140737488353500 from by simp only [List.length_append]; have := HL0.out; have := encB_len m.i; have := encB_len m.b; have := packC_len m.c; have := (encN_len m.a).2; have := wf.a; have := (encX_len wf.x).2; omega)
      go_upto_region 8 with (first | ((with_reducible refine wpList_load_in ?_ ?_ HD.out.1.i ?_); rfl; rfl) | ((with_reducible refine wpList_load_bal ?_ ?_ HD.out.1.b1 ?_); rfl; rfl) | ((with_reducible refine wpList_load_at wf.a ?_ ?_ HD.out.1.a ?_); rfl; rfl) | ((with_reducible refine wpList_load_ce wf.x ?_ ?_ HD.out.1.x ?_); rfl; rfl) | (go_at_call 42; (with_reducible refine HC.out.mono ?_); rintro e w3 ⟨u3, rfl, hy, hb⟩; have HD := hide (show LAt w3 w.heap.size 37 m ∧ By w.heap.size w3 u3 ((z3 ++ encB m.i) ++ encB m.b) ∧ Below w.heap.size w w3 from ⟨HD.out.1.kept hb, hy, kept_trans HD.out.2.2 hb⟩); have c0 : w3.cell? ⟨w.heap.size, 0, none⟩ = some (.int .i64 4) := HD.out.1.k1.trans (by rw [hk]); clear hy hb HC))
      go_wp2
      go_ret
      refine ⟨_, rfl, ?_, HD.out.2.2⟩
      have e : encM m = ((z3 ++ encB m.i) ++ encB m.b) := by rw [EM.out]; unfold encR; simp [nmI, nmB, nmC, nmA, nmX, nmD, nmZ, hk, List.append_assoc]
      rw [e]
      exact HD.out.2.1
    · have c0 : w3.cell? ⟨w.heap.size, 0, none⟩ = some (.int .i64 5) := HD.out.1.k1.trans (by rw [hk])
      have HZ := hide (show z3.length ≤ 140737488353500 from by have := HL0.out; omega)
      obtain ⟨⟨⟨ia, ib⟩, ic, id⟩, ⟨ba, bb⟩, bc, bd⟩ := ok.out.i (by simp [nmI, hk])
      have HC := hide (rinst_by HD.out.2.1 HZ.out m.i (small ia (by omega)) (small (by omega) id) HD.out.2.2.size)
      have HZ := hide (show (z3 ++ encB m.i).length ≤ 140737488353500 from by simp only [List.length_append]; have := HL0.out; have := encB_len m.i; have := encB_len m.b; have := packC_len m.c; have := (encN_len m.a).2; have := wf.a; have := (encX_len wf.x).2; omega)
      go_upto_region 6 with (first | ((with_reducible refine wpList_load_in ?_ ?_ HD.out.1.i ?_); rfl; rfl) | ((with_reducible refine wpList_load_bal ?_ ?_ HD.out.1.b1 ?_); rfl; rfl) | ((with_reducible refine wpList_load_at wf.a ?_ ?_ HD.out.1.a ?_); rfl; rfl) | ((with_reducible refine wpList_load_ce wf.x ?_ ?_ HD.out.1.x ?_); rfl; rfl) | (go_at_call 57; (with_reducible refine HC.out.mono ?_); rintro e w3 ⟨u3, rfl, hy, hb⟩; have HD := hide (show LAt w3 w.heap.size 37 m ∧ By w.heap.size w3 u3 (z3 ++ encB m.i) ∧ Below w.heap.size w w3 from ⟨HD.out.1.kept hb, hy, kept_trans HD.out.2.2 hb⟩); have c0 : w3.cell? ⟨w.heap.size, 0, none⟩ = some (.int .i64 5) := HD.out.1.k1.trans (by rw [hk]); clear hy hb HC))
      go_upto_region 12 with (fail)
      clear c0
      have HL := hide (show (z3 ++ encB m.i).length ≤ 140737488354000 from by have := HZ.out; omega)
      have HQ := hide HD.out
      clear HD
      refine wp_region_noPanic ?_
      refine wp_region_T 7 (fun w' => LAt w' w.heap.size 37 m) (by kernel_rfl) ?_
      have HD := hide (show (fun w' => LAt w' w.heap.size 37 m) w3.drew ∧ By w.heap.size w3.drew u3 (z3 ++ encB m.i) ∧ Below w.heap.size w w3.drew from ⟨HQ.out.1.kept (Below.refl _ _).drew, HQ.out.2.1.below (Below.refl _ _).drew, HQ.out.2.2.drew⟩)
      generalize World.drew _ = wdk5 at HD ⊢
      refine anyT_take (i := 0) (v := ?ov0k5) (by simp only [List.getElem?_toArray, List.getElem?_cons_zero]; exact rfl) (by kernel_rfl) (by kernel_rfl) (fun _ _ _ h => h) (by kernel_rfl) (by kernel_rfl) (Or.inl ⟨by rfl, ?oy0k5⟩) (by with_reducible exact HD.out.1) ?or0k5
      case oy0k5 => (intro w hSw; skip; go_simp; try with_reducible rfl)
      try simp only [Act.put, List.setIfInBounds_toArray, List.set_cons_zero, List.set_cons_succ]
      refine anyT_take (i := 1) (v := ?ov1k5) (by simp only [List.getElem?_toArray, List.getElem?_cons_succ, List.getElem?_cons_zero]; exact rfl) (by kernel_rfl) (by kernel_rfl) (fun _ _ _ h => h) (by kernel_rfl) (by kernel_rfl) (Or.inl ⟨by rfl, ?oy1k5⟩) (by with_reducible exact HD.out.1) ?or1k5
      case oy1k5 => (intro w hSw; skip; go_simp; try with_reducible rfl)
      try simp only [Act.put, List.setIfInBounds_toArray, List.set_cons_zero, List.set_cons_succ]
      refine anyT_take (i := 2) (v := .agg #[.int .i64 m.c.k, .int .i64 m.c.c, .int .i64 m.c.q, .string m.c.key, .string m.c.en, .string m.c.old, .string m.c.val]) (by simp only [List.getElem?_toArray, List.getElem?_cons_succ, List.getElem?_cons_zero]; exact rfl) (by kernel_rfl) (by kernel_rfl) (fun _ _ _ h => h) (by kernel_rfl) (by kernel_rfl) (Or.inl ⟨by rfl, fun w hSw => exec_load_g rfl rfl hSw.c cm_under rfl cm_info⟩) (by with_reducible exact HD.out.1) ?_
      try simp only [Act.put, List.setIfInBounds_toArray, List.set_cons_zero, List.set_cons_succ]
      refine anyT_take (i := 4) (v := ?ov4k5) (by simp only [List.getElem?_toArray, List.getElem?_cons_succ, List.getElem?_cons_zero]; exact rfl) (by kernel_rfl) (by kernel_rfl) (fun _ _ _ h => h) (by kernel_rfl) (by kernel_rfl) (Or.inl ⟨by rfl, ?oy4k5⟩) (by with_reducible exact HD.out.1) ?or4k5
      case oy4k5 => (intro w hSw; skip; go_simp; try with_reducible rfl)
      try simp only [Act.put, List.setIfInBounds_toArray, List.set_cons_zero, List.set_cons_succ]
      refine anyT_take (i := 5) (v := .agg (cA m.a)) (by simp only [List.getElem?_toArray, List.getElem?_cons_succ, List.getElem?_cons_zero]; exact rfl) (by kernel_rfl) (by kernel_rfl) (fun _ _ _ h => h) (by kernel_rfl) (by kernel_rfl) (Or.inl ⟨by rfl, fun w hSw => exec_load_g rfl rfl hSw.a at_under rfl (by rw [length_cellsR, wf.a]; exact at_info)⟩) (by with_reducible exact HD.out.1) ?_
      try simp only [Act.put, List.setIfInBounds_toArray, List.set_cons_zero, List.set_cons_succ]
      refine anyT_one (i := 3) (by kernel_rfl) (by simp only [List.getElem?_toArray, List.getElem?_cons_succ, List.getElem?_cons_zero]; exact rfl) (fun K hK => ?_)
      try go_simp
      refine (rcommand_by HD.out.2.1 (by have := HZ.out; omega) m.c ok.out.c HD.out.2.2.size).mono ?_
      rintro e w3k5 ⟨y3k5, rfl, hy, hb⟩
      have HD := hide (show (fun w' => LAt w' w.heap.size 37 m) w3k5 ∧ By w.heap.size w3k5 y3k5 ((z3 ++ encB m.i) ++ packC m.c) ∧ Below w.heap.size w w3k5 from ⟨(fun hb h => LAt.kept h hb) hb HD.out.1, hy, kept_trans HD.out.2.2 hb⟩)
      have HL := hide (show ((z3 ++ encB m.i) ++ packC m.c).length ≤ 140737488354000 from by simp only [List.length_append]; have := HL0.out; have := encB_len m.i; have := encB_len m.b; have := packC_len m.c; have := (encN_len m.a).2; have := wf.a; have := (encX_len wf.x).2; omega)
      clear hy hb
      refine hK.out _ _ (fun _ => HD.out.1) ?_
      clear hK K
      try simp only [Act.put, List.setIfInBounds_toArray, List.set_cons_zero, List.set_cons_succ]
      refine anyT_one (i := 6) (by kernel_rfl) (by simp only [List.getElem?_toArray, List.getElem?_cons_succ, List.getElem?_cons_zero]; exact rfl) (fun K hK => ?_)
      try go_simp
      refine (rattr_by HD.out.2.1 (by simp only [List.length_append]; have := HL0.out; have := encB_len m.i; have := encB_len m.b; have := packC_len m.c; have := (encN_len m.a).2; have := wf.a; have := (encX_len wf.x).2; omega) wf.a (rightAl_says ok.out.a wf.a) HD.out.2.2.size).mono ?_
      rintro e w6k5 ⟨y6k5, rfl, hy, hb⟩
      have HD := hide (show (fun w' => LAt w' w.heap.size 37 m) w6k5 ∧ By w.heap.size w6k5 y6k5 (((z3 ++ encB m.i) ++ packC m.c) ++ encN m.a) ∧ Below w.heap.size w w6k5 from ⟨(fun hb h => LAt.kept h hb) hb HD.out.1, hy, kept_trans HD.out.2.2 hb⟩)
      have HL := hide (show (((z3 ++ encB m.i) ++ packC m.c) ++ encN m.a).length ≤ 140737488354000 from by simp only [List.length_append]; have := HL0.out; have := encB_len m.i; have := encB_len m.b; have := packC_len m.c; have := (encN_len m.a).2; have := wf.a; have := (encX_len wf.x).2; omega)
      clear hy hb
      refine hK.out _ _ (fun _ => HD.out.1) ?_
      clear hK K
      try simp only [Act.put, List.setIfInBounds_toArray, List.set_cons_zero, List.set_cons_succ]
      refine anyT_one (i := 7) (by kernel_rfl) (by simp only [List.getElem?_toArray, List.getElem?_cons_succ, List.getElem?_cons_zero]; exact rfl) (fun K hK => ?_)
      try go_simp
      refine hK.out _ _ (fun e => absurd rfl e) ?_
      clear hK K
      refine anyT_done (by kernel_rfl) ?_
      refine NoPanic.normal ?_
      try simp only [Act.put]
      go_wp2
      go_ret
      refine ⟨_, rfl, ?_, HD.out.2.2⟩
      have e : encM m = (((z3 ++ encB m.i) ++ packC m.c) ++ encN m.a) := by rw [EM.out]; unfold encR; simp [nmI, nmB, nmC, nmA, nmX, nmD, nmZ, hk, List.append_assoc]
      rw [e]
      exact HD.out.2.1
    · have c0 : w3.cell? ⟨w.heap.size, 0, none⟩ = some (.int .i64 6) := HD.out.1.k1.trans (by rw [hk])
      have HZ := hide (show z3.length ≤ 140737488353500 from by have := HL0.out; omega)
      obtain ⟨⟨⟨ia, ib⟩, ic, id⟩, ⟨ba, bb⟩, bc, bd⟩ := ok.out.i (by simp [nmI, hk])
      have HC := hide (rinst_by HD.out.2.1 HZ.out m.i (small ia (by omega)) (small (by omega) id) HD.out.2.2.size)
      have HZ := hide (show (z3 ++ encB m.i).length ≤ 140737488353500 from by simp only [List.length_append]; have := HL0.out; have := encB_len m.i; have := encB_len m.b; have := packC_len m.c; have := (encN_len m.a).2; have := wf.a; have := (encX_len wf.x).2; omega)
      go_upto_region 6 with (first | ((with_reducible refine wpList_load_in ?_ ?_ HD.out.1.i ?_); rfl; rfl) | ((with_reducible refine wpList_load_bal ?_ ?_ HD.out.1.b1 ?_); rfl; rfl) | ((with_reducible refine wpList_load_at wf.a ?_ ?_ HD.out.1.a ?_); rfl; rfl) | ((with_reducible refine wpList_load_ce wf.x ?_ ?_ HD.out.1.x ?_); rfl; rfl) | (go_at_call 57; (with_reducible refine HC.out.mono ?_); rintro e w3 ⟨u3, rfl, hy, hb⟩; have HD := hide (show LAt w3 w.heap.size 37 m ∧ By w.heap.size w3 u3 (z3 ++ encB m.i) ∧ Below w.heap.size w w3 from ⟨HD.out.1.kept hb, hy, kept_trans HD.out.2.2 hb⟩); have c0 : w3.cell? ⟨w.heap.size, 0, none⟩ = some (.int .i64 6) := HD.out.1.k1.trans (by rw [hk]); clear hy hb HC))
      have HC := hide (rballot_by HD.out.2.1 HZ.out m.b (small ba bb) (small bc (by omega)) HD.out.2.2.size)
      have HZ := hide (show ((z3 ++ encB m.i) ++ encB m.b).length ≤ 140737488353500 from by simp only [List.length_append]; have := HL0.out; have := encB_len m.i; have := encB_len m.b; have := packC_len m.c; have := (encN_len m.a).2; have := wf.a; have := (encX_len wf.x).2; omega)
      go_upto_region 8 with (first | ((with_reducible refine wpList_load_in ?_ ?_ HD.out.1.i ?_); rfl; rfl) | ((with_reducible refine wpList_load_bal ?_ ?_ HD.out.1.b1 ?_); rfl; rfl) | ((with_reducible refine wpList_load_at wf.a ?_ ?_ HD.out.1.a ?_); rfl; rfl) | ((with_reducible refine wpList_load_ce wf.x ?_ ?_ HD.out.1.x ?_); rfl; rfl) | (go_at_call 42; (with_reducible refine HC.out.mono ?_); rintro e w3 ⟨u3, rfl, hy, hb⟩; have HD := hide (show LAt w3 w.heap.size 37 m ∧ By w.heap.size w3 u3 ((z3 ++ encB m.i) ++ encB m.b) ∧ Below w.heap.size w w3 from ⟨HD.out.1.kept hb, hy, kept_trans HD.out.2.2 hb⟩); have c0 : w3.cell? ⟨w.heap.size, 0, none⟩ = some (.int .i64 6) := HD.out.1.k1.trans (by rw [hk]); clear hy hb HC))
      go_wp2
      go_ret
      refine ⟨_, rfl, ?_, HD.out.2.2⟩
      have e : encM m = ((z3 ++ encB m.i) ++ encB m.b) := by rw [EM.out]; unfold encR; simp [nmI, nmB, nmC, nmA, nmX, nmD, nmZ, hk, List.append_assoc]
      rw [e]
      exact HD.out.2.1
    · have c0 : w3.cell? ⟨w.heap.size, 0, none⟩ = some (.int .i64 7) := HD.out.1.k1.trans (by rw [hk])
      have HZ := hide (show z3.length ≤ 140737488353500 from by have := HL0.out; omega)
      obtain ⟨⟨⟨ia, ib⟩, ic, id⟩, ⟨ba, bb⟩, bc, bd⟩ := ok.out.i (by simp [nmI, hk])
      have HC := hide (rinst_by HD.out.2.1 HZ.out m.i (small ia (by omega)) (small (by omega) id) HD.out.2.2.size)
      have HZ := hide (show (z3 ++ encB m.i).length ≤ 140737488353500 from by simp only [List.length_append]; have := HL0.out; have := encB_len m.i; have := encB_len m.b; have := packC_len m.c; have := (encN_len m.a).2; have := wf.a; have := (encX_len wf.x).2; omega)
      go_upto_region 6 with (first | ((with_reducible refine wpList_load_in ?_ ?_ HD.out.1.i ?_); rfl; rfl) | ((with_reducible refine wpList_load_bal ?_ ?_ HD.out.1.b1 ?_); rfl; rfl) | ((with_reducible refine wpList_load_at wf.a ?_ ?_ HD.out.1.a ?_); rfl; rfl) | ((with_reducible refine wpList_load_ce wf.x ?_ ?_ HD.out.1.x ?_); rfl; rfl) | (go_at_call 57; (with_reducible refine HC.out.mono ?_); rintro e w3 ⟨u3, rfl, hy, hb⟩; have HD := hide (show LAt w3 w.heap.size 37 m ∧ By w.heap.size w3 u3 (z3 ++ encB m.i) ∧ Below w.heap.size w w3 from ⟨HD.out.1.kept hb, hy, kept_trans HD.out.2.2 hb⟩); have c0 : w3.cell? ⟨w.heap.size, 0, none⟩ = some (.int .i64 7) := HD.out.1.k1.trans (by rw [hk]); clear hy hb HC))
      have HC := hide (rballot_by HD.out.2.1 HZ.out m.b (small ba bb) (small bc (by omega)) HD.out.2.2.size)
      have HZ := hide (show ((z3 ++ encB m.i) ++ encB m.b).length ≤ 140737488353500 from by simp only [List.length_append]; have := HL0.out; have := encB_len m.i; have := encB_len m.b; have := packC_len m.c; have := (encN_len m.a).2; have := wf.a; have := (encX_len wf.x).2; omega)
      go_upto_region 8 with (first | ((with_reducible refine wpList_load_in ?_ ?_ HD.out.1.i ?_); rfl; rfl) | ((with_reducible refine wpList_load_bal ?_ ?_ HD.out.1.b1 ?_); rfl; rfl) | ((with_reducible refine wpList_load_at wf.a ?_ ?_ HD.out.1.a ?_); rfl; rfl) | ((with_reducible refine wpList_load_ce wf.x ?_ ?_ HD.out.1.x ?_); rfl; rfl) | (go_at_call 42; (with_reducible refine HC.out.mono ?_); rintro e w3 ⟨u3, rfl, hy, hb⟩; have HD := hide (show LAt w3 w.heap.size 37 m ∧ By w.heap.size w3 u3 ((z3 ++ encB m.i) ++ encB m.b) ∧ Below w.heap.size w w3 from ⟨HD.out.1.kept hb, hy, kept_trans HD.out.2.2 hb⟩); have c0 : w3.cell? ⟨w.heap.size, 0, none⟩ = some (.int .i64 7) := HD.out.1.k1.trans (by rw [hk]); clear hy hb HC))
      have HC := hide ((rputcell_any HD.out.2.1.sl (by have := HZ.out; simp only [List.length_append] at this ⊢; have := HL0.out; have := encB_len m.i; have := encB_len m.b; have := packC_len m.c; have := (encN_len m.a).2; have := wf.a; have := (encX_len wf.x).2; omega) m.x wf.x ok.out.x))
      have HZ := hide (show (((z3 ++ encB m.i) ++ encB m.b) ++ encX m.x).length ≤ 140737488353500 from by simp only [List.length_append]; have := HL0.out; have := encB_len m.i; have := encB_len m.b; have := packC_len m.c; have := (encN_len m.a).2; have := wf.a; have := (encX_len wf.x).2; omega)
      go_wp2_with (first | ((with_reducible refine wpList_load_in ?_ ?_ HD.out.1.i ?_); rfl; rfl) | ((with_reducible refine wpList_load_bal ?_ ?_ HD.out.1.b1 ?_); rfl; rfl) | ((with_reducible refine wpList_load_at wf.a ?_ ?_ HD.out.1.a ?_); rfl; rfl) | ((with_reducible refine wpList_load_ce wf.x ?_ ?_ HD.out.1.x ?_); rfl; rfl) | (go_at_call 14; (with_reducible refine HC.out.mono ?_); rintro e w3 ⟨u3, rfl, hy, hb⟩; have HD := hide (show LAt w3 w.heap.size 37 m ∧ By w.heap.size w3 u3 (((z3 ++ encB m.i) ++ encB m.b) ++ encX m.x) ∧ Below w.heap.size w w3 from ⟨HD.out.1.kept hb, hy.mono HD.out.2.2.size, kept_trans HD.out.2.2 hb⟩); have c0 : w3.cell? ⟨w.heap.size, 0, none⟩ = some (.int .i64 7) := HD.out.1.k1.trans (by rw [hk]); clear hy hb HC))
      go_ret
      refine ⟨_, rfl, ?_, HD.out.2.2⟩
      have e : encM m = (((z3 ++ encB m.i) ++ encB m.b) ++ encX m.x) := by rw [EM.out]; unfold encR; simp [nmI, nmB, nmC, nmA, nmX, nmD, nmZ, hk, List.append_assoc]
      rw [e]
      exact HD.out.2.1
    · have c0 : w3.cell? ⟨w.heap.size, 0, none⟩ = some (.int .i64 8) := HD.out.1.k1.trans (by rw [hk])
      have HZ := hide (show z3.length ≤ 140737488353500 from by have := HL0.out; omega)
      obtain ⟨⟨⟨ia, ib⟩, ic, id⟩, ⟨ba, bb⟩, bc, bd⟩ := ok.out.i (by simp [nmI, hk])
      have HC := hide (rinst_by HD.out.2.1 HZ.out m.i (small ia (by omega)) (small (by omega) id) HD.out.2.2.size)
      have HZ := hide (show (z3 ++ encB m.i).length ≤ 140737488353500 from by simp only [List.length_append]; have := HL0.out; have := encB_len m.i; have := encB_len m.b; have := packC_len m.c; have := (encN_len m.a).2; have := wf.a; have := (encX_len wf.x).2; omega)
      go_upto_region 6 with (first | ((with_reducible refine wpList_load_in ?_ ?_ HD.out.1.i ?_); rfl; rfl) | ((with_reducible refine wpList_load_bal ?_ ?_ HD.out.1.b1 ?_); rfl; rfl) | ((with_reducible refine wpList_load_at wf.a ?_ ?_ HD.out.1.a ?_); rfl; rfl) | ((with_reducible refine wpList_load_ce wf.x ?_ ?_ HD.out.1.x ?_); rfl; rfl) | (go_at_call 57; (with_reducible refine HC.out.mono ?_); rintro e w3 ⟨u3, rfl, hy, hb⟩; have HD := hide (show LAt w3 w.heap.size 37 m ∧ By w.heap.size w3 u3 (z3 ++ encB m.i) ∧ Below w.heap.size w w3 from ⟨HD.out.1.kept hb, hy, kept_trans HD.out.2.2 hb⟩); have c0 : w3.cell? ⟨w.heap.size, 0, none⟩ = some (.int .i64 8) := HD.out.1.k1.trans (by rw [hk]); clear hy hb HC))
      have HC := hide (rballot_by HD.out.2.1 HZ.out m.b (small ba bb) (small bc (by omega)) HD.out.2.2.size)
      have HZ := hide (show ((z3 ++ encB m.i) ++ encB m.b).length ≤ 140737488353500 from by simp only [List.length_append]; have := HL0.out; have := encB_len m.i; have := encB_len m.b; have := packC_len m.c; have := (encN_len m.a).2; have := wf.a; have := (encX_len wf.x).2; omega)
      go_upto_region 8 with (first | ((with_reducible refine wpList_load_in ?_ ?_ HD.out.1.i ?_); rfl; rfl) | ((with_reducible refine wpList_load_bal ?_ ?_ HD.out.1.b1 ?_); rfl; rfl) | ((with_reducible refine wpList_load_at wf.a ?_ ?_ HD.out.1.a ?_); rfl; rfl) | ((with_reducible refine wpList_load_ce wf.x ?_ ?_ HD.out.1.x ?_); rfl; rfl) | (go_at_call 42; (with_reducible refine HC.out.mono ?_); rintro e w3 ⟨u3, rfl, hy, hb⟩; have HD := hide (show LAt w3 w.heap.size 37 m ∧ By w.heap.size w3 u3 ((z3 ++ encB m.i) ++ encB m.b) ∧ Below w.heap.size w w3 from ⟨HD.out.1.kept hb, hy, kept_trans HD.out.2.2 hb⟩); have c0 : w3.cell? ⟨w.heap.size, 0, none⟩ = some (.int .i64 8) := HD.out.1.k1.trans (by rw [hk]); clear hy hb HC))
      go_wp2
      go_ret
      refine ⟨_, rfl, ?_, HD.out.2.2⟩
      have e : encM m = ((z3 ++ encB m.i) ++ encB m.b) := by rw [EM.out]; unfold encR; simp [nmI, nmB, nmC, nmA, nmX, nmD, nmZ, hk, List.append_assoc]
      rw [e]
      exact HD.out.2.1
    · have c0 : w3.cell? ⟨w.heap.size, 0, none⟩ = some (.int .i64 9) := HD.out.1.k1.trans (by rw [hk])
      have HZ := hide (show z3.length ≤ 140737488353500 from by have := HL0.out; omega)
      have HT := hide (fun (j : Nat) (hj : j < 7) => encN_take (a := m.d) (k := j) (by rw [wf.d]; exact hj))
      have HI := hide (fun (j : Nat) (hj : j < 7) => rightD_says ok.out.d wf.d (ix m.d j) (by rw [ix_lt m.d (by rw [wf.d]; exact hj)]; exact List.getElem_mem _))
      have HN := hide (fun (j : Nat) => (encN_len (m.d.take j)).2)
      go_wp2
      go_loopw [3, 4] (fun b i wr => ∃ j : Nat, j ≤ 7 ∧ i = .int .i64 j ∧ Hid (By w.heap.size wr b (z3 ++ encN (m.d.take j))) ∧ Hid (LAt wr w.heap.size 37 m) ∧ Hid (Below w.heap.size w wr)) (fun _ i _ => 7 - (intOf i).toNat)
      case atStart => exact ⟨0, by omega, rfl, hide (by rw [List.take_zero]; show By w.heap.size w3 u3 (z3 ++ []); rw [List.append_nil]; exact HD.out.2.1), hide HD.out.1, hide HD.out.2.2⟩
      case round =>
        obtain ⟨j, hj, rfl, HY, HL, HBR⟩ := hrel
        by_cases hlt : j < 7
        · have j7 : (j : Int) < 7 := by omega
          have cq := HL.out.d j _ (cellsR_at m.d (by rw [wf.d]; exact hlt))
          have HQ := hide (HI.out j hlt)
          have HS := hide (HT.out j hlt)
          have HLL := hide (show (z3 ++ encN (m.d.take j)).length ≤ 140737488354000 by rw [len_two]; have := HN.out j; rw [List.length_take] at this; have := HL0.out; omega)
          generalize ix m.d j = q at cq HQ HS
          have HN2 := hide (rbnum HY.out q HLL.out (by have := HQ.out; omega) (by have := HQ.out; omega))
          go_wp2_with (go_at_call 43; (with_reducible refine HN2.out.mono ?_); rintro e w4 ⟨u4, rfl, hy, hb⟩)
          have HY3 := hide (show By w.heap.size w4 u4 (z3 ++ encN (m.d.take (j + 1))) by rw [HS.out, ← List.append_assoc]; exact hy.mono HBR.out.size)
          have HL3 := hide (HL.out.kept hb)
          have HB3 := hide (kept_trans HBR.out hb)
          clear hy hb
          go_roundw
          case rel => exact ⟨j + 1, by omega, by go_num, HY3, HL3, HB3⟩
          case measure => simp [intOf]; omega
        · have e7 : j = 7 := by omega
          have j7 : ¬ (j : Int) < 7 := by omega
          have HY := hide (show By w.heap.size wr _ (z3 ++ encN (m.d.take 7)) by rw [← e7]; exact HY.out)
          clear e7 hlt
          have HE := hide (show encN (m.d.take 7) = encN m.d by rw [List.take_of_length_le (by rw [wf.d]; exact Nat.le_refl 7)])
          have e : encM m = z3 ++ encN m.d := by rw [EM.out]; unfold encR; simp [nmI, nmB, nmC, nmA, nmX, nmD, nmZ, hk]
          rw [e]
          go_wp2
          go_ret
          have hz := HY.out
          rw [HE.out] at hz
          refine ⟨_, rfl, ?_, HBR.out⟩
          exact hz
    · have c0 : w3.cell? ⟨w.heap.size, 0, none⟩ = some (.int .i64 10) := HD.out.1.k1.trans (by rw [hk])
      have HZ := hide (show z3.length ≤ 140737488353500 from by have := HL0.out; omega)
      have c50 := HD.out.1.z
      have HC := hide (rbtext_z HD.out.2.1 m.z (by have := HL0.out; omega) (by have := ok.out.z; omega))
      go_wp2_with (go_at_call 58; (with_reducible refine HC.out.mono ?_); rintro e w3 ⟨u3, rfl, hy, hb⟩; have HD := hide (show LAt w3 w.heap.size 37 m ∧ By w.heap.size w3 u3 (z3 ++ text7 m.z) ∧ Below w.heap.size w w3 from ⟨HD.out.1.kept hb, hy.mono HD.out.2.2.size, kept_trans HD.out.2.2 hb⟩); clear hy hb HC)
      go_ret
      refine ⟨_, rfl, ?_, HD.out.2.2⟩
      have e : encM m = (z3 ++ text7 m.z) := by rw [EM.out]; unfold encR; simp [nmI, nmB, nmC, nmA, nmX, nmD, nmZ, hk]
      rw [e]
      exact HD.out.2.1
    · have c0 : w3.cell? ⟨w.heap.size, 0, none⟩ = some (.int .i64 11) := HD.out.1.k1.trans (by rw [hk])
      have HZ := hide (show z3.length ≤ 140737488353500 from by have := HL0.out; omega)
      have HT := hide (fun (j : Nat) (hj : j < 7) => encN_take (a := m.d) (k := j) (by rw [wf.d]; exact hj))
      have HI := hide (fun (j : Nat) (hj : j < 7) => rightD_says ok.out.d wf.d (ix m.d j) (by rw [ix_lt m.d (by rw [wf.d]; exact hj)]; exact List.getElem_mem _))
      have HN := hide (fun (j : Nat) => (encN_len (m.d.take j)).2)
      go_wp2
      go_loopw [3, 4] (fun b i wr => ∃ j : Nat, j ≤ 7 ∧ i = .int .i64 j ∧ Hid (By w.heap.size wr b (z3 ++ encN (m.d.take j))) ∧ Hid (LAt wr w.heap.size 37 m) ∧ Hid (Below w.heap.size w wr)) (fun _ i _ => 7 - (intOf i).toNat)
      case atStart => exact ⟨0, by omega, rfl, hide (by rw [List.take_zero]; show By w.heap.size w3 u3 (z3 ++ []); rw [List.append_nil]; exact HD.out.2.1), hide HD.out.1, hide HD.out.2.2⟩
      case round =>
        obtain ⟨j, hj, rfl, HY, HL, HBR⟩ := hrel
        by_cases hlt : j < 7
        · have j7 : (j : Int) < 7 := by omega
          have cq := HL.out.d j _ (cellsR_at m.d (by rw [wf.d]; exact hlt))
          have HQ := hide (HI.out j hlt)
          have HS := hide (HT.out j hlt)
          have HLL := hide (show (z3 ++ encN (m.d.take j)).length ≤ 140737488354000 by rw [len_two]; have := HN.out j; rw [List.length_take] at this; have := HL0.out; omega)
          generalize ix m.d j = q at cq HQ HS
          have HN2 := hide (rbnum HY.out q HLL.out (by have := HQ.out; omega) (by have := HQ.out; omega))
          go_wp2_with (go_at_call 43; (with_reducible refine HN2.out.mono ?_); rintro e w4 ⟨u4, rfl, hy, hb⟩)
          have HY3 := hide (show By w.heap.size w4 u4 (z3 ++ encN (m.d.take (j + 1))) by rw [HS.out, ← List.append_assoc]; exact hy.mono HBR.out.size)
          have HL3 := hide (HL.out.kept hb)
          have HB3 := hide (kept_trans HBR.out hb)
          clear hy hb
          go_roundw
          case rel => exact ⟨j + 1, by omega, by go_num, HY3, HL3, HB3⟩
          case measure => simp [intOf]; omega
        · have e7 : j = 7 := by omega
          have j7 : ¬ (j : Int) < 7 := by omega
          have HY := hide (show By w.heap.size wr _ (z3 ++ encN (m.d.take 7)) by rw [← e7]; exact HY.out)
          clear e7 hlt
          have HE := hide (show encN (m.d.take 7) = encN m.d by rw [List.take_of_length_le (by rw [wf.d]; exact Nat.le_refl 7)])
          have e : encM m = z3 ++ encN m.d := by rw [EM.out]; unfold encR; simp [nmI, nmB, nmC, nmA, nmX, nmD, nmZ, hk]
          rw [e]
          go_wp2
          go_ret
          have hz := HY.out
          rw [HE.out] at hz
          refine ⟨_, rfl, ?_, HBR.out⟩
          exact hz
end Go.Proofs.Ytlnpfaoeockoiaa
