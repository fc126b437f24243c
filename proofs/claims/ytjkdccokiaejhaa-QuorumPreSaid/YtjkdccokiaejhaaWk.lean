/- QuorumSizes walked. Conditions: the number has room. -/
import Derived.Test.YtjkdccokiaejhaaQn
namespace Go.Proofs.Ytjkdccokiaejhaa
set_option maxRecDepth 100000
open Go.RowKit
theorem inst_under : Try.prog.underlying 40 = some (.struct (Try.prog.fieldsOf 40)) := by kernel_rfl
theorem inst_info : (Try.prog.info? 40).map (·.size) = some 2 := by kernel_rfl
theorem Row.pair_at {w : World} {g : Nat} {t : TypeId} {x y : Value} (R : Row w g t #[x, y]) : w.rangeAt g 0 [x, y] := R.mid (A := []) (ys := [x, y]) (B := []) rfl rfl
theorem neq_at {x y : List Int} (hx : x.length = 8) (hy : y.length = 8) (w : World) : (binOp .neq 26 (.agg (cA x)) (.agg (cA y))).run Try.prog w = .ok (.bool (!decide (x = y))) w := by
  obtain ⟨a0, a1, a2, a3, a4, a5, a6, a7, rfl⟩ := len8 hx
  obtain ⟨b0, b1, b2, b3, b4, b5, b6, b7, rfl⟩ := len8 hy
  exact neq_attr a0 a1 a2 a3 a4 a5 a6 a7 b0 b1 b2 b3 b4 b5 b6 b7 w
/-- While it goes on: the instance. -/
structure Szw (W w : World) (r s : Int) : Prop where
  low : Below W.heap.size W w
  i : Row w W.heap.size 40 #[.int .i64 r, .int .i64 s]
theorem Szw.kept {W w w' : World} {r s : Int} (h : Szw W w r s) (hb : Below w.heap.size w w') : Szw W w' r s := ⟨kept_trans h.low hb, h.i.below hb h.i.lt⟩
theorem Szw.drew {W w : World} {r s : Int} (h : Szw W w r s) : Szw W w.drew r s := h.kept (kept_drewN (kept_refl w) 1)
set_option maxHeartbeats 4000000 in
theorem sizes_walk {n r s : Int} (W : World) (hn : -9223372036854775808 ≤ n ∧ n ≤ 9223372036854775807) :
    Calls Try.prog 4 #[.int .i64 n, .agg #[.int .i64 r, .int .i64 s]] W fun e w' => e = .returned (.bool true) ∧ Below W.heap.size W w' := by
  have HRR : Hid (∀ w : World, Calls Try.prog 3 #[] w fun e w' => e = .returned (.bool true) ∧ Below w.heap.size w w') := hide runs_ok
  have HN1 := hide (fun w => noop_ok r s w)
  have HN2 := hide (fun w => rnoop_any r s w)
  have hE := fun w => neq_at (x := noopL r s) (y := noopL r s) rfl rfl w
  generalize noopL r s = z at HN1 HN2 hE
  rw [decide_eq_true rfl] at hE
  have HB := hide (show Szw W (W.alloc (.cells #[.int .i64 r, .int .i64 s] 40)) r s from ⟨kept_alloc (kept_refl W) _, Row.new W _ _⟩)
  by_cases hf : n = 3 ∨ n = 5 ∨ n = 7
  · rcases hf with rfl | rfl | rfl
    · skip
      have HF := hide (fun w => fits_ok 3 true w rfl hn)
      have HS := hide (fun w => show Calls Try.prog 18 #[.int .i64 3] w (fun e w' => e = .returned (.int .i64 2) ∧ w = w') from pslow_any 3 (by omega) w)
      have HA := hide (fun w => show Calls Try.prog 20 #[.int .i64 3] w (fun e w' => e = .returned (.int .i64 2) ∧ w = w') from pfast_any 3 (by omega) w)
      have HS2 := hide (fun w => show Calls Try.prog 19 #[.int .i64 3] w (fun e w' => e = .returned (.int .i64 2) ∧ w = w') from rslow_any 3 (by omega) w)
      have HA2 := hide (fun w => show Calls Try.prog 21 #[.int .i64 3] w (fun e w' => e = .returned (.int .i64 2) ∧ w = w') from rfast_any 3 (by omega) w)
      go_enter Try.func4, Try.ntmps4
      go_upto_region 2 with (fail)
      generalize W.alloc (.cells #[.int .i64 r, .int .i64 s] 40) = w1 at HB ⊢
      refine wp_region_noPanic ?_
      refine wp_region_U 10 (fun wz => Szw W wz r s) (by kernel_rfl) ?_
      have HD := hide HB.out.drew
      generalize World.drew _ = wd at HD ⊢
      refine anyU_take2 (i := 0) (v := .int .i64 3) (by simp only [List.getElem?_toArray, List.getElem?_cons_zero]; exact rfl) (by kernel_rfl) 12 (by kernel_rfl) (by kernel_rfl) (fun _ _ _ h => h) (by kernel_rfl) (by kernel_rfl) (by kernel_rfl) (by kernel_rfl) (Or.inl ⟨by rfl, fun w hSw => (by go_simp; try with_reducible rfl)⟩) (by with_reducible exact HD.out) ?_
      try simp only [Act.put, List.setIfInBounds_toArray, List.set_cons_zero, List.set_cons_succ]
      refine anyU_take2 (i := 2) (v := .bool true) (by simp only [List.getElem?_toArray, List.getElem?_cons_succ, List.getElem?_cons_zero]; exact rfl) (by kernel_rfl) 12 (by kernel_rfl) (by kernel_rfl) (fun _ _ _ h => h) (by kernel_rfl) (by kernel_rfl) (by kernel_rfl) (by kernel_rfl) (Or.inl ⟨by rfl, fun w hSw => (by go_simp; try with_reducible rfl)⟩) (by with_reducible exact HD.out) ?_
      try simp only [Act.put, List.setIfInBounds_toArray, List.set_cons_zero, List.set_cons_succ]
      refine anyU_one (i := 1) (by kernel_rfl) (by simp only [List.getElem?_toArray, List.getElem?_cons_succ, List.getElem?_cons_zero]; exact rfl) (fun K hK => ?_)
      try go_simp
      refine (HF.out _).mono ?_
      rintro e2 w2 ⟨rfl, hw⟩
      subst hw
      refine hK.out _ _ (fun _ _ => HD.out) ?_
      clear hK K
      try simp only [Act.put, List.setIfInBounds_toArray, List.set_cons_zero, List.set_cons_succ]
      refine anyU_take2 (i := 3) (v := .bool false) (by simp only [List.getElem?_toArray, List.getElem?_cons_succ, List.getElem?_cons_zero]; exact rfl) (by kernel_rfl) 12 (by kernel_rfl) (by kernel_rfl) (fun _ _ _ h => h) (by kernel_rfl) (by kernel_rfl) (by kernel_rfl) (by kernel_rfl) (Or.inl ⟨by rfl, fun w hSw => (by go_simp; try with_reducible rfl)⟩) (by with_reducible exact HD.out) ?_
      try simp only [Act.put, List.setIfInBounds_toArray, List.set_cons_zero, List.set_cons_succ]
      refine anyU_take2 (i := 4) (v := .bool false) (by simp only [List.getElem?_toArray, List.getElem?_cons_succ, List.getElem?_cons_zero]; exact rfl) (by kernel_rfl) 12 (by kernel_rfl) (by kernel_rfl) (fun _ _ _ h => h) (by kernel_rfl) (by kernel_rfl) (by kernel_rfl) (by kernel_rfl) (Or.inl ⟨by rfl, fun w hSw => (by go_simp; try with_reducible rfl)⟩) (by with_reducible exact HD.out) ?_
      try simp only [Act.put, List.setIfInBounds_toArray, List.set_cons_zero, List.set_cons_succ]
      refine anyU_take2 (i := 5) (v := .agg #[.int .i64 r, .int .i64 s]) (by simp only [List.getElem?_toArray, List.getElem?_cons_succ, List.getElem?_cons_zero]; exact rfl) (by kernel_rfl) 12 (by kernel_rfl) (by kernel_rfl) (fun _ _ _ h => h) (by kernel_rfl) (by kernel_rfl) (by kernel_rfl) (by kernel_rfl) (Or.inl ⟨by rfl, fun w hSw => exec_load_gp (cs := [.int .i64 r, .int .i64 s]) rfl rfl (hSw.i.pair_at) inst_under rfl inst_info⟩) (by with_reducible exact HD.out) ?_
      try simp only [Act.put, List.setIfInBounds_toArray, List.set_cons_zero, List.set_cons_succ]
      refine anyU_take2 (i := 7) (v := .agg #[.int .i64 r, .int .i64 s]) (by simp only [List.getElem?_toArray, List.getElem?_cons_succ, List.getElem?_cons_zero]; exact rfl) (by kernel_rfl) 12 (by kernel_rfl) (by kernel_rfl) (fun _ _ _ h => h) (by kernel_rfl) (by kernel_rfl) (by kernel_rfl) (by kernel_rfl) (Or.inl ⟨by rfl, fun w hSw => exec_load_gp (cs := [.int .i64 r, .int .i64 s]) rfl rfl (hSw.i.pair_at) inst_under rfl inst_info⟩) (by with_reducible exact HD.out) ?_
      try simp only [Act.put, List.setIfInBounds_toArray, List.set_cons_zero, List.set_cons_succ]
      refine anyU_one (i := 6) (by kernel_rfl) (by simp only [List.getElem?_toArray, List.getElem?_cons_succ, List.getElem?_cons_zero]; exact rfl) (fun K hK => ?_)
      try go_simp
      refine (HN1.out _).mono ?_
      rintro e3 w3 ⟨rfl, hb⟩
      replace HD := hide (HD.out.kept hb)
      clear hb
      refine hK.out _ _ (fun _ _ => HD.out) ?_
      clear hK K
      try simp only [Act.put, List.setIfInBounds_toArray, List.set_cons_zero, List.set_cons_succ]
      refine anyU_one (i := 8) (by kernel_rfl) (by simp only [List.getElem?_toArray, List.getElem?_cons_succ, List.getElem?_cons_zero]; exact rfl) (fun K hK => ?_)
      try go_simp
      refine (HN2.out _).mono ?_
      rintro e4 w4 ⟨rfl, hb⟩
      replace HD := hide (HD.out.kept hb)
      clear hb
      refine hK.out _ _ (fun _ _ => HD.out) ?_
      clear hK K
      try simp only [Act.put, List.setIfInBounds_toArray, List.set_cons_zero, List.set_cons_succ]
      refine anyU_take2 (i := 9) (v := .bool false) (by simp only [List.getElem?_toArray, List.getElem?_cons_succ, List.getElem?_cons_zero]; exact rfl) (by kernel_rfl) 12 (by kernel_rfl) (by kernel_rfl) (fun _ _ _ h => h) (by kernel_rfl) (by kernel_rfl) (by kernel_rfl) (by kernel_rfl) (Or.inl ⟨by rfl, fun w hSw => (by go_simp; try with_reducible rfl)⟩) (by with_reducible exact HD.out) ?_
      try simp only [Act.put, List.setIfInBounds_toArray, List.set_cons_zero, List.set_cons_succ]
      refine anyU_one (i := 10) (by kernel_rfl) (by simp only [List.getElem?_toArray, List.getElem?_cons_succ, List.getElem?_cons_zero]; exact rfl) (fun K hK => ?_)
      try go_simp
      refine hK.out _ _ (fun e _ => absurd rfl e) ?_
      clear hK K
      try simp only [Act.put]
      refine anyU_done (by kernel_rfl) ?_
      refine NoPanic.normal ?_
      try simp only [Act.put]
      clear hE HF HN1 HN2
      go_wp2_with (first
        | (go_at_call 18; (with_reducible refine (HS.out _).mono ?_); rintro e w2 ⟨rfl, hb⟩; subst hb)
        | (go_at_call 20; (with_reducible refine (HA.out _).mono ?_); rintro e w2 ⟨rfl, hb⟩; subst hb)
        | (go_at_call 19; (with_reducible refine (HS2.out _).mono ?_); rintro e w2 ⟨rfl, hb⟩; subst hb)
        | (go_at_call 21; (with_reducible refine (HA2.out _).mono ?_); rintro e w2 ⟨rfl, hb⟩; subst hb)
        | (go_at_call 3; (with_reducible refine (HRR.out _).mono ?_); rintro e w2 ⟨rfl, hb⟩; replace HD := hide (HD.out.kept hb); clear hb))
      go_ret
      exact ⟨rfl, HD.out.low⟩
    · skip
      have HF := hide (fun w => fits_ok 5 true w rfl hn)
      have HS := hide (fun w => show Calls Try.prog 18 #[.int .i64 5] w (fun e w' => e = .returned (.int .i64 3) ∧ w = w') from pslow_any 5 (by omega) w)
      have HA := hide (fun w => show Calls Try.prog 20 #[.int .i64 5] w (fun e w' => e = .returned (.int .i64 4) ∧ w = w') from pfast_any 5 (by omega) w)
      have HS2 := hide (fun w => show Calls Try.prog 19 #[.int .i64 5] w (fun e w' => e = .returned (.int .i64 3) ∧ w = w') from rslow_any 5 (by omega) w)
      have HA2 := hide (fun w => show Calls Try.prog 21 #[.int .i64 5] w (fun e w' => e = .returned (.int .i64 4) ∧ w = w') from rfast_any 5 (by omega) w)
      go_enter Try.func4, Try.ntmps4
      go_upto_region 2 with (fail)
      generalize W.alloc (.cells #[.int .i64 r, .int .i64 s] 40) = w1 at HB ⊢
      refine wp_region_noPanic ?_
      refine wp_region_U 10 (fun wz => Szw W wz r s) (by kernel_rfl) ?_
      have HD := hide HB.out.drew
      generalize World.drew _ = wd at HD ⊢
      refine anyU_take2 (i := 0) (v := .int .i64 5) (by simp only [List.getElem?_toArray, List.getElem?_cons_zero]; exact rfl) (by kernel_rfl) 12 (by kernel_rfl) (by kernel_rfl) (fun _ _ _ h => h) (by kernel_rfl) (by kernel_rfl) (by kernel_rfl) (by kernel_rfl) (Or.inl ⟨by rfl, fun w hSw => (by go_simp; try with_reducible rfl)⟩) (by with_reducible exact HD.out) ?_
      try simp only [Act.put, List.setIfInBounds_toArray, List.set_cons_zero, List.set_cons_succ]
      refine anyU_take2 (i := 2) (v := .bool true) (by simp only [List.getElem?_toArray, List.getElem?_cons_succ, List.getElem?_cons_zero]; exact rfl) (by kernel_rfl) 12 (by kernel_rfl) (by kernel_rfl) (fun _ _ _ h => h) (by kernel_rfl) (by kernel_rfl) (by kernel_rfl) (by kernel_rfl) (Or.inl ⟨by rfl, fun w hSw => (by go_simp; try with_reducible rfl)⟩) (by with_reducible exact HD.out) ?_
      try simp only [Act.put, List.setIfInBounds_toArray, List.set_cons_zero, List.set_cons_succ]
      refine anyU_one (i := 1) (by kernel_rfl) (by simp only [List.getElem?_toArray, List.getElem?_cons_succ, List.getElem?_cons_zero]; exact rfl) (fun K hK => ?_)
      try go_simp
      refine (HF.out _).mono ?_
      rintro e2 w2 ⟨rfl, hw⟩
      subst hw
      refine hK.out _ _ (fun _ _ => HD.out) ?_
      clear hK K
      try simp only [Act.put, List.setIfInBounds_toArray, List.set_cons_zero, List.set_cons_succ]
      refine anyU_take2 (i := 3) (v := .bool false) (by simp only [List.getElem?_toArray, List.getElem?_cons_succ, List.getElem?_cons_zero]; exact rfl) (by kernel_rfl) 12 (by kernel_rfl) (by kernel_rfl) (fun _ _ _ h => h) (by kernel_rfl) (by kernel_rfl) (by kernel_rfl) (by kernel_rfl) (Or.inl ⟨by rfl, fun w hSw => (by go_simp; try with_reducible rfl)⟩) (by with_reducible exact HD.out) ?_
      try simp only [Act.put, List.setIfInBounds_toArray, List.set_cons_zero, List.set_cons_succ]
      refine anyU_take2 (i := 4) (v := .bool false) (by simp only [List.getElem?_toArray, List.getElem?_cons_succ, List.getElem?_cons_zero]; exact rfl) (by kernel_rfl) 12 (by kernel_rfl) (by kernel_rfl) (fun _ _ _ h => h) (by kernel_rfl) (by kernel_rfl) (by kernel_rfl) (by kernel_rfl) (Or.inl ⟨by rfl, fun w hSw => (by go_simp; try with_reducible rfl)⟩) (by with_reducible exact HD.out) ?_
      try simp only [Act.put, List.setIfInBounds_toArray, List.set_cons_zero, List.set_cons_succ]
      refine anyU_take2 (i := 5) (v := .agg #[.int .i64 r, .int .i64 s]) (by simp only [List.getElem?_toArray, List.getElem?_cons_succ, List.getElem?_cons_zero]; exact rfl) (by kernel_rfl) 12 (by kernel_rfl) (by kernel_rfl) (fun _ _ _ h => h) (by kernel_rfl) (by kernel_rfl) (by kernel_rfl) (by kernel_rfl) (Or.inl ⟨by rfl, fun w hSw => exec_load_gp (cs := [.int .i64 r, .int .i64 s]) rfl rfl (hSw.i.pair_at) inst_under rfl inst_info⟩) (by with_reducible exact HD.out) ?_
      try simp only [Act.put, List.setIfInBounds_toArray, List.set_cons_zero, List.set_cons_succ]
      refine anyU_take2 (i := 7) (v := .agg #[.int .i64 r, .int .i64 s]) (by simp only [List.getElem?_toArray, List.getElem?_cons_succ, List.getElem?_cons_zero]; exact rfl) (by kernel_rfl) 12 (by kernel_rfl) (by kernel_rfl) (fun _ _ _ h => h) (by kernel_rfl) (by kernel_rfl) (by kernel_rfl) (by kernel_rfl) (Or.inl ⟨by rfl, fun w hSw => exec_load_gp (cs := [.int .i64 r, .int .i64 s]) rfl rfl (hSw.i.pair_at) inst_under rfl inst_info⟩) (by with_reducible exact HD.out) ?_
      try simp only [Act.put, List.setIfInBounds_toArray, List.set_cons_zero, List.set_cons_succ]
      refine anyU_one (i := 6) (by kernel_rfl) (by simp only [List.getElem?_toArray, List.getElem?_cons_succ, List.getElem?_cons_zero]; exact rfl) (fun K hK => ?_)
      try go_simp
      refine (HN1.out _).mono ?_
      rintro e3 w3 ⟨rfl, hb⟩
      replace HD := hide (HD.out.kept hb)
      clear hb
      refine hK.out _ _ (fun _ _ => HD.out) ?_
      clear hK K
      try simp only [Act.put, List.setIfInBounds_toArray, List.set_cons_zero, List.set_cons_succ]
      refine anyU_one (i := 8) (by kernel_rfl) (by simp only [List.getElem?_toArray, List.getElem?_cons_succ, List.getElem?_cons_zero]; exact rfl) (fun K hK => ?_)
      try go_simp
      refine (HN2.out _).mono ?_
      rintro e4 w4 ⟨rfl, hb⟩
      replace HD := hide (HD.out.kept hb)
      clear hb
      refine hK.out _ _ (fun _ _ => HD.out) ?_
      clear hK K
      try simp only [Act.put, List.setIfInBounds_toArray, List.set_cons_zero, List.set_cons_succ]
      refine anyU_take2 (i := 9) (v := .bool false) (by simp only [List.getElem?_toArray, List.getElem?_cons_succ, List.getElem?_cons_zero]; exact rfl) (by kernel_rfl) 12 (by kernel_rfl) (by kernel_rfl) (fun _ _ _ h => h) (by kernel_rfl) (by kernel_rfl) (by kernel_rfl) (by kernel_rfl) (Or.inl ⟨by rfl, fun w hSw => (by go_simp; try with_reducible rfl)⟩) (by with_reducible exact HD.out) ?_
      try simp only [Act.put, List.setIfInBounds_toArray, List.set_cons_zero, List.set_cons_succ]
      refine anyU_one (i := 10) (by kernel_rfl) (by simp only [List.getElem?_toArray, List.getElem?_cons_succ, List.getElem?_cons_zero]; exact rfl) (fun K hK => ?_)
      try go_simp
      refine hK.out _ _ (fun e _ => absurd rfl e) ?_
      clear hK K
      try simp only [Act.put]
      refine anyU_done (by kernel_rfl) ?_
      refine NoPanic.normal ?_
      try simp only [Act.put]
      clear hE HF HN1 HN2
      go_wp2_with (first
        | (go_at_call 18; (with_reducible refine (HS.out _).mono ?_); rintro e w2 ⟨rfl, hb⟩; subst hb)
        | (go_at_call 20; (with_reducible refine (HA.out _).mono ?_); rintro e w2 ⟨rfl, hb⟩; subst hb)
        | (go_at_call 19; (with_reducible refine (HS2.out _).mono ?_); rintro e w2 ⟨rfl, hb⟩; subst hb)
        | (go_at_call 21; (with_reducible refine (HA2.out _).mono ?_); rintro e w2 ⟨rfl, hb⟩; subst hb)
        | (go_at_call 3; (with_reducible refine (HRR.out _).mono ?_); rintro e w2 ⟨rfl, hb⟩; replace HD := hide (HD.out.kept hb); clear hb))
      go_ret
      exact ⟨rfl, HD.out.low⟩
    · skip
      have HF := hide (fun w => fits_ok 7 true w rfl hn)
      have HS := hide (fun w => show Calls Try.prog 18 #[.int .i64 7] w (fun e w' => e = .returned (.int .i64 4) ∧ w = w') from pslow_any 7 (by omega) w)
      have HA := hide (fun w => show Calls Try.prog 20 #[.int .i64 7] w (fun e w' => e = .returned (.int .i64 6) ∧ w = w') from pfast_any 7 (by omega) w)
      have HS2 := hide (fun w => show Calls Try.prog 19 #[.int .i64 7] w (fun e w' => e = .returned (.int .i64 4) ∧ w = w') from rslow_any 7 (by omega) w)
      have HA2 := hide (fun w => show Calls Try.prog 21 #[.int .i64 7] w (fun e w' => e = .returned (.int .i64 6) ∧ w = w') from rfast_any 7 (by omega) w)
      go_enter Try.func4, Try.ntmps4
      go_upto_region 2 with (fail)
      generalize W.alloc (.cells #[.int .i64 r, .int .i64 s] 40) = w1 at HB ⊢
      refine wp_region_noPanic ?_
      refine wp_region_U 10 (fun wz => Szw W wz r s) (by kernel_rfl) ?_
      have HD := hide HB.out.drew
      generalize World.drew _ = wd at HD ⊢
      refine anyU_take2 (i := 0) (v := .int .i64 7) (by simp only [List.getElem?_toArray, List.getElem?_cons_zero]; exact rfl) (by kernel_rfl) 12 (by kernel_rfl) (by kernel_rfl) (fun _ _ _ h => h) (by kernel_rfl) (by kernel_rfl) (by kernel_rfl) (by kernel_rfl) (Or.inl ⟨by rfl, fun w hSw => (by go_simp; try with_reducible rfl)⟩) (by with_reducible exact HD.out) ?_
      try simp only [Act.put, List.setIfInBounds_toArray, List.set_cons_zero, List.set_cons_succ]
      refine anyU_take2 (i := 2) (v := .bool true) (by simp only [List.getElem?_toArray, List.getElem?_cons_succ, List.getElem?_cons_zero]; exact rfl) (by kernel_rfl) 12 (by kernel_rfl) (by kernel_rfl) (fun _ _ _ h => h) (by kernel_rfl) (by kernel_rfl) (by kernel_rfl) (by kernel_rfl) (Or.inl ⟨by rfl, fun w hSw => (by go_simp; try with_reducible rfl)⟩) (by with_reducible exact HD.out) ?_
      try simp only [Act.put, List.setIfInBounds_toArray, List.set_cons_zero, List.set_cons_succ]
      refine anyU_one (i := 1) (by kernel_rfl) (by simp only [List.getElem?_toArray, List.getElem?_cons_succ, List.getElem?_cons_zero]; exact rfl) (fun K hK => ?_)
      try go_simp
      refine (HF.out _).mono ?_
      rintro e2 w2 ⟨rfl, hw⟩
      subst hw
      refine hK.out _ _ (fun _ _ => HD.out) ?_
      clear hK K
      try simp only [Act.put, List.setIfInBounds_toArray, List.set_cons_zero, List.set_cons_succ]
      refine anyU_take2 (i := 3) (v := .bool false) (by simp only [List.getElem?_toArray, List.getElem?_cons_succ, List.getElem?_cons_zero]; exact rfl) (by kernel_rfl) 12 (by kernel_rfl) (by kernel_rfl) (fun _ _ _ h => h) (by kernel_rfl) (by kernel_rfl) (by kernel_rfl) (by kernel_rfl) (Or.inl ⟨by rfl, fun w hSw => (by go_simp; try with_reducible rfl)⟩) (by with_reducible exact HD.out) ?_
      try simp only [Act.put, List.setIfInBounds_toArray, List.set_cons_zero, List.set_cons_succ]
      refine anyU_take2 (i := 4) (v := .bool false) (by simp only [List.getElem?_toArray, List.getElem?_cons_succ, List.getElem?_cons_zero]; exact rfl) (by kernel_rfl) 12 (by kernel_rfl) (by kernel_rfl) (fun _ _ _ h => h) (by kernel_rfl) (by kernel_rfl) (by kernel_rfl) (by kernel_rfl) (Or.inl ⟨by rfl, fun w hSw => (by go_simp; try with_reducible rfl)⟩) (by with_reducible exact HD.out) ?_
      try simp only [Act.put, List.setIfInBounds_toArray, List.set_cons_zero, List.set_cons_succ]
      refine anyU_take2 (i := 5) (v := .agg #[.int .i64 r, .int .i64 s]) (by simp only [List.getElem?_toArray, List.getElem?_cons_succ, List.getElem?_cons_zero]; exact rfl) (by kernel_rfl) 12 (by kernel_rfl) (by kernel_rfl) (fun _ _ _ h => h) (by kernel_rfl) (by kernel_rfl) (by kernel_rfl) (by kernel_rfl) (Or.inl ⟨by rfl, fun w hSw => exec_load_gp (cs := [.int .i64 r, .int .i64 s]) rfl rfl (hSw.i.pair_at) inst_under rfl inst_info⟩) (by with_reducible exact HD.out) ?_
      try simp only [Act.put, List.setIfInBounds_toArray, List.set_cons_zero, List.set_cons_succ]
      refine anyU_take2 (i := 7) (v := .agg #[.int .i64 r, .int .i64 s]) (by simp only [List.getElem?_toArray, List.getElem?_cons_succ, List.getElem?_cons_zero]; exact rfl) (by kernel_rfl) 12 (by kernel_rfl) (by kernel_rfl) (fun _ _ _ h => h) (by kernel_rfl) (by kernel_rfl) (by kernel_rfl) (by kernel_rfl) (Or.inl ⟨by rfl, fun w hSw => exec_load_gp (cs := [.int .i64 r, .int .i64 s]) rfl rfl (hSw.i.pair_at) inst_under rfl inst_info⟩) (by with_reducible exact HD.out) ?_
      try simp only [Act.put, List.setIfInBounds_toArray, List.set_cons_zero, List.set_cons_succ]
      refine anyU_one (i := 6) (by kernel_rfl) (by simp only [List.getElem?_toArray, List.getElem?_cons_succ, List.getElem?_cons_zero]; exact rfl) (fun K hK => ?_)
      try go_simp
      refine (HN1.out _).mono ?_
      rintro e3 w3 ⟨rfl, hb⟩
      replace HD := hide (HD.out.kept hb)
      clear hb
      refine hK.out _ _ (fun _ _ => HD.out) ?_
      clear hK K
      try simp only [Act.put, List.setIfInBounds_toArray, List.set_cons_zero, List.set_cons_succ]
      refine anyU_one (i := 8) (by kernel_rfl) (by simp only [List.getElem?_toArray, List.getElem?_cons_succ, List.getElem?_cons_zero]; exact rfl) (fun K hK => ?_)
      try go_simp
      refine (HN2.out _).mono ?_
      rintro e4 w4 ⟨rfl, hb⟩
      replace HD := hide (HD.out.kept hb)
      clear hb
      refine hK.out _ _ (fun _ _ => HD.out) ?_
      clear hK K
      try simp only [Act.put, List.setIfInBounds_toArray, List.set_cons_zero, List.set_cons_succ]
      refine anyU_take2 (i := 9) (v := .bool false) (by simp only [List.getElem?_toArray, List.getElem?_cons_succ, List.getElem?_cons_zero]; exact rfl) (by kernel_rfl) 12 (by kernel_rfl) (by kernel_rfl) (fun _ _ _ h => h) (by kernel_rfl) (by kernel_rfl) (by kernel_rfl) (by kernel_rfl) (Or.inl ⟨by rfl, fun w hSw => (by go_simp; try with_reducible rfl)⟩) (by with_reducible exact HD.out) ?_
      try simp only [Act.put, List.setIfInBounds_toArray, List.set_cons_zero, List.set_cons_succ]
      refine anyU_one (i := 10) (by kernel_rfl) (by simp only [List.getElem?_toArray, List.getElem?_cons_succ, List.getElem?_cons_zero]; exact rfl) (fun K hK => ?_)
      try go_simp
      refine hK.out _ _ (fun e _ => absurd rfl e) ?_
      clear hK K
      try simp only [Act.put]
      refine anyU_done (by kernel_rfl) ?_
      refine NoPanic.normal ?_
      try simp only [Act.put]
      clear hE HF HN1 HN2
      go_wp2_with (first
        | (go_at_call 18; (with_reducible refine (HS.out _).mono ?_); rintro e w2 ⟨rfl, hb⟩; subst hb)
        | (go_at_call 20; (with_reducible refine (HA.out _).mono ?_); rintro e w2 ⟨rfl, hb⟩; subst hb)
        | (go_at_call 19; (with_reducible refine (HS2.out _).mono ?_); rintro e w2 ⟨rfl, hb⟩; subst hb)
        | (go_at_call 21; (with_reducible refine (HA2.out _).mono ?_); rintro e w2 ⟨rfl, hb⟩; subst hb)
        | (go_at_call 3; (with_reducible refine (HRR.out _).mono ?_); rintro e w2 ⟨rfl, hb⟩; replace HD := hide (HD.out.kept hb); clear hb))
      go_ret
      exact ⟨rfl, HD.out.low⟩
  · skip
    have HF := hide (fun w => fits_ok n false w (decide_eq_false hf) hn)
    have h3 : (n == 3) = false := by simp; omega
    have h5 : (n == 5) = false := by simp; omega
    have h7 : (n == 7) = false := by simp; omega
    clear hf
    go_enter Try.func4, Try.ntmps4
    go_upto_region 2 with (fail)
    generalize W.alloc (.cells #[.int .i64 r, .int .i64 s] 40) = w1 at HB ⊢
    refine wp_region_noPanic ?_
    refine wp_region_U 10 (fun wz => Szw W wz r s) (by kernel_rfl) ?_
    have HD := hide HB.out.drew
    generalize World.drew _ = wd at HD ⊢
    refine anyU_take2 (i := 0) (v := .int .i64 n) (by simp only [List.getElem?_toArray, List.getElem?_cons_zero]; exact rfl) (by kernel_rfl) 12 (by kernel_rfl) (by kernel_rfl) (fun _ _ _ h => h) (by kernel_rfl) (by kernel_rfl) (by kernel_rfl) (by kernel_rfl) (Or.inl ⟨by rfl, fun w hSw => (by go_simp; try with_reducible rfl)⟩) (by with_reducible exact HD.out) ?_
    try simp only [Act.put, List.setIfInBounds_toArray, List.set_cons_zero, List.set_cons_succ]
    refine anyU_take2 (i := 2) (v := .bool false) (by simp only [List.getElem?_toArray, List.getElem?_cons_succ, List.getElem?_cons_zero]; exact rfl) (by kernel_rfl) 12 (by kernel_rfl) (by kernel_rfl) (fun _ _ _ h => h) (by kernel_rfl) (by kernel_rfl) (by kernel_rfl) (by kernel_rfl) (Or.inl ⟨by rfl, fun w hSw => (by go_simp; try with_reducible rfl)⟩) (by with_reducible exact HD.out) ?_
    try simp only [Act.put, List.setIfInBounds_toArray, List.set_cons_zero, List.set_cons_succ]
    refine anyU_one (i := 1) (by kernel_rfl) (by simp only [List.getElem?_toArray, List.getElem?_cons_succ, List.getElem?_cons_zero]; exact rfl) (fun K hK => ?_)
    try go_simp
    refine (HF.out _).mono ?_
    rintro e2 w2 ⟨rfl, hw⟩
    subst hw
    refine hK.out _ _ (fun _ _ => HD.out) ?_
    clear hK K
    try simp only [Act.put, List.setIfInBounds_toArray, List.set_cons_zero, List.set_cons_succ]
    refine anyU_take2 (i := 3) (v := .bool false) (by simp only [List.getElem?_toArray, List.getElem?_cons_succ, List.getElem?_cons_zero]; exact rfl) (by kernel_rfl) 12 (by kernel_rfl) (by kernel_rfl) (fun _ _ _ h => h) (by kernel_rfl) (by kernel_rfl) (by kernel_rfl) (by kernel_rfl) (Or.inl ⟨by rfl, fun w hSw => (by go_simp; try with_reducible rfl)⟩) (by with_reducible exact HD.out) ?_
    try simp only [Act.put, List.setIfInBounds_toArray, List.set_cons_zero, List.set_cons_succ]
    refine anyU_take2 (i := 4) (v := .bool false) (by simp only [List.getElem?_toArray, List.getElem?_cons_succ, List.getElem?_cons_zero]; exact rfl) (by kernel_rfl) 12 (by kernel_rfl) (by kernel_rfl) (fun _ _ _ h => h) (by kernel_rfl) (by kernel_rfl) (by kernel_rfl) (by kernel_rfl) (Or.inl ⟨by rfl, fun w hSw => (by go_simp; try with_reducible rfl)⟩) (by with_reducible exact HD.out) ?_
    try simp only [Act.put, List.setIfInBounds_toArray, List.set_cons_zero, List.set_cons_succ]
    refine anyU_take2 (i := 5) (v := .agg #[.int .i64 r, .int .i64 s]) (by simp only [List.getElem?_toArray, List.getElem?_cons_succ, List.getElem?_cons_zero]; exact rfl) (by kernel_rfl) 12 (by kernel_rfl) (by kernel_rfl) (fun _ _ _ h => h) (by kernel_rfl) (by kernel_rfl) (by kernel_rfl) (by kernel_rfl) (Or.inl ⟨by rfl, fun w hSw => exec_load_gp (cs := [.int .i64 r, .int .i64 s]) rfl rfl (hSw.i.pair_at) inst_under rfl inst_info⟩) (by with_reducible exact HD.out) ?_
    try simp only [Act.put, List.setIfInBounds_toArray, List.set_cons_zero, List.set_cons_succ]
    refine anyU_take2 (i := 7) (v := .agg #[.int .i64 r, .int .i64 s]) (by simp only [List.getElem?_toArray, List.getElem?_cons_succ, List.getElem?_cons_zero]; exact rfl) (by kernel_rfl) 12 (by kernel_rfl) (by kernel_rfl) (fun _ _ _ h => h) (by kernel_rfl) (by kernel_rfl) (by kernel_rfl) (by kernel_rfl) (Or.inl ⟨by rfl, fun w hSw => exec_load_gp (cs := [.int .i64 r, .int .i64 s]) rfl rfl (hSw.i.pair_at) inst_under rfl inst_info⟩) (by with_reducible exact HD.out) ?_
    try simp only [Act.put, List.setIfInBounds_toArray, List.set_cons_zero, List.set_cons_succ]
    refine anyU_one (i := 6) (by kernel_rfl) (by simp only [List.getElem?_toArray, List.getElem?_cons_succ, List.getElem?_cons_zero]; exact rfl) (fun K hK => ?_)
    try go_simp
    refine (HN1.out _).mono ?_
    rintro e3 w3 ⟨rfl, hb⟩
    replace HD := hide (HD.out.kept hb)
    clear hb
    refine hK.out _ _ (fun _ _ => HD.out) ?_
    clear hK K
    try simp only [Act.put, List.setIfInBounds_toArray, List.set_cons_zero, List.set_cons_succ]
    refine anyU_one (i := 8) (by kernel_rfl) (by simp only [List.getElem?_toArray, List.getElem?_cons_succ, List.getElem?_cons_zero]; exact rfl) (fun K hK => ?_)
    try go_simp
    refine (HN2.out _).mono ?_
    rintro e4 w4 ⟨rfl, hb⟩
    replace HD := hide (HD.out.kept hb)
    clear hb
    refine hK.out _ _ (fun _ _ => HD.out) ?_
    clear hK K
    try simp only [Act.put, List.setIfInBounds_toArray, List.set_cons_zero, List.set_cons_succ]
    refine anyU_take2 (i := 9) (v := .bool false) (by simp only [List.getElem?_toArray, List.getElem?_cons_succ, List.getElem?_cons_zero]; exact rfl) (by kernel_rfl) 12 (by kernel_rfl) (by kernel_rfl) (fun _ _ _ h => h) (by kernel_rfl) (by kernel_rfl) (by kernel_rfl) (by kernel_rfl) (Or.inl ⟨by rfl, fun w hSw => (by go_simp; try with_reducible rfl)⟩) (by with_reducible exact HD.out) ?_
    try simp only [Act.put, List.setIfInBounds_toArray, List.set_cons_zero, List.set_cons_succ]
    refine anyU_one (i := 10) (by kernel_rfl) (by simp only [List.getElem?_toArray, List.getElem?_cons_succ, List.getElem?_cons_zero]; exact rfl) (fun K hK => ?_)
    try go_simp
    refine hK.out _ _ (fun e _ => absurd rfl e) ?_
    clear hK K
    try simp only [Act.put]
    refine anyU_done (by kernel_rfl) ?_
    refine NoPanic.normal ?_
    try simp only [Act.put]
    clear hE HF HN1 HN2
    go_wp2_with (first
      | (go_at_call 3; (with_reducible refine (HRR.out _).mono ?_); rintro e w2 ⟨rfl, hb⟩; replace HD := hide (HD.out.kept hb); clear hb))
    go_ret
    exact ⟨rfl, HD.out.low⟩
end Go.Proofs.Ytjkdccokiaejhaa
