/- The program's Right of letters. Conditions: the lists are as long as they are. -/
import Derived.Test.YtlnpfaoeockoiaaWf
import Derived.Test.YtlnpfaoeockoiaaWa
namespace Go.Proofs.Ytlnpfaoeockoiaa
set_option maxRecDepth 100000
open Go.RowKit
theorem exec_load_gp {P : Program} {a : Act} {w : World} {o : Oper} {t : TypeId} {x : Operand} {b off : Nat} {cs : List Value} {D : TypeDesc} (ho : o.op = .load t x) (hx : a.eval x = .pointer (some ⟨b, off, none⟩)) (R : w.rangeAt b off cs)
    (hu : P.underlying t = some D) (hd : D.isRow = true) (hi : (P.info? t).map (·.size) = some cs.length) : (execOp a.eval o).run P w = .ok (.value (.agg cs.toArray)) w := by
  unfold execOp
  simp only [ho, hx, Instr.loadAt, Instr.sureAddr, Sem.run_bind, Sem.run_pure, Result.andThen_ok, run_loadVar_mid w b off t cs D R hu hd hi]
section
variable {P : Program} {ops : Array Oper} {rest : List Oper} {d : Option Tmp} {ty : TypeId} {ps : String} {af : Array Edge} {x u : Operand} {a : Act} {w : World} {Q : Exit → Act → World → Prop}
/-- A whole value is stored into the block that was made last. -/
theorem wpList_store_new {vs cs : Array Value} {T t : TypeId} (hi : (P.info? t).map (·.size) = some vs.size) (hc : cs.size = vs.size) (h1 : vs.all (·.oneCell') = true) (hx : a.eval x = .pointer (some ⟨w.heap.size, 0, none⟩)) (hy : a.eval u = .agg vs)
    (h : wpList P ops Q rest (a.put d undef) (w.alloc (.cells vs T))) :
    wpList P ops Q ({ dst := d, op := .store t x u, type := ty, pos := ps, after := af, guard := none } :: rest) a (w.alloc (.cells cs T)) :=
  wpList_plain rfl fun K hK => by
    unfold Oper.wp execOp
    simp only [hx, hy, Instr.storeAt, Instr.sureAddr, Sem.run_bind, Sem.run_pure, Result.andThen_ok, run_storeVar_row _ w.heap.size T t _ _ (Row.new w T cs) hi hc h1]
    rw [World.setRow_alloc_new]
    exact hK _ _ h
end
theorem hC_all (k : Int) : (hC k).all (·.oneCell') = true := all_oneCell_toArray (cs := [.bool (okK k && nmI k), .bool (okK k && nmB k), .bool (okK k && nmC k), .bool (okK k && nmA k), .bool (okK k && nmX k), .bool (okK k && nmD k), .bool (okK k && nmZ k)]) (fun v hv => by
  simp only [List.mem_cons, List.not_mem_nil, or_false] at hv
  rcases hv with rfl | rfl | rfl | rfl | rfl | rfl | rfl <;> rfl)
theorem bareL_wf {m : Lt} (h : LtWf m) : LtWf (bareL m) := by
  refine ⟨?_, ?_, ?_⟩
  · show (if nmA m.k then m.a else zero8).length = 8
    split
    · exact h.a
    · rfl
  · show (if nmX m.k then m.x else zeroCl).a.length = 8
    split
    · exact h.x
    · rfl
  · show (if nmD m.k then m.d else zero7).length = 7
    split
    · exact h.d
    · rfl
theorem pright_eq (m : Lt) : rightLt m = (okK m.k && (sameLt m (bareL m) && (repB m.f && (repB m.t && (!(m.f == m.t) && ((!(okK m.k && nmI m.k) || rightI m.i.1 m.i.2) && (rightB m.b.1 m.b.2 && (rightC m.c && (rightAl m.a && (rightCl m.x && (rightD m.d && decide (m.z.size ≤ 16384)))))))))))) := by
  unfold rightLt
  have ek : (decide (1 ≤ m.k) && decide (m.k ≤ 11)) = okK m.k := rfl
  rw [ek]
  cases hk : okK m.k
  · rfl
  · cases hs : sameLt m (bareL m)
    · simp
    · have e := sameLt_iff.1 hs
      cases hi : nmI m.k
      · have hb : m.b = (0, 0) := by
          rw [e]
          show (if nmB m.k then m.b else (0, 0)) = (0, 0)
          have : nmB m.k = false := by
            unfold nmB
            unfold nmI at hi
            rw [hi]; rfl
          rw [this]
          rfl
        rw [hb]
        simp [show rightB 0 0 = true from rfl]
      · simp [Bool.and_assoc]
theorem LAt.drew {w : World} {b : Nat} {t : TypeId} {m : Lt} (h : LAt w b t m) : LAt w.drew b t m := h.kept (Below.refl _ _).drew
theorem hC_range {w : World} {g : Nat} {t : TypeId} {k : Int} (h : Row w g t (hC k)) : w.rangeAt g 0 (hC k).toList := h.mid (A := []) (ys := (hC k).toList) (B := []) (by simp) rfl
set_option maxHeartbeats 32000000 in
theorem pright_letter (m : Lt) (wf : LtWf m) (w : World) : Calls Try.prog 16 #[.agg (ltC m)] w fun y w' => y = .returned (.bool (rightLt m)) ∧ Below w.heap.size w w' := by
  rw [pright_eq]
  have L0 := hide (LAt.new wf w 37)
  have HB := hide ((Below.refl w.heap.size w).alloc (Nat.le_refl _) (.cells (ltC m) 37))
  have HH := hide (fun w => holds_any m.k w)
  have HI := hide (fun (w : World) (g : Nat) (t : TypeId) (h : Row w g t (hC m.k)) => (show w.cell? ⟨g, 0, none⟩ = some (.bool (okK m.k && nmI m.k)) from h.cell 0))
  have HO := hide (fun (h : okK m.k = true) w => only_any m wf w (by unfold okK at h; simpa using h))
  have hwb : LtWf (bareL m) := bareL_wf wf
  have HNE := hide (fun w => neq_letter wf hwb w)
  clear hwb
  generalize (okK m.k && nmI m.k) = fi at HI ⊢
  generalize okK m.k = ok at HH HO ⊢
  generalize sameLt m (bareL m) = sm at HNE ⊢
  have hf := fun w => pisrep_any m.f w
  have ht := fun w => pisrep_any m.t w
  have hi := fun w => i_right_any m.i.1 m.i.2 w
  have hb5 := fun w => rightballot_any m.b.1 m.b.2 w
  have hb6 := fun w => pright_cm m.c w
  have hb7 := fun w => pright_al wf.a w
  have hb8 := fun w => prightcell_any m.x wf.x w
  have hb9 := fun w => pslots_any wf.d w
  obtain ⟨q3, hq3⟩ : ∃ q, (m.f == m.t) = q := ⟨_, rfl⟩
  have hq3' : (m.f != m.t) = !q3 := by rw [← hq3]; rfl
  obtain ⟨qz, hqz⟩ : ∃ q, decide (m.z.size ≤ 16384) = q := ⟨_, rfl⟩
  have hqz' : decide ((m.z.size : Int) ≤ 16384) = qz := by rw [← hqz]; exact decide_eq_decide.2 (by omega)
  simp only [hq3, hqz]
  generalize repB m.f = r1 at hf ⊢
  generalize repB m.t = r2 at ht ⊢
  generalize rightI m.i.1 m.i.2 = r4 at hi ⊢
  generalize rightB m.b.1 m.b.2 = r5 at hb5 ⊢
  generalize rightC m.c = r6 at hb6 ⊢
  generalize rightAl m.a = r7 at hb7 ⊢
  generalize rightCl m.x = r8 at hb8 ⊢
  generalize rightD m.d = r9 at hb9 ⊢
  go_enter Try.func16, Try.ntmps16
  go_upto_region 1 with (fail)
  generalize w.alloc (.cells (ltC m) 37) = w1 at L0 HB ⊢
  have c0 := L0.out.k1
  go_upto_region 2 with (first
    | (go_at_call 30; (with_reducible refine (HH.out _).mono ?_); rintro e w2 ⟨rfl, hb⟩; have HB := hide (kept_trans HB.out hb); have L0 := hide (L0.out.kept hb); clear hb)
    | ((with_reducible refine wpList_store_new (vs := hC m.k) ?_ ?_ (hC_all _) ?_ ?_ ?_); exact hd_info; rfl; rfl; rfl))
  try simp only [Act.put]
  have HRw := hide (Row.new w2 67 (hC m.k))
  have L1 := hide (L0.out.kept ((Below.refl _ _).alloc (Nat.le_refl _) (.cells (hC m.k) 67)))
  have HB1 := hide (HB.out.alloc HB.out.size (.cells (hC m.k) 67))
  clear L0 HB c0 HH
  generalize w2.alloc (.cells (hC m.k) 67) = w3 at L1 HB1 HRw ⊢
  generalize w2.heap.size = g at HRw ⊢
  cases ok
  · skip
    refine wp_region_noPanic ?_
    refine wp_region_U 7 (fun w' => LAt w' w.heap.size 37 m ∧ Row w' g 67 (hC m.k)) (by kernel_rfl) ?_
    have HD := hide (show (fun w' => LAt w' w.heap.size 37 m ∧ Row w' g 67 (hC m.k)) w3.drew ∧ Below w.heap.size w w3.drew from ⟨⟨L1.out.drew, HRw.out.drew⟩, HB1.out.drew⟩)
    clear L1 HRw HB1
    generalize World.drew _ = wd at HD ⊢
    refine anyU_take2 (i := 0) (v := .bool false) (by simp only [List.getElem?_toArray, List.getElem?_cons_zero]; exact rfl) (by kernel_rfl) 8 (by kernel_rfl) (by kernel_rfl) (fun _ _ _ h => h) (by kernel_rfl) (by kernel_rfl) (by kernel_rfl) (by kernel_rfl) (Or.inl ⟨by rfl, fun w hSw => (by go_simp; try with_reducible rfl)⟩) (by with_reducible exact HD.out.1) ?_
    try simp only [Act.put, List.setIfInBounds_toArray, List.set_cons_zero, List.set_cons_succ]
    refine anyU_take2 (i := 1) (v := .bool true) (by simp only [List.getElem?_toArray, List.getElem?_cons_succ, List.getElem?_cons_zero]; exact rfl) (by kernel_rfl) 8 (by kernel_rfl) (by kernel_rfl) (fun _ _ _ h => h) (by kernel_rfl) (by kernel_rfl) (by kernel_rfl) (by kernel_rfl) (Or.inl ⟨by rfl, fun w hSw => (by go_simp; try with_reducible rfl)⟩) (by with_reducible exact HD.out.1) ?_
    try simp only [Act.put, List.setIfInBounds_toArray, List.set_cons_zero, List.set_cons_succ]
    refine anyU_take2 (i := 2) (v := .bool true) (by simp only [List.getElem?_toArray, List.getElem?_cons_succ, List.getElem?_cons_zero]; exact rfl) (by kernel_rfl) 8 (by kernel_rfl) (by kernel_rfl) (fun _ _ _ h => h) (by kernel_rfl) (by kernel_rfl) (by kernel_rfl) (by kernel_rfl) (Or.inl ⟨by rfl, fun w hSw => (by go_simp; try with_reducible rfl)⟩) (by with_reducible exact HD.out.1) ?_
    try simp only [Act.put, List.setIfInBounds_toArray, List.set_cons_zero, List.set_cons_succ]
    refine anyU_take2 (i := 3) (v := undef) (by simp only [List.getElem?_toArray, List.getElem?_cons_succ, List.getElem?_cons_zero]; exact rfl) (by kernel_rfl) 8 (by kernel_rfl) (by kernel_rfl) (fun _ _ _ h => h) (by kernel_rfl) (by kernel_rfl) (by kernel_rfl) (by kernel_rfl) (Or.inr ⟨by rfl, by rfl⟩) (by with_reducible exact HD.out.1) ?_
    try simp only [Act.put, List.setIfInBounds_toArray, List.set_cons_zero, List.set_cons_succ]
    refine anyU_take2 (i := 4) (v := undef) (by simp only [List.getElem?_toArray, List.getElem?_cons_succ, List.getElem?_cons_zero]; exact rfl) (by kernel_rfl) 8 (by kernel_rfl) (by kernel_rfl) (fun _ _ _ h => h) (by kernel_rfl) (by kernel_rfl) (by kernel_rfl) (by kernel_rfl) (Or.inr ⟨by rfl, by rfl⟩) (by with_reducible exact HD.out.1) ?_
    try simp only [Act.put, List.setIfInBounds_toArray, List.set_cons_zero, List.set_cons_succ]
    refine anyU_take2 (i := 5) (v := undef) (by simp only [List.getElem?_toArray, List.getElem?_cons_succ, List.getElem?_cons_zero]; exact rfl) (by kernel_rfl) 8 (by kernel_rfl) (by kernel_rfl) (fun _ _ _ h => h) (by kernel_rfl) (by kernel_rfl) (by kernel_rfl) (by kernel_rfl) (Or.inr ⟨by rfl, by rfl⟩) (by with_reducible exact HD.out.1) ?_
    try simp only [Act.put, List.setIfInBounds_toArray, List.set_cons_zero, List.set_cons_succ]
    refine anyU_one (i := 6) (by kernel_rfl) (by simp only [List.getElem?_toArray, List.getElem?_cons_succ, List.getElem?_cons_zero]; exact rfl) (fun K hK => ?_)
    try go_simp
    refine hK.out _ _ (fun _ _ => HD.out.1) ?_
    clear hK K
    try simp only [Act.put, List.setIfInBounds_toArray, List.set_cons_zero, List.set_cons_succ]
    refine anyU_one (i := 7) (by kernel_rfl) (by simp only [List.getElem?_toArray, List.getElem?_cons_succ, List.getElem?_cons_zero]; exact rfl) (fun K hK => ?_)
    try go_simp
    refine hK.out _ _ (fun e _ => absurd rfl e) ?_
    clear hK K
    try simp only [Act.put, List.setIfInBounds_toArray, List.set_cons_zero, List.set_cons_succ]
    refine anyU_one (i := 8) (by kernel_rfl) (by simp only [List.getElem?_toArray, List.getElem?_cons_succ, List.getElem?_cons_zero]; exact rfl) (fun K hK => ?_)
    try go_simp
    refine hK.out _ _ (fun _ l => absurd (l.symm.trans (show _ = true by kernel_rfl)) (by decide)) ?_
    clear hK K
    try simp only [Act.put, List.setIfInBounds_toArray, List.set_cons_zero, List.set_cons_succ]
    refine anyU_done (by kernel_rfl) ?_
    refine NoPanic.normal ?_
    try simp only [Act.put]
    go_wp2
    go_ret
    exact ⟨rfl, HD.out.2⟩
  · skip
    refine wp_region_noPanic ?_
    refine wp_region_U 7 (fun w' => LAt w' w.heap.size 37 m ∧ Row w' g 67 (hC m.k)) (by kernel_rfl) ?_
    have HD := hide (show (fun w' => LAt w' w.heap.size 37 m ∧ Row w' g 67 (hC m.k)) w3.drew ∧ Below w.heap.size w w3.drew from ⟨⟨L1.out.drew, HRw.out.drew⟩, HB1.out.drew⟩)
    clear L1 HRw HB1
    generalize World.drew _ = wd at HD ⊢
    refine anyU_take2 (i := 0) (v := .bool true) (by simp only [List.getElem?_toArray, List.getElem?_cons_zero]; exact rfl) (by kernel_rfl) 8 (by kernel_rfl) (by kernel_rfl) (fun _ _ _ h => h) (by kernel_rfl) (by kernel_rfl) (by kernel_rfl) (by kernel_rfl) (Or.inl ⟨by rfl, fun w hSw => (by go_simp; try with_reducible rfl)⟩) (by with_reducible exact HD.out.1) ?_
    try simp only [Act.put, List.setIfInBounds_toArray, List.set_cons_zero, List.set_cons_succ]
    refine anyU_take2 (i := 1) (v := .bool false) (by simp only [List.getElem?_toArray, List.getElem?_cons_succ, List.getElem?_cons_zero]; exact rfl) (by kernel_rfl) 8 (by kernel_rfl) (by kernel_rfl) (fun _ _ _ h => h) (by kernel_rfl) (by kernel_rfl) (by kernel_rfl) (by kernel_rfl) (Or.inl ⟨by rfl, fun w hSw => (by go_simp; try with_reducible rfl)⟩) (by with_reducible exact HD.out.1) ?_
    try simp only [Act.put, List.setIfInBounds_toArray, List.set_cons_zero, List.set_cons_succ]
    refine anyU_take2 (i := 2) (v := .bool false) (by simp only [List.getElem?_toArray, List.getElem?_cons_succ, List.getElem?_cons_zero]; exact rfl) (by kernel_rfl) 8 (by kernel_rfl) (by kernel_rfl) (fun _ _ _ h => h) (by kernel_rfl) (by kernel_rfl) (by kernel_rfl) (by kernel_rfl) (Or.inl ⟨by rfl, fun w hSw => (by go_simp; try with_reducible rfl)⟩) (by with_reducible exact HD.out.1) ?_
    try simp only [Act.put, List.setIfInBounds_toArray, List.set_cons_zero, List.set_cons_succ]
    refine anyU_take2 (i := 3) (v := .agg (ltC m)) (by simp only [List.getElem?_toArray, List.getElem?_cons_succ, List.getElem?_cons_zero]; exact rfl) (by kernel_rfl) 8 (by kernel_rfl) (by kernel_rfl) (fun _ _ _ h => h) (by kernel_rfl) (by kernel_rfl) (by kernel_rfl) (by kernel_rfl) (Or.inl ⟨by rfl, fun w hSw => exec_load_gp rfl rfl hSw.1.all lt_under rfl (by rw [Lt.len wf]; exact lt_info)⟩) (by with_reducible exact HD.out.1) ?_
    try simp only [Act.put, List.setIfInBounds_toArray, List.set_cons_zero, List.set_cons_succ]
    refine anyU_take2 (i := 4) (v := .agg (hC m.k)) (by simp only [List.getElem?_toArray, List.getElem?_cons_succ, List.getElem?_cons_zero]; exact rfl) (by kernel_rfl) 8 (by kernel_rfl) (by kernel_rfl) (fun _ _ _ h => h) (by kernel_rfl) (by kernel_rfl) (by kernel_rfl) (by kernel_rfl) (Or.inl ⟨by rfl, fun w hSw => exec_load_gp rfl rfl (hC_range hSw.2) hd_under rfl hd_info⟩) (by with_reducible exact HD.out.1) ?_
    try simp only [Act.put, List.setIfInBounds_toArray, List.set_cons_zero, List.set_cons_succ]
    refine anyU_take2 (i := 5) (v := .agg (ltC m)) (by simp only [List.getElem?_toArray, List.getElem?_cons_succ, List.getElem?_cons_zero]; exact rfl) (by kernel_rfl) 8 (by kernel_rfl) (by kernel_rfl) (fun _ _ _ h => h) (by kernel_rfl) (by kernel_rfl) (by kernel_rfl) (by kernel_rfl) (Or.inl ⟨by rfl, fun w hSw => exec_load_gp rfl rfl hSw.1.all lt_under rfl (by rw [Lt.len wf]; exact lt_info)⟩) (by with_reducible exact HD.out.1) ?_
    try simp only [Act.put, List.setIfInBounds_toArray, List.set_cons_zero, List.set_cons_succ]
    refine anyU_one (i := 6) (by kernel_rfl) (by simp only [List.getElem?_toArray, List.getElem?_cons_succ, List.getElem?_cons_zero]; exact rfl) (fun K hK => ?_)
    try go_simp
    refine (HO.out rfl _).mono ?_
    rintro e w4 ⟨rfl, hb⟩
    have HD := hide (show (fun w' => LAt w' w.heap.size 37 m ∧ Row w' g 67 (hC m.k)) w4 ∧ Below w.heap.size w w4 from ⟨⟨HD.out.1.1.kept hb, HD.out.1.2.below hb HD.out.1.2.lt⟩, kept_trans HD.out.2 hb⟩)
    clear hb
    refine hK.out _ _ (fun _ _ => HD.out.1) ?_
    clear hK K
    try simp only [Act.put, List.setIfInBounds_toArray, List.set_cons_zero, List.set_cons_succ]
    have hne := HNE.out
    refine anyU_one (i := 7) (by kernel_rfl) (by simp only [List.getElem?_toArray, List.getElem?_cons_succ, List.getElem?_cons_zero]; exact rfl) (fun K hK => ?_)
    try go_simp
    refine hK.out _ _ (fun e _ => absurd rfl e) ?_
    clear hK K
    try simp only [Act.put, List.setIfInBounds_toArray, List.set_cons_zero, List.set_cons_succ]
    clear hne
    refine anyU_one (i := 8) (by kernel_rfl) (by simp only [List.getElem?_toArray, List.getElem?_cons_succ, List.getElem?_cons_zero]; exact rfl) (fun K hK => ?_)
    try go_simp
    refine hK.out _ _ (fun _ l => absurd (l.symm.trans (show _ = true by kernel_rfl)) (by decide)) ?_
    clear hK K
    try simp only [Act.put, List.setIfInBounds_toArray, List.set_cons_zero, List.set_cons_succ]
    refine anyU_done (by kernel_rfl) ?_
    refine NoPanic.normal ?_
    try simp only [Act.put]
    cases sm
    · go_wp2
      go_ret
      exact ⟨rfl, HD.out.2⟩
    · go_upto_region 4 with (fail)
      clear HNE HO
      have h0 := HI.out _ _ _ HD.out.1.2
      have c1 := HD.out.1.1.f1
      have c2 := HD.out.1.1.t1
      have c50 := HD.out.1.1.z
      cases r1
      · skip
        go_wp2_with (first
          | ((with_reducible refine wpList_load_in ?_ ?_ HD.out.1.1.i ?_); rfl; rfl)
          | ((with_reducible refine wpList_load_bal ?_ ?_ HD.out.1.1.b1 ?_); rfl; rfl)
          | ((with_reducible refine wpList_load_cm ?_ ?_ HD.out.1.1.c ?_); rfl; rfl)
          | ((with_reducible refine wpList_load_at wf.a ?_ ?_ HD.out.1.1.a ?_); rfl; rfl)
          | ((with_reducible refine wpList_load_ce wf.x ?_ ?_ HD.out.1.1.x ?_); rfl; rfl)
          | ((with_reducible refine wpList_load_de wf.d ?_ ?_ HD.out.1.1.d ?_); rfl; rfl)
          | (go_at_call 52; (with_reducible refine (hf _).mono ?_); rintro e w4 ⟨rfl, rfl⟩)
          | (go_at_call 52; (with_reducible refine (ht _).mono ?_); rintro e w4 ⟨rfl, rfl⟩)
          | (go_at_call 53; (with_reducible refine (hi _).mono ?_); rintro e w4 ⟨rfl, hb⟩; have HD := hide (show (fun w' => LAt w' w.heap.size 37 m ∧ Row w' g 67 (hC m.k)) w4 ∧ Below w.heap.size w w4 from ⟨⟨HD.out.1.1.kept hb, HD.out.1.2.below hb HD.out.1.2.lt⟩, kept_trans HD.out.2 hb⟩); have h0 := HI.out _ _ _ HD.out.1.2; have c1 := HD.out.1.1.f1; have c2 := HD.out.1.1.t1; have c50 := HD.out.1.1.z; clear hb)
          | (go_at_call 47; (with_reducible refine (hb5 _).mono ?_); rintro e w4 ⟨rfl, hb⟩; have HD := hide (show (fun w' => LAt w' w.heap.size 37 m ∧ Row w' g 67 (hC m.k)) w4 ∧ Below w.heap.size w w4 from ⟨⟨HD.out.1.1.kept hb, HD.out.1.2.below hb HD.out.1.2.lt⟩, kept_trans HD.out.2 hb⟩); have h0 := HI.out _ _ _ HD.out.1.2; have c1 := HD.out.1.1.f1; have c2 := HD.out.1.1.t1; have c50 := HD.out.1.1.z; clear hb)
          | (go_at_call 49; (with_reducible refine (hb6 _).mono ?_); rintro e w4 ⟨rfl, hb⟩; have HD := hide (show (fun w' => LAt w' w.heap.size 37 m ∧ Row w' g 67 (hC m.k)) w4 ∧ Below w.heap.size w w4 from ⟨⟨HD.out.1.1.kept hb, HD.out.1.2.below hb HD.out.1.2.lt⟩, kept_trans HD.out.2 hb⟩); have h0 := HI.out _ _ _ HD.out.1.2; have c1 := HD.out.1.1.f1; have c2 := HD.out.1.1.t1; have c50 := HD.out.1.1.z; clear hb)
          | (go_at_call 50; (with_reducible refine (hb7 _).mono ?_); rintro e w4 ⟨rfl, hb⟩; have HD := hide (show (fun w' => LAt w' w.heap.size 37 m ∧ Row w' g 67 (hC m.k)) w4 ∧ Below w.heap.size w w4 from ⟨⟨HD.out.1.1.kept hb, HD.out.1.2.below hb HD.out.1.2.lt⟩, kept_trans HD.out.2 hb⟩); have h0 := HI.out _ _ _ HD.out.1.2; have c1 := HD.out.1.1.f1; have c2 := HD.out.1.1.t1; have c50 := HD.out.1.1.z; clear hb)
          | (go_at_call 15; (with_reducible refine (hb8 _).mono ?_); rintro e w4 ⟨rfl, hb⟩; have HD := hide (show (fun w' => LAt w' w.heap.size 37 m ∧ Row w' g 67 (hC m.k)) w4 ∧ Below w.heap.size w w4 from ⟨⟨HD.out.1.1.kept hb, HD.out.1.2.below hb HD.out.1.2.lt⟩, kept_trans HD.out.2 hb⟩); have h0 := HI.out _ _ _ HD.out.1.2; have c1 := HD.out.1.1.f1; have c2 := HD.out.1.1.t1; have c50 := HD.out.1.1.z; clear hb)
          | (go_at_call 54; (with_reducible refine (hb9 _).mono ?_); rintro e w4 ⟨rfl, hb⟩; have HD := hide (show (fun w' => LAt w' w.heap.size 37 m ∧ Row w' g 67 (hC m.k)) w4 ∧ Below w.heap.size w w4 from ⟨⟨HD.out.1.1.kept hb, HD.out.1.2.below hb HD.out.1.2.lt⟩, kept_trans HD.out.2 hb⟩); have h0 := HI.out _ _ _ HD.out.1.2; have c1 := HD.out.1.1.f1; have c2 := HD.out.1.1.t1; have c50 := HD.out.1.1.z; clear hb))
        go_ret
        exact ⟨rfl, HD.out.2⟩
      · skip
        cases r2
        · skip
          go_wp2_with (first
            | ((with_reducible refine wpList_load_in ?_ ?_ HD.out.1.1.i ?_); rfl; rfl)
            | ((with_reducible refine wpList_load_bal ?_ ?_ HD.out.1.1.b1 ?_); rfl; rfl)
            | ((with_reducible refine wpList_load_cm ?_ ?_ HD.out.1.1.c ?_); rfl; rfl)
            | ((with_reducible refine wpList_load_at wf.a ?_ ?_ HD.out.1.1.a ?_); rfl; rfl)
            | ((with_reducible refine wpList_load_ce wf.x ?_ ?_ HD.out.1.1.x ?_); rfl; rfl)
            | ((with_reducible refine wpList_load_de wf.d ?_ ?_ HD.out.1.1.d ?_); rfl; rfl)
            | (go_at_call 52; (with_reducible refine (hf _).mono ?_); rintro e w4 ⟨rfl, rfl⟩)
            | (go_at_call 52; (with_reducible refine (ht _).mono ?_); rintro e w4 ⟨rfl, rfl⟩)
            | (go_at_call 53; (with_reducible refine (hi _).mono ?_); rintro e w4 ⟨rfl, hb⟩; have HD := hide (show (fun w' => LAt w' w.heap.size 37 m ∧ Row w' g 67 (hC m.k)) w4 ∧ Below w.heap.size w w4 from ⟨⟨HD.out.1.1.kept hb, HD.out.1.2.below hb HD.out.1.2.lt⟩, kept_trans HD.out.2 hb⟩); have h0 := HI.out _ _ _ HD.out.1.2; have c1 := HD.out.1.1.f1; have c2 := HD.out.1.1.t1; have c50 := HD.out.1.1.z; clear hb)
            | (go_at_call 47; (with_reducible refine (hb5 _).mono ?_); rintro e w4 ⟨rfl, hb⟩; have HD := hide (show (fun w' => LAt w' w.heap.size 37 m ∧ Row w' g 67 (hC m.k)) w4 ∧ Below w.heap.size w w4 from ⟨⟨HD.out.1.1.kept hb, HD.out.1.2.below hb HD.out.1.2.lt⟩, kept_trans HD.out.2 hb⟩); have h0 := HI.out _ _ _ HD.out.1.2; have c1 := HD.out.1.1.f1; have c2 := HD.out.1.1.t1; have c50 := HD.out.1.1.z; clear hb)
            | (go_at_call 49; (with_reducible refine (hb6 _).mono ?_); rintro e w4 ⟨rfl, hb⟩; have HD := hide (show (fun w' => LAt w' w.heap.size 37 m ∧ Row w' g 67 (hC m.k)) w4 ∧ Below w.heap.size w w4 from ⟨⟨HD.out.1.1.kept hb, HD.out.1.2.below hb HD.out.1.2.lt⟩, kept_trans HD.out.2 hb⟩); have h0 := HI.out _ _ _ HD.out.1.2; have c1 := HD.out.1.1.f1; have c2 := HD.out.1.1.t1; have c50 := HD.out.1.1.z; clear hb)
            | (go_at_call 50; (with_reducible refine (hb7 _).mono ?_); rintro e w4 ⟨rfl, hb⟩; have HD := hide (show (fun w' => LAt w' w.heap.size 37 m ∧ Row w' g 67 (hC m.k)) w4 ∧ Below w.heap.size w w4 from ⟨⟨HD.out.1.1.kept hb, HD.out.1.2.below hb HD.out.1.2.lt⟩, kept_trans HD.out.2 hb⟩); have h0 := HI.out _ _ _ HD.out.1.2; have c1 := HD.out.1.1.f1; have c2 := HD.out.1.1.t1; have c50 := HD.out.1.1.z; clear hb)
            | (go_at_call 15; (with_reducible refine (hb8 _).mono ?_); rintro e w4 ⟨rfl, hb⟩; have HD := hide (show (fun w' => LAt w' w.heap.size 37 m ∧ Row w' g 67 (hC m.k)) w4 ∧ Below w.heap.size w w4 from ⟨⟨HD.out.1.1.kept hb, HD.out.1.2.below hb HD.out.1.2.lt⟩, kept_trans HD.out.2 hb⟩); have h0 := HI.out _ _ _ HD.out.1.2; have c1 := HD.out.1.1.f1; have c2 := HD.out.1.1.t1; have c50 := HD.out.1.1.z; clear hb)
            | (go_at_call 54; (with_reducible refine (hb9 _).mono ?_); rintro e w4 ⟨rfl, hb⟩; have HD := hide (show (fun w' => LAt w' w.heap.size 37 m ∧ Row w' g 67 (hC m.k)) w4 ∧ Below w.heap.size w w4 from ⟨⟨HD.out.1.1.kept hb, HD.out.1.2.below hb HD.out.1.2.lt⟩, kept_trans HD.out.2 hb⟩); have h0 := HI.out _ _ _ HD.out.1.2; have c1 := HD.out.1.1.f1; have c2 := HD.out.1.1.t1; have c50 := HD.out.1.1.z; clear hb))
          go_ret
          exact ⟨rfl, HD.out.2⟩
        · skip
          cases q3
          rotate_left
          · skip
            replace hq3' : (m.f != m.t) = false := hq3'
            go_wp2_with (first
              | ((with_reducible refine wpList_load_in ?_ ?_ HD.out.1.1.i ?_); rfl; rfl)
              | ((with_reducible refine wpList_load_bal ?_ ?_ HD.out.1.1.b1 ?_); rfl; rfl)
              | ((with_reducible refine wpList_load_cm ?_ ?_ HD.out.1.1.c ?_); rfl; rfl)
              | ((with_reducible refine wpList_load_at wf.a ?_ ?_ HD.out.1.1.a ?_); rfl; rfl)
              | ((with_reducible refine wpList_load_ce wf.x ?_ ?_ HD.out.1.1.x ?_); rfl; rfl)
              | ((with_reducible refine wpList_load_de wf.d ?_ ?_ HD.out.1.1.d ?_); rfl; rfl)
              | (go_at_call 52; (with_reducible refine (hf _).mono ?_); rintro e w4 ⟨rfl, rfl⟩)
              | (go_at_call 52; (with_reducible refine (ht _).mono ?_); rintro e w4 ⟨rfl, rfl⟩)
              | (go_at_call 53; (with_reducible refine (hi _).mono ?_); rintro e w4 ⟨rfl, hb⟩; have HD := hide (show (fun w' => LAt w' w.heap.size 37 m ∧ Row w' g 67 (hC m.k)) w4 ∧ Below w.heap.size w w4 from ⟨⟨HD.out.1.1.kept hb, HD.out.1.2.below hb HD.out.1.2.lt⟩, kept_trans HD.out.2 hb⟩); have h0 := HI.out _ _ _ HD.out.1.2; have c1 := HD.out.1.1.f1; have c2 := HD.out.1.1.t1; have c50 := HD.out.1.1.z; clear hb)
              | (go_at_call 47; (with_reducible refine (hb5 _).mono ?_); rintro e w4 ⟨rfl, hb⟩; have HD := hide (show (fun w' => LAt w' w.heap.size 37 m ∧ Row w' g 67 (hC m.k)) w4 ∧ Below w.heap.size w w4 from ⟨⟨HD.out.1.1.kept hb, HD.out.1.2.below hb HD.out.1.2.lt⟩, kept_trans HD.out.2 hb⟩); have h0 := HI.out _ _ _ HD.out.1.2; have c1 := HD.out.1.1.f1; have c2 := HD.out.1.1.t1; have c50 := HD.out.1.1.z; clear hb)
              | (go_at_call 49; (with_reducible refine (hb6 _).mono ?_); rintro e w4 ⟨rfl, hb⟩; have HD := hide (show (fun w' => LAt w' w.heap.size 37 m ∧ Row w' g 67 (hC m.k)) w4 ∧ Below w.heap.size w w4 from ⟨⟨HD.out.1.1.kept hb, HD.out.1.2.below hb HD.out.1.2.lt⟩, kept_trans HD.out.2 hb⟩); have h0 := HI.out _ _ _ HD.out.1.2; have c1 := HD.out.1.1.f1; have c2 := HD.out.1.1.t1; have c50 := HD.out.1.1.z; clear hb)
              | (go_at_call 50; (with_reducible refine (hb7 _).mono ?_); rintro e w4 ⟨rfl, hb⟩; have HD := hide (show (fun w' => LAt w' w.heap.size 37 m ∧ Row w' g 67 (hC m.k)) w4 ∧ Below w.heap.size w w4 from ⟨⟨HD.out.1.1.kept hb, HD.out.1.2.below hb HD.out.1.2.lt⟩, kept_trans HD.out.2 hb⟩); have h0 := HI.out _ _ _ HD.out.1.2; have c1 := HD.out.1.1.f1; have c2 := HD.out.1.1.t1; have c50 := HD.out.1.1.z; clear hb)
              | (go_at_call 15; (with_reducible refine (hb8 _).mono ?_); rintro e w4 ⟨rfl, hb⟩; have HD := hide (show (fun w' => LAt w' w.heap.size 37 m ∧ Row w' g 67 (hC m.k)) w4 ∧ Below w.heap.size w w4 from ⟨⟨HD.out.1.1.kept hb, HD.out.1.2.below hb HD.out.1.2.lt⟩, kept_trans HD.out.2 hb⟩); have h0 := HI.out _ _ _ HD.out.1.2; have c1 := HD.out.1.1.f1; have c2 := HD.out.1.1.t1; have c50 := HD.out.1.1.z; clear hb)
              | (go_at_call 54; (with_reducible refine (hb9 _).mono ?_); rintro e w4 ⟨rfl, hb⟩; have HD := hide (show (fun w' => LAt w' w.heap.size 37 m ∧ Row w' g 67 (hC m.k)) w4 ∧ Below w.heap.size w w4 from ⟨⟨HD.out.1.1.kept hb, HD.out.1.2.below hb HD.out.1.2.lt⟩, kept_trans HD.out.2 hb⟩); have h0 := HI.out _ _ _ HD.out.1.2; have c1 := HD.out.1.1.f1; have c2 := HD.out.1.1.t1; have c50 := HD.out.1.1.z; clear hb))
            go_ret
            exact ⟨rfl, HD.out.2⟩
          · skip
            replace hq3' : (m.f != m.t) = true := hq3'
            cases fi
            · skip
              cases r5
              · skip
                go_wp2_with (first
                  | ((with_reducible refine wpList_load_in ?_ ?_ HD.out.1.1.i ?_); rfl; rfl)
                  | ((with_reducible refine wpList_load_bal ?_ ?_ HD.out.1.1.b1 ?_); rfl; rfl)
                  | ((with_reducible refine wpList_load_cm ?_ ?_ HD.out.1.1.c ?_); rfl; rfl)
                  | ((with_reducible refine wpList_load_at wf.a ?_ ?_ HD.out.1.1.a ?_); rfl; rfl)
                  | ((with_reducible refine wpList_load_ce wf.x ?_ ?_ HD.out.1.1.x ?_); rfl; rfl)
                  | ((with_reducible refine wpList_load_de wf.d ?_ ?_ HD.out.1.1.d ?_); rfl; rfl)
                  | (go_at_call 52; (with_reducible refine (hf _).mono ?_); rintro e w4 ⟨rfl, rfl⟩)
                  | (go_at_call 52; (with_reducible refine (ht _).mono ?_); rintro e w4 ⟨rfl, rfl⟩)
                  | (go_at_call 53; (with_reducible refine (hi _).mono ?_); rintro e w4 ⟨rfl, hb⟩; have HD := hide (show (fun w' => LAt w' w.heap.size 37 m ∧ Row w' g 67 (hC m.k)) w4 ∧ Below w.heap.size w w4 from ⟨⟨HD.out.1.1.kept hb, HD.out.1.2.below hb HD.out.1.2.lt⟩, kept_trans HD.out.2 hb⟩); have h0 := HI.out _ _ _ HD.out.1.2; have c1 := HD.out.1.1.f1; have c2 := HD.out.1.1.t1; have c50 := HD.out.1.1.z; clear hb)
                  | (go_at_call 47; (with_reducible refine (hb5 _).mono ?_); rintro e w4 ⟨rfl, hb⟩; have HD := hide (show (fun w' => LAt w' w.heap.size 37 m ∧ Row w' g 67 (hC m.k)) w4 ∧ Below w.heap.size w w4 from ⟨⟨HD.out.1.1.kept hb, HD.out.1.2.below hb HD.out.1.2.lt⟩, kept_trans HD.out.2 hb⟩); have h0 := HI.out _ _ _ HD.out.1.2; have c1 := HD.out.1.1.f1; have c2 := HD.out.1.1.t1; have c50 := HD.out.1.1.z; clear hb)
                  | (go_at_call 49; (with_reducible refine (hb6 _).mono ?_); rintro e w4 ⟨rfl, hb⟩; have HD := hide (show (fun w' => LAt w' w.heap.size 37 m ∧ Row w' g 67 (hC m.k)) w4 ∧ Below w.heap.size w w4 from ⟨⟨HD.out.1.1.kept hb, HD.out.1.2.below hb HD.out.1.2.lt⟩, kept_trans HD.out.2 hb⟩); have h0 := HI.out _ _ _ HD.out.1.2; have c1 := HD.out.1.1.f1; have c2 := HD.out.1.1.t1; have c50 := HD.out.1.1.z; clear hb)
                  | (go_at_call 50; (with_reducible refine (hb7 _).mono ?_); rintro e w4 ⟨rfl, hb⟩; have HD := hide (show (fun w' => LAt w' w.heap.size 37 m ∧ Row w' g 67 (hC m.k)) w4 ∧ Below w.heap.size w w4 from ⟨⟨HD.out.1.1.kept hb, HD.out.1.2.below hb HD.out.1.2.lt⟩, kept_trans HD.out.2 hb⟩); have h0 := HI.out _ _ _ HD.out.1.2; have c1 := HD.out.1.1.f1; have c2 := HD.out.1.1.t1; have c50 := HD.out.1.1.z; clear hb)
                  | (go_at_call 15; (with_reducible refine (hb8 _).mono ?_); rintro e w4 ⟨rfl, hb⟩; have HD := hide (show (fun w' => LAt w' w.heap.size 37 m ∧ Row w' g 67 (hC m.k)) w4 ∧ Below w.heap.size w w4 from ⟨⟨HD.out.1.1.kept hb, HD.out.1.2.below hb HD.out.1.2.lt⟩, kept_trans HD.out.2 hb⟩); have h0 := HI.out _ _ _ HD.out.1.2; have c1 := HD.out.1.1.f1; have c2 := HD.out.1.1.t1; have c50 := HD.out.1.1.z; clear hb)
                  | (go_at_call 54; (with_reducible refine (hb9 _).mono ?_); rintro e w4 ⟨rfl, hb⟩; have HD := hide (show (fun w' => LAt w' w.heap.size 37 m ∧ Row w' g 67 (hC m.k)) w4 ∧ Below w.heap.size w w4 from ⟨⟨HD.out.1.1.kept hb, HD.out.1.2.below hb HD.out.1.2.lt⟩, kept_trans HD.out.2 hb⟩); have h0 := HI.out _ _ _ HD.out.1.2; have c1 := HD.out.1.1.f1; have c2 := HD.out.1.1.t1; have c50 := HD.out.1.1.z; clear hb))
                go_ret
                exact ⟨rfl, HD.out.2⟩
              · skip
                cases r6
                · skip
                  go_wp2_with (first
                    | ((with_reducible refine wpList_load_in ?_ ?_ HD.out.1.1.i ?_); rfl; rfl)
                    | ((with_reducible refine wpList_load_bal ?_ ?_ HD.out.1.1.b1 ?_); rfl; rfl)
                    | ((with_reducible refine wpList_load_cm ?_ ?_ HD.out.1.1.c ?_); rfl; rfl)
                    | ((with_reducible refine wpList_load_at wf.a ?_ ?_ HD.out.1.1.a ?_); rfl; rfl)
                    | ((with_reducible refine wpList_load_ce wf.x ?_ ?_ HD.out.1.1.x ?_); rfl; rfl)
                    | ((with_reducible refine wpList_load_de wf.d ?_ ?_ HD.out.1.1.d ?_); rfl; rfl)
                    | (go_at_call 52; (with_reducible refine (hf _).mono ?_); rintro e w4 ⟨rfl, rfl⟩)
                    | (go_at_call 52; (with_reducible refine (ht _).mono ?_); rintro e w4 ⟨rfl, rfl⟩)
                    | (go_at_call 53; (with_reducible refine (hi _).mono ?_); rintro e w4 ⟨rfl, hb⟩; have HD := hide (show (fun w' => LAt w' w.heap.size 37 m ∧ Row w' g 67 (hC m.k)) w4 ∧ Below w.heap.size w w4 from ⟨⟨HD.out.1.1.kept hb, HD.out.1.2.below hb HD.out.1.2.lt⟩, kept_trans HD.out.2 hb⟩); have h0 := HI.out _ _ _ HD.out.1.2; have c1 := HD.out.1.1.f1; have c2 := HD.out.1.1.t1; have c50 := HD.out.1.1.z; clear hb)
                    | (go_at_call 47; (with_reducible refine (hb5 _).mono ?_); rintro e w4 ⟨rfl, hb⟩; have HD := hide (show (fun w' => LAt w' w.heap.size 37 m ∧ Row w' g 67 (hC m.k)) w4 ∧ Below w.heap.size w w4 from ⟨⟨HD.out.1.1.kept hb, HD.out.1.2.below hb HD.out.1.2.lt⟩, kept_trans HD.out.2 hb⟩); have h0 := HI.out _ _ _ HD.out.1.2; have c1 := HD.out.1.1.f1; have c2 := HD.out.1.1.t1; have c50 := HD.out.1.1.z; clear hb)
                    | (go_at_call 49; (with_reducible refine (hb6 _).mono ?_); rintro e w4 ⟨rfl, hb⟩; have HD := hide (show (fun w' => LAt w' w.heap.size 37 m ∧ Row w' g 67 (hC m.k)) w4 ∧ Below w.heap.size w w4 from ⟨⟨HD.out.1.1.kept hb, HD.out.1.2.below hb HD.out.1.2.lt⟩, kept_trans HD.out.2 hb⟩); have h0 := HI.out _ _ _ HD.out.1.2; have c1 := HD.out.1.1.f1; have c2 := HD.out.1.1.t1; have c50 := HD.out.1.1.z; clear hb)
                    | (go_at_call 50; (with_reducible refine (hb7 _).mono ?_); rintro e w4 ⟨rfl, hb⟩; have HD := hide (show (fun w' => LAt w' w.heap.size 37 m ∧ Row w' g 67 (hC m.k)) w4 ∧ Below w.heap.size w w4 from ⟨⟨HD.out.1.1.kept hb, HD.out.1.2.below hb HD.out.1.2.lt⟩, kept_trans HD.out.2 hb⟩); have h0 := HI.out _ _ _ HD.out.1.2; have c1 := HD.out.1.1.f1; have c2 := HD.out.1.1.t1; have c50 := HD.out.1.1.z; clear hb)
                    | (go_at_call 15; (with_reducible refine (hb8 _).mono ?_); rintro e w4 ⟨rfl, hb⟩; have HD := hide (show (fun w' => LAt w' w.heap.size 37 m ∧ Row w' g 67 (hC m.k)) w4 ∧ Below w.heap.size w w4 from ⟨⟨HD.out.1.1.kept hb, HD.out.1.2.below hb HD.out.1.2.lt⟩, kept_trans HD.out.2 hb⟩); have h0 := HI.out _ _ _ HD.out.1.2; have c1 := HD.out.1.1.f1; have c2 := HD.out.1.1.t1; have c50 := HD.out.1.1.z; clear hb)
                    | (go_at_call 54; (with_reducible refine (hb9 _).mono ?_); rintro e w4 ⟨rfl, hb⟩; have HD := hide (show (fun w' => LAt w' w.heap.size 37 m ∧ Row w' g 67 (hC m.k)) w4 ∧ Below w.heap.size w w4 from ⟨⟨HD.out.1.1.kept hb, HD.out.1.2.below hb HD.out.1.2.lt⟩, kept_trans HD.out.2 hb⟩); have h0 := HI.out _ _ _ HD.out.1.2; have c1 := HD.out.1.1.f1; have c2 := HD.out.1.1.t1; have c50 := HD.out.1.1.z; clear hb))
                  go_ret
                  exact ⟨rfl, HD.out.2⟩
                · skip
                  cases r7
                  · skip
                    go_wp2_with (first
                      | ((with_reducible refine wpList_load_in ?_ ?_ HD.out.1.1.i ?_); rfl; rfl)
                      | ((with_reducible refine wpList_load_bal ?_ ?_ HD.out.1.1.b1 ?_); rfl; rfl)
                      | ((with_reducible refine wpList_load_cm ?_ ?_ HD.out.1.1.c ?_); rfl; rfl)
                      | ((with_reducible refine wpList_load_at wf.a ?_ ?_ HD.out.1.1.a ?_); rfl; rfl)
                      | ((with_reducible refine wpList_load_ce wf.x ?_ ?_ HD.out.1.1.x ?_); rfl; rfl)
                      | ((with_reducible refine wpList_load_de wf.d ?_ ?_ HD.out.1.1.d ?_); rfl; rfl)
                      | (go_at_call 52; (with_reducible refine (hf _).mono ?_); rintro e w4 ⟨rfl, rfl⟩)
                      | (go_at_call 52; (with_reducible refine (ht _).mono ?_); rintro e w4 ⟨rfl, rfl⟩)
                      | (go_at_call 53; (with_reducible refine (hi _).mono ?_); rintro e w4 ⟨rfl, hb⟩; have HD := hide (show (fun w' => LAt w' w.heap.size 37 m ∧ Row w' g 67 (hC m.k)) w4 ∧ Below w.heap.size w w4 from ⟨⟨HD.out.1.1.kept hb, HD.out.1.2.below hb HD.out.1.2.lt⟩, kept_trans HD.out.2 hb⟩); have h0 := HI.out _ _ _ HD.out.1.2; have c1 := HD.out.1.1.f1; have c2 := HD.out.1.1.t1; have c50 := HD.out.1.1.z; clear hb)
                      | (go_at_call 47; (with_reducible refine (hb5 _).mono ?_); rintro e w4 ⟨rfl, hb⟩; have HD := hide (show (fun w' => LAt w' w.heap.size 37 m ∧ Row w' g 67 (hC m.k)) w4 ∧ Below w.heap.size w w4 from ⟨⟨HD.out.1.1.kept hb, HD.out.1.2.below hb HD.out.1.2.lt⟩, kept_trans HD.out.2 hb⟩); have h0 := HI.out _ _ _ HD.out.1.2; have c1 := HD.out.1.1.f1; have c2 := HD.out.1.1.t1; have c50 := HD.out.1.1.z; clear hb)
                      | (go_at_call 49; (with_reducible refine (hb6 _).mono ?_); rintro e w4 ⟨rfl, hb⟩; have HD := hide (show (fun w' => LAt w' w.heap.size 37 m ∧ Row w' g 67 (hC m.k)) w4 ∧ Below w.heap.size w w4 from ⟨⟨HD.out.1.1.kept hb, HD.out.1.2.below hb HD.out.1.2.lt⟩, kept_trans HD.out.2 hb⟩); have h0 := HI.out _ _ _ HD.out.1.2; have c1 := HD.out.1.1.f1; have c2 := HD.out.1.1.t1; have c50 := HD.out.1.1.z; clear hb)
                      | (go_at_call 50; (with_reducible refine (hb7 _).mono ?_); rintro e w4 ⟨rfl, hb⟩; have HD := hide (show (fun w' => LAt w' w.heap.size 37 m ∧ Row w' g 67 (hC m.k)) w4 ∧ Below w.heap.size w w4 from ⟨⟨HD.out.1.1.kept hb, HD.out.1.2.below hb HD.out.1.2.lt⟩, kept_trans HD.out.2 hb⟩); have h0 := HI.out _ _ _ HD.out.1.2; have c1 := HD.out.1.1.f1; have c2 := HD.out.1.1.t1; have c50 := HD.out.1.1.z; clear hb)
                      | (go_at_call 15; (with_reducible refine (hb8 _).mono ?_); rintro e w4 ⟨rfl, hb⟩; have HD := hide (show (fun w' => LAt w' w.heap.size 37 m ∧ Row w' g 67 (hC m.k)) w4 ∧ Below w.heap.size w w4 from ⟨⟨HD.out.1.1.kept hb, HD.out.1.2.below hb HD.out.1.2.lt⟩, kept_trans HD.out.2 hb⟩); have h0 := HI.out _ _ _ HD.out.1.2; have c1 := HD.out.1.1.f1; have c2 := HD.out.1.1.t1; have c50 := HD.out.1.1.z; clear hb)
                      | (go_at_call 54; (with_reducible refine (hb9 _).mono ?_); rintro e w4 ⟨rfl, hb⟩; have HD := hide (show (fun w' => LAt w' w.heap.size 37 m ∧ Row w' g 67 (hC m.k)) w4 ∧ Below w.heap.size w w4 from ⟨⟨HD.out.1.1.kept hb, HD.out.1.2.below hb HD.out.1.2.lt⟩, kept_trans HD.out.2 hb⟩); have h0 := HI.out _ _ _ HD.out.1.2; have c1 := HD.out.1.1.f1; have c2 := HD.out.1.1.t1; have c50 := HD.out.1.1.z; clear hb))
                    go_ret
                    exact ⟨rfl, HD.out.2⟩
                  · skip
                    cases r8
                    · skip
                      go_wp2_with (first
                        | ((with_reducible refine wpList_load_in ?_ ?_ HD.out.1.1.i ?_); rfl; rfl)
                        | ((with_reducible refine wpList_load_bal ?_ ?_ HD.out.1.1.b1 ?_); rfl; rfl)
                        | ((with_reducible refine wpList_load_cm ?_ ?_ HD.out.1.1.c ?_); rfl; rfl)
                        | ((with_reducible refine wpList_load_at wf.a ?_ ?_ HD.out.1.1.a ?_); rfl; rfl)
                        | ((with_reducible refine wpList_load_ce wf.x ?_ ?_ HD.out.1.1.x ?_); rfl; rfl)
                        | ((with_reducible refine wpList_load_de wf.d ?_ ?_ HD.out.1.1.d ?_); rfl; rfl)
                        | (go_at_call 52; (with_reducible refine (hf _).mono ?_); rintro e w4 ⟨rfl, rfl⟩)
                        | (go_at_call 52; (with_reducible refine (ht _).mono ?_); rintro e w4 ⟨rfl, rfl⟩)
                        | (go_at_call 53; (with_reducible refine (hi _).mono ?_); rintro e w4 ⟨rfl, hb⟩; have HD := hide (show (fun w' => LAt w' w.heap.size 37 m ∧ Row w' g 67 (hC m.k)) w4 ∧ Below w.heap.size w w4 from ⟨⟨HD.out.1.1.kept hb, HD.out.1.2.below hb HD.out.1.2.lt⟩, kept_trans HD.out.2 hb⟩); have h0 := HI.out _ _ _ HD.out.1.2; have c1 := HD.out.1.1.f1; have c2 := HD.out.1.1.t1; have c50 := HD.out.1.1.z; clear hb)
                        | (go_at_call 47; (with_reducible refine (hb5 _).mono ?_); rintro e w4 ⟨rfl, hb⟩; have HD := hide (show (fun w' => LAt w' w.heap.size 37 m ∧ Row w' g 67 (hC m.k)) w4 ∧ Below w.heap.size w w4 from ⟨⟨HD.out.1.1.kept hb, HD.out.1.2.below hb HD.out.1.2.lt⟩, kept_trans HD.out.2 hb⟩); have h0 := HI.out _ _ _ HD.out.1.2; have c1 := HD.out.1.1.f1; have c2 := HD.out.1.1.t1; have c50 := HD.out.1.1.z; clear hb)
                        | (go_at_call 49; (with_reducible refine (hb6 _).mono ?_); rintro e w4 ⟨rfl, hb⟩; have HD := hide (show (fun w' => LAt w' w.heap.size 37 m ∧ Row w' g 67 (hC m.k)) w4 ∧ Below w.heap.size w w4 from ⟨⟨HD.out.1.1.kept hb, HD.out.1.2.below hb HD.out.1.2.lt⟩, kept_trans HD.out.2 hb⟩); have h0 := HI.out _ _ _ HD.out.1.2; have c1 := HD.out.1.1.f1; have c2 := HD.out.1.1.t1; have c50 := HD.out.1.1.z; clear hb)
                        | (go_at_call 50; (with_reducible refine (hb7 _).mono ?_); rintro e w4 ⟨rfl, hb⟩; have HD := hide (show (fun w' => LAt w' w.heap.size 37 m ∧ Row w' g 67 (hC m.k)) w4 ∧ Below w.heap.size w w4 from ⟨⟨HD.out.1.1.kept hb, HD.out.1.2.below hb HD.out.1.2.lt⟩, kept_trans HD.out.2 hb⟩); have h0 := HI.out _ _ _ HD.out.1.2; have c1 := HD.out.1.1.f1; have c2 := HD.out.1.1.t1; have c50 := HD.out.1.1.z; clear hb)
                        | (go_at_call 15; (with_reducible refine (hb8 _).mono ?_); rintro e w4 ⟨rfl, hb⟩; have HD := hide (show (fun w' => LAt w' w.heap.size 37 m ∧ Row w' g 67 (hC m.k)) w4 ∧ Below w.heap.size w w4 from ⟨⟨HD.out.1.1.kept hb, HD.out.1.2.below hb HD.out.1.2.lt⟩, kept_trans HD.out.2 hb⟩); have h0 := HI.out _ _ _ HD.out.1.2; have c1 := HD.out.1.1.f1; have c2 := HD.out.1.1.t1; have c50 := HD.out.1.1.z; clear hb)
                        | (go_at_call 54; (with_reducible refine (hb9 _).mono ?_); rintro e w4 ⟨rfl, hb⟩; have HD := hide (show (fun w' => LAt w' w.heap.size 37 m ∧ Row w' g 67 (hC m.k)) w4 ∧ Below w.heap.size w w4 from ⟨⟨HD.out.1.1.kept hb, HD.out.1.2.below hb HD.out.1.2.lt⟩, kept_trans HD.out.2 hb⟩); have h0 := HI.out _ _ _ HD.out.1.2; have c1 := HD.out.1.1.f1; have c2 := HD.out.1.1.t1; have c50 := HD.out.1.1.z; clear hb))
                      go_ret
                      exact ⟨rfl, HD.out.2⟩
                    · skip
                      cases r9
                      · skip
                        go_wp2_with (first
                          | ((with_reducible refine wpList_load_in ?_ ?_ HD.out.1.1.i ?_); rfl; rfl)
                          | ((with_reducible refine wpList_load_bal ?_ ?_ HD.out.1.1.b1 ?_); rfl; rfl)
                          | ((with_reducible refine wpList_load_cm ?_ ?_ HD.out.1.1.c ?_); rfl; rfl)
                          | ((with_reducible refine wpList_load_at wf.a ?_ ?_ HD.out.1.1.a ?_); rfl; rfl)
                          | ((with_reducible refine wpList_load_ce wf.x ?_ ?_ HD.out.1.1.x ?_); rfl; rfl)
                          | ((with_reducible refine wpList_load_de wf.d ?_ ?_ HD.out.1.1.d ?_); rfl; rfl)
                          | (go_at_call 52; (with_reducible refine (hf _).mono ?_); rintro e w4 ⟨rfl, rfl⟩)
                          | (go_at_call 52; (with_reducible refine (ht _).mono ?_); rintro e w4 ⟨rfl, rfl⟩)
                          | (go_at_call 53; (with_reducible refine (hi _).mono ?_); rintro e w4 ⟨rfl, hb⟩; have HD := hide (show (fun w' => LAt w' w.heap.size 37 m ∧ Row w' g 67 (hC m.k)) w4 ∧ Below w.heap.size w w4 from ⟨⟨HD.out.1.1.kept hb, HD.out.1.2.below hb HD.out.1.2.lt⟩, kept_trans HD.out.2 hb⟩); have h0 := HI.out _ _ _ HD.out.1.2; have c1 := HD.out.1.1.f1; have c2 := HD.out.1.1.t1; have c50 := HD.out.1.1.z; clear hb)
                          | (go_at_call 47; (with_reducible refine (hb5 _).mono ?_); rintro e w4 ⟨rfl, hb⟩; have HD := hide (show (fun w' => LAt w' w.heap.size 37 m ∧ Row w' g 67 (hC m.k)) w4 ∧ Below w.heap.size w w4 from ⟨⟨HD.out.1.1.kept hb, HD.out.1.2.below hb HD.out.1.2.lt⟩, kept_trans HD.out.2 hb⟩); have h0 := HI.out _ _ _ HD.out.1.2; have c1 := HD.out.1.1.f1; have c2 := HD.out.1.1.t1; have c50 := HD.out.1.1.z; clear hb)
                          | (go_at_call 49; (with_reducible refine (hb6 _).mono ?_); rintro e w4 ⟨rfl, hb⟩; have HD := hide (show (fun w' => LAt w' w.heap.size 37 m ∧ Row w' g 67 (hC m.k)) w4 ∧ Below w.heap.size w w4 from ⟨⟨HD.out.1.1.kept hb, HD.out.1.2.below hb HD.out.1.2.lt⟩, kept_trans HD.out.2 hb⟩); have h0 := HI.out _ _ _ HD.out.1.2; have c1 := HD.out.1.1.f1; have c2 := HD.out.1.1.t1; have c50 := HD.out.1.1.z; clear hb)
                          | (go_at_call 50; (with_reducible refine (hb7 _).mono ?_); rintro e w4 ⟨rfl, hb⟩; have HD := hide (show (fun w' => LAt w' w.heap.size 37 m ∧ Row w' g 67 (hC m.k)) w4 ∧ Below w.heap.size w w4 from ⟨⟨HD.out.1.1.kept hb, HD.out.1.2.below hb HD.out.1.2.lt⟩, kept_trans HD.out.2 hb⟩); have h0 := HI.out _ _ _ HD.out.1.2; have c1 := HD.out.1.1.f1; have c2 := HD.out.1.1.t1; have c50 := HD.out.1.1.z; clear hb)
                          | (go_at_call 15; (with_reducible refine (hb8 _).mono ?_); rintro e w4 ⟨rfl, hb⟩; have HD := hide (show (fun w' => LAt w' w.heap.size 37 m ∧ Row w' g 67 (hC m.k)) w4 ∧ Below w.heap.size w w4 from ⟨⟨HD.out.1.1.kept hb, HD.out.1.2.below hb HD.out.1.2.lt⟩, kept_trans HD.out.2 hb⟩); have h0 := HI.out _ _ _ HD.out.1.2; have c1 := HD.out.1.1.f1; have c2 := HD.out.1.1.t1; have c50 := HD.out.1.1.z; clear hb)
                          | (go_at_call 54; (with_reducible refine (hb9 _).mono ?_); rintro e w4 ⟨rfl, hb⟩; have HD := hide (show (fun w' => LAt w' w.heap.size 37 m ∧ Row w' g 67 (hC m.k)) w4 ∧ Below w.heap.size w w4 from ⟨⟨HD.out.1.1.kept hb, HD.out.1.2.below hb HD.out.1.2.lt⟩, kept_trans HD.out.2 hb⟩); have h0 := HI.out _ _ _ HD.out.1.2; have c1 := HD.out.1.1.f1; have c2 := HD.out.1.1.t1; have c50 := HD.out.1.1.z; clear hb))
                        go_ret
                        exact ⟨rfl, HD.out.2⟩
                      · skip
                        cases qz
                        · skip
                          go_wp2_with (first
                            | ((with_reducible refine wpList_load_in ?_ ?_ HD.out.1.1.i ?_); rfl; rfl)
                            | ((with_reducible refine wpList_load_bal ?_ ?_ HD.out.1.1.b1 ?_); rfl; rfl)
                            | ((with_reducible refine wpList_load_cm ?_ ?_ HD.out.1.1.c ?_); rfl; rfl)
                            | ((with_reducible refine wpList_load_at wf.a ?_ ?_ HD.out.1.1.a ?_); rfl; rfl)
                            | ((with_reducible refine wpList_load_ce wf.x ?_ ?_ HD.out.1.1.x ?_); rfl; rfl)
                            | ((with_reducible refine wpList_load_de wf.d ?_ ?_ HD.out.1.1.d ?_); rfl; rfl)
                            | (go_at_call 52; (with_reducible refine (hf _).mono ?_); rintro e w4 ⟨rfl, rfl⟩)
                            | (go_at_call 52; (with_reducible refine (ht _).mono ?_); rintro e w4 ⟨rfl, rfl⟩)
                            | (go_at_call 53; (with_reducible refine (hi _).mono ?_); rintro e w4 ⟨rfl, hb⟩; have HD := hide (show (fun w' => LAt w' w.heap.size 37 m ∧ Row w' g 67 (hC m.k)) w4 ∧ Below w.heap.size w w4 from ⟨⟨HD.out.1.1.kept hb, HD.out.1.2.below hb HD.out.1.2.lt⟩, kept_trans HD.out.2 hb⟩); have h0 := HI.out _ _ _ HD.out.1.2; have c1 := HD.out.1.1.f1; have c2 := HD.out.1.1.t1; have c50 := HD.out.1.1.z; clear hb)
                            | (go_at_call 47; (with_reducible refine (hb5 _).mono ?_); rintro e w4 ⟨rfl, hb⟩; have HD := hide (show (fun w' => LAt w' w.heap.size 37 m ∧ Row w' g 67 (hC m.k)) w4 ∧ Below w.heap.size w w4 from ⟨⟨HD.out.1.1.kept hb, HD.out.1.2.below hb HD.out.1.2.lt⟩, kept_trans HD.out.2 hb⟩); have h0 := HI.out _ _ _ HD.out.1.2; have c1 := HD.out.1.1.f1; have c2 := HD.out.1.1.t1; have c50 := HD.out.1.1.z; clear hb)
                            | (go_at_call 49; (with_reducible refine (hb6 _).mono ?_); rintro e w4 ⟨rfl, hb⟩; have HD := hide (show (fun w' => LAt w' w.heap.size 37 m ∧ Row w' g 67 (hC m.k)) w4 ∧ Below w.heap.size w w4 from ⟨⟨HD.out.1.1.kept hb, HD.out.1.2.below hb HD.out.1.2.lt⟩, kept_trans HD.out.2 hb⟩); have h0 := HI.out _ _ _ HD.out.1.2; have c1 := HD.out.1.1.f1; have c2 := HD.out.1.1.t1; have c50 := HD.out.1.1.z; clear hb)
                            | (go_at_call 50; (with_reducible refine (hb7 _).mono ?_); rintro e w4 ⟨rfl, hb⟩; have HD := hide (show (fun w' => LAt w' w.heap.size 37 m ∧ Row w' g 67 (hC m.k)) w4 ∧ Below w.heap.size w w4 from ⟨⟨HD.out.1.1.kept hb, HD.out.1.2.below hb HD.out.1.2.lt⟩, kept_trans HD.out.2 hb⟩); have h0 := HI.out _ _ _ HD.out.1.2; have c1 := HD.out.1.1.f1; have c2 := HD.out.1.1.t1; have c50 := HD.out.1.1.z; clear hb)
                            | (go_at_call 15; (with_reducible refine (hb8 _).mono ?_); rintro e w4 ⟨rfl, hb⟩; have HD := hide (show (fun w' => LAt w' w.heap.size 37 m ∧ Row w' g 67 (hC m.k)) w4 ∧ Below w.heap.size w w4 from ⟨⟨HD.out.1.1.kept hb, HD.out.1.2.below hb HD.out.1.2.lt⟩, kept_trans HD.out.2 hb⟩); have h0 := HI.out _ _ _ HD.out.1.2; have c1 := HD.out.1.1.f1; have c2 := HD.out.1.1.t1; have c50 := HD.out.1.1.z; clear hb)
                            | (go_at_call 54; (with_reducible refine (hb9 _).mono ?_); rintro e w4 ⟨rfl, hb⟩; have HD := hide (show (fun w' => LAt w' w.heap.size 37 m ∧ Row w' g 67 (hC m.k)) w4 ∧ Below w.heap.size w w4 from ⟨⟨HD.out.1.1.kept hb, HD.out.1.2.below hb HD.out.1.2.lt⟩, kept_trans HD.out.2 hb⟩); have h0 := HI.out _ _ _ HD.out.1.2; have c1 := HD.out.1.1.f1; have c2 := HD.out.1.1.t1; have c50 := HD.out.1.1.z; clear hb))
                          go_ret
                          exact ⟨rfl, HD.out.2⟩
                        · skip
                          go_wp2_with (first
                            | ((with_reducible refine wpList_load_in ?_ ?_ HD.out.1.1.i ?_); rfl; rfl)
                            | ((with_reducible refine wpList_load_bal ?_ ?_ HD.out.1.1.b1 ?_); rfl; rfl)
                            | ((with_reducible refine wpList_load_cm ?_ ?_ HD.out.1.1.c ?_); rfl; rfl)
                            | ((with_reducible refine wpList_load_at wf.a ?_ ?_ HD.out.1.1.a ?_); rfl; rfl)
                            | ((with_reducible refine wpList_load_ce wf.x ?_ ?_ HD.out.1.1.x ?_); rfl; rfl)
                            | ((with_reducible refine wpList_load_de wf.d ?_ ?_ HD.out.1.1.d ?_); rfl; rfl)
                            | (go_at_call 52; (with_reducible refine (hf _).mono ?_); rintro e w4 ⟨rfl, rfl⟩)
                            | (go_at_call 52; (with_reducible refine (ht _).mono ?_); rintro e w4 ⟨rfl, rfl⟩)
                            | (go_at_call 53; (with_reducible refine (hi _).mono ?_); rintro e w4 ⟨rfl, hb⟩; have HD := hide (show (fun w' => LAt w' w.heap.size 37 m ∧ Row w' g 67 (hC m.k)) w4 ∧ Below w.heap.size w w4 from ⟨⟨HD.out.1.1.kept hb, HD.out.1.2.below hb HD.out.1.2.lt⟩, kept_trans HD.out.2 hb⟩); have h0 := HI.out _ _ _ HD.out.1.2; have c1 := HD.out.1.1.f1; have c2 := HD.out.1.1.t1; have c50 := HD.out.1.1.z; clear hb)
                            | (go_at_call 47; (with_reducible refine (hb5 _).mono ?_); rintro e w4 ⟨rfl, hb⟩; have HD := hide (show (fun w' => LAt w' w.heap.size 37 m ∧ Row w' g 67 (hC m.k)) w4 ∧ Below w.heap.size w w4 from ⟨⟨HD.out.1.1.kept hb, HD.out.1.2.below hb HD.out.1.2.lt⟩, kept_trans HD.out.2 hb⟩); have h0 := HI.out _ _ _ HD.out.1.2; have c1 := HD.out.1.1.f1; have c2 := HD.out.1.1.t1; have c50 := HD.out.1.1.z; clear hb)
                            | (go_at_call 49; (with_reducible refine (hb6 _).mono ?_); rintro e w4 ⟨rfl, hb⟩; have HD := hide (show (fun w' => LAt w' w.heap.size 37 m ∧ Row w' g 67 (hC m.k)) w4 ∧ Below w.heap.size w w4 from ⟨⟨HD.out.1.1.kept hb, HD.out.1.2.below hb HD.out.1.2.lt⟩, kept_trans HD.out.2 hb⟩); have h0 := HI.out _ _ _ HD.out.1.2; have c1 := HD.out.1.1.f1; have c2 := HD.out.1.1.t1; have c50 := HD.out.1.1.z; clear hb)
                            | (go_at_call 50; (with_reducible refine (hb7 _).mono ?_); rintro e w4 ⟨rfl, hb⟩; have HD := hide (show (fun w' => LAt w' w.heap.size 37 m ∧ Row w' g 67 (hC m.k)) w4 ∧ Below w.heap.size w w4 from ⟨⟨HD.out.1.1.kept hb, HD.out.1.2.below hb HD.out.1.2.lt⟩, kept_trans HD.out.2 hb⟩); have h0 := HI.out _ _ _ HD.out.1.2; have c1 := HD.out.1.1.f1; have c2 := HD.out.1.1.t1; have c50 := HD.out.1.1.z; clear hb)
                            | (go_at_call 15; (with_reducible refine (hb8 _).mono ?_); rintro e w4 ⟨rfl, hb⟩; have HD := hide (show (fun w' => LAt w' w.heap.size 37 m ∧ Row w' g 67 (hC m.k)) w4 ∧ Below w.heap.size w w4 from ⟨⟨HD.out.1.1.kept hb, HD.out.1.2.below hb HD.out.1.2.lt⟩, kept_trans HD.out.2 hb⟩); have h0 := HI.out _ _ _ HD.out.1.2; have c1 := HD.out.1.1.f1; have c2 := HD.out.1.1.t1; have c50 := HD.out.1.1.z; clear hb)
                            | (go_at_call 54; (with_reducible refine (hb9 _).mono ?_); rintro e w4 ⟨rfl, hb⟩; have HD := hide (show (fun w' => LAt w' w.heap.size 37 m ∧ Row w' g 67 (hC m.k)) w4 ∧ Below w.heap.size w w4 from ⟨⟨HD.out.1.1.kept hb, HD.out.1.2.below hb HD.out.1.2.lt⟩, kept_trans HD.out.2 hb⟩); have h0 := HI.out _ _ _ HD.out.1.2; have c1 := HD.out.1.1.f1; have c2 := HD.out.1.1.t1; have c50 := HD.out.1.1.z; clear hb))
                          go_ret
                          exact ⟨rfl, HD.out.2⟩
            · skip
              cases r4
              · skip
                go_wp2_with (first
                  | ((with_reducible refine wpList_load_in ?_ ?_ HD.out.1.1.i ?_); rfl; rfl)
                  | ((with_reducible refine wpList_load_bal ?_ ?_ HD.out.1.1.b1 ?_); rfl; rfl)
                  | ((with_reducible refine wpList_load_cm ?_ ?_ HD.out.1.1.c ?_); rfl; rfl)
                  | ((with_reducible refine wpList_load_at wf.a ?_ ?_ HD.out.1.1.a ?_); rfl; rfl)
                  | ((with_reducible refine wpList_load_ce wf.x ?_ ?_ HD.out.1.1.x ?_); rfl; rfl)
                  | ((with_reducible refine wpList_load_de wf.d ?_ ?_ HD.out.1.1.d ?_); rfl; rfl)
                  | (go_at_call 52; (with_reducible refine (hf _).mono ?_); rintro e w4 ⟨rfl, rfl⟩)
                  | (go_at_call 52; (with_reducible refine (ht _).mono ?_); rintro e w4 ⟨rfl, rfl⟩)
                  | (go_at_call 53; (with_reducible refine (hi _).mono ?_); rintro e w4 ⟨rfl, hb⟩; have HD := hide (show (fun w' => LAt w' w.heap.size 37 m ∧ Row w' g 67 (hC m.k)) w4 ∧ Below w.heap.size w w4 from ⟨⟨HD.out.1.1.kept hb, HD.out.1.2.below hb HD.out.1.2.lt⟩, kept_trans HD.out.2 hb⟩); have h0 := HI.out _ _ _ HD.out.1.2; have c1 := HD.out.1.1.f1; have c2 := HD.out.1.1.t1; have c50 := HD.out.1.1.z; clear hb)
                  | (go_at_call 47; (with_reducible refine (hb5 _).mono ?_); rintro e w4 ⟨rfl, hb⟩; have HD := hide (show (fun w' => LAt w' w.heap.size 37 m ∧ Row w' g 67 (hC m.k)) w4 ∧ Below w.heap.size w w4 from ⟨⟨HD.out.1.1.kept hb, HD.out.1.2.below hb HD.out.1.2.lt⟩, kept_trans HD.out.2 hb⟩); have h0 := HI.out _ _ _ HD.out.1.2; have c1 := HD.out.1.1.f1; have c2 := HD.out.1.1.t1; have c50 := HD.out.1.1.z; clear hb)
                  | (go_at_call 49; (with_reducible refine (hb6 _).mono ?_); rintro e w4 ⟨rfl, hb⟩; have HD := hide (show (fun w' => LAt w' w.heap.size 37 m ∧ Row w' g 67 (hC m.k)) w4 ∧ Below w.heap.size w w4 from ⟨⟨HD.out.1.1.kept hb, HD.out.1.2.below hb HD.out.1.2.lt⟩, kept_trans HD.out.2 hb⟩); have h0 := HI.out _ _ _ HD.out.1.2; have c1 := HD.out.1.1.f1; have c2 := HD.out.1.1.t1; have c50 := HD.out.1.1.z; clear hb)
                  | (go_at_call 50; (with_reducible refine (hb7 _).mono ?_); rintro e w4 ⟨rfl, hb⟩; have HD := hide (show (fun w' => LAt w' w.heap.size 37 m ∧ Row w' g 67 (hC m.k)) w4 ∧ Below w.heap.size w w4 from ⟨⟨HD.out.1.1.kept hb, HD.out.1.2.below hb HD.out.1.2.lt⟩, kept_trans HD.out.2 hb⟩); have h0 := HI.out _ _ _ HD.out.1.2; have c1 := HD.out.1.1.f1; have c2 := HD.out.1.1.t1; have c50 := HD.out.1.1.z; clear hb)
                  | (go_at_call 15; (with_reducible refine (hb8 _).mono ?_); rintro e w4 ⟨rfl, hb⟩; have HD := hide (show (fun w' => LAt w' w.heap.size 37 m ∧ Row w' g 67 (hC m.k)) w4 ∧ Below w.heap.size w w4 from ⟨⟨HD.out.1.1.kept hb, HD.out.1.2.below hb HD.out.1.2.lt⟩, kept_trans HD.out.2 hb⟩); have h0 := HI.out _ _ _ HD.out.1.2; have c1 := HD.out.1.1.f1; have c2 := HD.out.1.1.t1; have c50 := HD.out.1.1.z; clear hb)
                  | (go_at_call 54; (with_reducible refine (hb9 _).mono ?_); rintro e w4 ⟨rfl, hb⟩; have HD := hide (show (fun w' => LAt w' w.heap.size 37 m ∧ Row w' g 67 (hC m.k)) w4 ∧ Below w.heap.size w w4 from ⟨⟨HD.out.1.1.kept hb, HD.out.1.2.below hb HD.out.1.2.lt⟩, kept_trans HD.out.2 hb⟩); have h0 := HI.out _ _ _ HD.out.1.2; have c1 := HD.out.1.1.f1; have c2 := HD.out.1.1.t1; have c50 := HD.out.1.1.z; clear hb))
                go_ret
                exact ⟨rfl, HD.out.2⟩
              · skip
                cases r5
                · skip
                  go_wp2_with (first
                    | ((with_reducible refine wpList_load_in ?_ ?_ HD.out.1.1.i ?_); rfl; rfl)
                    | ((with_reducible refine wpList_load_bal ?_ ?_ HD.out.1.1.b1 ?_); rfl; rfl)
                    | ((with_reducible refine wpList_load_cm ?_ ?_ HD.out.1.1.c ?_); rfl; rfl)
                    | ((with_reducible refine wpList_load_at wf.a ?_ ?_ HD.out.1.1.a ?_); rfl; rfl)
                    | ((with_reducible refine wpList_load_ce wf.x ?_ ?_ HD.out.1.1.x ?_); rfl; rfl)
                    | ((with_reducible refine wpList_load_de wf.d ?_ ?_ HD.out.1.1.d ?_); rfl; rfl)
                    | (go_at_call 52; (with_reducible refine (hf _).mono ?_); rintro e w4 ⟨rfl, rfl⟩)
                    | (go_at_call 52; (with_reducible refine (ht _).mono ?_); rintro e w4 ⟨rfl, rfl⟩)
                    | (go_at_call 53; (with_reducible refine (hi _).mono ?_); rintro e w4 ⟨rfl, hb⟩; have HD := hide (show (fun w' => LAt w' w.heap.size 37 m ∧ Row w' g 67 (hC m.k)) w4 ∧ Below w.heap.size w w4 from ⟨⟨HD.out.1.1.kept hb, HD.out.1.2.below hb HD.out.1.2.lt⟩, kept_trans HD.out.2 hb⟩); have h0 := HI.out _ _ _ HD.out.1.2; have c1 := HD.out.1.1.f1; have c2 := HD.out.1.1.t1; have c50 := HD.out.1.1.z; clear hb)
                    | (go_at_call 47; (with_reducible refine (hb5 _).mono ?_); rintro e w4 ⟨rfl, hb⟩; have HD := hide (show (fun w' => LAt w' w.heap.size 37 m ∧ Row w' g 67 (hC m.k)) w4 ∧ Below w.heap.size w w4 from ⟨⟨HD.out.1.1.kept hb, HD.out.1.2.below hb HD.out.1.2.lt⟩, kept_trans HD.out.2 hb⟩); have h0 := HI.out _ _ _ HD.out.1.2; have c1 := HD.out.1.1.f1; have c2 := HD.out.1.1.t1; have c50 := HD.out.1.1.z; clear hb)
                    | (go_at_call 49; (with_reducible refine (hb6 _).mono ?_); rintro e w4 ⟨rfl, hb⟩; have HD := hide (show (fun w' => LAt w' w.heap.size 37 m ∧ Row w' g 67 (hC m.k)) w4 ∧ Below w.heap.size w w4 from ⟨⟨HD.out.1.1.kept hb, HD.out.1.2.below hb HD.out.1.2.lt⟩, kept_trans HD.out.2 hb⟩); have h0 := HI.out _ _ _ HD.out.1.2; have c1 := HD.out.1.1.f1; have c2 := HD.out.1.1.t1; have c50 := HD.out.1.1.z; clear hb)
                    | (go_at_call 50; (with_reducible refine (hb7 _).mono ?_); rintro e w4 ⟨rfl, hb⟩; have HD := hide (show (fun w' => LAt w' w.heap.size 37 m ∧ Row w' g 67 (hC m.k)) w4 ∧ Below w.heap.size w w4 from ⟨⟨HD.out.1.1.kept hb, HD.out.1.2.below hb HD.out.1.2.lt⟩, kept_trans HD.out.2 hb⟩); have h0 := HI.out _ _ _ HD.out.1.2; have c1 := HD.out.1.1.f1; have c2 := HD.out.1.1.t1; have c50 := HD.out.1.1.z; clear hb)
                    | (go_at_call 15; (with_reducible refine (hb8 _).mono ?_); rintro e w4 ⟨rfl, hb⟩; have HD := hide (show (fun w' => LAt w' w.heap.size 37 m ∧ Row w' g 67 (hC m.k)) w4 ∧ Below w.heap.size w w4 from ⟨⟨HD.out.1.1.kept hb, HD.out.1.2.below hb HD.out.1.2.lt⟩, kept_trans HD.out.2 hb⟩); have h0 := HI.out _ _ _ HD.out.1.2; have c1 := HD.out.1.1.f1; have c2 := HD.out.1.1.t1; have c50 := HD.out.1.1.z; clear hb)
                    | (go_at_call 54; (with_reducible refine (hb9 _).mono ?_); rintro e w4 ⟨rfl, hb⟩; have HD := hide (show (fun w' => LAt w' w.heap.size 37 m ∧ Row w' g 67 (hC m.k)) w4 ∧ Below w.heap.size w w4 from ⟨⟨HD.out.1.1.kept hb, HD.out.1.2.below hb HD.out.1.2.lt⟩, kept_trans HD.out.2 hb⟩); have h0 := HI.out _ _ _ HD.out.1.2; have c1 := HD.out.1.1.f1; have c2 := HD.out.1.1.t1; have c50 := HD.out.1.1.z; clear hb))
                  go_ret
                  exact ⟨rfl, HD.out.2⟩
                · skip
                  cases r6
                  · skip
                    go_wp2_with (first
                      | ((with_reducible refine wpList_load_in ?_ ?_ HD.out.1.1.i ?_); rfl; rfl)
                      | ((with_reducible refine wpList_load_bal ?_ ?_ HD.out.1.1.b1 ?_); rfl; rfl)
                      | ((with_reducible refine wpList_load_cm ?_ ?_ HD.out.1.1.c ?_); rfl; rfl)
                      | ((with_reducible refine wpList_load_at wf.a ?_ ?_ HD.out.1.1.a ?_); rfl; rfl)
                      | ((with_reducible refine wpList_load_ce wf.x ?_ ?_ HD.out.1.1.x ?_); rfl; rfl)
                      | ((with_reducible refine wpList_load_de wf.d ?_ ?_ HD.out.1.1.d ?_); rfl; rfl)
                      | (go_at_call 52; (with_reducible refine (hf _).mono ?_); rintro e w4 ⟨rfl, rfl⟩)
                      | (go_at_call 52; (with_reducible refine (ht _).mono ?_); rintro e w4 ⟨rfl, rfl⟩)
                      | (go_at_call 53; (with_reducible refine (hi _).mono ?_); rintro e w4 ⟨rfl, hb⟩; have HD := hide (show (fun w' => LAt w' w.heap.size 37 m ∧ Row w' g 67 (hC m.k)) w4 ∧ Below w.heap.size w w4 from ⟨⟨HD.out.1.1.kept hb, HD.out.1.2.below hb HD.out.1.2.lt⟩, kept_trans HD.out.2 hb⟩); have h0 := HI.out _ _ _ HD.out.1.2; have c1 := HD.out.1.1.f1; have c2 := HD.out.1.1.t1; have c50 := HD.out.1.1.z; clear hb)
                      | (go_at_call 47; (with_reducible refine (hb5 _).mono ?_); rintro e w4 ⟨rfl, hb⟩; have HD := hide (show (fun w' => LAt w' w.heap.size 37 m ∧ Row w' g 67 (hC m.k)) w4 ∧ Below w.heap.size w w4 from ⟨⟨HD.out.1.1.kept hb, HD.out.1.2.below hb HD.out.1.2.lt⟩, kept_trans HD.out.2 hb⟩); have h0 := HI.out _ _ _ HD.out.1.2; have c1 := HD.out.1.1.f1; have c2 := HD.out.1.1.t1; have c50 := HD.out.1.1.z; clear hb)
                      | (go_at_call 49; (with_reducible refine (hb6 _).mono ?_); rintro e w4 ⟨rfl, hb⟩; have HD := hide (show (fun w' => LAt w' w.heap.size 37 m ∧ Row w' g 67 (hC m.k)) w4 ∧ Below w.heap.size w w4 from ⟨⟨HD.out.1.1.kept hb, HD.out.1.2.below hb HD.out.1.2.lt⟩, kept_trans HD.out.2 hb⟩); have h0 := HI.out _ _ _ HD.out.1.2; have c1 := HD.out.1.1.f1; have c2 := HD.out.1.1.t1; have c50 := HD.out.1.1.z; clear hb)
                      | (go_at_call 50; (with_reducible refine (hb7 _).mono ?_); rintro e w4 ⟨rfl, hb⟩; have HD := hide (show (fun w' => LAt w' w.heap.size 37 m ∧ Row w' g 67 (hC m.k)) w4 ∧ Below w.heap.size w w4 from ⟨⟨HD.out.1.1.kept hb, HD.out.1.2.below hb HD.out.1.2.lt⟩, kept_trans HD.out.2 hb⟩); have h0 := HI.out _ _ _ HD.out.1.2; have c1 := HD.out.1.1.f1; have c2 := HD.out.1.1.t1; have c50 := HD.out.1.1.z; clear hb)
                      | (go_at_call 15; (with_reducible refine (hb8 _).mono ?_); rintro e w4 ⟨rfl, hb⟩; have HD := hide (show (fun w' => LAt w' w.heap.size 37 m ∧ Row w' g 67 (hC m.k)) w4 ∧ Below w.heap.size w w4 from ⟨⟨HD.out.1.1.kept hb, HD.out.1.2.below hb HD.out.1.2.lt⟩, kept_trans HD.out.2 hb⟩); have h0 := HI.out _ _ _ HD.out.1.2; have c1 := HD.out.1.1.f1; have c2 := HD.out.1.1.t1; have c50 := HD.out.1.1.z; clear hb)
                      | (go_at_call 54; (with_reducible refine (hb9 _).mono ?_); rintro e w4 ⟨rfl, hb⟩; have HD := hide (show (fun w' => LAt w' w.heap.size 37 m ∧ Row w' g 67 (hC m.k)) w4 ∧ Below w.heap.size w w4 from ⟨⟨HD.out.1.1.kept hb, HD.out.1.2.below hb HD.out.1.2.lt⟩, kept_trans HD.out.2 hb⟩); have h0 := HI.out _ _ _ HD.out.1.2; have c1 := HD.out.1.1.f1; have c2 := HD.out.1.1.t1; have c50 := HD.out.1.1.z; clear hb))
                    go_ret
                    exact ⟨rfl, HD.out.2⟩
                  · skip
                    cases r7
                    · skip
                      go_wp2_with (first
                        | ((with_reducible refine wpList_load_in ?_ ?_ HD.out.1.1.i ?_); rfl; rfl)
                        | ((with_reducible refine wpList_load_bal ?_ ?_ HD.out.1.1.b1 ?_); rfl; rfl)
                        | ((with_reducible refine wpList_load_cm ?_ ?_ HD.out.1.1.c ?_); rfl; rfl)
                        | ((with_reducible refine wpList_load_at wf.a ?_ ?_ HD.out.1.1.a ?_); rfl; rfl)
                        | ((with_reducible refine wpList_load_ce wf.x ?_ ?_ HD.out.1.1.x ?_); rfl; rfl)
                        | ((with_reducible refine wpList_load_de wf.d ?_ ?_ HD.out.1.1.d ?_); rfl; rfl)
                        | (go_at_call 52; (with_reducible refine (hf _).mono ?_); rintro e w4 ⟨rfl, rfl⟩)
                        | (go_at_call 52; (with_reducible refine (ht _).mono ?_); rintro e w4 ⟨rfl, rfl⟩)
                        | (go_at_call 53; (with_reducible refine (hi _).mono ?_); rintro e w4 ⟨rfl, hb⟩; have HD := hide (show (fun w' => LAt w' w.heap.size 37 m ∧ Row w' g 67 (hC m.k)) w4 ∧ Below w.heap.size w w4 from ⟨⟨HD.out.1.1.kept hb, HD.out.1.2.below hb HD.out.1.2.lt⟩, kept_trans HD.out.2 hb⟩); have h0 := HI.out _ _ _ HD.out.1.2; have c1 := HD.out.1.1.f1; have c2 := HD.out.1.1.t1; have c50 := HD.out.1.1.z; clear hb)
                        | (go_at_call 47; (with_reducible refine (hb5 _).mono ?_); rintro e w4 ⟨rfl, hb⟩; have HD := hide (show (fun w' => LAt w' w.heap.size 37 m ∧ Row w' g 67 (hC m.k)) w4 ∧ Below w.heap.size w w4 from ⟨⟨HD.out.1.1.kept hb, HD.out.1.2.below hb HD.out.1.2.lt⟩, kept_trans HD.out.2 hb⟩); have h0 := HI.out _ _ _ HD.out.1.2; have c1 := HD.out.1.1.f1; have c2 := HD.out.1.1.t1; have c50 := HD.out.1.1.z; clear hb)
                        | (go_at_call 49; (with_reducible refine (hb6 _).mono ?_); rintro e w4 ⟨rfl, hb⟩; have HD := hide (show (fun w' => LAt w' w.heap.size 37 m ∧ Row w' g 67 (hC m.k)) w4 ∧ Below w.heap.size w w4 from ⟨⟨HD.out.1.1.kept hb, HD.out.1.2.below hb HD.out.1.2.lt⟩, kept_trans HD.out.2 hb⟩); have h0 := HI.out _ _ _ HD.out.1.2; have c1 := HD.out.1.1.f1; have c2 := HD.out.1.1.t1; have c50 := HD.out.1.1.z; clear hb)
                        | (go_at_call 50; (with_reducible refine (hb7 _).mono ?_); rintro e w4 ⟨rfl, hb⟩; have HD := hide (show (fun w' => LAt w' w.heap.size 37 m ∧ Row w' g 67 (hC m.k)) w4 ∧ Below w.heap.size w w4 from ⟨⟨HD.out.1.1.kept hb, HD.out.1.2.below hb HD.out.1.2.lt⟩, kept_trans HD.out.2 hb⟩); have h0 := HI.out _ _ _ HD.out.1.2; have c1 := HD.out.1.1.f1; have c2 := HD.out.1.1.t1; have c50 := HD.out.1.1.z; clear hb)
                        | (go_at_call 15; (with_reducible refine (hb8 _).mono ?_); rintro e w4 ⟨rfl, hb⟩; have HD := hide (show (fun w' => LAt w' w.heap.size 37 m ∧ Row w' g 67 (hC m.k)) w4 ∧ Below w.heap.size w w4 from ⟨⟨HD.out.1.1.kept hb, HD.out.1.2.below hb HD.out.1.2.lt⟩, kept_trans HD.out.2 hb⟩); have h0 := HI.out _ _ _ HD.out.1.2; have c1 := HD.out.1.1.f1; have c2 := HD.out.1.1.t1; have c50 := HD.out.1.1.z; clear hb)
                        | (go_at_call 54; (with_reducible refine (hb9 _).mono ?_); rintro e w4 ⟨rfl, hb⟩; have HD := hide (show (fun w' => LAt w' w.heap.size 37 m ∧ Row w' g 67 (hC m.k)) w4 ∧ Below w.heap.size w w4 from ⟨⟨HD.out.1.1.kept hb, HD.out.1.2.below hb HD.out.1.2.lt⟩, kept_trans HD.out.2 hb⟩); have h0 := HI.out _ _ _ HD.out.1.2; have c1 := HD.out.1.1.f1; have c2 := HD.out.1.1.t1; have c50 := HD.out.1.1.z; clear hb))
                      go_ret
                      exact ⟨rfl, HD.out.2⟩
                    · skip
                      cases r8
                      · skip
                        go_wp2_with (first
                          | ((with_reducible refine wpList_load_in ?_ ?_ HD.out.1.1.i ?_); rfl; rfl)
                          | ((with_reducible refine wpList_load_bal ?_ ?_ HD.out.1.1.b1 ?_); rfl; rfl)
                          | ((with_reducible refine wpList_load_cm ?_ ?_ HD.out.1.1.c ?_); rfl; rfl)
                          | ((with_reducible refine wpList_load_at wf.a ?_ ?_ HD.out.1.1.a ?_); rfl; rfl)
                          | ((with_reducible refine wpList_load_ce wf.x ?_ ?_ HD.out.1.1.x ?_); rfl; rfl)
                          | ((with_reducible refine wpList_load_de wf.d ?_ ?_ HD.out.1.1.d ?_); rfl; rfl)
                          | (go_at_call 52; (with_reducible refine (hf _).mono ?_); rintro e w4 ⟨rfl, rfl⟩)
                          | (go_at_call 52; (with_reducible refine (ht _).mono ?_); rintro e w4 ⟨rfl, rfl⟩)
                          | (go_at_call 53; (with_reducible refine (hi _).mono ?_); rintro e w4 ⟨rfl, hb⟩; have HD := hide (show (fun w' => LAt w' w.heap.size 37 m ∧ Row w' g 67 (hC m.k)) w4 ∧ Below w.heap.size w w4 from ⟨⟨HD.out.1.1.kept hb, HD.out.1.2.below hb HD.out.1.2.lt⟩, kept_trans HD.out.2 hb⟩); have h0 := HI.out _ _ _ HD.out.1.2; have c1 := HD.out.1.1.f1; have c2 := HD.out.1.1.t1; have c50 := HD.out.1.1.z; clear hb)
                          | (go_at_call 47; (with_reducible refine (hb5 _).mono ?_); rintro e w4 ⟨rfl, hb⟩; have HD := hide (show (fun w' => LAt w' w.heap.size 37 m ∧ Row w' g 67 (hC m.k)) w4 ∧ Below w.heap.size w w4 from ⟨⟨HD.out.1.1.kept hb, HD.out.1.2.below hb HD.out.1.2.lt⟩, kept_trans HD.out.2 hb⟩); have h0 := HI.out _ _ _ HD.out.1.2; have c1 := HD.out.1.1.f1; have c2 := HD.out.1.1.t1; have c50 := HD.out.1.1.z; clear hb)
                          | (go_at_call 49; (with_reducible refine (hb6 _).mono ?_); rintro e w4 ⟨rfl, hb⟩; have HD := hide (show (fun w' => LAt w' w.heap.size 37 m ∧ Row w' g 67 (hC m.k)) w4 ∧ Below w.heap.size w w4 from ⟨⟨HD.out.1.1.kept hb, HD.out.1.2.below hb HD.out.1.2.lt⟩, kept_trans HD.out.2 hb⟩); have h0 := HI.out _ _ _ HD.out.1.2; have c1 := HD.out.1.1.f1; have c2 := HD.out.1.1.t1; have c50 := HD.out.1.1.z; clear hb)
                          | (go_at_call 50; (with_reducible refine (hb7 _).mono ?_); rintro e w4 ⟨rfl, hb⟩; have HD := hide (show (fun w' => LAt w' w.heap.size 37 m ∧ Row w' g 67 (hC m.k)) w4 ∧ Below w.heap.size w w4 from ⟨⟨HD.out.1.1.kept hb, HD.out.1.2.below hb HD.out.1.2.lt⟩, kept_trans HD.out.2 hb⟩); have h0 := HI.out _ _ _ HD.out.1.2; have c1 := HD.out.1.1.f1; have c2 := HD.out.1.1.t1; have c50 := HD.out.1.1.z; clear hb)
                          | (go_at_call 15; (with_reducible refine (hb8 _).mono ?_); rintro e w4 ⟨rfl, hb⟩; have HD := hide (show (fun w' => LAt w' w.heap.size 37 m ∧ Row w' g 67 (hC m.k)) w4 ∧ Below w.heap.size w w4 from ⟨⟨HD.out.1.1.kept hb, HD.out.1.2.below hb HD.out.1.2.lt⟩, kept_trans HD.out.2 hb⟩); have h0 := HI.out _ _ _ HD.out.1.2; have c1 := HD.out.1.1.f1; have c2 := HD.out.1.1.t1; have c50 := HD.out.1.1.z; clear hb)
                          | (go_at_call 54; (with_reducible refine (hb9 _).mono ?_); rintro e w4 ⟨rfl, hb⟩; have HD := hide (show (fun w' => LAt w' w.heap.size 37 m ∧ Row w' g 67 (hC m.k)) w4 ∧ Below w.heap.size w w4 from ⟨⟨HD.out.1.1.kept hb, HD.out.1.2.below hb HD.out.1.2.lt⟩, kept_trans HD.out.2 hb⟩); have h0 := HI.out _ _ _ HD.out.1.2; have c1 := HD.out.1.1.f1; have c2 := HD.out.1.1.t1; have c50 := HD.out.1.1.z; clear hb))
                        go_ret
                        exact ⟨rfl, HD.out.2⟩
                      · skip
                        cases r9
                        · skip
                          go_wp2_with (first
                            | ((with_reducible refine wpList_load_in ?_ ?_ HD.out.1.1.i ?_); rfl; rfl)
                            | ((with_reducible refine wpList_load_bal ?_ ?_ HD.out.1.1.b1 ?_); rfl; rfl)
                            | ((with_reducible refine wpList_load_cm ?_ ?_ HD.out.1.1.c ?_); rfl; rfl)
                            | ((with_reducible refine wpList_load_at wf.a ?_ ?_ HD.out.1.1.a ?_); rfl; rfl)
                            | ((with_reducible refine wpList_load_ce wf.x ?_ ?_ HD.out.1.1.x ?_); rfl; rfl)
                            | ((with_reducible refine wpList_load_de wf.d ?_ ?_ HD.out.1.1.d ?_); rfl; rfl)
                            | (go_at_call 52; (with_reducible refine (hf _).mono ?_); rintro e w4 ⟨rfl, rfl⟩)
                            | (go_at_call 52; (with_reducible refine (ht _).mono ?_); rintro e w4 ⟨rfl, rfl⟩)
                            | (go_at_call 53; (with_reducible refine (hi _).mono ?_); rintro e w4 ⟨rfl, hb⟩; have HD := hide (show (fun w' => LAt w' w.heap.size 37 m ∧ Row w' g 67 (hC m.k)) w4 ∧ Below w.heap.size w w4 from ⟨⟨HD.out.1.1.kept hb, HD.out.1.2.below hb HD.out.1.2.lt⟩, kept_trans HD.out.2 hb⟩); have h0 := HI.out _ _ _ HD.out.1.2; have c1 := HD.out.1.1.f1; have c2 := HD.out.1.1.t1; have c50 := HD.out.1.1.z; clear hb)
                            | (go_at_call 47; (with_reducible refine (hb5 _).mono ?_); rintro e w4 ⟨rfl, hb⟩; have HD := hide (show (fun w' => LAt w' w.heap.size 37 m ∧ Row w' g 67 (hC m.k)) w4 ∧ Below w.heap.size w w4 from ⟨⟨HD.out.1.1.kept hb, HD.out.1.2.below hb HD.out.1.2.lt⟩, kept_trans HD.out.2 hb⟩); have h0 := HI.out _ _ _ HD.out.1.2; have c1 := HD.out.1.1.f1; have c2 := HD.out.1.1.t1; have c50 := HD.out.1.1.z; clear hb)
                            | (go_at_call 49; (with_reducible refine (hb6 _).mono ?_); rintro e w4 ⟨rfl, hb⟩; have HD := hide (show (fun w' => LAt w' w.heap.size 37 m ∧ Row w' g 67 (hC m.k)) w4 ∧ Below w.heap.size w w4 from ⟨⟨HD.out.1.1.kept hb, HD.out.1.2.below hb HD.out.1.2.lt⟩, kept_trans HD.out.2 hb⟩); have h0 := HI.out _ _ _ HD.out.1.2; have c1 := HD.out.1.1.f1; have c2 := HD.out.1.1.t1; have c50 := HD.out.1.1.z; clear hb)
                            | (go_at_call 50; (with_reducible refine (hb7 _).mono ?_); rintro e w4 ⟨rfl, hb⟩; have HD := hide (show (fun w' => LAt w' w.heap.size 37 m ∧ Row w' g 67 (hC m.k)) w4 ∧ Below w.heap.size w w4 from ⟨⟨HD.out.1.1.kept hb, HD.out.1.2.below hb HD.out.1.2.lt⟩, kept_trans HD.out.2 hb⟩); have h0 := HI.out _ _ _ HD.out.1.2; have c1 := HD.out.1.1.f1; have c2 := HD.out.1.1.t1; have c50 := HD.out.1.1.z; clear hb)
                            | (go_at_call 15; (with_reducible refine (hb8 _).mono ?_); rintro e w4 ⟨rfl, hb⟩; have HD := hide (show (fun w' => LAt w' w.heap.size 37 m ∧ Row w' g 67 (hC m.k)) w4 ∧ Below w.heap.size w w4 from ⟨⟨HD.out.1.1.kept hb, HD.out.1.2.below hb HD.out.1.2.lt⟩, kept_trans HD.out.2 hb⟩); have h0 := HI.out _ _ _ HD.out.1.2; have c1 := HD.out.1.1.f1; have c2 := HD.out.1.1.t1; have c50 := HD.out.1.1.z; clear hb)
                            | (go_at_call 54; (with_reducible refine (hb9 _).mono ?_); rintro e w4 ⟨rfl, hb⟩; have HD := hide (show (fun w' => LAt w' w.heap.size 37 m ∧ Row w' g 67 (hC m.k)) w4 ∧ Below w.heap.size w w4 from ⟨⟨HD.out.1.1.kept hb, HD.out.1.2.below hb HD.out.1.2.lt⟩, kept_trans HD.out.2 hb⟩); have h0 := HI.out _ _ _ HD.out.1.2; have c1 := HD.out.1.1.f1; have c2 := HD.out.1.1.t1; have c50 := HD.out.1.1.z; clear hb))
                          go_ret
                          exact ⟨rfl, HD.out.2⟩
                        · skip
                          cases qz
                          · skip
                            go_wp2_with (first
                              | ((with_reducible refine wpList_load_in ?_ ?_ HD.out.1.1.i ?_); rfl; rfl)
                              | ((with_reducible refine wpList_load_bal ?_ ?_ HD.out.1.1.b1 ?_); rfl; rfl)
                              | ((with_reducible refine wpList_load_cm ?_ ?_ HD.out.1.1.c ?_); rfl; rfl)
                              | ((with_reducible refine wpList_load_at wf.a ?_ ?_ HD.out.1.1.a ?_); rfl; rfl)
                              | ((with_reducible refine wpList_load_ce wf.x ?_ ?_ HD.out.1.1.x ?_); rfl; rfl)
                              | ((with_reducible refine wpList_load_de wf.d ?_ ?_ HD.out.1.1.d ?_); rfl; rfl)
                              | (go_at_call 52; (with_reducible refine (hf _).mono ?_); rintro e w4 ⟨rfl, rfl⟩)
                              | (go_at_call 52; (with_reducible refine (ht _).mono ?_); rintro e w4 ⟨rfl, rfl⟩)
                              | (go_at_call 53; (with_reducible refine (hi _).mono ?_); rintro e w4 ⟨rfl, hb⟩; have HD := hide (show (fun w' => LAt w' w.heap.size 37 m ∧ Row w' g 67 (hC m.k)) w4 ∧ Below w.heap.size w w4 from ⟨⟨HD.out.1.1.kept hb, HD.out.1.2.below hb HD.out.1.2.lt⟩, kept_trans HD.out.2 hb⟩); have h0 := HI.out _ _ _ HD.out.1.2; have c1 := HD.out.1.1.f1; have c2 := HD.out.1.1.t1; have c50 := HD.out.1.1.z; clear hb)
                              | (go_at_call 47; (with_reducible refine (hb5 _).mono ?_); rintro e w4 ⟨rfl, hb⟩; have HD := hide (show (fun w' => LAt w' w.heap.size 37 m ∧ Row w' g 67 (hC m.k)) w4 ∧ Below w.heap.size w w4 from ⟨⟨HD.out.1.1.kept hb, HD.out.1.2.below hb HD.out.1.2.lt⟩, kept_trans HD.out.2 hb⟩); have h0 := HI.out _ _ _ HD.out.1.2; have c1 := HD.out.1.1.f1; have c2 := HD.out.1.1.t1; have c50 := HD.out.1.1.z; clear hb)
                              | (go_at_call 49; (with_reducible refine (hb6 _).mono ?_); rintro e w4 ⟨rfl, hb⟩; have HD := hide (show (fun w' => LAt w' w.heap.size 37 m ∧ Row w' g 67 (hC m.k)) w4 ∧ Below w.heap.size w w4 from ⟨⟨HD.out.1.1.kept hb, HD.out.1.2.below hb HD.out.1.2.lt⟩, kept_trans HD.out.2 hb⟩); have h0 := HI.out _ _ _ HD.out.1.2; have c1 := HD.out.1.1.f1; have c2 := HD.out.1.1.t1; have c50 := HD.out.1.1.z; clear hb)
                              | (go_at_call 50; (with_reducible refine (hb7 _).mono ?_); rintro e w4 ⟨rfl, hb⟩; have HD := hide (show (fun w' => LAt w' w.heap.size 37 m ∧ Row w' g 67 (hC m.k)) w4 ∧ Below w.heap.size w w4 from ⟨⟨HD.out.1.1.kept hb, HD.out.1.2.below hb HD.out.1.2.lt⟩, kept_trans HD.out.2 hb⟩); have h0 := HI.out _ _ _ HD.out.1.2; have c1 := HD.out.1.1.f1; have c2 := HD.out.1.1.t1; have c50 := HD.out.1.1.z; clear hb)
                              | (go_at_call 15; (with_reducible refine (hb8 _).mono ?_); rintro e w4 ⟨rfl, hb⟩; have HD := hide (show (fun w' => LAt w' w.heap.size 37 m ∧ Row w' g 67 (hC m.k)) w4 ∧ Below w.heap.size w w4 from ⟨⟨HD.out.1.1.kept hb, HD.out.1.2.below hb HD.out.1.2.lt⟩, kept_trans HD.out.2 hb⟩); have h0 := HI.out _ _ _ HD.out.1.2; have c1 := HD.out.1.1.f1; have c2 := HD.out.1.1.t1; have c50 := HD.out.1.1.z; clear hb)
                              | (go_at_call 54; (with_reducible refine (hb9 _).mono ?_); rintro e w4 ⟨rfl, hb⟩; have HD := hide (show (fun w' => LAt w' w.heap.size 37 m ∧ Row w' g 67 (hC m.k)) w4 ∧ Below w.heap.size w w4 from ⟨⟨HD.out.1.1.kept hb, HD.out.1.2.below hb HD.out.1.2.lt⟩, kept_trans HD.out.2 hb⟩); have h0 := HI.out _ _ _ HD.out.1.2; have c1 := HD.out.1.1.f1; have c2 := HD.out.1.1.t1; have c50 := HD.out.1.1.z; clear hb))
                            go_ret
                            exact ⟨rfl, HD.out.2⟩
                          · skip
                            go_wp2_with (first
                              | ((with_reducible refine wpList_load_in ?_ ?_ HD.out.1.1.i ?_); rfl; rfl)
                              | ((with_reducible refine wpList_load_bal ?_ ?_ HD.out.1.1.b1 ?_); rfl; rfl)
                              | ((with_reducible refine wpList_load_cm ?_ ?_ HD.out.1.1.c ?_); rfl; rfl)
                              | ((with_reducible refine wpList_load_at wf.a ?_ ?_ HD.out.1.1.a ?_); rfl; rfl)
                              | ((with_reducible refine wpList_load_ce wf.x ?_ ?_ HD.out.1.1.x ?_); rfl; rfl)
                              | ((with_reducible refine wpList_load_de wf.d ?_ ?_ HD.out.1.1.d ?_); rfl; rfl)
                              | (go_at_call 52; (with_reducible refine (hf _).mono ?_); rintro e w4 ⟨rfl, rfl⟩)
                              | (go_at_call 52; (with_reducible refine (ht _).mono ?_); rintro e w4 ⟨rfl, rfl⟩)
                              | (go_at_call 53; (with_reducible refine (hi _).mono ?_); rintro e w4 ⟨rfl, hb⟩; have HD := hide (show (fun w' => LAt w' w.heap.size 37 m ∧ Row w' g 67 (hC m.k)) w4 ∧ Below w.heap.size w w4 from ⟨⟨HD.out.1.1.kept hb, HD.out.1.2.below hb HD.out.1.2.lt⟩, kept_trans HD.out.2 hb⟩); have h0 := HI.out _ _ _ HD.out.1.2; have c1 := HD.out.1.1.f1; have c2 := HD.out.1.1.t1; have c50 := HD.out.1.1.z; clear hb)
                              | (go_at_call 47; (with_reducible refine (hb5 _).mono ?_); rintro e w4 ⟨rfl, hb⟩; have HD := hide (show (fun w' => LAt w' w.heap.size 37 m ∧ Row w' g 67 (hC m.k)) w4 ∧ Below w.heap.size w w4 from ⟨⟨HD.out.1.1.kept hb, HD.out.1.2.below hb HD.out.1.2.lt⟩, kept_trans HD.out.2 hb⟩); have h0 := HI.out _ _ _ HD.out.1.2; have c1 := HD.out.1.1.f1; have c2 := HD.out.1.1.t1; have c50 := HD.out.1.1.z; clear hb)
                              | (go_at_call 49; (with_reducible refine (hb6 _).mono ?_); rintro e w4 ⟨rfl, hb⟩; have HD := hide (show (fun w' => LAt w' w.heap.size 37 m ∧ Row w' g 67 (hC m.k)) w4 ∧ Below w.heap.size w w4 from ⟨⟨HD.out.1.1.kept hb, HD.out.1.2.below hb HD.out.1.2.lt⟩, kept_trans HD.out.2 hb⟩); have h0 := HI.out _ _ _ HD.out.1.2; have c1 := HD.out.1.1.f1; have c2 := HD.out.1.1.t1; have c50 := HD.out.1.1.z; clear hb)
                              | (go_at_call 50; (with_reducible refine (hb7 _).mono ?_); rintro e w4 ⟨rfl, hb⟩; have HD := hide (show (fun w' => LAt w' w.heap.size 37 m ∧ Row w' g 67 (hC m.k)) w4 ∧ Below w.heap.size w w4 from ⟨⟨HD.out.1.1.kept hb, HD.out.1.2.below hb HD.out.1.2.lt⟩, kept_trans HD.out.2 hb⟩); have h0 := HI.out _ _ _ HD.out.1.2; have c1 := HD.out.1.1.f1; have c2 := HD.out.1.1.t1; have c50 := HD.out.1.1.z; clear hb)
                              | (go_at_call 15; (with_reducible refine (hb8 _).mono ?_); rintro e w4 ⟨rfl, hb⟩; have HD := hide (show (fun w' => LAt w' w.heap.size 37 m ∧ Row w' g 67 (hC m.k)) w4 ∧ Below w.heap.size w w4 from ⟨⟨HD.out.1.1.kept hb, HD.out.1.2.below hb HD.out.1.2.lt⟩, kept_trans HD.out.2 hb⟩); have h0 := HI.out _ _ _ HD.out.1.2; have c1 := HD.out.1.1.f1; have c2 := HD.out.1.1.t1; have c50 := HD.out.1.1.z; clear hb)
                              | (go_at_call 54; (with_reducible refine (hb9 _).mono ?_); rintro e w4 ⟨rfl, hb⟩; have HD := hide (show (fun w' => LAt w' w.heap.size 37 m ∧ Row w' g 67 (hC m.k)) w4 ∧ Below w.heap.size w w4 from ⟨⟨HD.out.1.1.kept hb, HD.out.1.2.below hb HD.out.1.2.lt⟩, kept_trans HD.out.2 hb⟩); have h0 := HI.out _ _ _ HD.out.1.2; have c1 := HD.out.1.1.f1; have c2 := HD.out.1.1.t1; have c50 := HD.out.1.1.z; clear hb))
                            go_ret
                            exact ⟨rfl, HD.out.2⟩
end Go.Proofs.Ytlnpfaoeockoiaa
