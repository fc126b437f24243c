/- Chapter 12's runs. No condition. -/
import Derived.Test.YtjadbppcjndmlaaDr
namespace Go.Proofs.Ytjadbppcjndmlaa
open Go.RowKit
/-- The owners behind the runs' Note. -/
def runO : List Ow := noteO (ows zeroL) 1 5 foundR
theorem run_one : (ows zeroL)[0]? = some zeroO ∧ runO[0]? = some ⟨5, foundR⟩ := ⟨rfl, rfl⟩
theorem look_one {l : List Ow} {o : Ow} (h : l[0]? = some o) (s : Int) : lookO l 1 s = seenO o s := by
  unfold lookO
  rw [if_pos (by rfl), show ((1 : Int) - 1).toNat = 0 from rfl, h]; rfl
theorem seen_new {o : Ow} {s : Int} (h : o.s < s) : isK (seenO o s) 1 zeroR = true := by unfold seenO isK; rw [if_pos h]; simp
theorem seen_old {o : Ow} {s : Int} (h : s < o.s) : isK (seenO o s) 3 zeroR = true := by unfold seenO isK; rw [if_neg (by omega), if_pos h]; simp
theorem seen_again {o : Ow} {s : Int} (h : s = o.s) : isK (seenO o s) 2 o.r = true := by unfold seenO isK; rw [if_neg (by omega), if_neg (by omega)]; simp
theorem look_nine (l : List Ow) (s : Int) : isK (lookO l 9 s) 0 zeroR = true := by unfold lookO isK; rw [if_neg (by decide)]; simp
theorem seen_small {o : Ow} {s : Int} (h : o.r.l = []) : (seenO o s).2.l.length ≤ 3518437208780 := by
  unfold seenO
  split
  · exact Nat.zero_le _
  · split
    · exact Nat.zero_le _
    · rw [h]; exact Nat.zero_le _
structure Sr (W w : World) (g h : Nat) (M : List Co) : Prop where
  r1 : Row w g 28 (arr zeroL)
  r2 : Row w h 28 (arr M)
  f : Fine w M
  old : Below W.heap.size W w
theorem Sr.step {W w w' : World} {g h : Nat} {M : List Co} (s : Sr W w g h M) (hb : Below w.heap.size w w') : Sr W w' g h M := ⟨s.r1.below hb s.r1.lt, s.r2.below hb s.r2.lt, s.f.below hb, s.old.trans (hb.mono s.old.size)⟩
theorem Sr.drew {W w : World} {g h : Nat} {M : List Co} (s : Sr W w g h M) : Sr W w.drew g h M := ⟨s.r1.drew, s.r2.drew, s.f.below (kept_refl w).drew, s.old.drew⟩
theorem note_run (w : World) : Calls Try.prog 8 #[.agg (arr zeroL), .int .i64 1, .int .i64 5, .agg #[.int .i64 0, .bool true, .string { data := #[] }, .int .i64 0, .slice none 0 0]] w (AnsN w runO) :=
  note_any zeroL 1 5 foundR none 0 w (zero_fine w) (Pin.nil_ w) (Nat.zero_le _)
theorem AnsN.fine {w w' : World} {l : List Ow} {M : List Co} (h : ∀ x, x ∈ M → Mine w.heap.size w' x.p x.o.r.l) (hl : ows M = l) (h8 : M.length = 8) (hn : ∀ o, o ∈ l → o.r.l.length ≤ 3518437208780) : Fine w' M :=
  ⟨h8, fun x hx => ⟨(h x hx).pin, hn x.o (by subst hl; exact List.mem_map.2 ⟨x, hx, rfl⟩)⟩⟩
theorem run_small : ∀ o, o ∈ runO → o.r.l.length ≤ 3518437208780 := by
  intro o ho
  have : o.r.l = [] := by
    have e : runO = [⟨5, foundR⟩, zeroO, zeroO, zeroO, zeroO, zeroO, zeroO, zeroO] := rfl
    rw [e] at ho
    simp at ho
    rcases ho with rfl | rfl <;> rfl
  rw [this]; exact Nat.zero_le _
set_option maxRecDepth 100000 in
set_option maxHeartbeats 4000000 in
theorem runs_any (w : World) : Calls Try.prog 3 #[] w fun e w' => e = .returned (.bool true) ∧ Below w.heap.size w w' := by
  go_enter Try.func3, Try.ntmps3
  go_upto_region 2 with (fail)
  rw [zero_arr]
  have R1 := hide (Row.new w 28 (arr zeroL))
  have HB := hide (kept_alloc (kept_refl w) (.cells (arr zeroL) 28))
  have g0 := R1.out.lt
  generalize w.alloc (.cells (arr zeroL) 28) = w1 at R1 HB g0 ⊢
  go_cut [2] (fun s2 wx => ∃ (h : Nat) (M : List Co), s2 = .pointer (some ⟨h, 0, none⟩) ∧ M.length = 8 ∧ ows M = runO ∧ Sr w wx w.heap.size h M)
  case first =>
    refine wp_region_noPanic ?_
    refine wp_region_T 4 (fun w' => Row w' w.heap.size 28 (arr zeroL)) (by kernel_rfl) ?_
    have R1 := hide (show Row w1.drew w.heap.size _ _ from R1.out.drew)
    have HB := hide (show Below w.heap.size w w1.drew from HB.out.drew)
    have g0 : w.heap.size < w1.drew.heap.size := g0
    generalize World.drew _ = wd at R1 HB g0 ⊢
    refine anyT_take (i := 0) (v := .agg (arr zeroL)) (by simp only [List.getElem?_toArray, List.getElem?_cons_zero]; exact rfl) (by kernel_rfl) (by kernel_rfl) (fun _ _ _ h => h) (by kernel_rfl) (by kernel_rfl) (yields_load8 (x := .tmp 1) (by rfl) (by rfl) (by rfl) rfl (fun _ h => h)) R1.out ?_
    try simp only [Act.put, List.setIfInBounds_toArray, List.set_cons_zero, List.set_cons_succ]
    refine anyT_two (i := 1) (j := 3) (by kernel_rfl) (by simp only [List.getElem?_toArray, List.getElem?_cons_succ, List.getElem?_cons_zero]; exact rfl) (by simp only [List.getElem?_toArray, List.getElem?_cons_succ, List.getElem?_cons_zero]; exact rfl) (fun K hK => ?_) (fun K hK => ?_)
    · skip
      go_simp
      refine (found_any _).mono ?_
      rintro e w2 ⟨rfl, hb⟩
      have R1 := hide (R1.out.below hb R1.out.lt)
      have HB := hide (kept_trans HB.out hb)
      refine hK.out _ _ (fun _ => R1.out) ?_
      clear hK K hb
      try simp only [Act.put, List.setIfInBounds_toArray, List.set_cons_zero, List.set_cons_succ]
      refine anyT_two (i := 2) (j := 3) (by kernel_rfl) (by simp only [List.getElem?_toArray, List.getElem?_cons_succ, List.getElem?_cons_zero]; exact rfl) (by simp only [List.getElem?_toArray, List.getElem?_cons_succ, List.getElem?_cons_zero]; exact rfl) (fun K hK => ?_) (fun K hK => ?_)
      · skip
        go_simp
        refine (note_run _).mono ?_
        rintro e w3 ⟨M, rfl, hM, h8, hf, hb⟩
        have R1 := hide (R1.out.below hb R1.out.lt)
        have HB := hide (kept_trans HB.out hb)
        refine hK.out _ _ (fun _ => R1.out) ?_
        clear hK K hb
        try simp only [Act.put, List.setIfInBounds_toArray, List.set_cons_zero, List.set_cons_succ]
        refine anyT_one (i := 3) (by kernel_rfl) (by simp only [List.getElem?_toArray, List.getElem?_cons_succ, List.getElem?_cons_zero]; exact rfl) (fun K hK => ?_)
        have FF := hide (AnsN.fine hf hM h8 run_small)
        go_simp
        rw [zero_arr]
        have RH := hide (Row.new w3 28 (arr zeroL))
        have kb := kept_alloc (kept_refl w3) (.cells (arr zeroL) 28)
        have hne : w.heap.size ≠ w3.heap.size := Nat.ne_of_lt R1.out.lt
        have hle : w.heap.size ≤ w3.heap.size := Nat.le_of_lt R1.out.lt
        have R1 := hide (R1.out.below kb R1.out.lt)
        have HB := hide (kept_trans HB.out kb)
        have FA := hide (FF.out.below (below_setRow kb (Nat.le_refl _) (arr M)))
        refine hK.out _ _ (fun _ => R1.out) ?_
        clear hK K kb
        try simp only [Act.put, List.setIfInBounds_toArray, List.set_cons_zero, List.set_cons_succ]
        refine anyT_one (i := 4) (by kernel_rfl) (by simp only [List.getElem?_toArray, List.getElem?_cons_succ, List.getElem?_cons_zero]; exact rfl) (fun K hK => ?_)
        refine step_store8 (L := zeroL) (M := M) (by rfl) (by rfl) RH.out rfl h8 ?_
        refine hK.out _ _ (fun e => absurd rfl e) ?_
        clear hK K
        have SS : Sr w ((w3.alloc (.cells (arr zeroL) 28)).setRow w3.heap.size (arr M)) w.heap.size w3.heap.size M := ⟨R1.out.setRow_other hne _, RH.out.setRow _, FA.out, below_setRow HB.out hle _⟩
        refine anyT_done (by kernel_rfl) ?_
        refine NoPanic.normal ?_
        simp only [Act.put]
        go_wp2_with fail
        go_meet
        exact ⟨_, M, rfl, h8, hM, SS⟩
      · skip
        go_simp
        rw [zero_arr]
        have RH := hide (Row.new w2 28 (arr zeroL))
        have kb := kept_alloc (kept_refl w2) (.cells (arr zeroL) 28)
        have hne : w.heap.size ≠ w2.heap.size := Nat.ne_of_lt R1.out.lt
        have hle : w.heap.size ≤ w2.heap.size := Nat.le_of_lt R1.out.lt
        have R1 := hide (R1.out.below kb R1.out.lt)
        have HB := hide (kept_trans HB.out kb)
        refine hK.out _ _ (fun _ => R1.out) ?_
        clear hK K
        try simp only [Act.put, List.setIfInBounds_toArray, List.set_cons_zero, List.set_cons_succ]
        have hlt := RH.out.lt
        refine anyT_one (i := 2) (by kernel_rfl) (by simp only [List.getElem?_toArray, List.getElem?_cons_succ, List.getElem?_cons_zero]; exact rfl) (fun K hK => ?_)
        go_simp
        refine (note_run _).mono ?_
        rintro e w3 ⟨M, rfl, hM, h8, hf, hb⟩
        have R1 := hide (R1.out.below hb R1.out.lt)
        have HB := hide (kept_trans HB.out hb)
        have RH := hide (RH.out.below hb RH.out.lt)
        have FA : Fine (w3.setRow w2.heap.size (arr M)) M := AnsN.fine (fun x hx => (hf x hx).setRow hlt (arr M)) hM h8 run_small
        refine hK.out _ _ (fun _ => R1.out) ?_
        clear hK K hb kb
        try simp only [Act.put, List.setIfInBounds_toArray, List.set_cons_zero, List.set_cons_succ]
        refine anyT_one (i := 4) (by kernel_rfl) (by simp only [List.getElem?_toArray, List.getElem?_cons_succ, List.getElem?_cons_zero]; exact rfl) (fun K hK => ?_)
        refine step_store8 (L := zeroL) (M := M) (by rfl) (by rfl) RH.out rfl h8 ?_
        refine hK.out _ _ (fun e => absurd rfl e) ?_
        clear hK K
        have SS : Sr w (w3.setRow w2.heap.size (arr M)) w.heap.size w2.heap.size M := ⟨R1.out.setRow_other hne _, RH.out.setRow _, FA, below_setRow HB.out hle _⟩
        refine anyT_done (by kernel_rfl) ?_
        refine NoPanic.normal ?_
        simp only [Act.put]
        go_wp2_with fail
        go_meet
        exact ⟨_, M, rfl, h8, hM, SS⟩
    · skip
      go_simp
      rw [zero_arr]
      have RH := hide (Row.new wd 28 (arr zeroL))
      have kb := kept_alloc (kept_refl wd) (.cells (arr zeroL) 28)
      have hne : w.heap.size ≠ wd.heap.size := Nat.ne_of_lt R1.out.lt
      have hle : w.heap.size ≤ wd.heap.size := Nat.le_of_lt R1.out.lt
      have R1 := hide (R1.out.below kb R1.out.lt)
      have HB := hide (kept_trans HB.out kb)
      refine hK.out _ _ (fun _ => R1.out) ?_
      clear hK K
      try simp only [Act.put, List.setIfInBounds_toArray, List.set_cons_zero, List.set_cons_succ]
      have hlt := RH.out.lt
      refine anyT_one (i := 1) (by kernel_rfl) (by simp only [List.getElem?_toArray, List.getElem?_cons_succ, List.getElem?_cons_zero]; exact rfl) (fun K hK => ?_)
      go_simp
      refine (found_any _).mono ?_
      rintro e w2 ⟨rfl, hb⟩
      have R1 := hide (R1.out.below hb R1.out.lt)
      have HB := hide (kept_trans HB.out hb)
      have RH := hide (RH.out.below hb RH.out.lt)
      have hlt := Nat.lt_of_lt_of_le hlt hb.size
      refine hK.out _ _ (fun _ => R1.out) ?_
      clear hK K hb
      try simp only [Act.put, List.setIfInBounds_toArray, List.set_cons_zero, List.set_cons_succ]
      refine anyT_one (i := 2) (by kernel_rfl) (by simp only [List.getElem?_toArray, List.getElem?_cons_succ, List.getElem?_cons_zero]; exact rfl) (fun K hK => ?_)
      go_simp
      refine (note_run _).mono ?_
      rintro e w3 ⟨M, rfl, hM, h8, hf, hb⟩
      have R1 := hide (R1.out.below hb R1.out.lt)
      have HB := hide (kept_trans HB.out hb)
      have RH := hide (RH.out.below hb RH.out.lt)
      have FA : Fine (w3.setRow wd.heap.size (arr M)) M := AnsN.fine (fun x hx => (hf x hx).setRow hlt (arr M)) hM h8 run_small
      refine hK.out _ _ (fun _ => R1.out) ?_
      clear hK K hb kb
      try simp only [Act.put, List.setIfInBounds_toArray, List.set_cons_zero, List.set_cons_succ]
      refine anyT_one (i := 4) (by kernel_rfl) (by simp only [List.getElem?_toArray, List.getElem?_cons_succ, List.getElem?_cons_zero]; exact rfl) (fun K hK => ?_)
      refine step_store8 (L := zeroL) (M := M) (by rfl) (by rfl) RH.out rfl h8 ?_
      refine hK.out _ _ (fun e => absurd rfl e) ?_
      clear hK K
      have SS : Sr w (w3.setRow wd.heap.size (arr M)) w.heap.size wd.heap.size M := ⟨R1.out.setRow_other hne _, RH.out.setRow _, FA, below_setRow HB.out hle _⟩
      refine anyT_done (by kernel_rfl) ?_
      refine NoPanic.normal ?_
      simp only [Act.put]
      go_wp2_with fail
      go_meet
      exact ⟨_, M, rfl, h8, hM, SS⟩
  case rest =>
    obtain ⟨h, M, rfl, h8, hM, SS⟩ := hcut
    clear R1 HB g0
    have H8 := hide h8
    have HO := hide (run_one)
    have C1 : Hid (∀ wz, Sr w wz w.heap.size h M → Calls Try.prog 10 #[.agg (arr zeroL), .int .i64 1, .int .i64 1, .int .i64 1, .agg #[.int .i64 0, .bool false, .string { data := #[] }, .int .i64 0, .slice none 0 0]] wz fun e w' => e = .returned (.bool true) ∧ Below wz.heap.size wz w') := hide (fun (wz : World) (_ : Sr w wz w.heap.size h M) => by have h := is_any zeroL 1 1 1 zeroR none 0 wz (zero_fine wz) (Pin.nil_ wz) (Nat.zero_le _) (by rw [look_one HO.out.1]; exact seen_small rfl); rw [look_one HO.out.1, seen_new (by decide)] at h; exact h)
    have C2 : Hid (∀ wz, Sr w wz w.heap.size h M → Calls Try.prog 10 #[.agg (arr zeroL), .int .i64 9, .int .i64 1, .int .i64 0, .agg #[.int .i64 0, .bool false, .string { data := #[] }, .int .i64 0, .slice none 0 0]] wz fun e w' => e = .returned (.bool true) ∧ Below wz.heap.size wz w') := hide (fun (wz : World) (_ : Sr w wz w.heap.size h M) => by have h := is_any zeroL 9 1 0 zeroR none 0 wz (zero_fine wz) (Pin.nil_ wz) (Nat.zero_le _) (Nat.zero_le _); rw [look_nine] at h; exact h)
    have C3 : Hid (∀ wz, Sr w wz w.heap.size h M → Calls Try.prog 10 #[.agg (arr M), .int .i64 1, .int .i64 5, .int .i64 2, .agg #[.int .i64 0, .bool true, .string { data := #[] }, .int .i64 0, .slice none 0 0]] wz fun e w' => e = .returned (.bool true) ∧ Below wz.heap.size wz w') := hide (fun (wz : World) (k : Sr w wz w.heap.size h M) => by have h := is_any M 1 5 2 foundR none 0 wz k.f (Pin.nil_ wz) (Nat.zero_le _) (by rw [hM, look_one HO.out.2]; exact seen_small rfl); rw [hM, look_one HO.out.2, show isK (seenO ⟨5, foundR⟩ 5) 2 foundR = true from seen_again (o := ⟨5, foundR⟩) rfl] at h; exact h)
    have C4 : Hid (∀ wz, Sr w wz w.heap.size h M → Calls Try.prog 10 #[.agg (arr M), .int .i64 1, .int .i64 4, .int .i64 3, .agg #[.int .i64 0, .bool false, .string { data := #[] }, .int .i64 0, .slice none 0 0]] wz fun e w' => e = .returned (.bool true) ∧ Below wz.heap.size wz w') := hide (fun (wz : World) (k : Sr w wz w.heap.size h M) => by have h := is_any M 1 4 3 zeroR none 0 wz k.f (Pin.nil_ wz) (Nat.zero_le _) (by rw [hM, look_one HO.out.2]; exact seen_small rfl); rw [hM, look_one HO.out.2, seen_old (by decide)] at h; exact h)
    have C5 : Hid (∀ wz, Sr w wz w.heap.size h M → Calls Try.prog 10 #[.agg (arr M), .int .i64 1, .int .i64 6, .int .i64 1, .agg #[.int .i64 0, .bool false, .string { data := #[] }, .int .i64 0, .slice none 0 0]] wz fun e w' => e = .returned (.bool true) ∧ Below wz.heap.size wz w') := hide (fun (wz : World) (k : Sr w wz w.heap.size h M) => by have h := is_any M 1 6 1 zeroR none 0 wz k.f (Pin.nil_ wz) (Nat.zero_le _) (by rw [hM, look_one HO.out.2]; exact seen_small rfl); rw [hM, look_one HO.out.2, seen_new (by decide)] at h; exact h)
    clear h8 hM HO
    go_upto_region 3 with (fail)
    refine wp_region_sp (fun w' => Sr w w' w.heap.size h M) (by kernel_rfl) (by kernel_rfl) SS.drew ?_
    generalize hS : (fun w' => Sr w w' w.heap.size h M) = S
    have ne : Nonempty (Sp S) := by subst hS; exact ⟨⟨_, SS⟩⟩
    have STEP := hide (show ∀ w w', S w → Below w.heap.size w w' → S w' by subst hS; exact fun _ _ h hb => h.step hb)
    have OLD := hide (show ∀ s : Sp S, Below w.heap.size w s.w by subst hS; exact fun s => s.ok.old)
    have L1 := hide (show ∀ s : Sp S, Row s.w w.heap.size 28 (arr zeroL) by subst hS; exact fun s => s.ok.r1)
    have L2 := hide (show ∀ s : Sp S, Row s.w h 28 (arr M) by subst hS; exact fun s => s.ok.r2)
    have OKS := hide (show ∀ s : Sp S, Sr w s.w w.heap.size h M by subst hS; exact fun s => s.ok)
    clear SS hS
    repeat (first | ((with_reducible refine wpQuiet_load8 ?_ ?_ L1.out (show zeroL.length = 8 from rfl) ?_); rfl; rfl; simp only [Act.put, List.setIfInBounds_toArray, List.set_cons_zero, List.set_cons_succ]) | ((with_reducible refine wpQuiet_load8 ?_ ?_ L2.out H8.out ?_); rfl; rfl; simp only [Act.put, List.setIfInBounds_toArray, List.set_cons_zero, List.set_cons_succ]) | go_big_quiet_step (first | (go_at_call 10; with_reducible exact sp_call STEP.out _ (C1.out _ (OKS.out _))) | (go_at_call 10; with_reducible exact sp_call STEP.out _ (C2.out _ (OKS.out _))) | (go_at_call 10; with_reducible exact sp_call STEP.out _ (C3.out _ (OKS.out _))) | (go_at_call 10; with_reducible exact sp_call STEP.out _ (C4.out _ (OKS.out _))) | (go_at_call 10; with_reducible exact sp_call STEP.out _ (C5.out _ (OKS.out _))) | (go_at_call 9; with_reducible exact sp_call STEP.out _ (found_any _))))
    refine wpQuiet_nil ?_
    intro kk
    have OK := hide (OLD.out kk)
    generalize kk.w = wk at OK ⊢
    clear ne OLD STEP L1 L2 OKS
    go_wp2
    go_ret
    exact ⟨rfl, OK.out⟩
end Go.Proofs.Ytjadbppcjndmlaa
