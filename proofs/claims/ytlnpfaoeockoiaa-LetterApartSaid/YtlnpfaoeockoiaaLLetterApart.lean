/- Proved: the law LetterApart returns true for any two letters. No condition. -/
import Derived.Test.YtlnpfaoeockoiaaWa
import Derived.Test.YtlnpfaoeockoiaaWk
namespace Go.Proofs.Ytlnpfaoeockoiaa.letterApart
open Go.ChangeShapes Go.WideShapes Go.ChangeAt Go.RowKit
structure Ap (W w : World) (a b : Lt) : Prop where
  x : LAt w W.heap.size 37 a
  y : LAt w (W.heap.size + 1) 37 b
  old : Below W.heap.size W w
theorem ap_kept {W w w' : World} {a b : Lt} (h : Ap W w a b) (hb : Below w.heap.size w w') : Ap W w' a b := ⟨h.x.kept hb, h.y.kept hb, kept_trans h.old hb⟩
theorem ap_start {W : World} {a b : Lt} (ha : LtWf a) (hb : LtWf b) : Ap W ((W.alloc (.cells (ltC a) 37)).alloc (.cells (ltC b) 37)) a b :=
  ⟨(LAt.new ha W _).kept ((Below.refl _ _).alloc (Nat.le_refl _) _), by have := LAt.new hb (W.alloc (.cells (ltC a) 37)) 37; simpa only [World.size_alloc] using this, ((Below.refl _ _).alloc (Nat.le_refl _) _).alloc (by simp) _⟩
set_option maxHeartbeats 16000000 in
theorem walk (a b : Lt) (W : World) (ha : LtIn a) (hb : LtIn b) :
    Calls Try.prog 7 #[.agg (ltC a), .agg (ltC b)] W fun e w' => e = .returned (.bool true) ∧ Below W.heap.size W w' := by
  have wa := ha.wf
  have wb := hb.wf
  have HD := hide (ap_start (W := W) wa wb)
  have hla := fun w => light_any a ha w
  have hlb := fun w => light_any b hb w
  have hra := fun w => pright_letter a wa w
  have hrb := fun w => pright_letter b wb w
  have HZ := hide (show (lightB a && lightB b && rightLt a && rightLt b) = true → ((encLt a).length ≤ 6000 ∧ (encLt b).length ≤ 6000) ∧ (rightLt a = true ∧ rightLt b = true) from fun h => by
    simp only [Bool.and_eq_true] at h
    obtain ⟨⟨⟨h1, h2⟩, h3⟩, h4⟩ := h
    have k1 := encLt_len wa
    have k2 := encLt_len wb
    unfold lightB lightN at h1 h2
    have := of_decide_eq_true h1
    have := of_decide_eq_true h2
    exact ⟨⟨by omega, by omega⟩, h3, h4⟩)
  clear ha hb
  generalize lightB a = la at hla HZ
  generalize lightB b = lb at hlb HZ
  have HRA := hide (show rightLt a = rightLt a from rfl)
  generalize hra' : rightLt a = ra at hra HZ HRA
  generalize hrb' : rightLt b = rb at hrb HZ
  have RA := hide hra'
  have RB := hide hrb'
  clear hra' hrb' HRA
  cases la
  · skip
    clear HZ RA RB
    go_enter Try.func7, Try.ntmps7
    go_upto_region 1 with (fail)
    generalize (W.alloc (.cells (ltC a) 37)).alloc (.cells (ltC b) 37) = w1 at HD ⊢
    go_wp2_with (first
      | ((with_reducible refine wpList_load_lt wa ?_ ?_ HD.out.x.all ?_); rfl; rfl)
      | ((with_reducible refine wpList_load_lt wb ?_ ?_ HD.out.y.all ?_); rfl; rfl)
      | (go_at_call 12; (with_reducible refine (hla _).mono ?_); rintro e w2 ⟨rfl, hb⟩; have HD := hide (ap_kept HD.out hb); clear hb)
      | (go_at_call 12; (with_reducible refine (hlb _).mono ?_); rintro e w2 ⟨rfl, hb⟩; have HD := hide (ap_kept HD.out hb); clear hb)
      | (go_at_call 16; (with_reducible refine (hra _).mono ?_); rintro e w2 ⟨rfl, hb⟩; have HD := hide (ap_kept HD.out hb); clear hb)
      | (go_at_call 16; (with_reducible refine (hrb _).mono ?_); rintro e w2 ⟨rfl, hb⟩; have HD := hide (ap_kept HD.out hb); clear hb)
      | (go_at_call 3; (with_reducible refine (runs_any _).mono ?_); rintro e w2 ⟨rfl, hb⟩; have HD := hide (ap_kept HD.out hb); clear hb))
    go_ret
    exact ⟨rfl, HD.out.old⟩
  · skip
    cases lb
    · skip
      clear HZ RA RB
      go_enter Try.func7, Try.ntmps7
      go_upto_region 1 with (fail)
      generalize (W.alloc (.cells (ltC a) 37)).alloc (.cells (ltC b) 37) = w1 at HD ⊢
      go_wp2_with (first
        | ((with_reducible refine wpList_load_lt wa ?_ ?_ HD.out.x.all ?_); rfl; rfl)
        | ((with_reducible refine wpList_load_lt wb ?_ ?_ HD.out.y.all ?_); rfl; rfl)
        | (go_at_call 12; (with_reducible refine (hla _).mono ?_); rintro e w2 ⟨rfl, hb⟩; have HD := hide (ap_kept HD.out hb); clear hb)
        | (go_at_call 12; (with_reducible refine (hlb _).mono ?_); rintro e w2 ⟨rfl, hb⟩; have HD := hide (ap_kept HD.out hb); clear hb)
        | (go_at_call 16; (with_reducible refine (hra _).mono ?_); rintro e w2 ⟨rfl, hb⟩; have HD := hide (ap_kept HD.out hb); clear hb)
        | (go_at_call 16; (with_reducible refine (hrb _).mono ?_); rintro e w2 ⟨rfl, hb⟩; have HD := hide (ap_kept HD.out hb); clear hb)
        | (go_at_call 3; (with_reducible refine (runs_any _).mono ?_); rintro e w2 ⟨rfl, hb⟩; have HD := hide (ap_kept HD.out hb); clear hb))
      go_ret
      exact ⟨rfl, HD.out.old⟩
    · skip
      cases ra
      · skip
        clear HZ RA RB
        go_enter Try.func7, Try.ntmps7
        go_upto_region 1 with (fail)
        generalize (W.alloc (.cells (ltC a) 37)).alloc (.cells (ltC b) 37) = w1 at HD ⊢
        go_wp2_with (first
          | ((with_reducible refine wpList_load_lt wa ?_ ?_ HD.out.x.all ?_); rfl; rfl)
          | ((with_reducible refine wpList_load_lt wb ?_ ?_ HD.out.y.all ?_); rfl; rfl)
          | (go_at_call 12; (with_reducible refine (hla _).mono ?_); rintro e w2 ⟨rfl, hb⟩; have HD := hide (ap_kept HD.out hb); clear hb)
          | (go_at_call 12; (with_reducible refine (hlb _).mono ?_); rintro e w2 ⟨rfl, hb⟩; have HD := hide (ap_kept HD.out hb); clear hb)
          | (go_at_call 16; (with_reducible refine (hra _).mono ?_); rintro e w2 ⟨rfl, hb⟩; have HD := hide (ap_kept HD.out hb); clear hb)
          | (go_at_call 16; (with_reducible refine (hrb _).mono ?_); rintro e w2 ⟨rfl, hb⟩; have HD := hide (ap_kept HD.out hb); clear hb)
          | (go_at_call 3; (with_reducible refine (runs_any _).mono ?_); rintro e w2 ⟨rfl, hb⟩; have HD := hide (ap_kept HD.out hb); clear hb))
        go_ret
        exact ⟨rfl, HD.out.old⟩
      · skip
        cases rb
        · skip
          clear HZ RA RB
          go_enter Try.func7, Try.ntmps7
          go_upto_region 1 with (fail)
          generalize (W.alloc (.cells (ltC a) 37)).alloc (.cells (ltC b) 37) = w1 at HD ⊢
          go_wp2_with (first
            | ((with_reducible refine wpList_load_lt wa ?_ ?_ HD.out.x.all ?_); rfl; rfl)
            | ((with_reducible refine wpList_load_lt wb ?_ ?_ HD.out.y.all ?_); rfl; rfl)
            | (go_at_call 12; (with_reducible refine (hla _).mono ?_); rintro e w2 ⟨rfl, hb⟩; have HD := hide (ap_kept HD.out hb); clear hb)
            | (go_at_call 12; (with_reducible refine (hlb _).mono ?_); rintro e w2 ⟨rfl, hb⟩; have HD := hide (ap_kept HD.out hb); clear hb)
            | (go_at_call 16; (with_reducible refine (hra _).mono ?_); rintro e w2 ⟨rfl, hb⟩; have HD := hide (ap_kept HD.out hb); clear hb)
            | (go_at_call 16; (with_reducible refine (hrb _).mono ?_); rintro e w2 ⟨rfl, hb⟩; have HD := hide (ap_kept HD.out hb); clear hb)
            | (go_at_call 3; (with_reducible refine (runs_any _).mono ?_); rintro e w2 ⟨rfl, hb⟩; have HD := hide (ap_kept HD.out hb); clear hb))
          go_ret
          exact ⟨rfl, HD.out.old⟩
        · skip
          obtain ⟨⟨z1, z2⟩, _⟩ := HZ.out rfl
          clear HZ
          have hp := encLt_pos RA.out
          have hp2 := encLt_pos RB.out
          have HAP := hide (letter_apart RA.out RB.out wa wb)
          have HE := hide (fun w => eql_letter wa wb w)
          have HPA := hide (fun w => pputlt_any a wa w)
          have HPB := hide (fun w => pputlt_any b wb w)
          go_enter Try.func7, Try.ntmps7
          go_upto_region 1 with (fail)
          generalize (W.alloc (.cells (ltC a) 37)).alloc (.cells (ltC b) 37) = w1 at HD ⊢
          go_upto_region 3 with (first
            | ((with_reducible refine wpList_load_lt wa ?_ ?_ HD.out.x.all ?_); rfl; rfl)
            | ((with_reducible refine wpList_load_lt wb ?_ ?_ HD.out.y.all ?_); rfl; rfl)
            | (go_at_call 12; (with_reducible refine (hla _).mono ?_); rintro e w2 ⟨rfl, hb⟩; have HD := hide (ap_kept HD.out hb); clear hb)
            | (go_at_call 12; (with_reducible refine (hlb _).mono ?_); rintro e w2 ⟨rfl, hb⟩; have HD := hide (ap_kept HD.out hb); clear hb)
            | (go_at_call 16; (with_reducible refine (hra _).mono ?_); rintro e w2 ⟨rfl, hb⟩; have HD := hide (ap_kept HD.out hb); clear hb)
            | (go_at_call 16; (with_reducible refine (hrb _).mono ?_); rintro e w2 ⟨rfl, hb⟩; have HD := hide (ap_kept HD.out hb); clear hb)
            | (go_at_call 3; (with_reducible refine (runs_any _).mono ?_); rintro e w2 ⟨rfl, hb⟩; have HD := hide (ap_kept HD.out hb); clear hb))
          refine wp_region_noPanic ?_
          refine wp_region_U 5 (fun w' => Ap W w' a b) (by kernel_rfl) ?_
          have HD := hide (show Ap W w2.drew a b from ap_kept HD.out (Below.refl _ _).drew)
          generalize w2.drew = w3 at HD ⊢
          refine anyU_take (i := 0) (v := .agg (ltC a)) (by simp only [List.getElem?_toArray, List.getElem?_cons_zero]; exact rfl) (by kernel_rfl) (by kernel_rfl) (by kernel_rfl) (fun _ _ _ h => h) (by kernel_rfl) (by kernel_rfl) (by kernel_rfl) (Or.inl ⟨by rfl, fun w hSw => exec_load_gp rfl rfl hSw.x.all lt_under rfl (by rw [Lt.len wa]; exact lt_info)⟩) (by with_reducible exact HD.out) ?_
          try simp only [Act.put, List.setIfInBounds_toArray, List.set_cons_zero, List.set_cons_succ]
          refine anyU_take (i := 2) (v := .agg (ltC b)) (by simp only [List.getElem?_toArray, List.getElem?_cons_succ, List.getElem?_cons_zero]; exact rfl) (by kernel_rfl) (by kernel_rfl) (by kernel_rfl) (fun _ _ _ h => h) (by kernel_rfl) (by kernel_rfl) (by kernel_rfl) (Or.inl ⟨by rfl, fun w hSw => exec_load_gp rfl rfl hSw.y.all lt_under rfl (by rw [Lt.len wb]; exact lt_info)⟩) (by with_reducible exact HD.out) ?_
          try simp only [Act.put, List.setIfInBounds_toArray, List.set_cons_zero, List.set_cons_succ]
          refine anyU_one (i := 1) (by kernel_rfl) (by simp only [List.getElem?_toArray, List.getElem?_cons_succ, List.getElem?_cons_zero]; exact rfl) (fun K hK => ?_)
          try go_simp
          refine (HPA.out _).mono ?_
          rintro e w4 ⟨u1, rfl, hy, hb⟩
          have HD := hide (ap_kept HD.out hb)
          have Y1 := hide hy
          clear hy hb
          refine hK.out _ _ (fun _ _ => HD.out) ?_
          clear hK K
          try simp only [Act.put, List.setIfInBounds_toArray, List.set_cons_zero, List.set_cons_succ]
          refine anyU_one (i := 3) (by kernel_rfl) (by simp only [List.getElem?_toArray, List.getElem?_cons_succ, List.getElem?_cons_zero]; exact rfl) (fun K hK => ?_)
          try go_simp
          refine (HPB.out _).mono ?_
          rintro e w5 ⟨u2, rfl, hy, hb⟩
          have HD := hide (ap_kept HD.out hb)
          have Y1 := hide (Y1.out.below hb)
          have Y2 := hide hy
          clear hy hb
          refine hK.out _ _ (fun _ _ => HD.out) ?_
          clear hK K
          try simp only [Act.put, List.setIfInBounds_toArray, List.set_cons_zero, List.set_cons_succ]
          refine anyU_one (i := 4) (by kernel_rfl) (by simp only [List.getElem?_toArray, List.getElem?_cons_succ, List.getElem?_cons_zero]; exact rfl) (fun K hK => ?_)
          try go_simp
          refine hK.out _ _ (fun _ _ => HD.out) ?_
          clear hK K
          try simp only [Act.put, List.setIfInBounds_toArray, List.set_cons_zero, List.set_cons_succ]
          refine anyU_one (i := 5) (by kernel_rfl) (by simp only [List.getElem?_toArray, List.getElem?_cons_succ, List.getElem?_cons_zero]; exact rfl) (fun K hK => ?_)
          try go_simp
          refine hK.out _ _ (fun e _ => absurd rfl e) ?_
          clear hK K
          try simp only [Act.put, List.setIfInBounds_toArray, List.set_cons_zero, List.set_cons_succ]
          refine anyU_done (by kernel_rfl) ?_
          refine NoPanic.normal ?_
          try simp only [Act.put]
          clear HPA HPB
          obtain ⟨A1, c1, rfl, _, hc1, hm1, hl1⟩ := Y1.out.form
          obtain ⟨A2, c2, rfl, _, hc2, hm2, hl2⟩ := Y2.out.form
          have L1 := hide hl1
          have L2 := hide hl2
          clear hl1 hl2 Y1 Y2
          have HAP := HAP.out
          have HO := hide (And.intro (octets_encLt a) (octets_encLt b))
          generalize encLt a = xs at z1 hp HAP L1 hc1 HO ⊢
          generalize encLt b = ys at z2 hp2 HAP L2 hc2 HO ⊢
          obtain ⟨n1, hn1⟩ : ∃ n, xs.length = n := ⟨_, rfl⟩
          obtain ⟨n2, hn2⟩ : ∃ n, ys.length = n := ⟨_, rfl⟩
          rw [hn1, hn2] at HAP
          rw [hn1] at z1 hp hc1 ⊢
          rw [hn2] at z2 hp2 hc2 ⊢
          have HN1 := hide hn1
          have HN2 := hide hn2
          clear hn1 hn2
          obtain ⟨n, hn, hnx, hny⟩ : ∃ n, min n1 n2 = n ∧ n ≤ n1 ∧ n ≤ n2 := ⟨_, rfl, Nat.min_le_left _ _, Nat.min_le_right _ _⟩
          have h0 : 0 < n := by omega
          rw [hn] at HAP
          have hmin : min (n1 : Int) (n2 : Int) = (n : Int) := by omega
          have HMI := hide hn
          clear hn
          have h0i : decide ((0 : Int) < (n : Int)) = true := by simpa using h0
          have e1 : n ≤ c1 := by omega
          have e1i : (n : Int) ≤ (c1 : Int) := by omega
          have e2 : n ≤ c2 := by omega
          have e2i : (n : Int) ≤ (c2 : Int) := by omega
          obtain ⟨q, hq⟩ : ∃ q, sameLt a b = q := ⟨_, rfl⟩
          have HS : Hid (decide (xs.take n = ys.take n) = q) := by
            rw [← hq]
            cases hs : sameLt a b
            · exact decide_eq_false (fun e => by have := sameLt_iff.2 (HAP.1 e); rw [hs] at this; cases this)
            · exact decide_eq_true (HAP.2 (sameLt_iff.1 hs))
          have HE := HE.out
          rw [hq] at HE
          clear hq HAP
          have HSM := hide (fun (w : World) (h1 : Lies w A1 xs) (h2 : Lies w A2 ys) => same_below A1 A2 n n c1 c2 (xs.take n) (ys.take n) w (by rw [List.length_take, HN1.out]; omega) (by rw [List.length_take, HN2.out]; omega) (h1.take n) (h2.take n) (by omega) (by omega))
          rw [HS.out] at HSM
          have HEQ := hide HE
          clear HE HS
          go_upto_region 5 with (fail)
          have HK := hide (And.intro L1.out L2.out)
          clear L1 L2
          cases q
          · skip
            have hce := HEQ.out
            refine wp_region_noPanic ?_
            refine wp_region_U 18 (fun w' => Ap W w' a b) (by kernel_rfl) ?_
            have HD := hide (show Ap W w5.drew a b from ap_kept HD.out (Below.refl _ _).drew)
            have HK := hide (And.intro (HK.out.1.below (Below.refl _ _).drew) (HK.out.2.below (Below.refl _ _).drew))
            generalize w5.drew = w6 at HD HK ⊢
            refine anyU_take (i := 0) (v := .int .i64 (n : Int)) (by simp only [List.getElem?_toArray, List.getElem?_cons_zero]; exact rfl) (by kernel_rfl) (by kernel_rfl) (by kernel_rfl) (fun _ _ _ h => h) (by kernel_rfl) (by kernel_rfl) (by kernel_rfl) (Or.inl ⟨by rfl, fun w hSw => (by go_simp; try with_reducible rfl)⟩) (by with_reducible exact HD.out) ?_
            try simp only [Act.put, List.setIfInBounds_toArray, List.set_cons_zero, List.set_cons_succ]
            refine anyU_take (i := 1) (v := .bool true) (by simp only [List.getElem?_toArray, List.getElem?_cons_succ, List.getElem?_cons_zero]; exact rfl) (by kernel_rfl) (by kernel_rfl) (by kernel_rfl) (fun _ _ _ h => h) (by kernel_rfl) (by kernel_rfl) (by kernel_rfl) (Or.inl ⟨by rfl, fun w hSw => (by go_simp; try with_reducible rfl)⟩) (by with_reducible exact HD.out) ?_
            try simp only [Act.put, List.setIfInBounds_toArray, List.set_cons_zero, List.set_cons_succ]
            refine anyU_take (i := 2) (v := .bool true) (by simp only [List.getElem?_toArray, List.getElem?_cons_succ, List.getElem?_cons_zero]; exact rfl) (by kernel_rfl) (by kernel_rfl) (by kernel_rfl) (fun _ _ _ h => h) (by kernel_rfl) (by kernel_rfl) (by kernel_rfl) (Or.inl ⟨by rfl, fun w hSw => (by go_simp; try with_reducible rfl)⟩) (by with_reducible exact HD.out) ?_
            try simp only [Act.put, List.setIfInBounds_toArray, List.set_cons_zero, List.set_cons_succ]
            refine anyU_take (i := 3) (v := .slice A1 n1 c1) (by simp only [List.getElem?_toArray, List.getElem?_cons_succ, List.getElem?_cons_zero]; exact rfl) (by kernel_rfl) (by kernel_rfl) (by kernel_rfl) (fun _ _ _ h => h) (by kernel_rfl) (by kernel_rfl) (by kernel_rfl) (Or.inl ⟨by rfl, fun w hSw => (by go_simp; try with_reducible rfl)⟩) (by with_reducible exact HD.out) ?_
            try simp only [Act.put, List.setIfInBounds_toArray, List.set_cons_zero, List.set_cons_succ]
            refine anyU_take (i := 4) (v := .int .i64 (n : Int)) (by simp only [List.getElem?_toArray, List.getElem?_cons_succ, List.getElem?_cons_zero]; exact rfl) (by kernel_rfl) (by kernel_rfl) (by kernel_rfl) (fun _ _ _ h => h) (by kernel_rfl) (by kernel_rfl) (by kernel_rfl) (Or.inl ⟨by rfl, fun w hSw => (by go_simp; try with_reducible rfl)⟩) (by with_reducible exact HD.out) ?_
            try simp only [Act.put, List.setIfInBounds_toArray, List.set_cons_zero, List.set_cons_succ]
            refine anyU_take (i := 5) (v := .slice A1 n c1) (by simp only [List.getElem?_toArray, List.getElem?_cons_succ, List.getElem?_cons_zero]; exact rfl) (by kernel_rfl) (by kernel_rfl) (by kernel_rfl) (fun _ _ _ h => h) (by kernel_rfl) (by kernel_rfl) (by kernel_rfl) (Or.inl ⟨by rfl, fun w hSw => (by go_simp; try with_reducible rfl)⟩) (by with_reducible exact HD.out) ?_
            try simp only [Act.put, List.setIfInBounds_toArray, List.set_cons_zero, List.set_cons_succ]
            refine anyU_take (i := 6) (v := .slice A2 n2 c2) (by simp only [List.getElem?_toArray, List.getElem?_cons_succ, List.getElem?_cons_zero]; exact rfl) (by kernel_rfl) (by kernel_rfl) (by kernel_rfl) (fun _ _ _ h => h) (by kernel_rfl) (by kernel_rfl) (by kernel_rfl) (Or.inl ⟨by rfl, fun w hSw => (by go_simp; try with_reducible rfl)⟩) (by with_reducible exact HD.out) ?_
            try simp only [Act.put, List.setIfInBounds_toArray, List.set_cons_zero, List.set_cons_succ]
            refine anyU_take (i := 7) (v := .int .i64 (n : Int)) (by simp only [List.getElem?_toArray, List.getElem?_cons_succ, List.getElem?_cons_zero]; exact rfl) (by kernel_rfl) (by kernel_rfl) (by kernel_rfl) (fun _ _ _ h => h) (by kernel_rfl) (by kernel_rfl) (by kernel_rfl) (Or.inl ⟨by rfl, fun w hSw => (by go_simp; try with_reducible rfl)⟩) (by with_reducible exact HD.out) ?_
            try simp only [Act.put, List.setIfInBounds_toArray, List.set_cons_zero, List.set_cons_succ]
            refine anyU_take (i := 8) (v := .slice A2 n c2) (by simp only [List.getElem?_toArray, List.getElem?_cons_succ, List.getElem?_cons_zero]; exact rfl) (by kernel_rfl) (by kernel_rfl) (by kernel_rfl) (fun _ _ _ h => h) (by kernel_rfl) (by kernel_rfl) (by kernel_rfl) (Or.inl ⟨by rfl, fun w hSw => (by go_simp; try with_reducible rfl)⟩) (by with_reducible exact HD.out) ?_
            try simp only [Act.put, List.setIfInBounds_toArray, List.set_cons_zero, List.set_cons_succ]
            refine anyU_take (i := 10) (v := .agg (ltC a)) (by simp only [List.getElem?_toArray, List.getElem?_cons_succ, List.getElem?_cons_zero]; exact rfl) (by kernel_rfl) (by kernel_rfl) (by kernel_rfl) (fun _ _ _ h => h) (by kernel_rfl) (by kernel_rfl) (by kernel_rfl) (Or.inl ⟨by rfl, fun w hSw => exec_load_gp rfl rfl hSw.x.all lt_under rfl (by rw [Lt.len wa]; exact lt_info)⟩) (by with_reducible exact HD.out) ?_
            try simp only [Act.put, List.setIfInBounds_toArray, List.set_cons_zero, List.set_cons_succ]
            refine anyU_take (i := 11) (v := .agg (ltC b)) (by simp only [List.getElem?_toArray, List.getElem?_cons_succ, List.getElem?_cons_zero]; exact rfl) (by kernel_rfl) (by kernel_rfl) (by kernel_rfl) (fun _ _ _ h => h) (by kernel_rfl) (by kernel_rfl) (by kernel_rfl) (Or.inl ⟨by rfl, fun w hSw => exec_load_gp rfl rfl hSw.y.all lt_under rfl (by rw [Lt.len wb]; exact lt_info)⟩) (by with_reducible exact HD.out) ?_
            try simp only [Act.put, List.setIfInBounds_toArray, List.set_cons_zero, List.set_cons_succ]
            refine anyU_take (i := 12) (v := .bool false) (by simp only [List.getElem?_toArray, List.getElem?_cons_succ, List.getElem?_cons_zero]; exact rfl) (by kernel_rfl) (by kernel_rfl) (by kernel_rfl) (fun _ _ _ h => h) (by kernel_rfl) (by kernel_rfl) (by kernel_rfl) (Or.inl ⟨by rfl, fun w hSw => (by go_simp; try with_reducible rfl)⟩) (by with_reducible exact HD.out) ?_
            try simp only [Act.put, List.setIfInBounds_toArray, List.set_cons_zero, List.set_cons_succ]
            refine anyU_one (i := 9) (by kernel_rfl) (by simp only [List.getElem?_toArray, List.getElem?_cons_succ, List.getElem?_cons_zero]; exact rfl) (fun K hK => ?_)
            try go_simp
            refine (HSM.out _ HK.out.1 HK.out.2).mono ?_
            rintro e w7 ⟨rfl, hb⟩
            have HD := hide (ap_kept HD.out hb)
            clear hb
            refine hK.out _ _ (fun _ _ => HD.out) ?_
            clear hK K
            try simp only [Act.put, List.setIfInBounds_toArray, List.set_cons_zero, List.set_cons_succ]
            refine anyU_take (i := 13) (v := .bool true) (by simp only [List.getElem?_toArray, List.getElem?_cons_succ, List.getElem?_cons_zero]; exact rfl) (by kernel_rfl) (by kernel_rfl) (by kernel_rfl) (fun _ _ _ h => h) (by kernel_rfl) (by kernel_rfl) (by kernel_rfl) (Or.inl ⟨by rfl, fun w hSw => (by go_simp; try with_reducible rfl)⟩) (by with_reducible exact HD.out) ?_
            try simp only [Act.put, List.setIfInBounds_toArray, List.set_cons_zero, List.set_cons_succ]
            refine anyU_take (i := 14) (v := .bool true) (by simp only [List.getElem?_toArray, List.getElem?_cons_succ, List.getElem?_cons_zero]; exact rfl) (by kernel_rfl) (by kernel_rfl) (by kernel_rfl) (fun _ _ _ h => h) (by kernel_rfl) (by kernel_rfl) (by kernel_rfl) (Or.inl ⟨by rfl, fun w hSw => (by go_simp; try with_reducible rfl)⟩) (by with_reducible exact HD.out) ?_
            try simp only [Act.put, List.setIfInBounds_toArray, List.set_cons_zero, List.set_cons_succ]
            refine anyU_take (i := 15) (v := .bool true) (by simp only [List.getElem?_toArray, List.getElem?_cons_succ, List.getElem?_cons_zero]; exact rfl) (by kernel_rfl) (by kernel_rfl) (by kernel_rfl) (fun _ _ _ h => h) (by kernel_rfl) (by kernel_rfl) (by kernel_rfl) (Or.inl ⟨by rfl, fun w hSw => (by go_simp; try with_reducible rfl)⟩) (by with_reducible exact HD.out) ?_
            try simp only [Act.put, List.setIfInBounds_toArray, List.set_cons_zero, List.set_cons_succ]
            refine anyU_one (i := 16) (by kernel_rfl) (by simp only [List.getElem?_toArray, List.getElem?_cons_succ, List.getElem?_cons_zero]; exact rfl) (fun K hK => ?_)
            try go_simp
            refine (runs_any _).mono ?_
            rintro e w8 ⟨rfl, hb⟩
            have HD := hide (ap_kept HD.out hb)
            clear hb
            refine hK.out _ _ (fun _ _ => HD.out) ?_
            clear hK K
            try simp only [Act.put, List.setIfInBounds_toArray, List.set_cons_zero, List.set_cons_succ]
            refine anyU_take (i := 17) (v := .bool true) (by simp only [List.getElem?_toArray, List.getElem?_cons_succ, List.getElem?_cons_zero]; exact rfl) (by kernel_rfl) (by kernel_rfl) (by kernel_rfl) (fun _ _ _ h => h) (by kernel_rfl) (by kernel_rfl) (by kernel_rfl) (Or.inl ⟨by rfl, fun w hSw => (by go_simp; try with_reducible rfl)⟩) (by with_reducible exact HD.out) ?_
            try simp only [Act.put, List.setIfInBounds_toArray, List.set_cons_zero, List.set_cons_succ]
            refine anyU_one (i := 18) (by kernel_rfl) (by simp only [List.getElem?_toArray, List.getElem?_cons_succ, List.getElem?_cons_zero]; exact rfl) (fun K hK => ?_)
            try go_simp
            refine hK.out _ _ (fun e _ => absurd rfl e) ?_
            clear hK K
            try simp only [Act.put, List.setIfInBounds_toArray, List.set_cons_zero, List.set_cons_succ]
            refine anyU_done (by kernel_rfl) ?_
            refine NoPanic.normal ?_
            try simp only [Act.put]
            go_wp2
            go_ret
            exact ⟨rfl, HD.out.old⟩
          · skip
            have hce := HEQ.out
            refine wp_region_noPanic ?_
            refine wp_region_U 18 (fun w' => Ap W w' a b) (by kernel_rfl) ?_
            have HD := hide (show Ap W w5.drew a b from ap_kept HD.out (Below.refl _ _).drew)
            have HK := hide (And.intro (HK.out.1.below (Below.refl _ _).drew) (HK.out.2.below (Below.refl _ _).drew))
            generalize w5.drew = w6 at HD HK ⊢
            refine anyU_take (i := 0) (v := .int .i64 (n : Int)) (by simp only [List.getElem?_toArray, List.getElem?_cons_zero]; exact rfl) (by kernel_rfl) (by kernel_rfl) (by kernel_rfl) (fun _ _ _ h => h) (by kernel_rfl) (by kernel_rfl) (by kernel_rfl) (Or.inl ⟨by rfl, fun w hSw => (by go_simp; try with_reducible rfl)⟩) (by with_reducible exact HD.out) ?_
            try simp only [Act.put, List.setIfInBounds_toArray, List.set_cons_zero, List.set_cons_succ]
            refine anyU_take (i := 1) (v := .bool true) (by simp only [List.getElem?_toArray, List.getElem?_cons_succ, List.getElem?_cons_zero]; exact rfl) (by kernel_rfl) (by kernel_rfl) (by kernel_rfl) (fun _ _ _ h => h) (by kernel_rfl) (by kernel_rfl) (by kernel_rfl) (Or.inl ⟨by rfl, fun w hSw => (by go_simp; try with_reducible rfl)⟩) (by with_reducible exact HD.out) ?_
            try simp only [Act.put, List.setIfInBounds_toArray, List.set_cons_zero, List.set_cons_succ]
            refine anyU_take (i := 2) (v := .bool true) (by simp only [List.getElem?_toArray, List.getElem?_cons_succ, List.getElem?_cons_zero]; exact rfl) (by kernel_rfl) (by kernel_rfl) (by kernel_rfl) (fun _ _ _ h => h) (by kernel_rfl) (by kernel_rfl) (by kernel_rfl) (Or.inl ⟨by rfl, fun w hSw => (by go_simp; try with_reducible rfl)⟩) (by with_reducible exact HD.out) ?_
            try simp only [Act.put, List.setIfInBounds_toArray, List.set_cons_zero, List.set_cons_succ]
            refine anyU_take (i := 3) (v := .slice A1 n1 c1) (by simp only [List.getElem?_toArray, List.getElem?_cons_succ, List.getElem?_cons_zero]; exact rfl) (by kernel_rfl) (by kernel_rfl) (by kernel_rfl) (fun _ _ _ h => h) (by kernel_rfl) (by kernel_rfl) (by kernel_rfl) (Or.inl ⟨by rfl, fun w hSw => (by go_simp; try with_reducible rfl)⟩) (by with_reducible exact HD.out) ?_
            try simp only [Act.put, List.setIfInBounds_toArray, List.set_cons_zero, List.set_cons_succ]
            refine anyU_take (i := 4) (v := .int .i64 (n : Int)) (by simp only [List.getElem?_toArray, List.getElem?_cons_succ, List.getElem?_cons_zero]; exact rfl) (by kernel_rfl) (by kernel_rfl) (by kernel_rfl) (fun _ _ _ h => h) (by kernel_rfl) (by kernel_rfl) (by kernel_rfl) (Or.inl ⟨by rfl, fun w hSw => (by go_simp; try with_reducible rfl)⟩) (by with_reducible exact HD.out) ?_
            try simp only [Act.put, List.setIfInBounds_toArray, List.set_cons_zero, List.set_cons_succ]
            refine anyU_take (i := 5) (v := .slice A1 n c1) (by simp only [List.getElem?_toArray, List.getElem?_cons_succ, List.getElem?_cons_zero]; exact rfl) (by kernel_rfl) (by kernel_rfl) (by kernel_rfl) (fun _ _ _ h => h) (by kernel_rfl) (by kernel_rfl) (by kernel_rfl) (Or.inl ⟨by rfl, fun w hSw => (by go_simp; try with_reducible rfl)⟩) (by with_reducible exact HD.out) ?_
            try simp only [Act.put, List.setIfInBounds_toArray, List.set_cons_zero, List.set_cons_succ]
            refine anyU_take (i := 6) (v := .slice A2 n2 c2) (by simp only [List.getElem?_toArray, List.getElem?_cons_succ, List.getElem?_cons_zero]; exact rfl) (by kernel_rfl) (by kernel_rfl) (by kernel_rfl) (fun _ _ _ h => h) (by kernel_rfl) (by kernel_rfl) (by kernel_rfl) (Or.inl ⟨by rfl, fun w hSw => (by go_simp; try with_reducible rfl)⟩) (by with_reducible exact HD.out) ?_
            try simp only [Act.put, List.setIfInBounds_toArray, List.set_cons_zero, List.set_cons_succ]
            refine anyU_take (i := 7) (v := .int .i64 (n : Int)) (by simp only [List.getElem?_toArray, List.getElem?_cons_succ, List.getElem?_cons_zero]; exact rfl) (by kernel_rfl) (by kernel_rfl) (by kernel_rfl) (fun _ _ _ h => h) (by kernel_rfl) (by kernel_rfl) (by kernel_rfl) (Or.inl ⟨by rfl, fun w hSw => (by go_simp; try with_reducible rfl)⟩) (by with_reducible exact HD.out) ?_
            try simp only [Act.put, List.setIfInBounds_toArray, List.set_cons_zero, List.set_cons_succ]
            refine anyU_take (i := 8) (v := .slice A2 n c2) (by simp only [List.getElem?_toArray, List.getElem?_cons_succ, List.getElem?_cons_zero]; exact rfl) (by kernel_rfl) (by kernel_rfl) (by kernel_rfl) (fun _ _ _ h => h) (by kernel_rfl) (by kernel_rfl) (by kernel_rfl) (Or.inl ⟨by rfl, fun w hSw => (by go_simp; try with_reducible rfl)⟩) (by with_reducible exact HD.out) ?_
            try simp only [Act.put, List.setIfInBounds_toArray, List.set_cons_zero, List.set_cons_succ]
            refine anyU_take (i := 10) (v := .agg (ltC a)) (by simp only [List.getElem?_toArray, List.getElem?_cons_succ, List.getElem?_cons_zero]; exact rfl) (by kernel_rfl) (by kernel_rfl) (by kernel_rfl) (fun _ _ _ h => h) (by kernel_rfl) (by kernel_rfl) (by kernel_rfl) (Or.inl ⟨by rfl, fun w hSw => exec_load_gp rfl rfl hSw.x.all lt_under rfl (by rw [Lt.len wa]; exact lt_info)⟩) (by with_reducible exact HD.out) ?_
            try simp only [Act.put, List.setIfInBounds_toArray, List.set_cons_zero, List.set_cons_succ]
            refine anyU_take (i := 11) (v := .agg (ltC b)) (by simp only [List.getElem?_toArray, List.getElem?_cons_succ, List.getElem?_cons_zero]; exact rfl) (by kernel_rfl) (by kernel_rfl) (by kernel_rfl) (fun _ _ _ h => h) (by kernel_rfl) (by kernel_rfl) (by kernel_rfl) (Or.inl ⟨by rfl, fun w hSw => exec_load_gp rfl rfl hSw.y.all lt_under rfl (by rw [Lt.len wb]; exact lt_info)⟩) (by with_reducible exact HD.out) ?_
            try simp only [Act.put, List.setIfInBounds_toArray, List.set_cons_zero, List.set_cons_succ]
            refine anyU_take (i := 12) (v := .bool true) (by simp only [List.getElem?_toArray, List.getElem?_cons_succ, List.getElem?_cons_zero]; exact rfl) (by kernel_rfl) (by kernel_rfl) (by kernel_rfl) (fun _ _ _ h => h) (by kernel_rfl) (by kernel_rfl) (by kernel_rfl) (Or.inl ⟨by rfl, fun w hSw => (by go_simp; try with_reducible rfl)⟩) (by with_reducible exact HD.out) ?_
            try simp only [Act.put, List.setIfInBounds_toArray, List.set_cons_zero, List.set_cons_succ]
            refine anyU_one (i := 9) (by kernel_rfl) (by simp only [List.getElem?_toArray, List.getElem?_cons_succ, List.getElem?_cons_zero]; exact rfl) (fun K hK => ?_)
            try go_simp
            refine (HSM.out _ HK.out.1 HK.out.2).mono ?_
            rintro e w7 ⟨rfl, hb⟩
            have HD := hide (ap_kept HD.out hb)
            clear hb
            refine hK.out _ _ (fun _ _ => HD.out) ?_
            clear hK K
            try simp only [Act.put, List.setIfInBounds_toArray, List.set_cons_zero, List.set_cons_succ]
            refine anyU_take (i := 13) (v := .bool true) (by simp only [List.getElem?_toArray, List.getElem?_cons_succ, List.getElem?_cons_zero]; exact rfl) (by kernel_rfl) (by kernel_rfl) (by kernel_rfl) (fun _ _ _ h => h) (by kernel_rfl) (by kernel_rfl) (by kernel_rfl) (Or.inl ⟨by rfl, fun w hSw => (by go_simp; try with_reducible rfl)⟩) (by with_reducible exact HD.out) ?_
            try simp only [Act.put, List.setIfInBounds_toArray, List.set_cons_zero, List.set_cons_succ]
            refine anyU_take (i := 14) (v := .bool true) (by simp only [List.getElem?_toArray, List.getElem?_cons_succ, List.getElem?_cons_zero]; exact rfl) (by kernel_rfl) (by kernel_rfl) (by kernel_rfl) (fun _ _ _ h => h) (by kernel_rfl) (by kernel_rfl) (by kernel_rfl) (Or.inl ⟨by rfl, fun w hSw => (by go_simp; try with_reducible rfl)⟩) (by with_reducible exact HD.out) ?_
            try simp only [Act.put, List.setIfInBounds_toArray, List.set_cons_zero, List.set_cons_succ]
            refine anyU_take (i := 15) (v := .bool true) (by simp only [List.getElem?_toArray, List.getElem?_cons_succ, List.getElem?_cons_zero]; exact rfl) (by kernel_rfl) (by kernel_rfl) (by kernel_rfl) (fun _ _ _ h => h) (by kernel_rfl) (by kernel_rfl) (by kernel_rfl) (Or.inl ⟨by rfl, fun w hSw => (by go_simp; try with_reducible rfl)⟩) (by with_reducible exact HD.out) ?_
            try simp only [Act.put, List.setIfInBounds_toArray, List.set_cons_zero, List.set_cons_succ]
            refine anyU_one (i := 16) (by kernel_rfl) (by simp only [List.getElem?_toArray, List.getElem?_cons_succ, List.getElem?_cons_zero]; exact rfl) (fun K hK => ?_)
            try go_simp
            refine (runs_any _).mono ?_
            rintro e w8 ⟨rfl, hb⟩
            have HD := hide (ap_kept HD.out hb)
            clear hb
            refine hK.out _ _ (fun _ _ => HD.out) ?_
            clear hK K
            try simp only [Act.put, List.setIfInBounds_toArray, List.set_cons_zero, List.set_cons_succ]
            refine anyU_take (i := 17) (v := .bool true) (by simp only [List.getElem?_toArray, List.getElem?_cons_succ, List.getElem?_cons_zero]; exact rfl) (by kernel_rfl) (by kernel_rfl) (by kernel_rfl) (fun _ _ _ h => h) (by kernel_rfl) (by kernel_rfl) (by kernel_rfl) (Or.inl ⟨by rfl, fun w hSw => (by go_simp; try with_reducible rfl)⟩) (by with_reducible exact HD.out) ?_
            try simp only [Act.put, List.setIfInBounds_toArray, List.set_cons_zero, List.set_cons_succ]
            refine anyU_one (i := 18) (by kernel_rfl) (by simp only [List.getElem?_toArray, List.getElem?_cons_succ, List.getElem?_cons_zero]; exact rfl) (fun K hK => ?_)
            try go_simp
            refine hK.out _ _ (fun e _ => absurd rfl e) ?_
            clear hK K
            try simp only [Act.put, List.setIfInBounds_toArray, List.set_cons_zero, List.set_cons_succ]
            refine anyU_done (by kernel_rfl) ?_
            refine NoPanic.normal ?_
            try simp only [Act.put]
            go_wp2
            go_ret
            exact ⟨rfl, HD.out.old⟩
set_option maxRecDepth 100000 in
theorem lifted (os : Os) (started : os.Started) (H : Type) (enc : TypeId × Value → H) :
    ReturnsInHanded {} Try.checked os 7 .any (Rows.letterApartSpec.pre6 enc Try.prog Try.f7 Rows.letterApartRow.domain false) (Rows.letterApartSpec.post enc Try.prog Try.f7 false true false false) := by
  refine returnsInHanded_of_change_sized (C := Try.checked) own started (by kernel_rfl) Try.func7
    (ChangeSpec.witness6 (enc := enc) (C := Try.checked) false ⟨#[], #[.agg #[.int .i64 0, .int .i64 0, .int .i64 0, .int .i64 0, .int .i64 0, .int .i64 0, .int .i64 0, .int .i64 0, .int .i64 0, .int .i64 0, .string ⟨#[]⟩, .string ⟨#[]⟩, .string ⟨#[]⟩, .string ⟨#[]⟩, .int .i64 0, .int .i64 0, .int .i64 0, .int .i64 0, .int .i64 0, .int .i64 0, .int .i64 0, .int .i64 0, .int .i64 0, .int .i64 0, .int .i64 0, .int .i64 0, .int .i64 0, .int .i64 0, .int .i64 0, .int .i64 0, .string ⟨#[]⟩, .string ⟨#[]⟩, .string ⟨#[]⟩, .string ⟨#[]⟩, .int .i64 0, .int .i64 0, .int .i64 0, .int .i64 0, .int .i64 0, .int .i64 0, .int .i64 0, .int .i64 0, .bool false, .int .i64 0, .int .i64 0, .int .i64 0, .int .i64 0, .int .i64 0, .int .i64 0, .int .i64 0, .string ⟨#[]⟩], .agg #[.int .i64 0, .int .i64 0, .int .i64 0, .int .i64 0, .int .i64 0, .int .i64 0, .int .i64 0, .int .i64 0, .int .i64 0, .int .i64 0, .string ⟨#[]⟩, .string ⟨#[]⟩, .string ⟨#[]⟩, .string ⟨#[]⟩, .int .i64 0, .int .i64 0, .int .i64 0, .int .i64 0, .int .i64 0, .int .i64 0, .int .i64 0, .int .i64 0, .int .i64 0, .int .i64 0, .int .i64 0, .int .i64 0, .int .i64 0, .int .i64 0, .int .i64 0, .int .i64 0, .string ⟨#[]⟩, .string ⟨#[]⟩, .string ⟨#[]⟩, .string ⟨#[]⟩, .int .i64 0, .int .i64 0, .int .i64 0, .int .i64 0, .int .i64 0, .int .i64 0, .int .i64 0, .int .i64 0, .bool false, .int .i64 0, .int .i64 0, .int .i64 0, .int .i64 0, .int .i64 0, .int .i64 0, .int .i64 0, .string ⟨#[]⟩]], []⟩ 8 (by kernel_rfl) (by kernel_rfl) (by kernel_rfl) (by kernel_rfl)) ?_
  intro W base args ds gs before hval0 hW _ hsz0 _
  have hval : ∀ (j : Nat) t v, Try.f7.params[j]? = some t → args[j]? = some v → Value.okWide Try.prog W .any base t v := hval0
  have hW' := hW
  obtain ⟨p, q, hA0, hV, rfl, _, _⟩ := hW
  have hA : DataW.TrodAll enc Try.prog W 0 (fun _ => true) true Try.f7.params.toList args.toList ds p := hA0
  have hsz : (DataW.weightsEach Try.prog (Try.f7.params.toList ++ Rows.letterApartSpec.plain.varTypes Try.prog) (ds ++ gs)).all (· ≤ reachBytes) = true := hsz0
  rw [Try.params7] at hA hval hsz
  obtain ⟨v0, vs0, d0, ds0, p0, q0, hargs, rfl, rfl, h0, r0⟩ := trodAll_cons hA
  obtain ⟨v1, vs1, d1, ds1, p1, q1, rfl, rfl, rfl, h1, r1⟩ := trodAll_cons r0
  obtain ⟨rfl, rfl, rfl⟩ := trodAll_nil r1
  obtain rfl : args = #[v0, v1] := by cases args; simp_all
  obtain ⟨rfl, rfl⟩ := trodVars_none hV
  have k0 := h0
  have lt0 : ∀ x ∈ p0, x.block < W.heap.size := by obtain ⟨m, hm⟩ := k0; exact DataW.trod_lt m _ _ _ hm
  obtain ⟨x0, rfl, s0⟩ := letter_in (j := 0) (hval 0 37 v0 rfl rfl) h0 hsz rfl rfl
  have k1 := h1
  have lt1 : ∀ x ∈ p1, x.block < W.heap.size := by obtain ⟨m, hm⟩ := k1; exact DataW.trod_lt m _ _ _ hm
  obtain ⟨x1, rfl, s1⟩ := letter_in (j := 1) (hval 1 37 v1 rfl rfl) h1 hsz rfl rfl
  clear hA0 hval0
  refine (walk x0 x1 W s0 s1).mono fun e W' ⟨he, bel⟩ => ?_
  subst he
  exact ⟨_, rfl, _, _, _, [], _, [], hW', trodAll_mk1 (shut_bool Try.underlying4 _), (trodAll_cons_mk (Below.trod laidOut (by kernel_rfl) (of_decide_eq_true (by kernel_rfl)) k0 bel lt0) (trodAll_cons_mk (Below.trod laidOut (by kernel_rfl) (of_decide_eq_true (by kernel_rfl)) k1 bel lt1) trodAll_mk0)), rfl, bel.frame _, fun h => by cases h⟩
theorem over : Rows.letterApartRow.holds Try.pinned (OpenSpec.ofChange Rows.letterApartSpec) :=
  OpenClaim.holds_of_wide 7 Try.f7 rfl rfl rfl rfl rfl rfl rfl ⟨rfl, rfl, rfl, rfl, rfl⟩ rfl rfl rfl rfl rfl (by kernel_rfl) Try.func7 (by kernel_rfl)
    (of_decide_eq_true (by kernel_rfl)) (by unfold Func.isWrapper; first | (rw [if_pos (by decide +kernel)]; kernel_rfl) | (rw [if_neg (by decide +kernel)]; exact ⟨rfl, rfl⟩))
    (fun os started H enc _ => lifted os started H enc)
theorem proved : Rows.LetterApartSaid := over
end Go.Proofs.Ytlnpfaoeockoiaa.letterApart
