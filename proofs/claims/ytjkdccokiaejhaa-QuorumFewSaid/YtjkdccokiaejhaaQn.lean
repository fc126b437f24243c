/- The program's Prepared. Conditions: what was said lies in memory, at most a thousand; the cells' attributes are eight numbers. -/
import Derived.Test.YtjkdccokiaejhaaQk
import Derived.Test.YtjkdccokiaejhaaQm
import Derived.Test.YtjkdccokiaejhaaWd
namespace Go.Proofs.Ytjkdccokiaejhaa
set_option maxRecDepth 100000
open Go.RowKit
section
variable {A : Option Addr} {m c : Nat} {l : List (Int × Cl)} {w : World}
theorem committed_yes {e : Int × Cl} (hf : (l.find? fun e => decide (e.2.st = 3)) = some e) (hm : l.length = m) (hl : Sds w A l) (h1000 : m ≤ 1000) : Calls Try.prog 42 #[.slice A m c] w fun e' w' => e' = .returned (.tuple #[.agg (clC e.2), .bool true]) ∧ Below w.heap.size w w' := by
  have h := committed_any (c := c) hm hl h1000
  rw [hf] at h
  exact h
theorem committed_not (hf : (l.find? fun e => decide (e.2.st = 3)) = none) (hm : l.length = m) (hl : Sds w A l) (h1000 : m ≤ 1000) : Calls Try.prog 42 #[.slice A m c] w fun e' w' => e' = .returned (.tuple #[.agg (clC zeroCl), .bool false]) ∧ Below w.heap.size w w' := by
  have h := committed_any (c := c) hm hl h1000
  rw [hf] at h
  exact h
theorem latest_yes {st : Int} {b : Cl} (hf : bestL st none l = some b) (hm : l.length = m) (hl : Sds w A l) (h1000 : m ≤ 1000) : Calls Try.prog 43 #[.slice A m c, .int .i64 st] w fun e' w' => e' = .returned (.tuple #[.agg (clC b), .bool true]) ∧ Below w.heap.size w w' := by
  have h := latest_any (c := c) st hm hl h1000
  rw [hf] at h
  exact h
theorem latest_not {st : Int} (hf : bestL st none l = none) (hm : l.length = m) (hl : Sds w A l) (h1000 : m ≤ 1000) : Calls Try.prog 43 #[.slice A m c, .int .i64 st] w fun e' w' => e' = .returned (.tuple #[.agg (clC zeroCl), .bool false]) ∧ Below w.heap.size w w' := by
  have h := latest_any (c := c) st hm hl h1000
  rw [hf] at h
  exact h
end
theorem best_8 {st : Int} {l : List (Int × Cl)} {b : Cl} (h8 : ∀ e, e ∈ l → e.2.a.length = 8) (hf : bestL st none l = some b) : b.a.length = 8 := by
  rcases bestL_from hf with h | ⟨x, hx, hxb, _⟩
  · cases h
  · rw [← hxb]; exact h8 x hx
set_option maxHeartbeats 16000000 in
theorem prep_ok : PrepOk := by
  intro n owner A m c l w hn2 hn hm hl h1000 hmc hnil
  have HL := hide hl
  obtain ⟨P, hP⟩ : ∃ P, prepL n owner l = P := ⟨_, rfl⟩
  rw [hP]
  have HP0 := hide (show Pq w ((w.alloc (.cells #[.int .i64 0, .int .i64 0, .int .i64 0, .string ⟨#[]⟩, .string ⟨#[]⟩, .string ⟨#[]⟩, .string ⟨#[]⟩] 32)).alloc (.cells #[.int .i64 0, .int .i64 0, .int .i64 0, .int .i64 0, .int .i64 0, .int .i64 0, .int .i64 0, .int .i64 0] 26)) zeroC zero8 from Pq.start w)
  obtain ⟨S, hS⟩ : ∃ S, n / 2 + 1 = S := ⟨_, rfl⟩
  have HSL := hide (fun w => pslow_any n (by omega) w)
  have hP2 : (if m < S then ((0 : Int), zeroC, zero8)
    else match l.find? fun e => decide (e.2.st = 3) with
    | some e => (1, e.2.c, e.2.a)
    | none => match bestL 2 none l with
      | some c => (2, c.c, c.a)
      | none => match bestL 1 none l with
        | none => (4, zeroC, zero8)
        | some c => if (fastL n owner l).2 then (2, (fastL n owner l).1.c, (fastL n owner l).1.a) else (3, c.c, c.a)) = P := by
    rw [← hP]
    unfold prepL fastL
    rw [hm, hS]
    cases ((l.all fun e => decide (e.1 ≠ owner)) && decide (n / 2 ≤ (sameL owner l).length)) <;> rfl
  clear hP
  rw [hS] at HSL
  have hS1 : 1 ≤ S := by omega
  have hS2 : S ≤ 1000 := by omega
  clear hS
  by_cases hlt : m < S
  · have hlti : (m : Int) < (S : Int) := by omega
    rw [if_pos hlt] at hP2
    have HPL := hide hP2
    clear hP2 hl hm
    go_enter Try.func28, Try.ntmps28
    go_upto_region 1 with (fail)
    generalize (w.alloc (.cells #[.int .i64 0, .int .i64 0, .int .i64 0, .string ⟨#[]⟩, .string ⟨#[]⟩, .string ⟨#[]⟩, .string ⟨#[]⟩] 32)).alloc (.cells #[.int .i64 0, .int .i64 0, .int .i64 0, .int .i64 0, .int .i64 0, .int .i64 0, .int .i64 0, .int .i64 0] 26) = w1 at HP0 ⊢
    have HP := HP0
    clear HP0
    go_wp2_with (first
                | (go_at_call 18; (with_reducible refine (HSL.out _).mono ?_); rintro e w7 ⟨rfl, hw⟩; subst hw)
                | ((with_reducible refine wpList_store_cm (y := zeroC) (z := zeroC) ?_ ?_ HP.out.c ?_); rfl; rfl; intro w6 hn hg; replace HP := hide (HP.out.putc hn hg); clear hn hg)
                | ((with_reducible refine wpList_store_at (y := zero8) (z := zero8) rfl ?_ ?_ HP.out.a rfl ?_); rfl; rfl; intro w6' hn hg; replace HP := hide (HP.out.puta hn hg); clear hn hg))
    exact bodyPost_ret (results_prep Try.results28 rfl rfl HP.out.c rfl HP.out.a rfl) rfl ⟨by rw [← HPL.out]; rfl, HP.out.low⟩
  · have hlti : ¬ (m : Int) < (S : Int) := by omega
    rw [if_neg hlt] at hP2
    cases hf : l.find? fun e => decide (e.2.st = 3) with
    | some e =>
      rw [hf] at hP2
      have HPL := hide hP2
      have he8 : e.2.a.length = 8 := hl.a8 e (List.mem_of_find?_eq_some hf)
      have HCM := hide (fun w' (h : Sds w' A l) => committed_yes (c := c) hf hm h h1000)
      clear hP2 hl hm hf
      go_enter Try.func28, Try.ntmps28
      go_upto_region 1 with (fail)
      generalize (w.alloc (.cells #[.int .i64 0, .int .i64 0, .int .i64 0, .string ⟨#[]⟩, .string ⟨#[]⟩, .string ⟨#[]⟩, .string ⟨#[]⟩] 32)).alloc (.cells #[.int .i64 0, .int .i64 0, .int .i64 0, .int .i64 0, .int .i64 0, .int .i64 0, .int .i64 0, .int .i64 0] 26) = w1 at HP0 ⊢
      have HP := HP0
      clear HP0
      go_upto_region 5 with (first
                | (go_at_call 18; (with_reducible refine (HSL.out _).mono ?_); rintro e w7 ⟨rfl, hw⟩; subst hw)
                | (go_at_call 42; go_loud ((with_reducible refine (HCM.out _ (HL.out.below HP.out.low)).mono ?_); rintro e7 w2 ⟨rfl, hb⟩; replace HP := hide (HP.out.kept hb); clear hb))
                | ((with_reducible refine wpList_store_new (vs := clC e.2) ?_ ?_ (cl_all _) ?_ ?_ ?_); (rw [clC_size he8]; exact ce_info); (rw [clC_size he8]; rfl); (first | rfl | (simp; done)); rfl))
      try dsimp only [Act.put]
      have HC := hide (CeAt.new he8 w2 34)
      have HG := hide (show w.heap.size + 1 < w2.heap.size from HP.out.a.lt)
      replace HP := hide (HP.out.kept (kept_alloc (kept_refl _) (.cells (clC e.2) 34)))
      generalize w2.alloc (.cells (clC e.2) 34) = w2a at HP HC ⊢
      generalize w2.heap.size = g at HC HG ⊢
      refine wp_region_noPanic ?_
      refine wp_region_U 6 (fun wz => Below w.heap.size w wz ∧ CeAt wz (g) 34 e.2) (by kernel_rfl) ?_
      replace HP := hide HP.out.drew
      replace HC := hide HC.out.drew
      generalize World.drew _ = wd at HP HC ⊢
      have HD := hide (show Below w.heap.size w wd ∧ CeAt wd (g) 34 e.2 from ⟨HP.out.low, HC.out⟩)
      refine anyU_take2 (i := 0) (v := .pointer (some ⟨g, 5, none⟩)) (by simp only [List.getElem?_toArray, List.getElem?_cons_zero]; exact rfl) (by kernel_rfl) 12 (by kernel_rfl) (by kernel_rfl) (fun _ _ _ h => h) (by kernel_rfl) (by kernel_rfl) (by kernel_rfl) (by kernel_rfl) (Or.inl ⟨by rfl, fun w hSw => (by go_simp; try with_reducible rfl)⟩) (by with_reducible exact HD.out) ?_
      try simp only [Act.put, List.setIfInBounds_toArray, List.set_cons_zero, List.set_cons_succ]
      refine anyU_take2 (i := 1) (v := .agg (rowC e.2.c)) (by simp only [List.getElem?_toArray, List.getElem?_cons_succ, List.getElem?_cons_zero]; exact rfl) (by kernel_rfl) 12 (by kernel_rfl) (by kernel_rfl) (fun _ _ _ h => h) (by kernel_rfl) (by kernel_rfl) (by kernel_rfl) (by kernel_rfl) (Or.inl ⟨by rfl, fun w hSw => exec_load_gp (cs := e.2.c.l) rfl rfl hSw.2.c cm_under rfl cm_info⟩) (by with_reducible exact HD.out) ?_
      try simp only [Act.put, List.setIfInBounds_toArray, List.set_cons_zero, List.set_cons_succ]
      refine anyU_take2 (i := 2) (v := .pointer (some ⟨g, 12, none⟩)) (by simp only [List.getElem?_toArray, List.getElem?_cons_succ, List.getElem?_cons_zero]; exact rfl) (by kernel_rfl) 12 (by kernel_rfl) (by kernel_rfl) (fun _ _ _ h => h) (by kernel_rfl) (by kernel_rfl) (by kernel_rfl) (by kernel_rfl) (Or.inl ⟨by rfl, fun w hSw => (by go_simp; try with_reducible rfl)⟩) (by with_reducible exact HD.out) ?_
      try simp only [Act.put, List.setIfInBounds_toArray, List.set_cons_zero, List.set_cons_succ]
      refine anyU_take2 (i := 3) (v := .agg (cA e.2.a)) (by simp only [List.getElem?_toArray, List.getElem?_cons_succ, List.getElem?_cons_zero]; exact rfl) (by kernel_rfl) 12 (by kernel_rfl) (by kernel_rfl) (fun _ _ _ h => h) (by kernel_rfl) (by kernel_rfl) (by kernel_rfl) (by kernel_rfl) (Or.inl ⟨by rfl, fun w hSw => exec_load_gp rfl rfl hSw.2.a at_under rfl (at_sz he8)⟩) (by with_reducible exact HD.out) ?_
      try simp only [Act.put, List.setIfInBounds_toArray, List.set_cons_zero, List.set_cons_succ]
      refine anyU_take2 (i := 4) (v := .int .i64 1) (by simp only [List.getElem?_toArray, List.getElem?_cons_succ, List.getElem?_cons_zero]; exact rfl) (by kernel_rfl) 12 (by kernel_rfl) (by kernel_rfl) (fun _ _ _ h => h) (by kernel_rfl) (by kernel_rfl) (by kernel_rfl) (by kernel_rfl) (Or.inl ⟨by rfl, fun w hSw => (by go_simp; try with_reducible rfl)⟩) (by with_reducible exact HD.out) ?_
      try simp only [Act.put, List.setIfInBounds_toArray, List.set_cons_zero, List.set_cons_succ]
      refine anyU_one (i := 5) (by kernel_rfl) (by simp only [List.getElem?_toArray, List.getElem?_cons_succ, List.getElem?_cons_zero]; exact rfl) (fun K hK => ?_)
      rw [if_pos (by rfl)]
      refine wp_store_cm rfl rfl rfl HP.out.c ?_
      intro wp hn hg
      replace HC := hide (HC.out.other hg (by have := HG.out; omega))
      replace HP := hide (HP.out.putc hn hg)
      replace HD := hide (show Below w.heap.size w wp ∧ CeAt wp (g) 34 e.2 from ⟨HP.out.low, HC.out⟩)
      clear hn hg
      refine hK.out _ _ (fun _ _ => HD.out) ?_
      clear hK K
      try simp only [Act.put]
      refine anyU_one (i := 6) (by kernel_rfl) (by simp only [List.getElem?_toArray, List.getElem?_cons_succ, List.getElem?_cons_zero]; exact rfl) (fun K hK => ?_)
      rw [if_pos (by rfl)]
      refine wp_store_at rfl he8 rfl rfl HP.out.a rfl ?_
      intro wq hn hg
      replace HP := hide (HP.out.puta hn hg)
      clear hn hg
      refine hK.out _ _ (fun e _ => absurd rfl e) ?_
      clear hK K
      try simp only [Act.put]
      refine anyU_done (by kernel_rfl) ?_
      refine NoPanic.normal ?_
      try simp only [Act.put]
      go_wp2
      exact bodyPost_ret (results_prep Try.results28 rfl rfl HP.out.c rfl HP.out.a he8) rfl ⟨by rw [← HPL.out]; rfl, HP.out.low⟩
    | none =>
      rw [hf] at hP2
      have HCM := hide (fun w' (h : Sds w' A l) => committed_not (c := c) hf hm h h1000)
      clear hf
      have h80 : zeroCl.a.length = 8 := rfl
      cases h2 : bestL 2 none l with
      | some b2 =>
        rw [h2] at hP2
        have HPL := hide hP2
        have hb8 := best_8 hl.a8 h2
        have HLA := hide (fun w' (h : Sds w' A l) => latest_yes (c := c) h2 hm h h1000)
        clear hP2 hl hm h2
        go_enter Try.func28, Try.ntmps28
        go_upto_region 1 with (fail)
        generalize (w.alloc (.cells #[.int .i64 0, .int .i64 0, .int .i64 0, .string ⟨#[]⟩, .string ⟨#[]⟩, .string ⟨#[]⟩, .string ⟨#[]⟩] 32)).alloc (.cells #[.int .i64 0, .int .i64 0, .int .i64 0, .int .i64 0, .int .i64 0, .int .i64 0, .int .i64 0, .int .i64 0] 26) = w1 at HP0 ⊢
        have HP := HP0
        clear HP0
        go_upto_region 4 with (first
                | (go_at_call 18; (with_reducible refine (HSL.out _).mono ?_); rintro e w7 ⟨rfl, hw⟩; subst hw)
                | (go_at_call 42; go_loud ((with_reducible refine (HCM.out _ (HL.out.below HP.out.low)).mono ?_); rintro e7 w2 ⟨rfl, hb⟩; replace HP := hide (HP.out.kept hb); clear hb))
                | ((with_reducible refine wpList_store_new (vs := clC zeroCl) ?_ ?_ (cl_all _) ?_ ?_ ?_); (rw [clC_size h80]; exact ce_info); (rw [clC_size h80]; rfl); (first | rfl | (simp; done)); rfl))
        try dsimp only [Act.put]
        have HC := hide (CeAt.new h80 w2 34)
        have HG := hide (show w.heap.size + 1 < w2.heap.size from HP.out.a.lt)
        replace HP := hide (HP.out.kept (kept_alloc (kept_refl _) (.cells (clC zeroCl) 34)))
        generalize w2.alloc (.cells (clC zeroCl) 34) = w2a at HP HC ⊢
        generalize w2.heap.size = g at HC HG ⊢
        clear HC HG
        go_upto_region 8 with (first
                | (go_at_call 43; go_loud ((with_reducible refine (HLA.out _ (HL.out.below HP.out.low)).mono ?_); rintro e7 w3 ⟨rfl, hb⟩; replace HP := hide (HP.out.kept hb); clear hb))
                | ((with_reducible refine wpList_store_new (vs := clC b2) ?_ ?_ (cl_all _) ?_ ?_ ?_); (rw [clC_size hb8]; exact ce_info); (rw [clC_size hb8]; rfl); (first | rfl | (simp; done)); rfl))
        try dsimp only [Act.put]
        have HC := hide (CeAt.new hb8 w3 34)
        have HG := hide (show w.heap.size + 1 < w3.heap.size from HP.out.a.lt)
        replace HP := hide (HP.out.kept (kept_alloc (kept_refl _) (.cells (clC b2) 34)))
        generalize w3.alloc (.cells (clC b2) 34) = w3a at HP HC ⊢
        generalize w3.heap.size = g at HC HG ⊢
        refine wp_region_noPanic ?_
        refine wp_region_U 6 (fun wz => Below w.heap.size w wz ∧ CeAt wz (g) 34 b2) (by kernel_rfl) ?_
        replace HP := hide HP.out.drew
        replace HC := hide HC.out.drew
        generalize World.drew _ = wd at HP HC ⊢
        have HD := hide (show Below w.heap.size w wd ∧ CeAt wd (g) 34 b2 from ⟨HP.out.low, HC.out⟩)
        refine anyU_take2 (i := 0) (v := .pointer (some ⟨g, 5, none⟩)) (by simp only [List.getElem?_toArray, List.getElem?_cons_zero]; exact rfl) (by kernel_rfl) 12 (by kernel_rfl) (by kernel_rfl) (fun _ _ _ h => h) (by kernel_rfl) (by kernel_rfl) (by kernel_rfl) (by kernel_rfl) (Or.inl ⟨by rfl, fun w hSw => (by go_simp; try with_reducible rfl)⟩) (by with_reducible exact HD.out) ?_
        try simp only [Act.put, List.setIfInBounds_toArray, List.set_cons_zero, List.set_cons_succ]
        refine anyU_take2 (i := 1) (v := .agg (rowC b2.c)) (by simp only [List.getElem?_toArray, List.getElem?_cons_succ, List.getElem?_cons_zero]; exact rfl) (by kernel_rfl) 12 (by kernel_rfl) (by kernel_rfl) (fun _ _ _ h => h) (by kernel_rfl) (by kernel_rfl) (by kernel_rfl) (by kernel_rfl) (Or.inl ⟨by rfl, fun w hSw => exec_load_gp (cs := b2.c.l) rfl rfl hSw.2.c cm_under rfl cm_info⟩) (by with_reducible exact HD.out) ?_
        try simp only [Act.put, List.setIfInBounds_toArray, List.set_cons_zero, List.set_cons_succ]
        refine anyU_take2 (i := 2) (v := .pointer (some ⟨g, 12, none⟩)) (by simp only [List.getElem?_toArray, List.getElem?_cons_succ, List.getElem?_cons_zero]; exact rfl) (by kernel_rfl) 12 (by kernel_rfl) (by kernel_rfl) (fun _ _ _ h => h) (by kernel_rfl) (by kernel_rfl) (by kernel_rfl) (by kernel_rfl) (Or.inl ⟨by rfl, fun w hSw => (by go_simp; try with_reducible rfl)⟩) (by with_reducible exact HD.out) ?_
        try simp only [Act.put, List.setIfInBounds_toArray, List.set_cons_zero, List.set_cons_succ]
        refine anyU_take2 (i := 3) (v := .agg (cA b2.a)) (by simp only [List.getElem?_toArray, List.getElem?_cons_succ, List.getElem?_cons_zero]; exact rfl) (by kernel_rfl) 12 (by kernel_rfl) (by kernel_rfl) (fun _ _ _ h => h) (by kernel_rfl) (by kernel_rfl) (by kernel_rfl) (by kernel_rfl) (Or.inl ⟨by rfl, fun w hSw => exec_load_gp rfl rfl hSw.2.a at_under rfl (at_sz hb8)⟩) (by with_reducible exact HD.out) ?_
        try simp only [Act.put, List.setIfInBounds_toArray, List.set_cons_zero, List.set_cons_succ]
        refine anyU_take2 (i := 4) (v := .int .i64 2) (by simp only [List.getElem?_toArray, List.getElem?_cons_succ, List.getElem?_cons_zero]; exact rfl) (by kernel_rfl) 12 (by kernel_rfl) (by kernel_rfl) (fun _ _ _ h => h) (by kernel_rfl) (by kernel_rfl) (by kernel_rfl) (by kernel_rfl) (Or.inl ⟨by rfl, fun w hSw => (by go_simp; try with_reducible rfl)⟩) (by with_reducible exact HD.out) ?_
        try simp only [Act.put, List.setIfInBounds_toArray, List.set_cons_zero, List.set_cons_succ]
        refine anyU_one (i := 5) (by kernel_rfl) (by simp only [List.getElem?_toArray, List.getElem?_cons_succ, List.getElem?_cons_zero]; exact rfl) (fun K hK => ?_)
        rw [if_pos (by rfl)]
        refine wp_store_cm rfl rfl rfl HP.out.c ?_
        intro wp hn hg
        replace HC := hide (HC.out.other hg (by have := HG.out; omega))
        replace HP := hide (HP.out.putc hn hg)
        replace HD := hide (show Below w.heap.size w wp ∧ CeAt wp (g) 34 b2 from ⟨HP.out.low, HC.out⟩)
        clear hn hg
        refine hK.out _ _ (fun _ _ => HD.out) ?_
        clear hK K
        try simp only [Act.put]
        refine anyU_one (i := 6) (by kernel_rfl) (by simp only [List.getElem?_toArray, List.getElem?_cons_succ, List.getElem?_cons_zero]; exact rfl) (fun K hK => ?_)
        rw [if_pos (by rfl)]
        refine wp_store_at rfl hb8 rfl rfl HP.out.a rfl ?_
        intro wq hn hg
        replace HP := hide (HP.out.puta hn hg)
        clear hn hg
        refine hK.out _ _ (fun e _ => absurd rfl e) ?_
        clear hK K
        try simp only [Act.put]
        refine anyU_done (by kernel_rfl) ?_
        refine NoPanic.normal ?_
        try simp only [Act.put]
        go_wp2
        exact bodyPost_ret (results_prep Try.results28 rfl rfl HP.out.c rfl HP.out.a hb8) rfl ⟨by rw [← HPL.out]; rfl, HP.out.low⟩
      | none =>
        rw [h2] at hP2
        have HLA := hide (fun w' (h : Sds w' A l) => latest_not (c := c) h2 hm h h1000)
        clear h2
        cases h1 : bestL 1 none l with
        | none =>
          rw [h1] at hP2
          have HPL := hide hP2
          have HLB := hide (fun w' (h : Sds w' A l) => latest_not (c := c) h1 hm h h1000)
          clear hP2 hl hm h1
          go_enter Try.func28, Try.ntmps28
          go_upto_region 1 with (fail)
          generalize (w.alloc (.cells #[.int .i64 0, .int .i64 0, .int .i64 0, .string ⟨#[]⟩, .string ⟨#[]⟩, .string ⟨#[]⟩, .string ⟨#[]⟩] 32)).alloc (.cells #[.int .i64 0, .int .i64 0, .int .i64 0, .int .i64 0, .int .i64 0, .int .i64 0, .int .i64 0, .int .i64 0] 26) = w1 at HP0 ⊢
          have HP := HP0
          clear HP0
          go_upto_region 4 with (first
                | (go_at_call 18; (with_reducible refine (HSL.out _).mono ?_); rintro e w7 ⟨rfl, hw⟩; subst hw)
                | (go_at_call 42; go_loud ((with_reducible refine (HCM.out _ (HL.out.below HP.out.low)).mono ?_); rintro e7 w2 ⟨rfl, hb⟩; replace HP := hide (HP.out.kept hb); clear hb))
                | ((with_reducible refine wpList_store_new (vs := clC zeroCl) ?_ ?_ (cl_all _) ?_ ?_ ?_); (rw [clC_size h80]; exact ce_info); (rw [clC_size h80]; rfl); (first | rfl | (simp; done)); rfl))
          try dsimp only [Act.put]
          have HC := hide (CeAt.new h80 w2 34)
          have HG := hide (show w.heap.size + 1 < w2.heap.size from HP.out.a.lt)
          replace HP := hide (HP.out.kept (kept_alloc (kept_refl _) (.cells (clC zeroCl) 34)))
          generalize w2.alloc (.cells (clC zeroCl) 34) = w2a at HP HC ⊢
          generalize w2.heap.size = g at HC HG ⊢
          clear HC HG
          go_upto_region 7 with (first
                | (go_at_call 43; go_loud ((with_reducible refine (HLA.out _ (HL.out.below HP.out.low)).mono ?_); rintro e7 w3 ⟨rfl, hb⟩; replace HP := hide (HP.out.kept hb); clear hb))
                | ((with_reducible refine wpList_store_new (vs := clC zeroCl) ?_ ?_ (cl_all _) ?_ ?_ ?_); (rw [clC_size h80]; exact ce_info); (rw [clC_size h80]; rfl); (first | rfl | (simp; done)); rfl))
          try dsimp only [Act.put]
          have HC := hide (CeAt.new h80 w3 34)
          have HG := hide (show w.heap.size + 1 < w3.heap.size from HP.out.a.lt)
          replace HP := hide (HP.out.kept (kept_alloc (kept_refl _) (.cells (clC zeroCl) 34)))
          generalize w3.alloc (.cells (clC zeroCl) 34) = w3a at HP HC ⊢
          generalize w3.heap.size = g at HC HG ⊢
          clear HC HG
          go_upto_region 10 with (first
                | (go_at_call 43; go_loud ((with_reducible refine (HLB.out _ (HL.out.below HP.out.low)).mono ?_); rintro e7 w4 ⟨rfl, hb⟩; replace HP := hide (HP.out.kept hb); clear hb))
                | ((with_reducible refine wpList_store_new (vs := clC zeroCl) ?_ ?_ (cl_all _) ?_ ?_ ?_); (rw [clC_size h80]; exact ce_info); (rw [clC_size h80]; rfl); (first | rfl | (simp; done)); rfl))
          try dsimp only [Act.put]
          have HC := hide (CeAt.new h80 w4 34)
          have HG := hide (show w.heap.size + 1 < w4.heap.size from HP.out.a.lt)
          replace HP := hide (HP.out.kept (kept_alloc (kept_refl _) (.cells (clC zeroCl) 34)))
          generalize w4.alloc (.cells (clC zeroCl) 34) = w4a at HP HC ⊢
          generalize w4.heap.size = g at HC HG ⊢
          go_wp2_with (first
                | ((with_reducible refine wpList_store_cm (y := zeroC) (z := zeroC) ?_ ?_ HP.out.c ?_); rfl; rfl; intro w6 hn hg; replace HP := hide (HP.out.putc hn hg); clear hn hg)
                | ((with_reducible refine wpList_store_at (y := zero8) (z := zero8) rfl ?_ ?_ HP.out.a rfl ?_); rfl; rfl; intro w6' hn hg; replace HP := hide (HP.out.puta hn hg); clear hn hg))
          exact bodyPost_ret (results_prep Try.results28 rfl rfl HP.out.c rfl HP.out.a rfl) rfl ⟨by rw [← HPL.out]; rfl, HP.out.low⟩
        | some b1 =>
          rw [h1] at hP2
          have hb8 := best_8 hl.a8 h1
          have HLB := hide (fun w' (h : Sds w' A l) => latest_yes (c := c) h1 hm h h1000)
          have hf8 : (fastL n owner l).1.a.length = 8 := by
            unfold fastL
            split
            · exact head_8 hl.a8
            · rfl
          have HFA := hide (fun w' (h : Sds w' A l) => fast_any owner (c := c) hn2 hn hm h h1000)
          replace hP2 : (if (fastL n owner l).2 then ((2 : Int), (fastL n owner l).1.c, (fastL n owner l).1.a) else (3, b1.c, b1.a)) = P := hP2
          generalize fastL n owner l = fp at HFA hP2 hf8
          obtain ⟨f0, fb⟩ := fp
          dsimp only at HFA hP2 hf8
          have HPL := hide hP2
          clear hP2 hl hm h1
          go_enter Try.func28, Try.ntmps28
          go_upto_region 1 with (fail)
          generalize (w.alloc (.cells #[.int .i64 0, .int .i64 0, .int .i64 0, .string ⟨#[]⟩, .string ⟨#[]⟩, .string ⟨#[]⟩, .string ⟨#[]⟩] 32)).alloc (.cells #[.int .i64 0, .int .i64 0, .int .i64 0, .int .i64 0, .int .i64 0, .int .i64 0, .int .i64 0, .int .i64 0] 26) = w1 at HP0 ⊢
          have HP := HP0
          clear HP0
          go_upto_region 4 with (first
                | (go_at_call 18; (with_reducible refine (HSL.out _).mono ?_); rintro e w7 ⟨rfl, hw⟩; subst hw)
                | (go_at_call 42; go_loud ((with_reducible refine (HCM.out _ (HL.out.below HP.out.low)).mono ?_); rintro e7 w2 ⟨rfl, hb⟩; replace HP := hide (HP.out.kept hb); clear hb))
                | ((with_reducible refine wpList_store_new (vs := clC zeroCl) ?_ ?_ (cl_all _) ?_ ?_ ?_); (rw [clC_size h80]; exact ce_info); (rw [clC_size h80]; rfl); (first | rfl | (simp; done)); rfl))
          try dsimp only [Act.put]
          have HC := hide (CeAt.new h80 w2 34)
          have HG := hide (show w.heap.size + 1 < w2.heap.size from HP.out.a.lt)
          replace HP := hide (HP.out.kept (kept_alloc (kept_refl _) (.cells (clC zeroCl) 34)))
          generalize w2.alloc (.cells (clC zeroCl) 34) = w2a at HP HC ⊢
          generalize w2.heap.size = g at HC HG ⊢
          clear HC HG
          go_upto_region 7 with (first
                | (go_at_call 43; go_loud ((with_reducible refine (HLA.out _ (HL.out.below HP.out.low)).mono ?_); rintro e7 w3 ⟨rfl, hb⟩; replace HP := hide (HP.out.kept hb); clear hb))
                | ((with_reducible refine wpList_store_new (vs := clC zeroCl) ?_ ?_ (cl_all _) ?_ ?_ ?_); (rw [clC_size h80]; exact ce_info); (rw [clC_size h80]; rfl); (first | rfl | (simp; done)); rfl))
          try dsimp only [Act.put]
          have HC := hide (CeAt.new h80 w3 34)
          have HG := hide (show w.heap.size + 1 < w3.heap.size from HP.out.a.lt)
          replace HP := hide (HP.out.kept (kept_alloc (kept_refl _) (.cells (clC zeroCl) 34)))
          generalize w3.alloc (.cells (clC zeroCl) 34) = w3a at HP HC ⊢
          generalize w3.heap.size = g at HC HG ⊢
          clear HC HG
          go_upto_region 10 with (first
                | (go_at_call 43; go_loud ((with_reducible refine (HLB.out _ (HL.out.below HP.out.low)).mono ?_); rintro e7 w4 ⟨rfl, hb⟩; replace HP := hide (HP.out.kept hb); clear hb))
                | ((with_reducible refine wpList_store_new (vs := clC b1) ?_ ?_ (cl_all _) ?_ ?_ ?_); (rw [clC_size hb8]; exact ce_info); (rw [clC_size hb8]; rfl); (first | rfl | (simp; done)); rfl))
          try dsimp only [Act.put]
          have HC := hide (CeAt.new hb8 w4 34)
          have HG := hide (show w.heap.size + 1 < w4.heap.size from HP.out.a.lt)
          replace HP := hide (HP.out.kept (kept_alloc (kept_refl _) (.cells (clC b1) 34)))
          generalize w4.alloc (.cells (clC b1) 34) = w4a at HP HC ⊢
          generalize w4.heap.size = g at HC HG ⊢
          cases fb
          · replace HPL := hide (show ((3 : Int), b1.c, b1.a) = P from HPL.out)
            go_upto_region 15 with (first
                | (go_at_call 44; go_loud ((with_reducible refine (HFA.out _ (HL.out.below HP.out.low)).mono ?_); rintro e7 w5 ⟨rfl, hb⟩; replace HP := hide (HP.out.kept hb); replace HC := hide (HC.out.kept hb); clear hb))
                | ((with_reducible refine wpList_store_new (vs := clC f0) ?_ ?_ (cl_all _) ?_ ?_ ?_); (rw [clC_size hf8]; exact ce_info); (rw [clC_size hf8]; rfl); (first | rfl | (simp; done)); rfl))
            try dsimp only [Act.put]
            replace HP := hide (HP.out.kept (kept_alloc (kept_refl _) (.cells (clC f0) 34)))
            replace HC := hide (HC.out.kept (kept_alloc (kept_refl _) (.cells (clC f0) 34)))
            generalize w5.alloc (.cells (clC f0) 34) = w5a at HP HC ⊢
            refine wp_region_noPanic ?_
            refine wp_region_U 6 (fun wz => Below w.heap.size w wz ∧ CeAt wz (g) 34 b1) (by kernel_rfl) ?_
            replace HP := hide HP.out.drew
            replace HC := hide HC.out.drew
            generalize World.drew _ = wd at HP HC ⊢
            have HD := hide (show Below w.heap.size w wd ∧ CeAt wd (g) 34 b1 from ⟨HP.out.low, HC.out⟩)
            refine anyU_take2 (i := 0) (v := .pointer (some ⟨g, 5, none⟩)) (by simp only [List.getElem?_toArray, List.getElem?_cons_zero]; exact rfl) (by kernel_rfl) 12 (by kernel_rfl) (by kernel_rfl) (fun _ _ _ h => h) (by kernel_rfl) (by kernel_rfl) (by kernel_rfl) (by kernel_rfl) (Or.inl ⟨by rfl, fun w hSw => (by go_simp; try with_reducible rfl)⟩) (by with_reducible exact HD.out) ?_
            try simp only [Act.put, List.setIfInBounds_toArray, List.set_cons_zero, List.set_cons_succ]
            refine anyU_take2 (i := 1) (v := .agg (rowC b1.c)) (by simp only [List.getElem?_toArray, List.getElem?_cons_succ, List.getElem?_cons_zero]; exact rfl) (by kernel_rfl) 12 (by kernel_rfl) (by kernel_rfl) (fun _ _ _ h => h) (by kernel_rfl) (by kernel_rfl) (by kernel_rfl) (by kernel_rfl) (Or.inl ⟨by rfl, fun w hSw => exec_load_gp (cs := b1.c.l) rfl rfl hSw.2.c cm_under rfl cm_info⟩) (by with_reducible exact HD.out) ?_
            try simp only [Act.put, List.setIfInBounds_toArray, List.set_cons_zero, List.set_cons_succ]
            refine anyU_take2 (i := 2) (v := .pointer (some ⟨g, 12, none⟩)) (by simp only [List.getElem?_toArray, List.getElem?_cons_succ, List.getElem?_cons_zero]; exact rfl) (by kernel_rfl) 12 (by kernel_rfl) (by kernel_rfl) (fun _ _ _ h => h) (by kernel_rfl) (by kernel_rfl) (by kernel_rfl) (by kernel_rfl) (Or.inl ⟨by rfl, fun w hSw => (by go_simp; try with_reducible rfl)⟩) (by with_reducible exact HD.out) ?_
            try simp only [Act.put, List.setIfInBounds_toArray, List.set_cons_zero, List.set_cons_succ]
            refine anyU_take2 (i := 3) (v := .agg (cA b1.a)) (by simp only [List.getElem?_toArray, List.getElem?_cons_succ, List.getElem?_cons_zero]; exact rfl) (by kernel_rfl) 12 (by kernel_rfl) (by kernel_rfl) (fun _ _ _ h => h) (by kernel_rfl) (by kernel_rfl) (by kernel_rfl) (by kernel_rfl) (Or.inl ⟨by rfl, fun w hSw => exec_load_gp rfl rfl hSw.2.a at_under rfl (at_sz hb8)⟩) (by with_reducible exact HD.out) ?_
            try simp only [Act.put, List.setIfInBounds_toArray, List.set_cons_zero, List.set_cons_succ]
            refine anyU_take2 (i := 4) (v := .int .i64 3) (by simp only [List.getElem?_toArray, List.getElem?_cons_succ, List.getElem?_cons_zero]; exact rfl) (by kernel_rfl) 12 (by kernel_rfl) (by kernel_rfl) (fun _ _ _ h => h) (by kernel_rfl) (by kernel_rfl) (by kernel_rfl) (by kernel_rfl) (Or.inl ⟨by rfl, fun w hSw => (by go_simp; try with_reducible rfl)⟩) (by with_reducible exact HD.out) ?_
            try simp only [Act.put, List.setIfInBounds_toArray, List.set_cons_zero, List.set_cons_succ]
            refine anyU_one (i := 5) (by kernel_rfl) (by simp only [List.getElem?_toArray, List.getElem?_cons_succ, List.getElem?_cons_zero]; exact rfl) (fun K hK => ?_)
            rw [if_pos (by rfl)]
            refine wp_store_cm rfl rfl rfl HP.out.c ?_
            intro wp hn hg
            replace HC := hide (HC.out.other hg (by have := HG.out; omega))
            replace HP := hide (HP.out.putc hn hg)
            replace HD := hide (show Below w.heap.size w wp ∧ CeAt wp (g) 34 b1 from ⟨HP.out.low, HC.out⟩)
            clear hn hg
            refine hK.out _ _ (fun _ _ => HD.out) ?_
            clear hK K
            try simp only [Act.put]
            refine anyU_one (i := 6) (by kernel_rfl) (by simp only [List.getElem?_toArray, List.getElem?_cons_succ, List.getElem?_cons_zero]; exact rfl) (fun K hK => ?_)
            rw [if_pos (by rfl)]
            refine wp_store_at rfl hb8 rfl rfl HP.out.a rfl ?_
            intro wq hn hg
            replace HP := hide (HP.out.puta hn hg)
            clear hn hg
            refine hK.out _ _ (fun e _ => absurd rfl e) ?_
            clear hK K
            try simp only [Act.put]
            refine anyU_done (by kernel_rfl) ?_
            refine NoPanic.normal ?_
            try simp only [Act.put]
            go_wp2
            exact bodyPost_ret (results_prep Try.results28 rfl rfl HP.out.c rfl HP.out.a hb8) rfl ⟨by rw [← HPL.out]; rfl, HP.out.low⟩
          · replace HPL := hide (show ((2 : Int), f0.c, f0.a) = P from HPL.out)
            go_upto_region 14 with (first
                | (go_at_call 44; go_loud ((with_reducible refine (HFA.out _ (HL.out.below HP.out.low)).mono ?_); rintro e7 w5 ⟨rfl, hb⟩; replace HP := hide (HP.out.kept hb); replace HC := hide (HC.out.kept hb); clear hb))
                | ((with_reducible refine wpList_store_new (vs := clC f0) ?_ ?_ (cl_all _) ?_ ?_ ?_); (rw [clC_size hf8]; exact ce_info); (rw [clC_size hf8]; rfl); (first | rfl | (simp; done)); rfl))
            clear HC HG
            try dsimp only [Act.put]
            have HC := hide (CeAt.new hf8 w5 34)
            have HG := hide (show w.heap.size + 1 < w5.heap.size from HP.out.a.lt)
            replace HP := hide (HP.out.kept (kept_alloc (kept_refl _) (.cells (clC f0) 34)))
            generalize w5.alloc (.cells (clC f0) 34) = w5a at HP HC ⊢
            generalize w5.heap.size = g5 at HC HG ⊢
            refine wp_region_noPanic ?_
            refine wp_region_U 6 (fun wz => Below w.heap.size w wz ∧ CeAt wz (g5) 34 f0) (by kernel_rfl) ?_
            replace HP := hide HP.out.drew
            replace HC := hide HC.out.drew
            generalize World.drew _ = wd at HP HC ⊢
            have HD := hide (show Below w.heap.size w wd ∧ CeAt wd (g5) 34 f0 from ⟨HP.out.low, HC.out⟩)
            refine anyU_take2 (i := 0) (v := .pointer (some ⟨g5, 5, none⟩)) (by simp only [List.getElem?_toArray, List.getElem?_cons_zero]; exact rfl) (by kernel_rfl) 12 (by kernel_rfl) (by kernel_rfl) (fun _ _ _ h => h) (by kernel_rfl) (by kernel_rfl) (by kernel_rfl) (by kernel_rfl) (Or.inl ⟨by rfl, fun w hSw => (by go_simp; try with_reducible rfl)⟩) (by with_reducible exact HD.out) ?_
            try simp only [Act.put, List.setIfInBounds_toArray, List.set_cons_zero, List.set_cons_succ]
            refine anyU_take2 (i := 1) (v := .agg (rowC f0.c)) (by simp only [List.getElem?_toArray, List.getElem?_cons_succ, List.getElem?_cons_zero]; exact rfl) (by kernel_rfl) 12 (by kernel_rfl) (by kernel_rfl) (fun _ _ _ h => h) (by kernel_rfl) (by kernel_rfl) (by kernel_rfl) (by kernel_rfl) (Or.inl ⟨by rfl, fun w hSw => exec_load_gp (cs := f0.c.l) rfl rfl hSw.2.c cm_under rfl cm_info⟩) (by with_reducible exact HD.out) ?_
            try simp only [Act.put, List.setIfInBounds_toArray, List.set_cons_zero, List.set_cons_succ]
            refine anyU_take2 (i := 2) (v := .pointer (some ⟨g5, 12, none⟩)) (by simp only [List.getElem?_toArray, List.getElem?_cons_succ, List.getElem?_cons_zero]; exact rfl) (by kernel_rfl) 12 (by kernel_rfl) (by kernel_rfl) (fun _ _ _ h => h) (by kernel_rfl) (by kernel_rfl) (by kernel_rfl) (by kernel_rfl) (Or.inl ⟨by rfl, fun w hSw => (by go_simp; try with_reducible rfl)⟩) (by with_reducible exact HD.out) ?_
            try simp only [Act.put, List.setIfInBounds_toArray, List.set_cons_zero, List.set_cons_succ]
            refine anyU_take2 (i := 3) (v := .agg (cA f0.a)) (by simp only [List.getElem?_toArray, List.getElem?_cons_succ, List.getElem?_cons_zero]; exact rfl) (by kernel_rfl) 12 (by kernel_rfl) (by kernel_rfl) (fun _ _ _ h => h) (by kernel_rfl) (by kernel_rfl) (by kernel_rfl) (by kernel_rfl) (Or.inl ⟨by rfl, fun w hSw => exec_load_gp rfl rfl hSw.2.a at_under rfl (at_sz hf8)⟩) (by with_reducible exact HD.out) ?_
            try simp only [Act.put, List.setIfInBounds_toArray, List.set_cons_zero, List.set_cons_succ]
            refine anyU_take2 (i := 4) (v := .int .i64 2) (by simp only [List.getElem?_toArray, List.getElem?_cons_succ, List.getElem?_cons_zero]; exact rfl) (by kernel_rfl) 12 (by kernel_rfl) (by kernel_rfl) (fun _ _ _ h => h) (by kernel_rfl) (by kernel_rfl) (by kernel_rfl) (by kernel_rfl) (Or.inl ⟨by rfl, fun w hSw => (by go_simp; try with_reducible rfl)⟩) (by with_reducible exact HD.out) ?_
            try simp only [Act.put, List.setIfInBounds_toArray, List.set_cons_zero, List.set_cons_succ]
            refine anyU_one (i := 5) (by kernel_rfl) (by simp only [List.getElem?_toArray, List.getElem?_cons_succ, List.getElem?_cons_zero]; exact rfl) (fun K hK => ?_)
            rw [if_pos (by rfl)]
            refine wp_store_cm rfl rfl rfl HP.out.c ?_
            intro wp hn hg
            replace HC := hide (HC.out.other hg (by have := HG.out; omega))
            replace HP := hide (HP.out.putc hn hg)
            replace HD := hide (show Below w.heap.size w wp ∧ CeAt wp (g5) 34 f0 from ⟨HP.out.low, HC.out⟩)
            clear hn hg
            refine hK.out _ _ (fun _ _ => HD.out) ?_
            clear hK K
            try simp only [Act.put]
            refine anyU_one (i := 6) (by kernel_rfl) (by simp only [List.getElem?_toArray, List.getElem?_cons_succ, List.getElem?_cons_zero]; exact rfl) (fun K hK => ?_)
            rw [if_pos (by rfl)]
            refine wp_store_at rfl hf8 rfl rfl HP.out.a rfl ?_
            intro wq hn hg
            replace HP := hide (HP.out.puta hn hg)
            clear hn hg
            refine hK.out _ _ (fun e _ => absurd rfl e) ?_
            clear hK K
            try simp only [Act.put]
            refine anyU_done (by kernel_rfl) ?_
            refine NoPanic.normal ?_
            try simp only [Act.put]
            go_wp2
            exact bodyPost_ret (results_prep Try.results28 rfl rfl HP.out.c rfl HP.out.a hf8) rfl ⟨by rw [← HPL.out]; rfl, HP.out.low⟩
end Go.Proofs.Ytjkdccokiaejhaa
/- The chapter's runs. No condition. -/
namespace Go.Proofs.Ytjkdccokiaejhaa
set_option maxRecDepth 100000
open Go.RowKit
/-- Attributes with a Seq alone. -/
def attrS (s : Int) : List Int := [s, 0, 0, 0, 0, 0, 0, 0]
theorem attrS_len (s : Int) : (attrS s).length = 8 := rfl
theorem attr_any (s : Int) (w : World) : Calls Try.prog 12 #[.int .i64 s] w fun e w' => e = .returned (.agg (cA (attrS s))) ∧ Below w.heap.size w w' := by
  have hf : ∀ w : World, (Instr.build 26 #[(0, .int .i64 s)]).run Try.prog w = .ok (.agg (cA (attrS s))) w := fun w => by kernel_rfl
  go_enter Try.func12, Try.ntmps12
  go_wp2_with (first
    | ((with_reducible refine wpList_store_new (vs := cA (attrS s)) ?_ ?_ (cA_all _) ?_ ?_ ?_); (rw [cA_size (attrS_len s)]; exact at_info); (rw [cA_size (attrS_len s)]; rfl); (first | rfl | (simp; done)); rfl))
  refine bodyPost_ret (results_at8 Try.results12 rfl (Row.new w 26 (cA (attrS s)))) rfl ⟨rfl, kept_alloc (kept_refl w) _⟩
section
variable {op : Oper} {ops : Array Oper} {rest : List Oper} {d : Option Tmp} {ty : TypeId} {ps : String} {af : Array Edge} {gd : Option (Nat × Bool)} {a : Act} {w : World} {K : Act → World → Prop} {Q : Exit → Act → World → Prop} {b : Nat} {x u v z : Operand} {t : TypeId}
theorem wp_store_sd {y e : Int × Cl} (ho : op.op = .store 36 x u) (wy : y.2.a.length = 8) (we : e.2.a.length = 8) (hx : a.eval x = .pointer (some ⟨b, 0, none⟩)) (hy : a.eval u = .agg (sdA y)) (R : Row w b t (sdA e)) (h : ∀ w', Row w' b t (sdA y) → w.grownBy w' (some b) → K (a.put op.dst undef) w') : op.wp Try.prog a w K Q := by
  have e1 : (sdl y).length = (sdl e).length := by rw [sdl_len wy, sdl_len we]
  have hth := Row.all_there (ys := sdl e) R
  rw [← e1] at hth
  refine wp_store_mid 36 x u ho b 0 (sdA y) hx hy (by rw [sdA_size wy]; rw [sdl_len wy] at hth; exact hth) (by rw [sdA_size wy]; exact said_info) (sdA_all y) ?_
  exact h _ (Row.all_put (ys := sdl e) (vs := sdl y) R e1) (grown_setCells b (sdl y) 0 w)
theorem wpList_store_sd {y e : Int × Cl} (wy : y.2.a.length = 8) (we : e.2.a.length = 8) (hx : a.eval x = .pointer (some ⟨b, 0, none⟩)) (hy : a.eval u = .agg (sdA y)) (R : Row w b t (sdA e)) (h : ∀ w', Row w' b t (sdA y) → w.grownBy w' (some b) → wpList Try.prog ops Q rest (a.put d undef) w') :
    wpList Try.prog ops Q ({ dst := d, op := .store 36 x u, type := ty, pos := ps, after := af, guard := none } :: rest) a w :=
  wpList_plain rfl fun _ hK => wp_store_sd rfl wy we hx hy R fun w' h1 h2 => hK _ _ (h w' h1 h2)
/-- A literal row of attributes. -/
def rowA (zs : List (List Int)) : Obj := .cells (cellsV (atV zs)).toArray 26
theorem lit_a1 (p : Int) (w : World) : (Instr.buildSlice 45 1 #[(0, .agg (cA (attrS p)))]).run Try.prog w = .ok (.slice (some ⟨w.heap.size, 0, none⟩) 1 1) (w.alloc (rowA [attrS p])) := by kernel_rfl
theorem lit_a2 (p q : Int) (w : World) : (Instr.buildSlice 45 2 #[(0, .agg (cA (attrS p))), (1, .agg (cA (attrS q)))]).run Try.prog w = .ok (.slice (some ⟨w.heap.size, 0, none⟩) 2 2) (w.alloc (rowA [attrS p, attrS q])) := by kernel_rfl
theorem lit_a3 (p q r : Int) (w : World) : (Instr.buildSlice 45 3 #[(0, .agg (cA (attrS p))), (1, .agg (cA (attrS q))), (2, .agg (cA (attrS r)))]).run Try.prog w = .ok (.slice (some ⟨w.heap.size, 0, none⟩) 3 3) (w.alloc (rowA [attrS p, attrS q, attrS r])) := by kernel_rfl
theorem wpList_lit_a1 {p : Int} (hw : Region.wanted ({ dst := d, op := .buildSlice 45 1 #[(0, u)], type := ty, pos := ps, after := af, guard := gd } : Oper) (yielded ops a.tmps) = true) (hu : a.eval u = .agg (cA (attrS p))) (h : wpList Try.prog ops Q rest (a.put d (.slice (some ⟨w.heap.size, 0, none⟩) 1 1)) (w.alloc (rowA [attrS p]))) :
    wpList Try.prog ops Q ({ dst := d, op := .buildSlice 45 1 #[(0, u)], type := ty, pos := ps, after := af, guard := gd } :: rest) a w :=
  wpList_step fun K hK => by
    rw [if_pos hw]
    unfold Oper.wp execOp
    simp only [List.map_toArray, List.map_cons, List.map_nil, hu, Sem.run_bind, Sem.run_pure, Result.andThen_ok, lit_a1 p w]
    exact hK _ _ h
theorem wpList_lit_a2 {p q : Int} (hw : Region.wanted ({ dst := d, op := .buildSlice 45 2 #[(0, u), (1, v)], type := ty, pos := ps, after := af, guard := gd } : Oper) (yielded ops a.tmps) = true) (hu : a.eval u = .agg (cA (attrS p))) (hv : a.eval v = .agg (cA (attrS q))) (h : wpList Try.prog ops Q rest (a.put d (.slice (some ⟨w.heap.size, 0, none⟩) 2 2)) (w.alloc (rowA [attrS p, attrS q]))) :
    wpList Try.prog ops Q ({ dst := d, op := .buildSlice 45 2 #[(0, u), (1, v)], type := ty, pos := ps, after := af, guard := gd } :: rest) a w :=
  wpList_step fun K hK => by
    rw [if_pos hw]
    unfold Oper.wp execOp
    simp only [List.map_toArray, List.map_cons, List.map_nil, hu, hv, Sem.run_bind, Sem.run_pure, Result.andThen_ok, lit_a2 p q w]
    exact hK _ _ h
theorem wpList_lit_a3 {p q r : Int} (hw : Region.wanted ({ dst := d, op := .buildSlice 45 3 #[(0, u), (1, v), (2, z)], type := ty, pos := ps, after := af, guard := gd } : Oper) (yielded ops a.tmps) = true) (hu : a.eval u = .agg (cA (attrS p))) (hv : a.eval v = .agg (cA (attrS q))) (hz : a.eval z = .agg (cA (attrS r))) (h : wpList Try.prog ops Q rest (a.put d (.slice (some ⟨w.heap.size, 0, none⟩) 3 3)) (w.alloc (rowA [attrS p, attrS q, attrS r]))) :
    wpList Try.prog ops Q ({ dst := d, op := .buildSlice 45 3 #[(0, u), (1, v), (2, z)], type := ty, pos := ps, after := af, guard := gd } :: rest) a w :=
  wpList_step fun K hK => by
    rw [if_pos hw]
    unfold Oper.wp execOp
    simp only [List.map_toArray, List.map_cons, List.map_nil, hu, hv, hz, Sem.run_bind, Sem.run_pure, Result.andThen_ok, lit_a3 p q r w]
    exact hK _ _ h
/-- What one said, in short; a literal row of two. -/
def sdS (r st s : Int) (b : Bool) : Int × Cl := (r, ⟨st, (0, 0), (0, 0), zeroC, attrS s, b⟩)
def rowS (l : List (Int × Cl)) : Obj := .cells (cellsV (l.map sdl)).toArray 36
theorem lit_s2 (r st s r' st' s' : Int) (b b' : Bool) (w : World) : (Instr.buildSlice 51 2 #[(0, .agg (sdA (sdS r st s b))), (1, .agg (sdA (sdS r' st' s' b')))]).run Try.prog w = .ok (.slice (some ⟨w.heap.size, 0, none⟩) 2 2) (w.alloc (rowS [sdS r st s b, sdS r' st' s' b'])) := by kernel_rfl
theorem wpList_lit_s2 {r st s r' st' s' : Int} {b1 b2 : Bool} (hw : Region.wanted ({ dst := d, op := .buildSlice 51 2 #[(0, u), (1, v)], type := ty, pos := ps, after := af, guard := gd } : Oper) (yielded ops a.tmps) = true) (hu : a.eval u = .agg (sdA (sdS r st s b1))) (hv : a.eval v = .agg (sdA (sdS r' st' s' b2))) (h : wpList Try.prog ops Q rest (a.put d (.slice (some ⟨w.heap.size, 0, none⟩) 2 2)) (w.alloc (rowS [sdS r st s b1, sdS r' st' s' b2]))) :
    wpList Try.prog ops Q ({ dst := d, op := .buildSlice 51 2 #[(0, u), (1, v)], type := ty, pos := ps, after := af, guard := gd } :: rest) a w :=
  wpList_step fun K hK => by
    rw [if_pos hw]
    unfold Oper.wp execOp
    simp only [List.map_toArray, List.map_cons, List.map_nil, hu, hv, Sem.run_bind, Sem.run_pure, Result.andThen_ok, lit_s2 r st s r' st' s' b1 b2 w]
    exact hK _ _ h
end
theorem results_sd {fn : Func} {tmps : Array Value} {w : World} {b g : Nat} {t : TypeId} {e : Int × Cl} (hf : fn.results = #[.cell b 36]) (hb : tmps[b]? = some (.pointer (some ⟨g, 0, none⟩))) (R : Row w g t (sdA e)) (h8 : e.2.a.length = 8) :
    (results fn tmps).run Try.prog w = .ok (.agg (sdA e)) w := by
  have h2 := run_loadVar_row w g t 36 (sdA e) _ _ R said_under rfl (by rw [sdA_size h8]; exact said_info)
  simp only [results, hf]
  simp [asAddr, hb, h2]
theorem fill_2 {P : Program} {ops : Array Oper} {rest : List Oper} {d : Option Tmp} {ty T : TypeId} {ps : String} {af : Array Edge} {a : Act} {w : World} {Q : Exit → Act → World → Prop} {i0 i1 : Nat} {x0 x1 : Operand} {u0 u1 v : Value}
    (h0 : a.eval x0 = u0) (h1 : a.eval x1 = u1) (hf : (Instr.build T #[(i0, u0), (i1, u1)]).run P w = .ok v w) (h : wpList P ops Q rest (a.put d v) w) :
    wpList P ops Q ({ dst := d, op := .build T #[(i0, x0), (i1, x1)], type := ty, pos := ps, after := af, guard := none } :: rest) a w :=
  wpList_plain rfl fun K hK => by
    unfold Oper.wp execOp
    simp only [List.map_toArray, List.map_cons, List.map_nil, h0, h1, Sem.run_bind, hf, Result.andThen_ok, Sem.run_pure]
    exact hK _ _ h
theorem fill_3 {P : Program} {ops : Array Oper} {rest : List Oper} {d : Option Tmp} {ty T : TypeId} {ps : String} {af : Array Edge} {a : Act} {w : World} {Q : Exit → Act → World → Prop} {i0 i1 i2 : Nat} {x0 x1 x2 : Operand} {u0 u1 u2 v : Value}
    (h0 : a.eval x0 = u0) (h1 : a.eval x1 = u1) (h2 : a.eval x2 = u2) (hf : (Instr.build T #[(i0, u0), (i1, u1), (i2, u2)]).run P w = .ok v w) (h : wpList P ops Q rest (a.put d v) w) :
    wpList P ops Q ({ dst := d, op := .build T #[(i0, x0), (i1, x1), (i2, x2)], type := ty, pos := ps, after := af, guard := none } :: rest) a w :=
  wpList_plain rfl fun K hK => by
    unfold Oper.wp execOp
    simp only [List.map_toArray, List.map_cons, List.map_nil, h0, h1, h2, Sem.run_bind, hf, Result.andThen_ok, Sem.run_pure]
    exact hK _ _ h
set_option maxHeartbeats 2000000 in
theorem said_any (r st s : Int) (b : Bool) (w : World) : Calls Try.prog 14 #[.int .i64 r, .int .i64 st, .int .i64 s, .bool b] w fun e w' => e = .returned (.agg (sdA (sdS r st s b))) ∧ Below w.heap.size w w' := by
  have h8s : (sdS r st s b).2.a.length = 8 := rfl
  have h8z : ((0, zeroCl) : Int × Cl).2.a.length = 8 := rfl
  have h1 : ∀ w : World, (Instr.build 34 #[(0, .int .i64 st), (4, .agg (cA (attrS s))), (5, .bool b)]).run Try.prog w = .ok (.agg (clC (sdS r st s b).2)) w := fun w => by kernel_rfl
  have h2 : ∀ w : World, (Instr.build 36 #[(0, .int .i64 r), (1, .agg (clC (sdS r st s b).2))]).run Try.prog w = .ok (.agg (sdA (sdS r st s b))) w := fun w => by kernel_rfl
  have HA := hide (fun w => attr_any s w)
  obtain ⟨E, hE⟩ : ∃ E, sdS r st s b = E := ⟨_, rfl⟩
  rw [hE] at h1 h2 h8s ⊢
  clear hE
  generalize attrS s = x at HA h1
  obtain ⟨er, ec⟩ := E
  dsimp only at h1 h2 h8s
  have hz : (#[.int .i64 0, .int .i64 0, .int .i64 0, .int .i64 0, .int .i64 0, .int .i64 0, .int .i64 0, .int .i64 0, .int .i64 0, .string ⟨#[]⟩, .string ⟨#[]⟩, .string ⟨#[]⟩, .string ⟨#[]⟩, .int .i64 0, .int .i64 0, .int .i64 0, .int .i64 0, .int .i64 0, .int .i64 0, .int .i64 0, .int .i64 0, .bool false] : Array Value) = sdA (0, zeroCl) := by kernel_rfl
  have HP0 := hide (show Row (w.alloc (.cells #[.int .i64 0, .int .i64 0, .int .i64 0, .int .i64 0, .int .i64 0, .int .i64 0, .int .i64 0, .int .i64 0, .int .i64 0, .string ⟨#[]⟩, .string ⟨#[]⟩, .string ⟨#[]⟩, .string ⟨#[]⟩, .int .i64 0, .int .i64 0, .int .i64 0, .int .i64 0, .int .i64 0, .int .i64 0, .int .i64 0, .int .i64 0, .bool false] 36)) w.heap.size 36 (sdA (0, zeroCl)) from by rw [hz]; exact Row.new w _ _)
  clear hz
  have HB0 := hide (kept_alloc (kept_refl w) (.cells #[.int .i64 0, .int .i64 0, .int .i64 0, .int .i64 0, .int .i64 0, .int .i64 0, .int .i64 0, .int .i64 0, .int .i64 0, .string ⟨#[]⟩, .string ⟨#[]⟩, .string ⟨#[]⟩, .string ⟨#[]⟩, .int .i64 0, .int .i64 0, .int .i64 0, .int .i64 0, .int .i64 0, .int .i64 0, .int .i64 0, .int .i64 0, .bool false] 36))
  go_enter Try.func14, Try.ntmps14
  go_upto_region 1 with (fail)
  generalize w.alloc (.cells #[.int .i64 0, .int .i64 0, .int .i64 0, .int .i64 0, .int .i64 0, .int .i64 0, .int .i64 0, .int .i64 0, .int .i64 0, .string ⟨#[]⟩, .string ⟨#[]⟩, .string ⟨#[]⟩, .string ⟨#[]⟩, .int .i64 0, .int .i64 0, .int .i64 0, .int .i64 0, .int .i64 0, .int .i64 0, .int .i64 0, .int .i64 0, .bool false] 36) = w1 at HP0 HB0 ⊢
  go_wp2_with (first
    | (go_at_call 12; (with_reducible refine (HA.out _).mono ?_); rintro e5 w5 ⟨rfl, hb⟩; have HP := hide (HP0.out.below hb HP0.out.lt); have HB := hide (kept_trans HB0.out hb); clear hb)
    | ((with_reducible refine fill_3 (v := .agg (clC ec)) rfl rfl rfl ?_ ?_); exact h1 _)
    | ((with_reducible refine fill_2 (v := .agg (sdA (er, ec))) rfl rfl ?_ ?_); exact h2 _)
    | ((with_reducible refine wpList_store_sd (y := (er, ec)) (e := (0, zeroCl)) h8s h8z ?_ ?_ HP.out ?_); rfl; rfl; intro w6 hn hg; have HN := hide hn; replace HB := hide (below_own HB.out hg (Nat.le_refl _)); clear hn hg))
  exact bodyPost_ret (results_sd Try.results14 rfl HN.out h8s) rfl ⟨rfl, HB.out⟩
/-- What is behind an answer: attributes in a block. -/
structure Dq (W w : World) (g : Nat) (x : List Int) : Prop where
  low : Below W.heap.size W w
  a : Row w g 26 (cA x)
section
variable {W w w' : World} {g : Nat} {x : List Int}
theorem Dq.kept (h : Dq W w g x) (hb : Below w.heap.size w w') : Dq W w' g x := ⟨kept_trans h.low hb, h.a.below hb h.a.lt⟩
theorem Dq.drew (h : Dq W w g x) : Dq W w.drew g x := h.kept (kept_drewN (kept_refl w) 1)
end
theorem its_lit {zs : List (List Int)} (h : All 8 zs) (w : World) : Its 8 (w.alloc (rowA zs)) (some ⟨w.heap.size, 0, none⟩) zs := els_its (els_row (Row.new w 26 _) (atV_all h) rfl) h
theorem sds_lit {l : List (Int × Cl)} (h : ∀ e, e ∈ l → e.2.a.length = 8) (w : World) : Sds (w.alloc (rowS l)) (some ⟨w.heap.size, 0, none⟩) l := ⟨els_row (Row.new w 36 _) (sd_all h) rfl, h⟩
set_option maxHeartbeats 2000000 in
theorem lpre_any {n m : Nat} {want seq : Int} {late : Bool} {A : Option Addr} {zs : List (List Int)} {w : World} (hn : n ≤ 100) (hm : zs.length = m) (h1000 : m ≤ 1000) (a8 : All 8 zs) (hz : Its 8 w A zs) (hA : A = none → m = 0) (h : preL n true (attrS 1) zs late = (want, attrS seq)) :
    Calls Try.prog 11 #[.int .i64 (n : Nat), .int .i64 want, .int .i64 seq, .bool late, .slice A m m] w fun e w' => e = .returned (.bool true) ∧ Below w.heap.size w w' := by
  have HPE : Hid (∀ w' : World, Below w.heap.size w w' → Calls Try.prog 23 #[.int .i64 (n : Nat), .bool true, .agg (cA (attrS 1)), .slice A m m, .bool late] w' fun e w'' => e = .returned (.tuple #[.int .i64 want, .agg (cA (attrS seq))]) ∧ Below w'.heap.size w' w'') := hide (fun w' hb => by
    have h2 := pre_ok n true late (attrS 1) A m m zs w' hn rfl hm a8 (hz.below hb) h1000 (Nat.le_refl _) hA
    rw [h] at h2
    exact h2)
  have hE := fun w => eql_at (x := attrS seq) (y := attrS seq) rfl rfl w
  rw [decide_eq_true rfl] at hE
  clear hz h a8 hm hA
  go_enter Try.func11, Try.ntmps11
  go_upto_region 2 with (first
    | (go_at_call 12; (with_reducible refine (attr_any _ _).mono ?_); rintro e5 w5 ⟨rfl, hb⟩; have HB := hide hb; clear hb)
    | (go_at_call 23; go_loud ((with_reducible refine (HPE.out _ HB.out).mono ?_); rintro e6 w6 ⟨rfl, hb⟩; replace HB := hide (kept_trans HB.out hb); clear hb))
    | ((with_reducible refine wpList_store_new (vs := cA (attrS seq)) ?_ ?_ (cA_all _) ?_ ?_ ?_); (rw [cA_size (attrS_len seq)]; exact at_info); (rw [cA_size (attrS_len seq)]; rfl); (first | rfl | (simp; done)); rfl))
  try dsimp only [Act.put]
  have HP := hide (show Dq w (w6.alloc (.cells (cA (attrS seq)) 26)) w6.heap.size (attrS seq) from ⟨kept_alloc HB.out _, Row.new w6 _ _⟩)
  generalize w6.alloc (.cells (cA (attrS seq)) 26) = w7 at HP ⊢
  generalize w6.heap.size = g at HP ⊢
  clear HB HPE
  refine wp_region_noPanic ?_
  refine wp_region_U 9 (fun wz => Dq w wz g (attrS seq)) (by kernel_rfl) ?_
  have HD := hide HP.out.drew
  generalize World.drew _ = wd at HD ⊢
  refine anyU_take2 (i := 0) (v := .int .i64 want) (by simp only [List.getElem?_toArray, List.getElem?_cons_zero]; exact rfl) (by kernel_rfl) 12 (by kernel_rfl) (by kernel_rfl) (fun _ _ _ h => h) (by kernel_rfl) (by kernel_rfl) (by kernel_rfl) (by kernel_rfl) (Or.inl ⟨by rfl, fun w hSw => (by go_simp; try with_reducible rfl)⟩) (by with_reducible exact HD.out) ?_
  try simp only [Act.put, List.setIfInBounds_toArray, List.set_cons_zero, List.set_cons_succ]
  refine anyU_take2 (i := 1) (v := .int .i64 want) (by simp only [List.getElem?_toArray, List.getElem?_cons_succ, List.getElem?_cons_zero]; exact rfl) (by kernel_rfl) 12 (by kernel_rfl) (by kernel_rfl) (fun _ _ _ h => h) (by kernel_rfl) (by kernel_rfl) (by kernel_rfl) (by kernel_rfl) (Or.inl ⟨by rfl, fun w hSw => (by go_simp; try with_reducible rfl)⟩) (by with_reducible exact HD.out) ?_
  try simp only [Act.put, List.setIfInBounds_toArray, List.set_cons_zero, List.set_cons_succ]
  refine anyU_take2 (i := 2) (v := .bool true) (by simp only [List.getElem?_toArray, List.getElem?_cons_succ, List.getElem?_cons_zero]; exact rfl) (by kernel_rfl) 12 (by kernel_rfl) (by kernel_rfl) (fun _ _ _ h => h) (by kernel_rfl) (by kernel_rfl) (by kernel_rfl) (by kernel_rfl) (Or.inl ⟨by rfl, fun w hSw => (by go_simp; try with_reducible rfl)⟩) (by with_reducible exact HD.out) ?_
  try simp only [Act.put, List.setIfInBounds_toArray, List.set_cons_zero, List.set_cons_succ]
  refine anyU_take2 (i := 3) (v := .bool true) (by simp only [List.getElem?_toArray, List.getElem?_cons_succ, List.getElem?_cons_zero]; exact rfl) (by kernel_rfl) 12 (by kernel_rfl) (by kernel_rfl) (fun _ _ _ h => h) (by kernel_rfl) (by kernel_rfl) (by kernel_rfl) (by kernel_rfl) (Or.inl ⟨by rfl, fun w hSw => (by go_simp; try with_reducible rfl)⟩) (by with_reducible exact HD.out) ?_
  try simp only [Act.put, List.setIfInBounds_toArray, List.set_cons_zero, List.set_cons_succ]
  refine anyU_take2 (i := 4) (v := .agg (cA (attrS seq))) (by simp only [List.getElem?_toArray, List.getElem?_cons_succ, List.getElem?_cons_zero]; exact rfl) (by kernel_rfl) 12 (by kernel_rfl) (by kernel_rfl) (fun _ _ _ h => h) (by kernel_rfl) (by kernel_rfl) (by kernel_rfl) (by kernel_rfl) (Or.inl ⟨by rfl, fun w hSw => exec_load_gp rfl rfl (hSw.a.at8) at_under rfl (at_sz rfl)⟩) (by with_reducible exact HD.out) ?_
  try simp only [Act.put, List.setIfInBounds_toArray, List.set_cons_zero, List.set_cons_succ]
  refine anyU_take2 (i := 5) (v := .int .i64 seq) (by simp only [List.getElem?_toArray, List.getElem?_cons_succ, List.getElem?_cons_zero]; exact rfl) (by kernel_rfl) 12 (by kernel_rfl) (by kernel_rfl) (fun _ _ _ h => h) (by kernel_rfl) (by kernel_rfl) (by kernel_rfl) (by kernel_rfl) (Or.inl ⟨by rfl, fun w hSw => (by go_simp; try with_reducible rfl)⟩) (by with_reducible exact HD.out) ?_
  try simp only [Act.put, List.setIfInBounds_toArray, List.set_cons_zero, List.set_cons_succ]
  refine anyU_one (i := 6) (by kernel_rfl) (by simp only [List.getElem?_toArray, List.getElem?_cons_succ, List.getElem?_cons_zero]; exact rfl) (fun K hK => ?_)
  try go_simp
  refine (attr_any seq _).mono ?_
  rintro e5 w5 ⟨rfl, hb⟩
  replace HD := hide (HD.out.kept hb)
  clear hb
  refine hK.out _ _ (fun _ _ => HD.out) ?_
  clear hK K
  try simp only [Act.put, List.setIfInBounds_toArray, List.set_cons_zero, List.set_cons_succ]
  refine anyU_take2 (i := 7) (v := .bool true) (by simp only [List.getElem?_toArray, List.getElem?_cons_succ, List.getElem?_cons_zero]; exact rfl) (by kernel_rfl) 12 (by kernel_rfl) (by kernel_rfl) (fun _ _ _ h => h) (by kernel_rfl) (by kernel_rfl) (by kernel_rfl) (by kernel_rfl) (Or.inl ⟨by rfl, fun w hSw => (by go_simp; try with_reducible rfl)⟩) (by with_reducible exact HD.out) ?_
  try simp only [Act.put, List.setIfInBounds_toArray, List.set_cons_zero, List.set_cons_succ]
  refine anyU_take2 (i := 8) (v := .bool true) (by simp only [List.getElem?_toArray, List.getElem?_cons_succ, List.getElem?_cons_zero]; exact rfl) (by kernel_rfl) 12 (by kernel_rfl) (by kernel_rfl) (fun _ _ _ h => h) (by kernel_rfl) (by kernel_rfl) (by kernel_rfl) (by kernel_rfl) (Or.inl ⟨by rfl, fun w hSw => (by go_simp; try with_reducible rfl)⟩) (by with_reducible exact HD.out) ?_
  try simp only [Act.put, List.setIfInBounds_toArray, List.set_cons_zero, List.set_cons_succ]
  refine anyU_one (i := 9) (by kernel_rfl) (by simp only [List.getElem?_toArray, List.getElem?_cons_succ, List.getElem?_cons_zero]; exact rfl) (fun K hK => ?_)
  try go_simp
  refine hK.out _ _ (fun e _ => absurd rfl e) ?_
  clear hK K
  try simp only [Act.put]
  refine anyU_done (by kernel_rfl) ?_
  refine NoPanic.normal ?_
  try simp only [Act.put]
  clear hE
  go_wp2
  go_ret
  exact ⟨rfl, HD.out.low⟩
set_option maxHeartbeats 2000000 in
theorem lprep_any {m : Nat} {want seq : Int} {A : Option Addr} {l : List (Int × Cl)} {w : World} (hm : l.length = m) (h1000 : m ≤ 1000) (hl : Sds w A l) (hA : A = none → m = 0) (h : (prepL 3 0 l).1 = want ∧ (prepL 3 0 l).2.2 = attrS seq) :
    Calls Try.prog 13 #[.int .i64 want, .int .i64 seq, .slice A m m] w fun e w' => e = .returned (.bool true) ∧ Below w.heap.size w w' := by
  obtain ⟨h1, h3⟩ := h
  have hpp := prep_ok 3 0 A m m l w (by omega) (by omega) hm hl h1000 (Nat.le_refl _) hA
  rw [h1, h3] at hpp
  generalize (prepL 3 0 l).2.1 = cm at hpp
  have HPP := hide (show Calls Try.prog 28 #[.int .i64 3, .int .i64 0, .slice A m m] w fun e w' => e = .returned (.tuple #[.int .i64 want, .agg (rowC cm), .agg (cA (attrS seq))]) ∧ Below w.heap.size w w' from hpp)
  have hE := fun w => eql_at (x := attrS seq) (y := attrS seq) rfl rfl w
  rw [decide_eq_true rfl] at hE
  clear hpp hl h1 h3 hm hA
  go_enter Try.func13, Try.ntmps13
  go_upto_region 2 with (first
    | (go_at_call 28; go_loud ((with_reducible refine HPP.out.mono ?_); rintro e6 w6 ⟨rfl, hb⟩; have HB := hide hb; have HQ := hide (show Pq w6 ((w6.alloc (.cells #[.int .i64 0, .int .i64 0, .int .i64 0, .string ⟨#[]⟩, .string ⟨#[]⟩, .string ⟨#[]⟩, .string ⟨#[]⟩] 32)).alloc (.cells #[.int .i64 0, .int .i64 0, .int .i64 0, .int .i64 0, .int .i64 0, .int .i64 0, .int .i64 0, .int .i64 0] 26)) zeroC zero8 from Pq.start w6); clear hb))
    | ((with_reducible refine wpList_store_cm (y := cm) (z := zeroC) ?_ ?_ HQ.out.c ?_); rfl; rfl; intro w8 hn hg; replace HQ := hide (HQ.out.putc hn hg); clear hn hg)
    | ((with_reducible refine wpList_store_at (y := attrS seq) (z := zero8) (attrS_len seq) ?_ ?_ HQ.out.a rfl ?_); rfl; rfl; intro w9 hn hg; replace HQ := hide (HQ.out.puta hn hg); clear hn hg))
  try dsimp only [Act.put]
  have HP := hide (show Dq w w9 (w6.heap.size + 1) (attrS seq) from ⟨kept_trans HB.out HQ.out.low, HQ.out.a⟩)
  clear HB HPP HQ
  refine wp_region_noPanic ?_
  refine wp_region_U 9 (fun wz => Dq w wz (w6.heap.size + 1) (attrS seq)) (by kernel_rfl) ?_
  have HD := hide HP.out.drew
  generalize World.drew _ = wd at HD ⊢
  refine anyU_take2 (i := 0) (v := .int .i64 want) (by simp only [List.getElem?_toArray, List.getElem?_cons_zero]; exact rfl) (by kernel_rfl) 12 (by kernel_rfl) (by kernel_rfl) (fun _ _ _ h => h) (by kernel_rfl) (by kernel_rfl) (by kernel_rfl) (by kernel_rfl) (Or.inl ⟨by rfl, fun w hSw => (by go_simp; try with_reducible rfl)⟩) (by with_reducible exact HD.out) ?_
  try simp only [Act.put, List.setIfInBounds_toArray, List.set_cons_zero, List.set_cons_succ]
  refine anyU_take2 (i := 1) (v := .int .i64 want) (by simp only [List.getElem?_toArray, List.getElem?_cons_succ, List.getElem?_cons_zero]; exact rfl) (by kernel_rfl) 12 (by kernel_rfl) (by kernel_rfl) (fun _ _ _ h => h) (by kernel_rfl) (by kernel_rfl) (by kernel_rfl) (by kernel_rfl) (Or.inl ⟨by rfl, fun w hSw => (by go_simp; try with_reducible rfl)⟩) (by with_reducible exact HD.out) ?_
  try simp only [Act.put, List.setIfInBounds_toArray, List.set_cons_zero, List.set_cons_succ]
  refine anyU_take2 (i := 2) (v := .bool true) (by simp only [List.getElem?_toArray, List.getElem?_cons_succ, List.getElem?_cons_zero]; exact rfl) (by kernel_rfl) 12 (by kernel_rfl) (by kernel_rfl) (fun _ _ _ h => h) (by kernel_rfl) (by kernel_rfl) (by kernel_rfl) (by kernel_rfl) (Or.inl ⟨by rfl, fun w hSw => (by go_simp; try with_reducible rfl)⟩) (by with_reducible exact HD.out) ?_
  try simp only [Act.put, List.setIfInBounds_toArray, List.set_cons_zero, List.set_cons_succ]
  refine anyU_take2 (i := 3) (v := .bool true) (by simp only [List.getElem?_toArray, List.getElem?_cons_succ, List.getElem?_cons_zero]; exact rfl) (by kernel_rfl) 12 (by kernel_rfl) (by kernel_rfl) (fun _ _ _ h => h) (by kernel_rfl) (by kernel_rfl) (by kernel_rfl) (by kernel_rfl) (Or.inl ⟨by rfl, fun w hSw => (by go_simp; try with_reducible rfl)⟩) (by with_reducible exact HD.out) ?_
  try simp only [Act.put, List.setIfInBounds_toArray, List.set_cons_zero, List.set_cons_succ]
  refine anyU_take2 (i := 4) (v := .agg (cA (attrS seq))) (by simp only [List.getElem?_toArray, List.getElem?_cons_succ, List.getElem?_cons_zero]; exact rfl) (by kernel_rfl) 12 (by kernel_rfl) (by kernel_rfl) (fun _ _ _ h => h) (by kernel_rfl) (by kernel_rfl) (by kernel_rfl) (by kernel_rfl) (Or.inl ⟨by rfl, fun w hSw => exec_load_gp rfl rfl (hSw.a.at8) at_under rfl (at_sz rfl)⟩) (by with_reducible exact HD.out) ?_
  try simp only [Act.put, List.setIfInBounds_toArray, List.set_cons_zero, List.set_cons_succ]
  refine anyU_take2 (i := 5) (v := .int .i64 seq) (by simp only [List.getElem?_toArray, List.getElem?_cons_succ, List.getElem?_cons_zero]; exact rfl) (by kernel_rfl) 12 (by kernel_rfl) (by kernel_rfl) (fun _ _ _ h => h) (by kernel_rfl) (by kernel_rfl) (by kernel_rfl) (by kernel_rfl) (Or.inl ⟨by rfl, fun w hSw => (by go_simp; try with_reducible rfl)⟩) (by with_reducible exact HD.out) ?_
  try simp only [Act.put, List.setIfInBounds_toArray, List.set_cons_zero, List.set_cons_succ]
  refine anyU_one (i := 6) (by kernel_rfl) (by simp only [List.getElem?_toArray, List.getElem?_cons_succ, List.getElem?_cons_zero]; exact rfl) (fun K hK => ?_)
  try go_simp
  refine (attr_any seq _).mono ?_
  rintro e5 w5 ⟨rfl, hb⟩
  replace HD := hide (HD.out.kept hb)
  clear hb
  refine hK.out _ _ (fun _ _ => HD.out) ?_
  clear hK K
  try simp only [Act.put, List.setIfInBounds_toArray, List.set_cons_zero, List.set_cons_succ]
  refine anyU_take2 (i := 7) (v := .bool true) (by simp only [List.getElem?_toArray, List.getElem?_cons_succ, List.getElem?_cons_zero]; exact rfl) (by kernel_rfl) 12 (by kernel_rfl) (by kernel_rfl) (fun _ _ _ h => h) (by kernel_rfl) (by kernel_rfl) (by kernel_rfl) (by kernel_rfl) (Or.inl ⟨by rfl, fun w hSw => (by go_simp; try with_reducible rfl)⟩) (by with_reducible exact HD.out) ?_
  try simp only [Act.put, List.setIfInBounds_toArray, List.set_cons_zero, List.set_cons_succ]
  refine anyU_take2 (i := 8) (v := .bool true) (by simp only [List.getElem?_toArray, List.getElem?_cons_succ, List.getElem?_cons_zero]; exact rfl) (by kernel_rfl) 12 (by kernel_rfl) (by kernel_rfl) (fun _ _ _ h => h) (by kernel_rfl) (by kernel_rfl) (by kernel_rfl) (by kernel_rfl) (Or.inl ⟨by rfl, fun w hSw => (by go_simp; try with_reducible rfl)⟩) (by with_reducible exact HD.out) ?_
  try simp only [Act.put, List.setIfInBounds_toArray, List.set_cons_zero, List.set_cons_succ]
  refine anyU_one (i := 9) (by kernel_rfl) (by simp only [List.getElem?_toArray, List.getElem?_cons_succ, List.getElem?_cons_zero]; exact rfl) (fun K hK => ?_)
  try go_simp
  refine hK.out _ _ (fun e _ => absurd rfl e) ?_
  clear hK K
  try simp only [Act.put]
  refine anyU_done (by kernel_rfl) ?_
  refine NoPanic.normal ?_
  try simp only [Act.put]
  clear hE
  go_wp2
  go_ret
  exact ⟨rfl, HD.out.low⟩
end Go.Proofs.Ytjkdccokiaejhaa
/- QuorumRuns: the chapter's runs hold. No condition. -/
namespace Go.Proofs.Ytjkdccokiaejhaa
set_option maxRecDepth 100000
open Go.RowKit
set_option maxHeartbeats 8000000 in
theorem runs_ok : RunsOk := by
  intro W
  have L1 := hide (fun w : World => show Calls Try.prog 11 #[.int .i64 3, .int .i64 1, .int .i64 1, .bool false, .slice (some ⟨w.heap.size, 0, none⟩) 1 1] (w.alloc (rowA [attrS 1])) (fun e w' => e = .returned (.bool true) ∧ Below (w.alloc (rowA [attrS 1])).heap.size (w.alloc (rowA [attrS 1])) w') from
    lpre_any (n := 3) (by omega) rfl (by omega) (fun x hx => by simp only [List.mem_cons, List.not_mem_nil, or_false] at hx; (repeat' (rcases hx with rfl | hx)) <;> first | rfl | (subst hx; rfl)) (its_lit (fun x hx => by simp only [List.mem_cons, List.not_mem_nil, or_false] at hx; (repeat' (rcases hx with rfl | hx)) <;> first | rfl | (subst hx; rfl)) w) (fun h => by cases h) (by kernel_rfl))
  have L2 := hide (fun w : World => show Calls Try.prog 11 #[.int .i64 5, .int .i64 0, .int .i64 0, .bool false, .slice (some ⟨w.heap.size, 0, none⟩) 2 2] (w.alloc (rowA [attrS 1, attrS 1])) (fun e w' => e = .returned (.bool true) ∧ Below (w.alloc (rowA [attrS 1, attrS 1])).heap.size (w.alloc (rowA [attrS 1, attrS 1])) w') from
    lpre_any (n := 5) (by omega) rfl (by omega) (fun x hx => by simp only [List.mem_cons, List.not_mem_nil, or_false] at hx; (repeat' (rcases hx with rfl | hx)) <;> first | rfl | (subst hx; rfl)) (its_lit (fun x hx => by simp only [List.mem_cons, List.not_mem_nil, or_false] at hx; (repeat' (rcases hx with rfl | hx)) <;> first | rfl | (subst hx; rfl)) w) (fun h => by cases h) (by kernel_rfl))
  have L3 := hide (fun w : World => show Calls Try.prog 11 #[.int .i64 5, .int .i64 2, .int .i64 2, .bool false, .slice (some ⟨w.heap.size, 0, none⟩) 3 3] (w.alloc (rowA [attrS 1, attrS 2, attrS 2])) (fun e w' => e = .returned (.bool true) ∧ Below (w.alloc (rowA [attrS 1, attrS 2, attrS 2])).heap.size (w.alloc (rowA [attrS 1, attrS 2, attrS 2])) w') from
    lpre_any (n := 5) (by omega) rfl (by omega) (fun x hx => by simp only [List.mem_cons, List.not_mem_nil, or_false] at hx; (repeat' (rcases hx with rfl | hx)) <;> first | rfl | (subst hx; rfl)) (its_lit (fun x hx => by simp only [List.mem_cons, List.not_mem_nil, or_false] at hx; (repeat' (rcases hx with rfl | hx)) <;> first | rfl | (subst hx; rfl)) w) (fun h => by cases h) (by kernel_rfl))
  have L4 := hide (fun w : World => show Calls Try.prog 11 #[.int .i64 5, .int .i64 2, .int .i64 1, .bool true, .slice (some ⟨w.heap.size, 0, none⟩) 2 2] (w.alloc (rowA [attrS 1, attrS 1])) (fun e w' => e = .returned (.bool true) ∧ Below (w.alloc (rowA [attrS 1, attrS 1])).heap.size (w.alloc (rowA [attrS 1, attrS 1])) w') from
    lpre_any (n := 5) (by omega) rfl (by omega) (fun x hx => by simp only [List.mem_cons, List.not_mem_nil, or_false] at hx; (repeat' (rcases hx with rfl | hx)) <;> first | rfl | (subst hx; rfl)) (its_lit (fun x hx => by simp only [List.mem_cons, List.not_mem_nil, or_false] at hx; (repeat' (rcases hx with rfl | hx)) <;> first | rfl | (subst hx; rfl)) w) (fun h => by cases h) (by kernel_rfl))
  have M1 := hide (fun w : World => show Calls Try.prog 13 #[.int .i64 4, .int .i64 0, .slice (some ⟨w.heap.size, 0, none⟩) 2 2] (w.alloc (rowS [sdS 1 0 0 false, sdS 2 0 0 false])) (fun e w' => e = .returned (.bool true) ∧ Below (w.alloc (rowS [sdS 1 0 0 false, sdS 2 0 0 false])).heap.size (w.alloc (rowS [sdS 1 0 0 false, sdS 2 0 0 false])) w') from
    lprep_any rfl (by omega) (sds_lit (fun x hx => by simp only [List.mem_cons, List.not_mem_nil, or_false] at hx; rcases hx with rfl | rfl <;> rfl) w) (fun h => by cases h) ⟨by kernel_rfl, by kernel_rfl⟩)
  have M2 := hide (fun w : World => show Calls Try.prog 13 #[.int .i64 2, .int .i64 1, .slice (some ⟨w.heap.size, 0, none⟩) 2 2] (w.alloc (rowS [sdS 1 1 1 true, sdS 2 1 2 false])) (fun e w' => e = .returned (.bool true) ∧ Below (w.alloc (rowS [sdS 1 1 1 true, sdS 2 1 2 false])).heap.size (w.alloc (rowS [sdS 1 1 1 true, sdS 2 1 2 false])) w') from
    lprep_any rfl (by omega) (sds_lit (fun x hx => by simp only [List.mem_cons, List.not_mem_nil, or_false] at hx; rcases hx with rfl | rfl <;> rfl) w) (fun h => by cases h) ⟨by kernel_rfl, by kernel_rfl⟩)
  have M3 := hide (fun w : World => show Calls Try.prog 13 #[.int .i64 3, .int .i64 1, .slice (some ⟨w.heap.size, 0, none⟩) 2 2] (w.alloc (rowS [sdS 0 1 1 true, sdS 1 1 1 true])) (fun e w' => e = .returned (.bool true) ∧ Below (w.alloc (rowS [sdS 0 1 1 true, sdS 1 1 1 true])).heap.size (w.alloc (rowS [sdS 0 1 1 true, sdS 1 1 1 true])) w') from
    lprep_any rfl (by omega) (sds_lit (fun x hx => by simp only [List.mem_cons, List.not_mem_nil, or_false] at hx; rcases hx with rfl | rfl <;> rfl) w) (fun h => by cases h) ⟨by kernel_rfl, by kernel_rfl⟩)
  have HB := hide (kept_refl W)
  go_enter Try.func3, Try.ntmps3
  go_wp2_with (first
    | (go_at_call 12; (with_reducible refine (attr_any _ _).mono ?_); rintro e5 w5 ⟨rfl, hb⟩; replace HB := hide (kept_trans HB.out hb); clear hb)
    | (go_at_call 14; (with_reducible refine (said_any _ _ _ _ _).mono ?_); rintro e5 w5 ⟨rfl, hb⟩; replace HB := hide (kept_trans HB.out hb); clear hb)
    | ((with_reducible refine wpList_lit_a1 (p := 1) ?_ ?_ ?_); rfl; rfl; try dsimp only [Act.put])
    | ((with_reducible refine wpList_lit_a2 (p := 1) (q := 1) ?_ ?_ ?_ ?_); rfl; rfl; rfl; try dsimp only [Act.put])
    | ((with_reducible refine wpList_lit_a3 (p := 1) (q := 2) (r := 2) ?_ ?_ ?_ ?_ ?_); rfl; rfl; rfl; rfl; try dsimp only [Act.put])
    | ((with_reducible refine wpList_lit_s2 (r := 1) (st := 0) (s := 0) (b1 := false) (r' := 2) (st' := 0) (s' := 0) (b2 := false) ?_ ?_ ?_ ?_); rfl; rfl; rfl; try dsimp only [Act.put])
    | ((with_reducible refine wpList_lit_s2 (r := 1) (st := 1) (s := 1) (b1 := true) (r' := 2) (st' := 1) (s' := 2) (b2 := false) ?_ ?_ ?_ ?_); rfl; rfl; rfl; try dsimp only [Act.put])
    | ((with_reducible refine wpList_lit_s2 (r := 0) (st := 1) (s := 1) (b1 := true) (r' := 1) (st' := 1) (s' := 1) (b2 := true) ?_ ?_ ?_ ?_); rfl; rfl; rfl; try dsimp only [Act.put])
    | (go_at_call 11; (first | (with_reducible refine (L1.out _).mono ?_) | (with_reducible refine (L2.out _).mono ?_) | (with_reducible refine (L3.out _).mono ?_) | (with_reducible refine (L4.out _).mono ?_)); rintro e5 w5 ⟨rfl, hb⟩; replace HB := hide (kept_trans (kept_alloc HB.out _) hb); clear hb)
    | (go_at_call 13; (first | (with_reducible refine (M1.out _).mono ?_) | (with_reducible refine (M2.out _).mono ?_) | (with_reducible refine (M3.out _).mono ?_)); rintro e5 w5 ⟨rfl, hb⟩; replace HB := hide (kept_trans (kept_alloc HB.out _) hb); clear hb))
  go_ret
  exact ⟨rfl, HB.out⟩
end Go.Proofs.Ytjkdccokiaejhaa
