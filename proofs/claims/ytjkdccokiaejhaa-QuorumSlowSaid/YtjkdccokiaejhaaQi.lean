/- The document's Pre. Conditions: the replies lie in memory, all attributes are eight numbers. -/
import Derived.Test.YtjkdccokiaejhaaQh
import Derived.LoopTactic
import Derived.Test.YtjkdccokiaejhaaQd
import Derived.Test.YtjkdccokiaejhaaQa
import Derived.Test.YtjkdccokiaejhaaQc
namespace Go.Proofs.Ytjkdccokiaejhaa
set_option maxRecDepth 100000
open Go.RowKit
/-- While it goes on: own, the answer. -/
structure Prz (W w : World) (own : List Int) : Prop where
  low : Below W.heap.size W w
  o : Row w W.heap.size 26 (cA own)
  r : Row w (W.heap.size + 1) 26 (cA zero8)
/-- .. and what is joined. -/
structure Prd (W w : World) (ga : Nat) (own y : List Int) : Prop where
  z : Prz W w own
  a : Row w ga 26 (cA y)
  l : W.heap.size + 1 < ga
section
variable {W w w' : World} {own y z : List Int} {ga : Nat}
theorem Prz.kept (h : Prz W w own) (hb : Below w.heap.size w w') : Prz W w' own := ⟨kept_trans h.low hb, h.o.below hb h.o.lt, h.r.below hb h.r.lt⟩
theorem Prz.start (w : World) (own : List Int) : Prz w ((w.alloc (.cells (cA own) 26)).alloc (.cells (cA zero8) 26)) own :=
  ⟨kept_alloc (kept_alloc (kept_refl w) _) _, (Row.new w _ _).alloc _, by have h := Row.new (w.alloc (.cells (cA own) 26)) 26 (cA zero8); rw [show (w.alloc (.cells (cA own) 26)).heap.size = w.heap.size + 1 by simp] at h; exact h⟩
theorem Prd.kept (h : Prd W w ga own y) (hb : Below w.heap.size w w') : Prd W w' ga own y := ⟨h.z.kept hb, h.a.below hb h.a.lt, h.l⟩
theorem Prd.drew (h : Prd W w ga own y) : Prd W w.drew ga own y := h.kept (kept_drewN (kept_refl w) 1)
theorem Prd.start (h : Prz W w own) : Prd W (w.alloc (.cells (cA zero8) 26)) w.heap.size own zero8 := ⟨h.kept (kept_alloc (kept_refl w) _), Row.new w _ _, h.r.lt⟩
theorem Prd.put (h : Prd W w ga own y) (hn : Row w' ga 26 (cA z)) (hg : w.grownBy w' (some ga)) : Prd W w' ga own z :=
  have l := h.l
  ⟨⟨below_own h.z.low hg (by omega), h.z.o.grown hg (by simp; omega), h.z.r.grown hg (by simp; omega)⟩, hn, h.l⟩
theorem Prz.put (h : Prz W w own) (hg : w.grownBy w' (some (W.heap.size + 1))) : Below W.heap.size W w' := below_own h.low hg (by omega)
end
theorem rslow_any (n : Nat) (hn : n ≤ 1000) (w : World) : Calls Try.prog 19 #[.int .i64 (n : Nat)] w fun e w' => e = .returned (.int .i64 ((n / 2 + 1 : Nat) : Int)) ∧ w = w' := by
  have h1 : ((n / 2 + 1 : Nat) : Int) = (n : Int) / 2 + 1 := by omega
  rw [h1]
  go_enter Try.func19, Try.ntmps19
  go_wp2
  go_ret
  exact ⟨ret_int (by go_num), rfl⟩
theorem rfast_any (n : Nat) (hn : n ≤ 1000) (w : World) : Calls Try.prog 21 #[.int .i64 (n : Nat)] w fun e w' => e = .returned (.int .i64 ((n : Int) - 1)) ∧ w = w' := by
  go_enter Try.func21, Try.ntmps21
  go_wp2
  go_ret
  exact ⟨ret_int (by go_num), rfl⟩
set_option maxHeartbeats 8000000 in
theorem rpre_any {n : Nat} {first late : Bool} {own : List Int} {A : Option Addr} {m c : Nat} {zs : List (List Int)} {w : World} (hn : n ≤ 100) (h8 : own.length = 8) (hm : zs.length = m) (a8 : All 8 zs) (hz : Its 8 w A zs) (hl : m ≤ 1000) :
    Calls Try.prog 25 #[.int .i64 (n : Nat), .bool first, .agg (cA own), .slice A m c, .bool late] w fun e w' => e = .returned (.tuple #[.int .i64 (preL n first own zs late).1, .agg (cA (preL n first own zs late).2)]) ∧ Below w.heap.size w w' := by
  have HZ := hide hz
  have HA := hide a8
  have HM := hide hm
  have HSL := hide (fun w => rslow_any n (by omega) w)
  have HFA := hide (fun w => rfast_any n (by omega) w)
  obtain ⟨P, hP⟩ : ∃ P, preL n first own zs late = P := ⟨_, rfl⟩
  have HPL := hide hP
  rw [hP]
  have HP0 := hide (show Prz w ((w.alloc (.cells (cA own) 26)).alloc (.cells #[.int .i64 0, .int .i64 0, .int .i64 0, .int .i64 0, .int .i64 0, .int .i64 0, .int .i64 0, .int .i64 0] 26)) own from Prz.start w own)
  clear hz a8 hm hP
  go_enter Try.func25, Try.ntmps25
  go_upto_region 1 with (fail)
  generalize (w.alloc (.cells (cA own) 26)).alloc (.cells #[.int .i64 0, .int .i64 0, .int .i64 0, .int .i64 0, .int .i64 0, .int .i64 0, .int .i64 0, .int .i64 0] 26) = w1 at HP0 ⊢
  have HPA := hide (show Prd w (w1.alloc (.cells #[.int .i64 0, .int .i64 0, .int .i64 0, .int .i64 0, .int .i64 0, .int .i64 0, .int .i64 0, .int .i64 0] 26)) w1.heap.size own zero8 from Prd.start HP0.out)
  go_upto_region 2 with (first
    | ((with_reducible refine wpList_load_at h8 ?_ ?_ HP0.out.o.at8 ?_); rfl; rfl)
    | ((with_reducible refine wpList_store_at (z := zero8) h8 ?_ ?_ HPA.out.a rfl ?_); rfl; rfl; intro w3 hn hg; have HP := hide (HPA.out.put hn hg); clear hn hg))
  clear HP0 HPA
  generalize w1.heap.size = ga at HP ⊢
  go_wp2
  go_loopw [13, 14] (fun s i wr => ∃ k : Nat, k ≤ m ∧ s = .int .i64 (sameN own (zs.take k) : Nat) ∧ i = .int .i64 k ∧ Hid (Prd w wr ga own (allA own (zs.take k)))) (fun _ i _ => m - (intOf i).toNat)
  case atStart => exact ⟨0, Nat.zero_le _, rfl, rfl, HP⟩
  case round =>
    clear HP
    obtain ⟨k, hk, rfl, rfl, HP⟩ := hrel
    by_cases hlt : k < m
    · have hlti : (k : Int) < (m : Int) := by omega
      obtain ⟨x, hx⟩ : ∃ x, zs[k]? = some x := ⟨_, List.getElem?_eq_getElem (by rw [HM.out]; exact hlt)⟩
      have hx8 := HA.out.at_ hx
      obtain ⟨q, off, hA, _⟩ := its_range (HZ.out.below HP.out.z.low) HA.out hx
      subst hA
      have HX := hide (fun wz (h : Below w.heap.size w wz) => (show wz.rangeAt q (off + k * 8) (cellsR x) from by obtain ⟨q', o', e, h2⟩ := its_range (HZ.out.below h) HA.out hx; cases e; exact h2))
      have HSS := hide (sameN_snoc own hx)
      have HAS := hide (allA_snoc own hx)
      have hsl : sameN own (zs.take k) ≤ 1000 := Nat.le_trans (sameN_le _ _) (by rw [List.length_take]; omega)
      have hy8 := allA_len h8 (zs.take k)
      generalize sameN own (zs.take k) = sn at HSS hsl
      generalize allA own (zs.take k) = y at HP HAS hy8
      clear hx
      go_upto_region 6 with (fail)
      refine wp_region_noPanic ?_
      refine wp_region_U 6 (fun wz => Prd w wz ga own y) (by kernel_rfl) ?_
      have HD := hide HP.out.drew
      generalize wr.drew = wd at HD ⊢
      refine anyU_take2 (i := 0) (v := .agg (cA y)) (by simp only [List.getElem?_toArray, List.getElem?_cons_zero]; exact rfl) (by kernel_rfl) 12 (by kernel_rfl) (by kernel_rfl) (fun _ _ _ h => h) (by kernel_rfl) (by kernel_rfl) (by kernel_rfl) (by kernel_rfl) (Or.inl ⟨by rfl, fun w hSw => exec_load_gp rfl rfl (hSw.a.at8) at_under rfl (at_sz hy8)⟩) (by with_reducible exact HD.out) ?_
      try simp only [Act.put, List.setIfInBounds_toArray, List.set_cons_zero, List.set_cons_succ]
      refine anyU_take2 (i := 1) (v := .slice (some ⟨q, off, none⟩) m c) (by simp only [List.getElem?_toArray, List.getElem?_cons_succ, List.getElem?_cons_zero]; exact rfl) (by kernel_rfl) 12 (by kernel_rfl) (by kernel_rfl) (fun _ _ _ h => h) (by kernel_rfl) (by kernel_rfl) (by kernel_rfl) (by kernel_rfl) (Or.inl ⟨by rfl, fun w hSw => (by go_simp; try with_reducible rfl)⟩) (by with_reducible exact HD.out) ?_
      try simp only [Act.put, List.setIfInBounds_toArray, List.set_cons_zero, List.set_cons_succ]
      refine anyU_take2 (i := 2) (v := .int .i64 (k : Nat)) (by simp only [List.getElem?_toArray, List.getElem?_cons_succ, List.getElem?_cons_zero]; exact rfl) (by kernel_rfl) 12 (by kernel_rfl) (by kernel_rfl) (fun _ _ _ h => h) (by kernel_rfl) (by kernel_rfl) (by kernel_rfl) (by kernel_rfl) (Or.inl ⟨by rfl, fun w hSw => (by go_simp; try with_reducible rfl)⟩) (by with_reducible exact HD.out) ?_
      try simp only [Act.put, List.setIfInBounds_toArray, List.set_cons_zero, List.set_cons_succ]
      refine anyU_take2 (i := 3) (v := .pointer (some ⟨q, off + k * 8, none⟩)) (by simp only [List.getElem?_toArray, List.getElem?_cons_succ, List.getElem?_cons_zero]; exact rfl) (by kernel_rfl) 12 (by kernel_rfl) (by kernel_rfl) (fun _ _ _ h => h) (by kernel_rfl) (by kernel_rfl) (by kernel_rfl) (by kernel_rfl) (Or.inl ⟨by rfl, fun w hSw => (by go_simp; try with_reducible rfl)⟩) (by with_reducible exact HD.out) ?_
      try simp only [Act.put, List.setIfInBounds_toArray, List.set_cons_zero, List.set_cons_succ]
      refine anyU_take2 (i := 4) (v := .agg (cA x)) (by simp only [List.getElem?_toArray, List.getElem?_cons_succ, List.getElem?_cons_zero]; exact rfl) (by kernel_rfl) 12 (by kernel_rfl) (by kernel_rfl) (fun _ _ _ h => h) (by kernel_rfl) (by kernel_rfl) (by kernel_rfl) (by kernel_rfl) (Or.inl ⟨by rfl, fun w hSw => exec_load_gp rfl rfl (HX.out _ hSw.z.low) at_under rfl (at_sz hx8)⟩) (by with_reducible exact HD.out) ?_
      try simp only [Act.put, List.setIfInBounds_toArray, List.set_cons_zero, List.set_cons_succ]
      refine anyU_one (i := 5) (by kernel_rfl) (by simp only [List.getElem?_toArray, List.getElem?_cons_succ, List.getElem?_cons_zero]; exact rfl) (fun K hK => ?_)
      try go_simp
      refine (refjoin8 hy8 hx8 _).mono ?_
      rintro e w5 ⟨rfl, hb⟩
      replace HD := hide (HD.out.kept hb)
      clear hb
      refine hK.out _ _ (fun _ _ => HD.out) ?_
      clear hK K
      try simp only [Act.put, List.setIfInBounds_toArray, List.set_cons_zero, List.set_cons_succ]
      refine anyU_one (i := 6) (by kernel_rfl) (by simp only [List.getElem?_toArray, List.getElem?_cons_succ, List.getElem?_cons_zero]; exact rfl) (fun K hK => ?_)
      rw [if_pos (by rfl)]
      refine wp_store_at rfl (len_maxA _ _) rfl rfl HD.out.a hy8 ?_
      intro w6 hn hg
      replace HP := hide (HD.out.put hn hg)
      clear hn hg HD
      refine hK.out _ _ (fun e _ => absurd rfl e) ?_
      clear hK K
      try simp only [Act.put]
      refine anyU_done (by kernel_rfl) ?_
      refine NoPanic.normal ?_
      try simp only [Act.put]
      have hE := fun w => eql_at hx8 h8 w
      by_cases hxe : x = own
      · have HXE := hide hxe
        rw [decide_eq_true hxe] at hE
        clear hxe
        go_upto_region 7 with (fail)
        refine wp_region_noPanic ?_
        refine wp_region_U 5 (fun wz => Prd w wz ga own (maxA y x)) (by kernel_rfl) ?_
        have HD := hide HP.out.drew
        generalize w6.drew = wd at HD ⊢
        refine anyU_take2 (i := 0) (v := .slice (some ⟨q, off, none⟩) m c) (by simp only [List.getElem?_toArray, List.getElem?_cons_zero]; exact rfl) (by kernel_rfl) 12 (by kernel_rfl) (by kernel_rfl) (fun _ _ _ h => h) (by kernel_rfl) (by kernel_rfl) (by kernel_rfl) (by kernel_rfl) (Or.inl ⟨by rfl, fun w hSw => (by go_simp; try with_reducible rfl)⟩) (by with_reducible exact HD.out) ?_
        try simp only [Act.put, List.setIfInBounds_toArray, List.set_cons_zero, List.set_cons_succ]
        refine anyU_take2 (i := 1) (v := .int .i64 (k : Nat)) (by simp only [List.getElem?_toArray, List.getElem?_cons_succ, List.getElem?_cons_zero]; exact rfl) (by kernel_rfl) 12 (by kernel_rfl) (by kernel_rfl) (fun _ _ _ h => h) (by kernel_rfl) (by kernel_rfl) (by kernel_rfl) (by kernel_rfl) (Or.inl ⟨by rfl, fun w hSw => (by go_simp; try with_reducible rfl)⟩) (by with_reducible exact HD.out) ?_
        try simp only [Act.put, List.setIfInBounds_toArray, List.set_cons_zero, List.set_cons_succ]
        refine anyU_take2 (i := 2) (v := .pointer (some ⟨q, off + k * 8, none⟩)) (by simp only [List.getElem?_toArray, List.getElem?_cons_succ, List.getElem?_cons_zero]; exact rfl) (by kernel_rfl) 12 (by kernel_rfl) (by kernel_rfl) (fun _ _ _ h => h) (by kernel_rfl) (by kernel_rfl) (by kernel_rfl) (by kernel_rfl) (Or.inl ⟨by rfl, fun w hSw => (by go_simp; try with_reducible rfl)⟩) (by with_reducible exact HD.out) ?_
        try simp only [Act.put, List.setIfInBounds_toArray, List.set_cons_zero, List.set_cons_succ]
        refine anyU_take2 (i := 3) (v := .agg (cA x)) (by simp only [List.getElem?_toArray, List.getElem?_cons_succ, List.getElem?_cons_zero]; exact rfl) (by kernel_rfl) 12 (by kernel_rfl) (by kernel_rfl) (fun _ _ _ h => h) (by kernel_rfl) (by kernel_rfl) (by kernel_rfl) (by kernel_rfl) (Or.inl ⟨by rfl, fun w hSw => exec_load_gp rfl rfl (HX.out _ hSw.z.low) at_under rfl (at_sz hx8)⟩) (by with_reducible exact HD.out) ?_
        try simp only [Act.put, List.setIfInBounds_toArray, List.set_cons_zero, List.set_cons_succ]
        refine anyU_take2 (i := 4) (v := .agg (cA own)) (by simp only [List.getElem?_toArray, List.getElem?_cons_succ, List.getElem?_cons_zero]; exact rfl) (by kernel_rfl) 12 (by kernel_rfl) (by kernel_rfl) (fun _ _ _ h => h) (by kernel_rfl) (by kernel_rfl) (by kernel_rfl) (by kernel_rfl) (Or.inl ⟨by rfl, fun w hSw => exec_load_gp rfl rfl (hSw.z.o.at8) at_under rfl (at_sz h8)⟩) (by with_reducible exact HD.out) ?_
        try simp only [Act.put, List.setIfInBounds_toArray, List.set_cons_zero, List.set_cons_succ]
        refine anyU_one (i := 5) (by kernel_rfl) (by simp only [List.getElem?_toArray, List.getElem?_cons_succ, List.getElem?_cons_zero]; exact rfl) (fun K hK => ?_)
        try go_simp
        refine hK.out _ _ (fun e _ => absurd rfl e) ?_
        clear hK K
        try simp only [Act.put]
        refine anyU_done (by kernel_rfl) ?_
        refine NoPanic.normal ?_
        try simp only [Act.put]
        clear hE
        go_wp2
        go_roundw
        case rel => exact ⟨k + 1, by omega, by rw [HSS.out, if_pos HXE.out]; go_num, by go_num, by rw [HAS.out]; exact HD⟩
        case measure => simp [intOf]; omega
      · have HXE := hide hxe
        rw [decide_eq_false hxe] at hE
        clear hxe
        go_upto_region 7 with (fail)
        refine wp_region_noPanic ?_
        refine wp_region_U 5 (fun wz => Prd w wz ga own (maxA y x)) (by kernel_rfl) ?_
        have HD := hide HP.out.drew
        generalize w6.drew = wd at HD ⊢
        refine anyU_take2 (i := 0) (v := .slice (some ⟨q, off, none⟩) m c) (by simp only [List.getElem?_toArray, List.getElem?_cons_zero]; exact rfl) (by kernel_rfl) 12 (by kernel_rfl) (by kernel_rfl) (fun _ _ _ h => h) (by kernel_rfl) (by kernel_rfl) (by kernel_rfl) (by kernel_rfl) (Or.inl ⟨by rfl, fun w hSw => (by go_simp; try with_reducible rfl)⟩) (by with_reducible exact HD.out) ?_
        try simp only [Act.put, List.setIfInBounds_toArray, List.set_cons_zero, List.set_cons_succ]
        refine anyU_take2 (i := 1) (v := .int .i64 (k : Nat)) (by simp only [List.getElem?_toArray, List.getElem?_cons_succ, List.getElem?_cons_zero]; exact rfl) (by kernel_rfl) 12 (by kernel_rfl) (by kernel_rfl) (fun _ _ _ h => h) (by kernel_rfl) (by kernel_rfl) (by kernel_rfl) (by kernel_rfl) (Or.inl ⟨by rfl, fun w hSw => (by go_simp; try with_reducible rfl)⟩) (by with_reducible exact HD.out) ?_
        try simp only [Act.put, List.setIfInBounds_toArray, List.set_cons_zero, List.set_cons_succ]
        refine anyU_take2 (i := 2) (v := .pointer (some ⟨q, off + k * 8, none⟩)) (by simp only [List.getElem?_toArray, List.getElem?_cons_succ, List.getElem?_cons_zero]; exact rfl) (by kernel_rfl) 12 (by kernel_rfl) (by kernel_rfl) (fun _ _ _ h => h) (by kernel_rfl) (by kernel_rfl) (by kernel_rfl) (by kernel_rfl) (Or.inl ⟨by rfl, fun w hSw => (by go_simp; try with_reducible rfl)⟩) (by with_reducible exact HD.out) ?_
        try simp only [Act.put, List.setIfInBounds_toArray, List.set_cons_zero, List.set_cons_succ]
        refine anyU_take2 (i := 3) (v := .agg (cA x)) (by simp only [List.getElem?_toArray, List.getElem?_cons_succ, List.getElem?_cons_zero]; exact rfl) (by kernel_rfl) 12 (by kernel_rfl) (by kernel_rfl) (fun _ _ _ h => h) (by kernel_rfl) (by kernel_rfl) (by kernel_rfl) (by kernel_rfl) (Or.inl ⟨by rfl, fun w hSw => exec_load_gp rfl rfl (HX.out _ hSw.z.low) at_under rfl (at_sz hx8)⟩) (by with_reducible exact HD.out) ?_
        try simp only [Act.put, List.setIfInBounds_toArray, List.set_cons_zero, List.set_cons_succ]
        refine anyU_take2 (i := 4) (v := .agg (cA own)) (by simp only [List.getElem?_toArray, List.getElem?_cons_succ, List.getElem?_cons_zero]; exact rfl) (by kernel_rfl) 12 (by kernel_rfl) (by kernel_rfl) (fun _ _ _ h => h) (by kernel_rfl) (by kernel_rfl) (by kernel_rfl) (by kernel_rfl) (Or.inl ⟨by rfl, fun w hSw => exec_load_gp rfl rfl (hSw.z.o.at8) at_under rfl (at_sz h8)⟩) (by with_reducible exact HD.out) ?_
        try simp only [Act.put, List.setIfInBounds_toArray, List.set_cons_zero, List.set_cons_succ]
        refine anyU_one (i := 5) (by kernel_rfl) (by simp only [List.getElem?_toArray, List.getElem?_cons_succ, List.getElem?_cons_zero]; exact rfl) (fun K hK => ?_)
        try go_simp
        refine hK.out _ _ (fun e _ => absurd rfl e) ?_
        clear hK K
        try simp only [Act.put]
        refine anyU_done (by kernel_rfl) ?_
        refine NoPanic.normal ?_
        try simp only [Act.put]
        clear hE
        go_wp2
        go_roundw
        case rel => exact ⟨k + 1, by omega, by rw [HSS.out, if_neg HXE.out]; go_num, by go_num, by rw [HAS.out]; exact HD⟩
        case measure => simp [intOf]; omega
    · have hlti : ¬ (k : Int) < (m : Int) := by omega
      have hkm : k = m := by omega
      subst hkm
      have htk : zs.take k = zs := List.take_of_length_le (by rw [HM.out]; exact Nat.le_refl _)
      rw [htk] at HP ⊢
      have hy8 := allA_len h8 zs
      have hsl : sameN own zs ≤ k := by have := sameN_le own zs; rw [HM.out] at this; exact this
      unfold preL at HPL
      rw [HM.out] at HPL
      generalize sameN own zs = sn at HPL hsl ⊢
      generalize allA own zs = y at HP HPL hy8
      obtain ⟨S, hS⟩ : ∃ S, n / 2 + 1 = S := ⟨_, rfl⟩
      rw [hS] at HSL
      have hS1 : 1 ≤ S := by omega
      have hS2 : S ≤ 1000 := by omega
      clear htk hlt hk HZ HA HM
      cases first
      · by_cases hf : n ≤ sn + 2
        · by_cases h2 : n / 2 ≤ k
          · cases late
            · by_cases h3 : sn + 2 ≤ k
              · skip
                have hfi : ((n : Int) - 1 - 1 ≤ (sn : Int)) := by omega
                have h2i : ((S : Int) - 1 ≤ (k : Int)) := by omega
                have h3i : ((2 : Int) ≤ (k : Int) - (sn : Int)) := by omega
                replace HPL := hide (show ((2 : Int), y) = P from by have h := HPL.out; rw [if_neg (by simp <;> omega), if_pos (by simp <;> omega)] at h; exact h)
                clear hf h2 h3 hS
                go_upto_region 12 with (first
                  | (go_at_call 21; (with_reducible refine (HFA.out _).mono ?_); rintro e w7 ⟨rfl, hw⟩; subst hw)
                  | (go_at_call 19; (with_reducible refine (HSL.out _).mono ?_); rintro e w7 ⟨rfl, hw⟩; subst hw))
                refine wp_region_noPanic ?_
                refine wp_region_U 2 (fun wz => Prd w wz ga own y) (by kernel_rfl) ?_
                have HD := hide HP.out.drew
                generalize wr.drew = wd at HD ⊢
                refine anyU_take2 (i := 0) (v := .agg (cA y)) (by simp only [List.getElem?_toArray, List.getElem?_cons_zero]; exact rfl) (by kernel_rfl) 12 (by kernel_rfl) (by kernel_rfl) (fun _ _ _ h => h) (by kernel_rfl) (by kernel_rfl) (by kernel_rfl) (by kernel_rfl) (Or.inl ⟨by rfl, fun w hSw => exec_load_gp rfl rfl (hSw.a.at8) at_under rfl (at_sz hy8)⟩) (by with_reducible exact HD.out) ?_
                try simp only [Act.put, List.setIfInBounds_toArray, List.set_cons_zero, List.set_cons_succ]
                refine anyU_take2 (i := 1) (v := .int .i64 2) (by simp only [List.getElem?_toArray, List.getElem?_cons_succ, List.getElem?_cons_zero]; exact rfl) (by kernel_rfl) 12 (by kernel_rfl) (by kernel_rfl) (fun _ _ _ h => h) (by kernel_rfl) (by kernel_rfl) (by kernel_rfl) (by kernel_rfl) (Or.inl ⟨by rfl, fun w hSw => (by go_simp; try with_reducible rfl)⟩) (by with_reducible exact HD.out) ?_
                try simp only [Act.put, List.setIfInBounds_toArray, List.set_cons_zero, List.set_cons_succ]
                refine anyU_one (i := 2) (by kernel_rfl) (by simp only [List.getElem?_toArray, List.getElem?_cons_succ, List.getElem?_cons_zero]; exact rfl) (fun K hK => ?_)
                rw [if_pos (by rfl)]
                refine wp_store_at (z := zero8) rfl hy8 rfl rfl HD.out.z.r rfl ?_
                intro w6 hn hg
                have HN := hide hn
                have HB := hide (HD.out.z.put hg)
                clear hn hg
                refine hK.out _ _ (fun e _ => absurd rfl e) ?_
                clear hK K
                try simp only [Act.put]
                refine anyU_done (by kernel_rfl) ?_
                refine NoPanic.normal ?_
                try simp only [Act.put]
                go_wp2
                exact bodyPost_ret (results_pre Try.results25 rfl rfl HN.out hy8) rfl ⟨by rw [← HPL.out]; rfl, HB.out⟩
              · skip
                have hfi : ((n : Int) - 1 - 1 ≤ (sn : Int)) := by omega
                have h2i : ((S : Int) - 1 ≤ (k : Int)) := by omega
                have h3i : ¬ ((2 : Int) ≤ (k : Int) - (sn : Int)) := by omega
                replace HPL := hide (show ((2 : Int), y) = P from by have h := HPL.out; rw [if_neg (by simp <;> omega), if_pos (by simp <;> omega)] at h; exact h)
                clear hf h2 h3 hS
                go_upto_region 12 with (first
                  | (go_at_call 21; (with_reducible refine (HFA.out _).mono ?_); rintro e w7 ⟨rfl, hw⟩; subst hw)
                  | (go_at_call 19; (with_reducible refine (HSL.out _).mono ?_); rintro e w7 ⟨rfl, hw⟩; subst hw))
                refine wp_region_noPanic ?_
                refine wp_region_U 2 (fun wz => Prd w wz ga own y) (by kernel_rfl) ?_
                have HD := hide HP.out.drew
                generalize wr.drew = wd at HD ⊢
                refine anyU_take2 (i := 0) (v := .agg (cA y)) (by simp only [List.getElem?_toArray, List.getElem?_cons_zero]; exact rfl) (by kernel_rfl) 12 (by kernel_rfl) (by kernel_rfl) (fun _ _ _ h => h) (by kernel_rfl) (by kernel_rfl) (by kernel_rfl) (by kernel_rfl) (Or.inl ⟨by rfl, fun w hSw => exec_load_gp rfl rfl (hSw.a.at8) at_under rfl (at_sz hy8)⟩) (by with_reducible exact HD.out) ?_
                try simp only [Act.put, List.setIfInBounds_toArray, List.set_cons_zero, List.set_cons_succ]
                refine anyU_take2 (i := 1) (v := .int .i64 2) (by simp only [List.getElem?_toArray, List.getElem?_cons_succ, List.getElem?_cons_zero]; exact rfl) (by kernel_rfl) 12 (by kernel_rfl) (by kernel_rfl) (fun _ _ _ h => h) (by kernel_rfl) (by kernel_rfl) (by kernel_rfl) (by kernel_rfl) (Or.inl ⟨by rfl, fun w hSw => (by go_simp; try with_reducible rfl)⟩) (by with_reducible exact HD.out) ?_
                try simp only [Act.put, List.setIfInBounds_toArray, List.set_cons_zero, List.set_cons_succ]
                refine anyU_one (i := 2) (by kernel_rfl) (by simp only [List.getElem?_toArray, List.getElem?_cons_succ, List.getElem?_cons_zero]; exact rfl) (fun K hK => ?_)
                rw [if_pos (by rfl)]
                refine wp_store_at (z := zero8) rfl hy8 rfl rfl HD.out.z.r rfl ?_
                intro w6 hn hg
                have HN := hide hn
                have HB := hide (HD.out.z.put hg)
                clear hn hg
                refine hK.out _ _ (fun e _ => absurd rfl e) ?_
                clear hK K
                try simp only [Act.put]
                refine anyU_done (by kernel_rfl) ?_
                refine NoPanic.normal ?_
                try simp only [Act.put]
                go_wp2
                exact bodyPost_ret (results_pre Try.results25 rfl rfl HN.out hy8) rfl ⟨by rw [← HPL.out]; rfl, HB.out⟩
            · by_cases h3 : sn + 2 ≤ k
              · skip
                have hfi : ((n : Int) - 1 - 1 ≤ (sn : Int)) := by omega
                have h2i : ((S : Int) - 1 ≤ (k : Int)) := by omega
                have h3i : ((2 : Int) ≤ (k : Int) - (sn : Int)) := by omega
                replace HPL := hide (show ((2 : Int), y) = P from by have h := HPL.out; rw [if_neg (by simp <;> omega), if_pos (by simp <;> omega)] at h; exact h)
                clear hf h2 h3 hS
                go_upto_region 12 with (first
                  | (go_at_call 21; (with_reducible refine (HFA.out _).mono ?_); rintro e w7 ⟨rfl, hw⟩; subst hw)
                  | (go_at_call 19; (with_reducible refine (HSL.out _).mono ?_); rintro e w7 ⟨rfl, hw⟩; subst hw))
                refine wp_region_noPanic ?_
                refine wp_region_U 2 (fun wz => Prd w wz ga own y) (by kernel_rfl) ?_
                have HD := hide HP.out.drew
                generalize wr.drew = wd at HD ⊢
                refine anyU_take2 (i := 0) (v := .agg (cA y)) (by simp only [List.getElem?_toArray, List.getElem?_cons_zero]; exact rfl) (by kernel_rfl) 12 (by kernel_rfl) (by kernel_rfl) (fun _ _ _ h => h) (by kernel_rfl) (by kernel_rfl) (by kernel_rfl) (by kernel_rfl) (Or.inl ⟨by rfl, fun w hSw => exec_load_gp rfl rfl (hSw.a.at8) at_under rfl (at_sz hy8)⟩) (by with_reducible exact HD.out) ?_
                try simp only [Act.put, List.setIfInBounds_toArray, List.set_cons_zero, List.set_cons_succ]
                refine anyU_take2 (i := 1) (v := .int .i64 2) (by simp only [List.getElem?_toArray, List.getElem?_cons_succ, List.getElem?_cons_zero]; exact rfl) (by kernel_rfl) 12 (by kernel_rfl) (by kernel_rfl) (fun _ _ _ h => h) (by kernel_rfl) (by kernel_rfl) (by kernel_rfl) (by kernel_rfl) (Or.inl ⟨by rfl, fun w hSw => (by go_simp; try with_reducible rfl)⟩) (by with_reducible exact HD.out) ?_
                try simp only [Act.put, List.setIfInBounds_toArray, List.set_cons_zero, List.set_cons_succ]
                refine anyU_one (i := 2) (by kernel_rfl) (by simp only [List.getElem?_toArray, List.getElem?_cons_succ, List.getElem?_cons_zero]; exact rfl) (fun K hK => ?_)
                rw [if_pos (by rfl)]
                refine wp_store_at (z := zero8) rfl hy8 rfl rfl HD.out.z.r rfl ?_
                intro w6 hn hg
                have HN := hide hn
                have HB := hide (HD.out.z.put hg)
                clear hn hg
                refine hK.out _ _ (fun e _ => absurd rfl e) ?_
                clear hK K
                try simp only [Act.put]
                refine anyU_done (by kernel_rfl) ?_
                refine NoPanic.normal ?_
                try simp only [Act.put]
                go_wp2
                exact bodyPost_ret (results_pre Try.results25 rfl rfl HN.out hy8) rfl ⟨by rw [← HPL.out]; rfl, HB.out⟩
              · skip
                have hfi : ((n : Int) - 1 - 1 ≤ (sn : Int)) := by omega
                have h2i : ((S : Int) - 1 ≤ (k : Int)) := by omega
                have h3i : ¬ ((2 : Int) ≤ (k : Int) - (sn : Int)) := by omega
                replace HPL := hide (show ((2 : Int), y) = P from by have h := HPL.out; rw [if_neg (by simp <;> omega), if_pos (by simp <;> omega)] at h; exact h)
                clear hf h2 h3 hS
                go_upto_region 12 with (first
                  | (go_at_call 21; (with_reducible refine (HFA.out _).mono ?_); rintro e w7 ⟨rfl, hw⟩; subst hw)
                  | (go_at_call 19; (with_reducible refine (HSL.out _).mono ?_); rintro e w7 ⟨rfl, hw⟩; subst hw))
                refine wp_region_noPanic ?_
                refine wp_region_U 2 (fun wz => Prd w wz ga own y) (by kernel_rfl) ?_
                have HD := hide HP.out.drew
                generalize wr.drew = wd at HD ⊢
                refine anyU_take2 (i := 0) (v := .agg (cA y)) (by simp only [List.getElem?_toArray, List.getElem?_cons_zero]; exact rfl) (by kernel_rfl) 12 (by kernel_rfl) (by kernel_rfl) (fun _ _ _ h => h) (by kernel_rfl) (by kernel_rfl) (by kernel_rfl) (by kernel_rfl) (Or.inl ⟨by rfl, fun w hSw => exec_load_gp rfl rfl (hSw.a.at8) at_under rfl (at_sz hy8)⟩) (by with_reducible exact HD.out) ?_
                try simp only [Act.put, List.setIfInBounds_toArray, List.set_cons_zero, List.set_cons_succ]
                refine anyU_take2 (i := 1) (v := .int .i64 2) (by simp only [List.getElem?_toArray, List.getElem?_cons_succ, List.getElem?_cons_zero]; exact rfl) (by kernel_rfl) 12 (by kernel_rfl) (by kernel_rfl) (fun _ _ _ h => h) (by kernel_rfl) (by kernel_rfl) (by kernel_rfl) (by kernel_rfl) (Or.inl ⟨by rfl, fun w hSw => (by go_simp; try with_reducible rfl)⟩) (by with_reducible exact HD.out) ?_
                try simp only [Act.put, List.setIfInBounds_toArray, List.set_cons_zero, List.set_cons_succ]
                refine anyU_one (i := 2) (by kernel_rfl) (by simp only [List.getElem?_toArray, List.getElem?_cons_succ, List.getElem?_cons_zero]; exact rfl) (fun K hK => ?_)
                rw [if_pos (by rfl)]
                refine wp_store_at (z := zero8) rfl hy8 rfl rfl HD.out.z.r rfl ?_
                intro w6 hn hg
                have HN := hide hn
                have HB := hide (HD.out.z.put hg)
                clear hn hg
                refine hK.out _ _ (fun e _ => absurd rfl e) ?_
                clear hK K
                try simp only [Act.put]
                refine anyU_done (by kernel_rfl) ?_
                refine NoPanic.normal ?_
                try simp only [Act.put]
                go_wp2
                exact bodyPost_ret (results_pre Try.results25 rfl rfl HN.out hy8) rfl ⟨by rw [← HPL.out]; rfl, HB.out⟩
          · cases late
            · by_cases h3 : sn + 2 ≤ k
              · skip
                have hfi : ((n : Int) - 1 - 1 ≤ (sn : Int)) := by omega
                have h2i : ¬ ((S : Int) - 1 ≤ (k : Int)) := by omega
                have h3i : ((2 : Int) ≤ (k : Int) - (sn : Int)) := by omega
                replace HPL := hide (show ((0 : Int), zero8) = P from by have h := HPL.out; rw [if_neg (by simp <;> omega), if_neg (by simp <;> omega)] at h; exact h)
                clear hf h2 h3 hS
                go_upto_region 13 with (first
                  | (go_at_call 21; (with_reducible refine (HFA.out _).mono ?_); rintro e w7 ⟨rfl, hw⟩; subst hw)
                  | (go_at_call 19; (with_reducible refine (HSL.out _).mono ?_); rintro e w7 ⟨rfl, hw⟩; subst hw))
                go_wp2_with (first | ((with_reducible refine wpList_store_at (y := zero8) (z := zero8) rfl ?_ ?_ HP.out.z.r rfl ?_); rfl; rfl; intro w6 hn hg; have HN := hide hn; have HB := hide (HP.out.z.put hg); clear hn hg))
                exact bodyPost_ret (results_pre Try.results25 rfl rfl HN.out rfl) rfl ⟨by rw [← HPL.out]; rfl, HB.out⟩
              · skip
                have hfi : ((n : Int) - 1 - 1 ≤ (sn : Int)) := by omega
                have h2i : ¬ ((S : Int) - 1 ≤ (k : Int)) := by omega
                have h3i : ¬ ((2 : Int) ≤ (k : Int) - (sn : Int)) := by omega
                replace HPL := hide (show ((0 : Int), zero8) = P from by have h := HPL.out; rw [if_neg (by simp <;> omega), if_neg (by simp <;> omega)] at h; exact h)
                clear hf h2 h3 hS
                go_upto_region 13 with (first
                  | (go_at_call 21; (with_reducible refine (HFA.out _).mono ?_); rintro e w7 ⟨rfl, hw⟩; subst hw)
                  | (go_at_call 19; (with_reducible refine (HSL.out _).mono ?_); rintro e w7 ⟨rfl, hw⟩; subst hw))
                go_wp2_with (first | ((with_reducible refine wpList_store_at (y := zero8) (z := zero8) rfl ?_ ?_ HP.out.z.r rfl ?_); rfl; rfl; intro w6 hn hg; have HN := hide hn; have HB := hide (HP.out.z.put hg); clear hn hg))
                exact bodyPost_ret (results_pre Try.results25 rfl rfl HN.out rfl) rfl ⟨by rw [← HPL.out]; rfl, HB.out⟩
            · by_cases h3 : sn + 2 ≤ k
              · skip
                have hfi : ((n : Int) - 1 - 1 ≤ (sn : Int)) := by omega
                have h2i : ¬ ((S : Int) - 1 ≤ (k : Int)) := by omega
                have h3i : ((2 : Int) ≤ (k : Int) - (sn : Int)) := by omega
                replace HPL := hide (show ((0 : Int), zero8) = P from by have h := HPL.out; rw [if_neg (by simp <;> omega), if_neg (by simp <;> omega)] at h; exact h)
                clear hf h2 h3 hS
                go_upto_region 13 with (first
                  | (go_at_call 21; (with_reducible refine (HFA.out _).mono ?_); rintro e w7 ⟨rfl, hw⟩; subst hw)
                  | (go_at_call 19; (with_reducible refine (HSL.out _).mono ?_); rintro e w7 ⟨rfl, hw⟩; subst hw))
                go_wp2_with (first | ((with_reducible refine wpList_store_at (y := zero8) (z := zero8) rfl ?_ ?_ HP.out.z.r rfl ?_); rfl; rfl; intro w6 hn hg; have HN := hide hn; have HB := hide (HP.out.z.put hg); clear hn hg))
                exact bodyPost_ret (results_pre Try.results25 rfl rfl HN.out rfl) rfl ⟨by rw [← HPL.out]; rfl, HB.out⟩
              · skip
                have hfi : ((n : Int) - 1 - 1 ≤ (sn : Int)) := by omega
                have h2i : ¬ ((S : Int) - 1 ≤ (k : Int)) := by omega
                have h3i : ¬ ((2 : Int) ≤ (k : Int) - (sn : Int)) := by omega
                replace HPL := hide (show ((0 : Int), zero8) = P from by have h := HPL.out; rw [if_neg (by simp <;> omega), if_neg (by simp <;> omega)] at h; exact h)
                clear hf h2 h3 hS
                go_upto_region 13 with (first
                  | (go_at_call 21; (with_reducible refine (HFA.out _).mono ?_); rintro e w7 ⟨rfl, hw⟩; subst hw)
                  | (go_at_call 19; (with_reducible refine (HSL.out _).mono ?_); rintro e w7 ⟨rfl, hw⟩; subst hw))
                go_wp2_with (first | ((with_reducible refine wpList_store_at (y := zero8) (z := zero8) rfl ?_ ?_ HP.out.z.r rfl ?_); rfl; rfl; intro w6 hn hg; have HN := hide hn; have HB := hide (HP.out.z.put hg); clear hn hg))
                exact bodyPost_ret (results_pre Try.results25 rfl rfl HN.out rfl) rfl ⟨by rw [← HPL.out]; rfl, HB.out⟩
        · by_cases h2 : n / 2 ≤ k
          · cases late
            · by_cases h3 : sn + 2 ≤ k
              · skip
                have hfi : ¬ ((n : Int) - 1 - 1 ≤ (sn : Int)) := by omega
                have h2i : ((S : Int) - 1 ≤ (k : Int)) := by omega
                have h3i : ((2 : Int) ≤ (k : Int) - (sn : Int)) := by omega
                replace HPL := hide (show ((2 : Int), y) = P from by have h := HPL.out; rw [if_neg (by simp <;> omega), if_pos (by simp <;> omega)] at h; exact h)
                clear hf h2 h3 hS
                go_upto_region 12 with (first
                  | (go_at_call 21; (with_reducible refine (HFA.out _).mono ?_); rintro e w7 ⟨rfl, hw⟩; subst hw)
                  | (go_at_call 19; (with_reducible refine (HSL.out _).mono ?_); rintro e w7 ⟨rfl, hw⟩; subst hw))
                refine wp_region_noPanic ?_
                refine wp_region_U 2 (fun wz => Prd w wz ga own y) (by kernel_rfl) ?_
                have HD := hide HP.out.drew
                generalize wr.drew = wd at HD ⊢
                refine anyU_take2 (i := 0) (v := .agg (cA y)) (by simp only [List.getElem?_toArray, List.getElem?_cons_zero]; exact rfl) (by kernel_rfl) 12 (by kernel_rfl) (by kernel_rfl) (fun _ _ _ h => h) (by kernel_rfl) (by kernel_rfl) (by kernel_rfl) (by kernel_rfl) (Or.inl ⟨by rfl, fun w hSw => exec_load_gp rfl rfl (hSw.a.at8) at_under rfl (at_sz hy8)⟩) (by with_reducible exact HD.out) ?_
                try simp only [Act.put, List.setIfInBounds_toArray, List.set_cons_zero, List.set_cons_succ]
                refine anyU_take2 (i := 1) (v := .int .i64 2) (by simp only [List.getElem?_toArray, List.getElem?_cons_succ, List.getElem?_cons_zero]; exact rfl) (by kernel_rfl) 12 (by kernel_rfl) (by kernel_rfl) (fun _ _ _ h => h) (by kernel_rfl) (by kernel_rfl) (by kernel_rfl) (by kernel_rfl) (Or.inl ⟨by rfl, fun w hSw => (by go_simp; try with_reducible rfl)⟩) (by with_reducible exact HD.out) ?_
                try simp only [Act.put, List.setIfInBounds_toArray, List.set_cons_zero, List.set_cons_succ]
                refine anyU_one (i := 2) (by kernel_rfl) (by simp only [List.getElem?_toArray, List.getElem?_cons_succ, List.getElem?_cons_zero]; exact rfl) (fun K hK => ?_)
                rw [if_pos (by rfl)]
                refine wp_store_at (z := zero8) rfl hy8 rfl rfl HD.out.z.r rfl ?_
                intro w6 hn hg
                have HN := hide hn
                have HB := hide (HD.out.z.put hg)
                clear hn hg
                refine hK.out _ _ (fun e _ => absurd rfl e) ?_
                clear hK K
                try simp only [Act.put]
                refine anyU_done (by kernel_rfl) ?_
                refine NoPanic.normal ?_
                try simp only [Act.put]
                go_wp2
                exact bodyPost_ret (results_pre Try.results25 rfl rfl HN.out hy8) rfl ⟨by rw [← HPL.out]; rfl, HB.out⟩
              · skip
                have hfi : ¬ ((n : Int) - 1 - 1 ≤ (sn : Int)) := by omega
                have h2i : ((S : Int) - 1 ≤ (k : Int)) := by omega
                have h3i : ¬ ((2 : Int) ≤ (k : Int) - (sn : Int)) := by omega
                replace HPL := hide (show ((2 : Int), y) = P from by have h := HPL.out; rw [if_neg (by simp <;> omega), if_pos (by simp <;> omega)] at h; exact h)
                clear hf h2 h3 hS
                go_upto_region 12 with (first
                  | (go_at_call 21; (with_reducible refine (HFA.out _).mono ?_); rintro e w7 ⟨rfl, hw⟩; subst hw)
                  | (go_at_call 19; (with_reducible refine (HSL.out _).mono ?_); rintro e w7 ⟨rfl, hw⟩; subst hw))
                refine wp_region_noPanic ?_
                refine wp_region_U 2 (fun wz => Prd w wz ga own y) (by kernel_rfl) ?_
                have HD := hide HP.out.drew
                generalize wr.drew = wd at HD ⊢
                refine anyU_take2 (i := 0) (v := .agg (cA y)) (by simp only [List.getElem?_toArray, List.getElem?_cons_zero]; exact rfl) (by kernel_rfl) 12 (by kernel_rfl) (by kernel_rfl) (fun _ _ _ h => h) (by kernel_rfl) (by kernel_rfl) (by kernel_rfl) (by kernel_rfl) (Or.inl ⟨by rfl, fun w hSw => exec_load_gp rfl rfl (hSw.a.at8) at_under rfl (at_sz hy8)⟩) (by with_reducible exact HD.out) ?_
                try simp only [Act.put, List.setIfInBounds_toArray, List.set_cons_zero, List.set_cons_succ]
                refine anyU_take2 (i := 1) (v := .int .i64 2) (by simp only [List.getElem?_toArray, List.getElem?_cons_succ, List.getElem?_cons_zero]; exact rfl) (by kernel_rfl) 12 (by kernel_rfl) (by kernel_rfl) (fun _ _ _ h => h) (by kernel_rfl) (by kernel_rfl) (by kernel_rfl) (by kernel_rfl) (Or.inl ⟨by rfl, fun w hSw => (by go_simp; try with_reducible rfl)⟩) (by with_reducible exact HD.out) ?_
                try simp only [Act.put, List.setIfInBounds_toArray, List.set_cons_zero, List.set_cons_succ]
                refine anyU_one (i := 2) (by kernel_rfl) (by simp only [List.getElem?_toArray, List.getElem?_cons_succ, List.getElem?_cons_zero]; exact rfl) (fun K hK => ?_)
                rw [if_pos (by rfl)]
                refine wp_store_at (z := zero8) rfl hy8 rfl rfl HD.out.z.r rfl ?_
                intro w6 hn hg
                have HN := hide hn
                have HB := hide (HD.out.z.put hg)
                clear hn hg
                refine hK.out _ _ (fun e _ => absurd rfl e) ?_
                clear hK K
                try simp only [Act.put]
                refine anyU_done (by kernel_rfl) ?_
                refine NoPanic.normal ?_
                try simp only [Act.put]
                go_wp2
                exact bodyPost_ret (results_pre Try.results25 rfl rfl HN.out hy8) rfl ⟨by rw [← HPL.out]; rfl, HB.out⟩
            · by_cases h3 : sn + 2 ≤ k
              · skip
                have hfi : ¬ ((n : Int) - 1 - 1 ≤ (sn : Int)) := by omega
                have h2i : ((S : Int) - 1 ≤ (k : Int)) := by omega
                have h3i : ((2 : Int) ≤ (k : Int) - (sn : Int)) := by omega
                replace HPL := hide (show ((2 : Int), y) = P from by have h := HPL.out; rw [if_neg (by simp <;> omega), if_pos (by simp <;> omega)] at h; exact h)
                clear hf h2 h3 hS
                go_upto_region 12 with (first
                  | (go_at_call 21; (with_reducible refine (HFA.out _).mono ?_); rintro e w7 ⟨rfl, hw⟩; subst hw)
                  | (go_at_call 19; (with_reducible refine (HSL.out _).mono ?_); rintro e w7 ⟨rfl, hw⟩; subst hw))
                refine wp_region_noPanic ?_
                refine wp_region_U 2 (fun wz => Prd w wz ga own y) (by kernel_rfl) ?_
                have HD := hide HP.out.drew
                generalize wr.drew = wd at HD ⊢
                refine anyU_take2 (i := 0) (v := .agg (cA y)) (by simp only [List.getElem?_toArray, List.getElem?_cons_zero]; exact rfl) (by kernel_rfl) 12 (by kernel_rfl) (by kernel_rfl) (fun _ _ _ h => h) (by kernel_rfl) (by kernel_rfl) (by kernel_rfl) (by kernel_rfl) (Or.inl ⟨by rfl, fun w hSw => exec_load_gp rfl rfl (hSw.a.at8) at_under rfl (at_sz hy8)⟩) (by with_reducible exact HD.out) ?_
                try simp only [Act.put, List.setIfInBounds_toArray, List.set_cons_zero, List.set_cons_succ]
                refine anyU_take2 (i := 1) (v := .int .i64 2) (by simp only [List.getElem?_toArray, List.getElem?_cons_succ, List.getElem?_cons_zero]; exact rfl) (by kernel_rfl) 12 (by kernel_rfl) (by kernel_rfl) (fun _ _ _ h => h) (by kernel_rfl) (by kernel_rfl) (by kernel_rfl) (by kernel_rfl) (Or.inl ⟨by rfl, fun w hSw => (by go_simp; try with_reducible rfl)⟩) (by with_reducible exact HD.out) ?_
                try simp only [Act.put, List.setIfInBounds_toArray, List.set_cons_zero, List.set_cons_succ]
                refine anyU_one (i := 2) (by kernel_rfl) (by simp only [List.getElem?_toArray, List.getElem?_cons_succ, List.getElem?_cons_zero]; exact rfl) (fun K hK => ?_)
                rw [if_pos (by rfl)]
                refine wp_store_at (z := zero8) rfl hy8 rfl rfl HD.out.z.r rfl ?_
                intro w6 hn hg
                have HN := hide hn
                have HB := hide (HD.out.z.put hg)
                clear hn hg
                refine hK.out _ _ (fun e _ => absurd rfl e) ?_
                clear hK K
                try simp only [Act.put]
                refine anyU_done (by kernel_rfl) ?_
                refine NoPanic.normal ?_
                try simp only [Act.put]
                go_wp2
                exact bodyPost_ret (results_pre Try.results25 rfl rfl HN.out hy8) rfl ⟨by rw [← HPL.out]; rfl, HB.out⟩
              · skip
                have hfi : ¬ ((n : Int) - 1 - 1 ≤ (sn : Int)) := by omega
                have h2i : ((S : Int) - 1 ≤ (k : Int)) := by omega
                have h3i : ¬ ((2 : Int) ≤ (k : Int) - (sn : Int)) := by omega
                replace HPL := hide (show ((2 : Int), y) = P from by have h := HPL.out; rw [if_neg (by simp <;> omega), if_pos (by simp <;> omega)] at h; exact h)
                clear hf h2 h3 hS
                go_upto_region 12 with (first
                  | (go_at_call 21; (with_reducible refine (HFA.out _).mono ?_); rintro e w7 ⟨rfl, hw⟩; subst hw)
                  | (go_at_call 19; (with_reducible refine (HSL.out _).mono ?_); rintro e w7 ⟨rfl, hw⟩; subst hw))
                refine wp_region_noPanic ?_
                refine wp_region_U 2 (fun wz => Prd w wz ga own y) (by kernel_rfl) ?_
                have HD := hide HP.out.drew
                generalize wr.drew = wd at HD ⊢
                refine anyU_take2 (i := 0) (v := .agg (cA y)) (by simp only [List.getElem?_toArray, List.getElem?_cons_zero]; exact rfl) (by kernel_rfl) 12 (by kernel_rfl) (by kernel_rfl) (fun _ _ _ h => h) (by kernel_rfl) (by kernel_rfl) (by kernel_rfl) (by kernel_rfl) (Or.inl ⟨by rfl, fun w hSw => exec_load_gp rfl rfl (hSw.a.at8) at_under rfl (at_sz hy8)⟩) (by with_reducible exact HD.out) ?_
                try simp only [Act.put, List.setIfInBounds_toArray, List.set_cons_zero, List.set_cons_succ]
                refine anyU_take2 (i := 1) (v := .int .i64 2) (by simp only [List.getElem?_toArray, List.getElem?_cons_succ, List.getElem?_cons_zero]; exact rfl) (by kernel_rfl) 12 (by kernel_rfl) (by kernel_rfl) (fun _ _ _ h => h) (by kernel_rfl) (by kernel_rfl) (by kernel_rfl) (by kernel_rfl) (Or.inl ⟨by rfl, fun w hSw => (by go_simp; try with_reducible rfl)⟩) (by with_reducible exact HD.out) ?_
                try simp only [Act.put, List.setIfInBounds_toArray, List.set_cons_zero, List.set_cons_succ]
                refine anyU_one (i := 2) (by kernel_rfl) (by simp only [List.getElem?_toArray, List.getElem?_cons_succ, List.getElem?_cons_zero]; exact rfl) (fun K hK => ?_)
                rw [if_pos (by rfl)]
                refine wp_store_at (z := zero8) rfl hy8 rfl rfl HD.out.z.r rfl ?_
                intro w6 hn hg
                have HN := hide hn
                have HB := hide (HD.out.z.put hg)
                clear hn hg
                refine hK.out _ _ (fun e _ => absurd rfl e) ?_
                clear hK K
                try simp only [Act.put]
                refine anyU_done (by kernel_rfl) ?_
                refine NoPanic.normal ?_
                try simp only [Act.put]
                go_wp2
                exact bodyPost_ret (results_pre Try.results25 rfl rfl HN.out hy8) rfl ⟨by rw [← HPL.out]; rfl, HB.out⟩
          · cases late
            · by_cases h3 : sn + 2 ≤ k
              · skip
                have hfi : ¬ ((n : Int) - 1 - 1 ≤ (sn : Int)) := by omega
                have h2i : ¬ ((S : Int) - 1 ≤ (k : Int)) := by omega
                have h3i : ((2 : Int) ≤ (k : Int) - (sn : Int)) := by omega
                replace HPL := hide (show ((0 : Int), zero8) = P from by have h := HPL.out; rw [if_neg (by simp <;> omega), if_neg (by simp <;> omega)] at h; exact h)
                clear hf h2 h3 hS
                go_upto_region 13 with (first
                  | (go_at_call 21; (with_reducible refine (HFA.out _).mono ?_); rintro e w7 ⟨rfl, hw⟩; subst hw)
                  | (go_at_call 19; (with_reducible refine (HSL.out _).mono ?_); rintro e w7 ⟨rfl, hw⟩; subst hw))
                go_wp2_with (first | ((with_reducible refine wpList_store_at (y := zero8) (z := zero8) rfl ?_ ?_ HP.out.z.r rfl ?_); rfl; rfl; intro w6 hn hg; have HN := hide hn; have HB := hide (HP.out.z.put hg); clear hn hg))
                exact bodyPost_ret (results_pre Try.results25 rfl rfl HN.out rfl) rfl ⟨by rw [← HPL.out]; rfl, HB.out⟩
              · skip
                have hfi : ¬ ((n : Int) - 1 - 1 ≤ (sn : Int)) := by omega
                have h2i : ¬ ((S : Int) - 1 ≤ (k : Int)) := by omega
                have h3i : ¬ ((2 : Int) ≤ (k : Int) - (sn : Int)) := by omega
                replace HPL := hide (show ((0 : Int), zero8) = P from by have h := HPL.out; rw [if_neg (by simp <;> omega), if_neg (by simp <;> omega)] at h; exact h)
                clear hf h2 h3 hS
                go_upto_region 13 with (first
                  | (go_at_call 21; (with_reducible refine (HFA.out _).mono ?_); rintro e w7 ⟨rfl, hw⟩; subst hw)
                  | (go_at_call 19; (with_reducible refine (HSL.out _).mono ?_); rintro e w7 ⟨rfl, hw⟩; subst hw))
                go_wp2_with (first | ((with_reducible refine wpList_store_at (y := zero8) (z := zero8) rfl ?_ ?_ HP.out.z.r rfl ?_); rfl; rfl; intro w6 hn hg; have HN := hide hn; have HB := hide (HP.out.z.put hg); clear hn hg))
                exact bodyPost_ret (results_pre Try.results25 rfl rfl HN.out rfl) rfl ⟨by rw [← HPL.out]; rfl, HB.out⟩
            · by_cases h3 : sn + 2 ≤ k
              · skip
                have hfi : ¬ ((n : Int) - 1 - 1 ≤ (sn : Int)) := by omega
                have h2i : ¬ ((S : Int) - 1 ≤ (k : Int)) := by omega
                have h3i : ((2 : Int) ≤ (k : Int) - (sn : Int)) := by omega
                replace HPL := hide (show ((0 : Int), zero8) = P from by have h := HPL.out; rw [if_neg (by simp <;> omega), if_neg (by simp <;> omega)] at h; exact h)
                clear hf h2 h3 hS
                go_upto_region 13 with (first
                  | (go_at_call 21; (with_reducible refine (HFA.out _).mono ?_); rintro e w7 ⟨rfl, hw⟩; subst hw)
                  | (go_at_call 19; (with_reducible refine (HSL.out _).mono ?_); rintro e w7 ⟨rfl, hw⟩; subst hw))
                go_wp2_with (first | ((with_reducible refine wpList_store_at (y := zero8) (z := zero8) rfl ?_ ?_ HP.out.z.r rfl ?_); rfl; rfl; intro w6 hn hg; have HN := hide hn; have HB := hide (HP.out.z.put hg); clear hn hg))
                exact bodyPost_ret (results_pre Try.results25 rfl rfl HN.out rfl) rfl ⟨by rw [← HPL.out]; rfl, HB.out⟩
              · skip
                have hfi : ¬ ((n : Int) - 1 - 1 ≤ (sn : Int)) := by omega
                have h2i : ¬ ((S : Int) - 1 ≤ (k : Int)) := by omega
                have h3i : ¬ ((2 : Int) ≤ (k : Int) - (sn : Int)) := by omega
                replace HPL := hide (show ((0 : Int), zero8) = P from by have h := HPL.out; rw [if_neg (by simp <;> omega), if_neg (by simp <;> omega)] at h; exact h)
                clear hf h2 h3 hS
                go_upto_region 13 with (first
                  | (go_at_call 21; (with_reducible refine (HFA.out _).mono ?_); rintro e w7 ⟨rfl, hw⟩; subst hw)
                  | (go_at_call 19; (with_reducible refine (HSL.out _).mono ?_); rintro e w7 ⟨rfl, hw⟩; subst hw))
                go_wp2_with (first | ((with_reducible refine wpList_store_at (y := zero8) (z := zero8) rfl ?_ ?_ HP.out.z.r rfl ?_); rfl; rfl; intro w6 hn hg; have HN := hide hn; have HB := hide (HP.out.z.put hg); clear hn hg))
                exact bodyPost_ret (results_pre Try.results25 rfl rfl HN.out rfl) rfl ⟨by rw [← HPL.out]; rfl, HB.out⟩
      · by_cases hf : n ≤ sn + 2
        · by_cases h2 : n / 2 ≤ k
          · cases late
            · by_cases h3 : sn + 2 ≤ k
              · skip
                have hfi : ((n : Int) - 1 - 1 ≤ (sn : Int)) := by omega
                have h2i : ((S : Int) - 1 ≤ (k : Int)) := by omega
                have h3i : ((2 : Int) ≤ (k : Int) - (sn : Int)) := by omega
                replace HPL := hide (show ((1 : Int), own) = P from by have h := HPL.out; rw [if_pos (by simp <;> omega)] at h; exact h)
                clear hf h2 h3 hS
                go_upto_region 10 with (first
                  | (go_at_call 21; (with_reducible refine (HFA.out _).mono ?_); rintro e w7 ⟨rfl, hw⟩; subst hw)
                  | (go_at_call 19; (with_reducible refine (HSL.out _).mono ?_); rintro e w7 ⟨rfl, hw⟩; subst hw))
                refine wp_region_noPanic ?_
                refine wp_region_U 2 (fun wz => Prd w wz ga own y) (by kernel_rfl) ?_
                have HD := hide HP.out.drew
                generalize wr.drew = wd at HD ⊢
                refine anyU_take2 (i := 0) (v := .agg (cA own)) (by simp only [List.getElem?_toArray, List.getElem?_cons_zero]; exact rfl) (by kernel_rfl) 12 (by kernel_rfl) (by kernel_rfl) (fun _ _ _ h => h) (by kernel_rfl) (by kernel_rfl) (by kernel_rfl) (by kernel_rfl) (Or.inl ⟨by rfl, fun w hSw => exec_load_gp rfl rfl (hSw.z.o.at8) at_under rfl (at_sz h8)⟩) (by with_reducible exact HD.out) ?_
                try simp only [Act.put, List.setIfInBounds_toArray, List.set_cons_zero, List.set_cons_succ]
                refine anyU_take2 (i := 1) (v := .int .i64 1) (by simp only [List.getElem?_toArray, List.getElem?_cons_succ, List.getElem?_cons_zero]; exact rfl) (by kernel_rfl) 12 (by kernel_rfl) (by kernel_rfl) (fun _ _ _ h => h) (by kernel_rfl) (by kernel_rfl) (by kernel_rfl) (by kernel_rfl) (Or.inl ⟨by rfl, fun w hSw => (by go_simp; try with_reducible rfl)⟩) (by with_reducible exact HD.out) ?_
                try simp only [Act.put, List.setIfInBounds_toArray, List.set_cons_zero, List.set_cons_succ]
                refine anyU_one (i := 2) (by kernel_rfl) (by simp only [List.getElem?_toArray, List.getElem?_cons_succ, List.getElem?_cons_zero]; exact rfl) (fun K hK => ?_)
                rw [if_pos (by rfl)]
                refine wp_store_at (z := zero8) rfl h8 rfl rfl HD.out.z.r rfl ?_
                intro w6 hn hg
                have HN := hide hn
                have HB := hide (HD.out.z.put hg)
                clear hn hg
                refine hK.out _ _ (fun e _ => absurd rfl e) ?_
                clear hK K
                try simp only [Act.put]
                refine anyU_done (by kernel_rfl) ?_
                refine NoPanic.normal ?_
                try simp only [Act.put]
                go_wp2
                exact bodyPost_ret (results_pre Try.results25 rfl rfl HN.out h8) rfl ⟨by rw [← HPL.out]; rfl, HB.out⟩
              · skip
                have hfi : ((n : Int) - 1 - 1 ≤ (sn : Int)) := by omega
                have h2i : ((S : Int) - 1 ≤ (k : Int)) := by omega
                have h3i : ¬ ((2 : Int) ≤ (k : Int) - (sn : Int)) := by omega
                replace HPL := hide (show ((1 : Int), own) = P from by have h := HPL.out; rw [if_pos (by simp <;> omega)] at h; exact h)
                clear hf h2 h3 hS
                go_upto_region 10 with (first
                  | (go_at_call 21; (with_reducible refine (HFA.out _).mono ?_); rintro e w7 ⟨rfl, hw⟩; subst hw)
                  | (go_at_call 19; (with_reducible refine (HSL.out _).mono ?_); rintro e w7 ⟨rfl, hw⟩; subst hw))
                refine wp_region_noPanic ?_
                refine wp_region_U 2 (fun wz => Prd w wz ga own y) (by kernel_rfl) ?_
                have HD := hide HP.out.drew
                generalize wr.drew = wd at HD ⊢
                refine anyU_take2 (i := 0) (v := .agg (cA own)) (by simp only [List.getElem?_toArray, List.getElem?_cons_zero]; exact rfl) (by kernel_rfl) 12 (by kernel_rfl) (by kernel_rfl) (fun _ _ _ h => h) (by kernel_rfl) (by kernel_rfl) (by kernel_rfl) (by kernel_rfl) (Or.inl ⟨by rfl, fun w hSw => exec_load_gp rfl rfl (hSw.z.o.at8) at_under rfl (at_sz h8)⟩) (by with_reducible exact HD.out) ?_
                try simp only [Act.put, List.setIfInBounds_toArray, List.set_cons_zero, List.set_cons_succ]
                refine anyU_take2 (i := 1) (v := .int .i64 1) (by simp only [List.getElem?_toArray, List.getElem?_cons_succ, List.getElem?_cons_zero]; exact rfl) (by kernel_rfl) 12 (by kernel_rfl) (by kernel_rfl) (fun _ _ _ h => h) (by kernel_rfl) (by kernel_rfl) (by kernel_rfl) (by kernel_rfl) (Or.inl ⟨by rfl, fun w hSw => (by go_simp; try with_reducible rfl)⟩) (by with_reducible exact HD.out) ?_
                try simp only [Act.put, List.setIfInBounds_toArray, List.set_cons_zero, List.set_cons_succ]
                refine anyU_one (i := 2) (by kernel_rfl) (by simp only [List.getElem?_toArray, List.getElem?_cons_succ, List.getElem?_cons_zero]; exact rfl) (fun K hK => ?_)
                rw [if_pos (by rfl)]
                refine wp_store_at (z := zero8) rfl h8 rfl rfl HD.out.z.r rfl ?_
                intro w6 hn hg
                have HN := hide hn
                have HB := hide (HD.out.z.put hg)
                clear hn hg
                refine hK.out _ _ (fun e _ => absurd rfl e) ?_
                clear hK K
                try simp only [Act.put]
                refine anyU_done (by kernel_rfl) ?_
                refine NoPanic.normal ?_
                try simp only [Act.put]
                go_wp2
                exact bodyPost_ret (results_pre Try.results25 rfl rfl HN.out h8) rfl ⟨by rw [← HPL.out]; rfl, HB.out⟩
            · by_cases h3 : sn + 2 ≤ k
              · skip
                have hfi : ((n : Int) - 1 - 1 ≤ (sn : Int)) := by omega
                have h2i : ((S : Int) - 1 ≤ (k : Int)) := by omega
                have h3i : ((2 : Int) ≤ (k : Int) - (sn : Int)) := by omega
                replace HPL := hide (show ((1 : Int), own) = P from by have h := HPL.out; rw [if_pos (by simp <;> omega)] at h; exact h)
                clear hf h2 h3 hS
                go_upto_region 10 with (first
                  | (go_at_call 21; (with_reducible refine (HFA.out _).mono ?_); rintro e w7 ⟨rfl, hw⟩; subst hw)
                  | (go_at_call 19; (with_reducible refine (HSL.out _).mono ?_); rintro e w7 ⟨rfl, hw⟩; subst hw))
                refine wp_region_noPanic ?_
                refine wp_region_U 2 (fun wz => Prd w wz ga own y) (by kernel_rfl) ?_
                have HD := hide HP.out.drew
                generalize wr.drew = wd at HD ⊢
                refine anyU_take2 (i := 0) (v := .agg (cA own)) (by simp only [List.getElem?_toArray, List.getElem?_cons_zero]; exact rfl) (by kernel_rfl) 12 (by kernel_rfl) (by kernel_rfl) (fun _ _ _ h => h) (by kernel_rfl) (by kernel_rfl) (by kernel_rfl) (by kernel_rfl) (Or.inl ⟨by rfl, fun w hSw => exec_load_gp rfl rfl (hSw.z.o.at8) at_under rfl (at_sz h8)⟩) (by with_reducible exact HD.out) ?_
                try simp only [Act.put, List.setIfInBounds_toArray, List.set_cons_zero, List.set_cons_succ]
                refine anyU_take2 (i := 1) (v := .int .i64 1) (by simp only [List.getElem?_toArray, List.getElem?_cons_succ, List.getElem?_cons_zero]; exact rfl) (by kernel_rfl) 12 (by kernel_rfl) (by kernel_rfl) (fun _ _ _ h => h) (by kernel_rfl) (by kernel_rfl) (by kernel_rfl) (by kernel_rfl) (Or.inl ⟨by rfl, fun w hSw => (by go_simp; try with_reducible rfl)⟩) (by with_reducible exact HD.out) ?_
                try simp only [Act.put, List.setIfInBounds_toArray, List.set_cons_zero, List.set_cons_succ]
                refine anyU_one (i := 2) (by kernel_rfl) (by simp only [List.getElem?_toArray, List.getElem?_cons_succ, List.getElem?_cons_zero]; exact rfl) (fun K hK => ?_)
                rw [if_pos (by rfl)]
                refine wp_store_at (z := zero8) rfl h8 rfl rfl HD.out.z.r rfl ?_
                intro w6 hn hg
                have HN := hide hn
                have HB := hide (HD.out.z.put hg)
                clear hn hg
                refine hK.out _ _ (fun e _ => absurd rfl e) ?_
                clear hK K
                try simp only [Act.put]
                refine anyU_done (by kernel_rfl) ?_
                refine NoPanic.normal ?_
                try simp only [Act.put]
                go_wp2
                exact bodyPost_ret (results_pre Try.results25 rfl rfl HN.out h8) rfl ⟨by rw [← HPL.out]; rfl, HB.out⟩
              · skip
                have hfi : ((n : Int) - 1 - 1 ≤ (sn : Int)) := by omega
                have h2i : ((S : Int) - 1 ≤ (k : Int)) := by omega
                have h3i : ¬ ((2 : Int) ≤ (k : Int) - (sn : Int)) := by omega
                replace HPL := hide (show ((1 : Int), own) = P from by have h := HPL.out; rw [if_pos (by simp <;> omega)] at h; exact h)
                clear hf h2 h3 hS
                go_upto_region 10 with (first
                  | (go_at_call 21; (with_reducible refine (HFA.out _).mono ?_); rintro e w7 ⟨rfl, hw⟩; subst hw)
                  | (go_at_call 19; (with_reducible refine (HSL.out _).mono ?_); rintro e w7 ⟨rfl, hw⟩; subst hw))
                refine wp_region_noPanic ?_
                refine wp_region_U 2 (fun wz => Prd w wz ga own y) (by kernel_rfl) ?_
                have HD := hide HP.out.drew
                generalize wr.drew = wd at HD ⊢
                refine anyU_take2 (i := 0) (v := .agg (cA own)) (by simp only [List.getElem?_toArray, List.getElem?_cons_zero]; exact rfl) (by kernel_rfl) 12 (by kernel_rfl) (by kernel_rfl) (fun _ _ _ h => h) (by kernel_rfl) (by kernel_rfl) (by kernel_rfl) (by kernel_rfl) (Or.inl ⟨by rfl, fun w hSw => exec_load_gp rfl rfl (hSw.z.o.at8) at_under rfl (at_sz h8)⟩) (by with_reducible exact HD.out) ?_
                try simp only [Act.put, List.setIfInBounds_toArray, List.set_cons_zero, List.set_cons_succ]
                refine anyU_take2 (i := 1) (v := .int .i64 1) (by simp only [List.getElem?_toArray, List.getElem?_cons_succ, List.getElem?_cons_zero]; exact rfl) (by kernel_rfl) 12 (by kernel_rfl) (by kernel_rfl) (fun _ _ _ h => h) (by kernel_rfl) (by kernel_rfl) (by kernel_rfl) (by kernel_rfl) (Or.inl ⟨by rfl, fun w hSw => (by go_simp; try with_reducible rfl)⟩) (by with_reducible exact HD.out) ?_
                try simp only [Act.put, List.setIfInBounds_toArray, List.set_cons_zero, List.set_cons_succ]
                refine anyU_one (i := 2) (by kernel_rfl) (by simp only [List.getElem?_toArray, List.getElem?_cons_succ, List.getElem?_cons_zero]; exact rfl) (fun K hK => ?_)
                rw [if_pos (by rfl)]
                refine wp_store_at (z := zero8) rfl h8 rfl rfl HD.out.z.r rfl ?_
                intro w6 hn hg
                have HN := hide hn
                have HB := hide (HD.out.z.put hg)
                clear hn hg
                refine hK.out _ _ (fun e _ => absurd rfl e) ?_
                clear hK K
                try simp only [Act.put]
                refine anyU_done (by kernel_rfl) ?_
                refine NoPanic.normal ?_
                try simp only [Act.put]
                go_wp2
                exact bodyPost_ret (results_pre Try.results25 rfl rfl HN.out h8) rfl ⟨by rw [← HPL.out]; rfl, HB.out⟩
          · cases late
            · by_cases h3 : sn + 2 ≤ k
              · skip
                have hfi : ((n : Int) - 1 - 1 ≤ (sn : Int)) := by omega
                have h2i : ¬ ((S : Int) - 1 ≤ (k : Int)) := by omega
                have h3i : ((2 : Int) ≤ (k : Int) - (sn : Int)) := by omega
                replace HPL := hide (show ((1 : Int), own) = P from by have h := HPL.out; rw [if_pos (by simp <;> omega)] at h; exact h)
                clear hf h2 h3 hS
                go_upto_region 10 with (first
                  | (go_at_call 21; (with_reducible refine (HFA.out _).mono ?_); rintro e w7 ⟨rfl, hw⟩; subst hw)
                  | (go_at_call 19; (with_reducible refine (HSL.out _).mono ?_); rintro e w7 ⟨rfl, hw⟩; subst hw))
                refine wp_region_noPanic ?_
                refine wp_region_U 2 (fun wz => Prd w wz ga own y) (by kernel_rfl) ?_
                have HD := hide HP.out.drew
                generalize wr.drew = wd at HD ⊢
                refine anyU_take2 (i := 0) (v := .agg (cA own)) (by simp only [List.getElem?_toArray, List.getElem?_cons_zero]; exact rfl) (by kernel_rfl) 12 (by kernel_rfl) (by kernel_rfl) (fun _ _ _ h => h) (by kernel_rfl) (by kernel_rfl) (by kernel_rfl) (by kernel_rfl) (Or.inl ⟨by rfl, fun w hSw => exec_load_gp rfl rfl (hSw.z.o.at8) at_under rfl (at_sz h8)⟩) (by with_reducible exact HD.out) ?_
                try simp only [Act.put, List.setIfInBounds_toArray, List.set_cons_zero, List.set_cons_succ]
                refine anyU_take2 (i := 1) (v := .int .i64 1) (by simp only [List.getElem?_toArray, List.getElem?_cons_succ, List.getElem?_cons_zero]; exact rfl) (by kernel_rfl) 12 (by kernel_rfl) (by kernel_rfl) (fun _ _ _ h => h) (by kernel_rfl) (by kernel_rfl) (by kernel_rfl) (by kernel_rfl) (Or.inl ⟨by rfl, fun w hSw => (by go_simp; try with_reducible rfl)⟩) (by with_reducible exact HD.out) ?_
                try simp only [Act.put, List.setIfInBounds_toArray, List.set_cons_zero, List.set_cons_succ]
                refine anyU_one (i := 2) (by kernel_rfl) (by simp only [List.getElem?_toArray, List.getElem?_cons_succ, List.getElem?_cons_zero]; exact rfl) (fun K hK => ?_)
                rw [if_pos (by rfl)]
                refine wp_store_at (z := zero8) rfl h8 rfl rfl HD.out.z.r rfl ?_
                intro w6 hn hg
                have HN := hide hn
                have HB := hide (HD.out.z.put hg)
                clear hn hg
                refine hK.out _ _ (fun e _ => absurd rfl e) ?_
                clear hK K
                try simp only [Act.put]
                refine anyU_done (by kernel_rfl) ?_
                refine NoPanic.normal ?_
                try simp only [Act.put]
                go_wp2
                exact bodyPost_ret (results_pre Try.results25 rfl rfl HN.out h8) rfl ⟨by rw [← HPL.out]; rfl, HB.out⟩
              · skip
                have hfi : ((n : Int) - 1 - 1 ≤ (sn : Int)) := by omega
                have h2i : ¬ ((S : Int) - 1 ≤ (k : Int)) := by omega
                have h3i : ¬ ((2 : Int) ≤ (k : Int) - (sn : Int)) := by omega
                replace HPL := hide (show ((1 : Int), own) = P from by have h := HPL.out; rw [if_pos (by simp <;> omega)] at h; exact h)
                clear hf h2 h3 hS
                go_upto_region 10 with (first
                  | (go_at_call 21; (with_reducible refine (HFA.out _).mono ?_); rintro e w7 ⟨rfl, hw⟩; subst hw)
                  | (go_at_call 19; (with_reducible refine (HSL.out _).mono ?_); rintro e w7 ⟨rfl, hw⟩; subst hw))
                refine wp_region_noPanic ?_
                refine wp_region_U 2 (fun wz => Prd w wz ga own y) (by kernel_rfl) ?_
                have HD := hide HP.out.drew
                generalize wr.drew = wd at HD ⊢
                refine anyU_take2 (i := 0) (v := .agg (cA own)) (by simp only [List.getElem?_toArray, List.getElem?_cons_zero]; exact rfl) (by kernel_rfl) 12 (by kernel_rfl) (by kernel_rfl) (fun _ _ _ h => h) (by kernel_rfl) (by kernel_rfl) (by kernel_rfl) (by kernel_rfl) (Or.inl ⟨by rfl, fun w hSw => exec_load_gp rfl rfl (hSw.z.o.at8) at_under rfl (at_sz h8)⟩) (by with_reducible exact HD.out) ?_
                try simp only [Act.put, List.setIfInBounds_toArray, List.set_cons_zero, List.set_cons_succ]
                refine anyU_take2 (i := 1) (v := .int .i64 1) (by simp only [List.getElem?_toArray, List.getElem?_cons_succ, List.getElem?_cons_zero]; exact rfl) (by kernel_rfl) 12 (by kernel_rfl) (by kernel_rfl) (fun _ _ _ h => h) (by kernel_rfl) (by kernel_rfl) (by kernel_rfl) (by kernel_rfl) (Or.inl ⟨by rfl, fun w hSw => (by go_simp; try with_reducible rfl)⟩) (by with_reducible exact HD.out) ?_
                try simp only [Act.put, List.setIfInBounds_toArray, List.set_cons_zero, List.set_cons_succ]
                refine anyU_one (i := 2) (by kernel_rfl) (by simp only [List.getElem?_toArray, List.getElem?_cons_succ, List.getElem?_cons_zero]; exact rfl) (fun K hK => ?_)
                rw [if_pos (by rfl)]
                refine wp_store_at (z := zero8) rfl h8 rfl rfl HD.out.z.r rfl ?_
                intro w6 hn hg
                have HN := hide hn
                have HB := hide (HD.out.z.put hg)
                clear hn hg
                refine hK.out _ _ (fun e _ => absurd rfl e) ?_
                clear hK K
                try simp only [Act.put]
                refine anyU_done (by kernel_rfl) ?_
                refine NoPanic.normal ?_
                try simp only [Act.put]
                go_wp2
                exact bodyPost_ret (results_pre Try.results25 rfl rfl HN.out h8) rfl ⟨by rw [← HPL.out]; rfl, HB.out⟩
            · by_cases h3 : sn + 2 ≤ k
              · skip
                have hfi : ((n : Int) - 1 - 1 ≤ (sn : Int)) := by omega
                have h2i : ¬ ((S : Int) - 1 ≤ (k : Int)) := by omega
                have h3i : ((2 : Int) ≤ (k : Int) - (sn : Int)) := by omega
                replace HPL := hide (show ((1 : Int), own) = P from by have h := HPL.out; rw [if_pos (by simp <;> omega)] at h; exact h)
                clear hf h2 h3 hS
                go_upto_region 10 with (first
                  | (go_at_call 21; (with_reducible refine (HFA.out _).mono ?_); rintro e w7 ⟨rfl, hw⟩; subst hw)
                  | (go_at_call 19; (with_reducible refine (HSL.out _).mono ?_); rintro e w7 ⟨rfl, hw⟩; subst hw))
                refine wp_region_noPanic ?_
                refine wp_region_U 2 (fun wz => Prd w wz ga own y) (by kernel_rfl) ?_
                have HD := hide HP.out.drew
                generalize wr.drew = wd at HD ⊢
                refine anyU_take2 (i := 0) (v := .agg (cA own)) (by simp only [List.getElem?_toArray, List.getElem?_cons_zero]; exact rfl) (by kernel_rfl) 12 (by kernel_rfl) (by kernel_rfl) (fun _ _ _ h => h) (by kernel_rfl) (by kernel_rfl) (by kernel_rfl) (by kernel_rfl) (Or.inl ⟨by rfl, fun w hSw => exec_load_gp rfl rfl (hSw.z.o.at8) at_under rfl (at_sz h8)⟩) (by with_reducible exact HD.out) ?_
                try simp only [Act.put, List.setIfInBounds_toArray, List.set_cons_zero, List.set_cons_succ]
                refine anyU_take2 (i := 1) (v := .int .i64 1) (by simp only [List.getElem?_toArray, List.getElem?_cons_succ, List.getElem?_cons_zero]; exact rfl) (by kernel_rfl) 12 (by kernel_rfl) (by kernel_rfl) (fun _ _ _ h => h) (by kernel_rfl) (by kernel_rfl) (by kernel_rfl) (by kernel_rfl) (Or.inl ⟨by rfl, fun w hSw => (by go_simp; try with_reducible rfl)⟩) (by with_reducible exact HD.out) ?_
                try simp only [Act.put, List.setIfInBounds_toArray, List.set_cons_zero, List.set_cons_succ]
                refine anyU_one (i := 2) (by kernel_rfl) (by simp only [List.getElem?_toArray, List.getElem?_cons_succ, List.getElem?_cons_zero]; exact rfl) (fun K hK => ?_)
                rw [if_pos (by rfl)]
                refine wp_store_at (z := zero8) rfl h8 rfl rfl HD.out.z.r rfl ?_
                intro w6 hn hg
                have HN := hide hn
                have HB := hide (HD.out.z.put hg)
                clear hn hg
                refine hK.out _ _ (fun e _ => absurd rfl e) ?_
                clear hK K
                try simp only [Act.put]
                refine anyU_done (by kernel_rfl) ?_
                refine NoPanic.normal ?_
                try simp only [Act.put]
                go_wp2
                exact bodyPost_ret (results_pre Try.results25 rfl rfl HN.out h8) rfl ⟨by rw [← HPL.out]; rfl, HB.out⟩
              · skip
                have hfi : ((n : Int) - 1 - 1 ≤ (sn : Int)) := by omega
                have h2i : ¬ ((S : Int) - 1 ≤ (k : Int)) := by omega
                have h3i : ¬ ((2 : Int) ≤ (k : Int) - (sn : Int)) := by omega
                replace HPL := hide (show ((1 : Int), own) = P from by have h := HPL.out; rw [if_pos (by simp <;> omega)] at h; exact h)
                clear hf h2 h3 hS
                go_upto_region 10 with (first
                  | (go_at_call 21; (with_reducible refine (HFA.out _).mono ?_); rintro e w7 ⟨rfl, hw⟩; subst hw)
                  | (go_at_call 19; (with_reducible refine (HSL.out _).mono ?_); rintro e w7 ⟨rfl, hw⟩; subst hw))
                refine wp_region_noPanic ?_
                refine wp_region_U 2 (fun wz => Prd w wz ga own y) (by kernel_rfl) ?_
                have HD := hide HP.out.drew
                generalize wr.drew = wd at HD ⊢
                refine anyU_take2 (i := 0) (v := .agg (cA own)) (by simp only [List.getElem?_toArray, List.getElem?_cons_zero]; exact rfl) (by kernel_rfl) 12 (by kernel_rfl) (by kernel_rfl) (fun _ _ _ h => h) (by kernel_rfl) (by kernel_rfl) (by kernel_rfl) (by kernel_rfl) (Or.inl ⟨by rfl, fun w hSw => exec_load_gp rfl rfl (hSw.z.o.at8) at_under rfl (at_sz h8)⟩) (by with_reducible exact HD.out) ?_
                try simp only [Act.put, List.setIfInBounds_toArray, List.set_cons_zero, List.set_cons_succ]
                refine anyU_take2 (i := 1) (v := .int .i64 1) (by simp only [List.getElem?_toArray, List.getElem?_cons_succ, List.getElem?_cons_zero]; exact rfl) (by kernel_rfl) 12 (by kernel_rfl) (by kernel_rfl) (fun _ _ _ h => h) (by kernel_rfl) (by kernel_rfl) (by kernel_rfl) (by kernel_rfl) (Or.inl ⟨by rfl, fun w hSw => (by go_simp; try with_reducible rfl)⟩) (by with_reducible exact HD.out) ?_
                try simp only [Act.put, List.setIfInBounds_toArray, List.set_cons_zero, List.set_cons_succ]
                refine anyU_one (i := 2) (by kernel_rfl) (by simp only [List.getElem?_toArray, List.getElem?_cons_succ, List.getElem?_cons_zero]; exact rfl) (fun K hK => ?_)
                rw [if_pos (by rfl)]
                refine wp_store_at (z := zero8) rfl h8 rfl rfl HD.out.z.r rfl ?_
                intro w6 hn hg
                have HN := hide hn
                have HB := hide (HD.out.z.put hg)
                clear hn hg
                refine hK.out _ _ (fun e _ => absurd rfl e) ?_
                clear hK K
                try simp only [Act.put]
                refine anyU_done (by kernel_rfl) ?_
                refine NoPanic.normal ?_
                try simp only [Act.put]
                go_wp2
                exact bodyPost_ret (results_pre Try.results25 rfl rfl HN.out h8) rfl ⟨by rw [← HPL.out]; rfl, HB.out⟩
        · by_cases h2 : n / 2 ≤ k
          · cases late
            · by_cases h3 : sn + 2 ≤ k
              · skip
                have hfi : ¬ ((n : Int) - 1 - 1 ≤ (sn : Int)) := by omega
                have h2i : ((S : Int) - 1 ≤ (k : Int)) := by omega
                have h3i : ((2 : Int) ≤ (k : Int) - (sn : Int)) := by omega
                replace HPL := hide (show ((2 : Int), y) = P from by have h := HPL.out; rw [if_neg (by simp <;> omega), if_pos (by simp <;> omega)] at h; exact h)
                clear hf h2 h3 hS
                go_upto_region 12 with (first
                  | (go_at_call 21; (with_reducible refine (HFA.out _).mono ?_); rintro e w7 ⟨rfl, hw⟩; subst hw)
                  | (go_at_call 19; (with_reducible refine (HSL.out _).mono ?_); rintro e w7 ⟨rfl, hw⟩; subst hw))
                refine wp_region_noPanic ?_
                refine wp_region_U 2 (fun wz => Prd w wz ga own y) (by kernel_rfl) ?_
                have HD := hide HP.out.drew
                generalize wr.drew = wd at HD ⊢
                refine anyU_take2 (i := 0) (v := .agg (cA y)) (by simp only [List.getElem?_toArray, List.getElem?_cons_zero]; exact rfl) (by kernel_rfl) 12 (by kernel_rfl) (by kernel_rfl) (fun _ _ _ h => h) (by kernel_rfl) (by kernel_rfl) (by kernel_rfl) (by kernel_rfl) (Or.inl ⟨by rfl, fun w hSw => exec_load_gp rfl rfl (hSw.a.at8) at_under rfl (at_sz hy8)⟩) (by with_reducible exact HD.out) ?_
                try simp only [Act.put, List.setIfInBounds_toArray, List.set_cons_zero, List.set_cons_succ]
                refine anyU_take2 (i := 1) (v := .int .i64 2) (by simp only [List.getElem?_toArray, List.getElem?_cons_succ, List.getElem?_cons_zero]; exact rfl) (by kernel_rfl) 12 (by kernel_rfl) (by kernel_rfl) (fun _ _ _ h => h) (by kernel_rfl) (by kernel_rfl) (by kernel_rfl) (by kernel_rfl) (Or.inl ⟨by rfl, fun w hSw => (by go_simp; try with_reducible rfl)⟩) (by with_reducible exact HD.out) ?_
                try simp only [Act.put, List.setIfInBounds_toArray, List.set_cons_zero, List.set_cons_succ]
                refine anyU_one (i := 2) (by kernel_rfl) (by simp only [List.getElem?_toArray, List.getElem?_cons_succ, List.getElem?_cons_zero]; exact rfl) (fun K hK => ?_)
                rw [if_pos (by rfl)]
                refine wp_store_at (z := zero8) rfl hy8 rfl rfl HD.out.z.r rfl ?_
                intro w6 hn hg
                have HN := hide hn
                have HB := hide (HD.out.z.put hg)
                clear hn hg
                refine hK.out _ _ (fun e _ => absurd rfl e) ?_
                clear hK K
                try simp only [Act.put]
                refine anyU_done (by kernel_rfl) ?_
                refine NoPanic.normal ?_
                try simp only [Act.put]
                go_wp2
                exact bodyPost_ret (results_pre Try.results25 rfl rfl HN.out hy8) rfl ⟨by rw [← HPL.out]; rfl, HB.out⟩
              · skip
                have hfi : ¬ ((n : Int) - 1 - 1 ≤ (sn : Int)) := by omega
                have h2i : ((S : Int) - 1 ≤ (k : Int)) := by omega
                have h3i : ¬ ((2 : Int) ≤ (k : Int) - (sn : Int)) := by omega
                replace HPL := hide (show ((0 : Int), zero8) = P from by have h := HPL.out; rw [if_neg (by simp <;> omega), if_neg (by simp <;> omega)] at h; exact h)
                clear hf h2 h3 hS
                go_upto_region 13 with (first
                  | (go_at_call 21; (with_reducible refine (HFA.out _).mono ?_); rintro e w7 ⟨rfl, hw⟩; subst hw)
                  | (go_at_call 19; (with_reducible refine (HSL.out _).mono ?_); rintro e w7 ⟨rfl, hw⟩; subst hw))
                go_wp2_with (first | ((with_reducible refine wpList_store_at (y := zero8) (z := zero8) rfl ?_ ?_ HP.out.z.r rfl ?_); rfl; rfl; intro w6 hn hg; have HN := hide hn; have HB := hide (HP.out.z.put hg); clear hn hg))
                exact bodyPost_ret (results_pre Try.results25 rfl rfl HN.out rfl) rfl ⟨by rw [← HPL.out]; rfl, HB.out⟩
            · by_cases h3 : sn + 2 ≤ k
              · skip
                have hfi : ¬ ((n : Int) - 1 - 1 ≤ (sn : Int)) := by omega
                have h2i : ((S : Int) - 1 ≤ (k : Int)) := by omega
                have h3i : ((2 : Int) ≤ (k : Int) - (sn : Int)) := by omega
                replace HPL := hide (show ((2 : Int), y) = P from by have h := HPL.out; rw [if_neg (by simp <;> omega), if_pos (by simp <;> omega)] at h; exact h)
                clear hf h2 h3 hS
                go_upto_region 12 with (first
                  | (go_at_call 21; (with_reducible refine (HFA.out _).mono ?_); rintro e w7 ⟨rfl, hw⟩; subst hw)
                  | (go_at_call 19; (with_reducible refine (HSL.out _).mono ?_); rintro e w7 ⟨rfl, hw⟩; subst hw))
                refine wp_region_noPanic ?_
                refine wp_region_U 2 (fun wz => Prd w wz ga own y) (by kernel_rfl) ?_
                have HD := hide HP.out.drew
                generalize wr.drew = wd at HD ⊢
                refine anyU_take2 (i := 0) (v := .agg (cA y)) (by simp only [List.getElem?_toArray, List.getElem?_cons_zero]; exact rfl) (by kernel_rfl) 12 (by kernel_rfl) (by kernel_rfl) (fun _ _ _ h => h) (by kernel_rfl) (by kernel_rfl) (by kernel_rfl) (by kernel_rfl) (Or.inl ⟨by rfl, fun w hSw => exec_load_gp rfl rfl (hSw.a.at8) at_under rfl (at_sz hy8)⟩) (by with_reducible exact HD.out) ?_
                try simp only [Act.put, List.setIfInBounds_toArray, List.set_cons_zero, List.set_cons_succ]
                refine anyU_take2 (i := 1) (v := .int .i64 2) (by simp only [List.getElem?_toArray, List.getElem?_cons_succ, List.getElem?_cons_zero]; exact rfl) (by kernel_rfl) 12 (by kernel_rfl) (by kernel_rfl) (fun _ _ _ h => h) (by kernel_rfl) (by kernel_rfl) (by kernel_rfl) (by kernel_rfl) (Or.inl ⟨by rfl, fun w hSw => (by go_simp; try with_reducible rfl)⟩) (by with_reducible exact HD.out) ?_
                try simp only [Act.put, List.setIfInBounds_toArray, List.set_cons_zero, List.set_cons_succ]
                refine anyU_one (i := 2) (by kernel_rfl) (by simp only [List.getElem?_toArray, List.getElem?_cons_succ, List.getElem?_cons_zero]; exact rfl) (fun K hK => ?_)
                rw [if_pos (by rfl)]
                refine wp_store_at (z := zero8) rfl hy8 rfl rfl HD.out.z.r rfl ?_
                intro w6 hn hg
                have HN := hide hn
                have HB := hide (HD.out.z.put hg)
                clear hn hg
                refine hK.out _ _ (fun e _ => absurd rfl e) ?_
                clear hK K
                try simp only [Act.put]
                refine anyU_done (by kernel_rfl) ?_
                refine NoPanic.normal ?_
                try simp only [Act.put]
                go_wp2
                exact bodyPost_ret (results_pre Try.results25 rfl rfl HN.out hy8) rfl ⟨by rw [← HPL.out]; rfl, HB.out⟩
              · skip
                have hfi : ¬ ((n : Int) - 1 - 1 ≤ (sn : Int)) := by omega
                have h2i : ((S : Int) - 1 ≤ (k : Int)) := by omega
                have h3i : ¬ ((2 : Int) ≤ (k : Int) - (sn : Int)) := by omega
                replace HPL := hide (show ((2 : Int), y) = P from by have h := HPL.out; rw [if_neg (by simp <;> omega), if_pos (by simp <;> omega)] at h; exact h)
                clear hf h2 h3 hS
                go_upto_region 12 with (first
                  | (go_at_call 21; (with_reducible refine (HFA.out _).mono ?_); rintro e w7 ⟨rfl, hw⟩; subst hw)
                  | (go_at_call 19; (with_reducible refine (HSL.out _).mono ?_); rintro e w7 ⟨rfl, hw⟩; subst hw))
                refine wp_region_noPanic ?_
                refine wp_region_U 2 (fun wz => Prd w wz ga own y) (by kernel_rfl) ?_
                have HD := hide HP.out.drew
                generalize wr.drew = wd at HD ⊢
                refine anyU_take2 (i := 0) (v := .agg (cA y)) (by simp only [List.getElem?_toArray, List.getElem?_cons_zero]; exact rfl) (by kernel_rfl) 12 (by kernel_rfl) (by kernel_rfl) (fun _ _ _ h => h) (by kernel_rfl) (by kernel_rfl) (by kernel_rfl) (by kernel_rfl) (Or.inl ⟨by rfl, fun w hSw => exec_load_gp rfl rfl (hSw.a.at8) at_under rfl (at_sz hy8)⟩) (by with_reducible exact HD.out) ?_
                try simp only [Act.put, List.setIfInBounds_toArray, List.set_cons_zero, List.set_cons_succ]
                refine anyU_take2 (i := 1) (v := .int .i64 2) (by simp only [List.getElem?_toArray, List.getElem?_cons_succ, List.getElem?_cons_zero]; exact rfl) (by kernel_rfl) 12 (by kernel_rfl) (by kernel_rfl) (fun _ _ _ h => h) (by kernel_rfl) (by kernel_rfl) (by kernel_rfl) (by kernel_rfl) (Or.inl ⟨by rfl, fun w hSw => (by go_simp; try with_reducible rfl)⟩) (by with_reducible exact HD.out) ?_
                try simp only [Act.put, List.setIfInBounds_toArray, List.set_cons_zero, List.set_cons_succ]
                refine anyU_one (i := 2) (by kernel_rfl) (by simp only [List.getElem?_toArray, List.getElem?_cons_succ, List.getElem?_cons_zero]; exact rfl) (fun K hK => ?_)
                rw [if_pos (by rfl)]
                refine wp_store_at (z := zero8) rfl hy8 rfl rfl HD.out.z.r rfl ?_
                intro w6 hn hg
                have HN := hide hn
                have HB := hide (HD.out.z.put hg)
                clear hn hg
                refine hK.out _ _ (fun e _ => absurd rfl e) ?_
                clear hK K
                try simp only [Act.put]
                refine anyU_done (by kernel_rfl) ?_
                refine NoPanic.normal ?_
                try simp only [Act.put]
                go_wp2
                exact bodyPost_ret (results_pre Try.results25 rfl rfl HN.out hy8) rfl ⟨by rw [← HPL.out]; rfl, HB.out⟩
          · cases late
            · by_cases h3 : sn + 2 ≤ k
              · skip
                have hfi : ¬ ((n : Int) - 1 - 1 ≤ (sn : Int)) := by omega
                have h2i : ¬ ((S : Int) - 1 ≤ (k : Int)) := by omega
                have h3i : ((2 : Int) ≤ (k : Int) - (sn : Int)) := by omega
                replace HPL := hide (show ((0 : Int), zero8) = P from by have h := HPL.out; rw [if_neg (by simp <;> omega), if_neg (by simp <;> omega)] at h; exact h)
                clear hf h2 h3 hS
                go_upto_region 13 with (first
                  | (go_at_call 21; (with_reducible refine (HFA.out _).mono ?_); rintro e w7 ⟨rfl, hw⟩; subst hw)
                  | (go_at_call 19; (with_reducible refine (HSL.out _).mono ?_); rintro e w7 ⟨rfl, hw⟩; subst hw))
                go_wp2_with (first | ((with_reducible refine wpList_store_at (y := zero8) (z := zero8) rfl ?_ ?_ HP.out.z.r rfl ?_); rfl; rfl; intro w6 hn hg; have HN := hide hn; have HB := hide (HP.out.z.put hg); clear hn hg))
                exact bodyPost_ret (results_pre Try.results25 rfl rfl HN.out rfl) rfl ⟨by rw [← HPL.out]; rfl, HB.out⟩
              · skip
                have hfi : ¬ ((n : Int) - 1 - 1 ≤ (sn : Int)) := by omega
                have h2i : ¬ ((S : Int) - 1 ≤ (k : Int)) := by omega
                have h3i : ¬ ((2 : Int) ≤ (k : Int) - (sn : Int)) := by omega
                replace HPL := hide (show ((0 : Int), zero8) = P from by have h := HPL.out; rw [if_neg (by simp <;> omega), if_neg (by simp <;> omega)] at h; exact h)
                clear hf h2 h3 hS
                go_upto_region 13 with (first
                  | (go_at_call 21; (with_reducible refine (HFA.out _).mono ?_); rintro e w7 ⟨rfl, hw⟩; subst hw)
                  | (go_at_call 19; (with_reducible refine (HSL.out _).mono ?_); rintro e w7 ⟨rfl, hw⟩; subst hw))
                go_wp2_with (first | ((with_reducible refine wpList_store_at (y := zero8) (z := zero8) rfl ?_ ?_ HP.out.z.r rfl ?_); rfl; rfl; intro w6 hn hg; have HN := hide hn; have HB := hide (HP.out.z.put hg); clear hn hg))
                exact bodyPost_ret (results_pre Try.results25 rfl rfl HN.out rfl) rfl ⟨by rw [← HPL.out]; rfl, HB.out⟩
            · by_cases h3 : sn + 2 ≤ k
              · skip
                have hfi : ¬ ((n : Int) - 1 - 1 ≤ (sn : Int)) := by omega
                have h2i : ¬ ((S : Int) - 1 ≤ (k : Int)) := by omega
                have h3i : ((2 : Int) ≤ (k : Int) - (sn : Int)) := by omega
                replace HPL := hide (show ((0 : Int), zero8) = P from by have h := HPL.out; rw [if_neg (by simp <;> omega), if_neg (by simp <;> omega)] at h; exact h)
                clear hf h2 h3 hS
                go_upto_region 13 with (first
                  | (go_at_call 21; (with_reducible refine (HFA.out _).mono ?_); rintro e w7 ⟨rfl, hw⟩; subst hw)
                  | (go_at_call 19; (with_reducible refine (HSL.out _).mono ?_); rintro e w7 ⟨rfl, hw⟩; subst hw))
                go_wp2_with (first | ((with_reducible refine wpList_store_at (y := zero8) (z := zero8) rfl ?_ ?_ HP.out.z.r rfl ?_); rfl; rfl; intro w6 hn hg; have HN := hide hn; have HB := hide (HP.out.z.put hg); clear hn hg))
                exact bodyPost_ret (results_pre Try.results25 rfl rfl HN.out rfl) rfl ⟨by rw [← HPL.out]; rfl, HB.out⟩
              · skip
                have hfi : ¬ ((n : Int) - 1 - 1 ≤ (sn : Int)) := by omega
                have h2i : ¬ ((S : Int) - 1 ≤ (k : Int)) := by omega
                have h3i : ¬ ((2 : Int) ≤ (k : Int) - (sn : Int)) := by omega
                replace HPL := hide (show ((0 : Int), zero8) = P from by have h := HPL.out; rw [if_neg (by simp <;> omega), if_neg (by simp <;> omega)] at h; exact h)
                clear hf h2 h3 hS
                go_upto_region 13 with (first
                  | (go_at_call 21; (with_reducible refine (HFA.out _).mono ?_); rintro e w7 ⟨rfl, hw⟩; subst hw)
                  | (go_at_call 19; (with_reducible refine (HSL.out _).mono ?_); rintro e w7 ⟨rfl, hw⟩; subst hw))
                go_wp2_with (first | ((with_reducible refine wpList_store_at (y := zero8) (z := zero8) rfl ?_ ?_ HP.out.z.r rfl ?_); rfl; rfl; intro w6 hn hg; have HN := hide hn; have HB := hide (HP.out.z.put hg); clear hn hg))
                exact bodyPost_ret (results_pre Try.results25 rfl rfl HN.out rfl) rfl ⟨by rw [← HPL.out]; rfl, HB.out⟩
end Go.Proofs.Ytjkdccokiaejhaa
/- What was said to a Prepare, in memory: a list of replicas and cells; the answer's blocks; a store of a command. Conditions: the cells' attributes are eight numbers. -/
namespace Go.Proofs.Ytjkdccokiaejhaa
set_option maxRecDepth 100000
open Go.RowKit
/-- One of them, as values. -/
def sdl (e : Int × Cl) : List Value := .int .i64 e.1 :: e.2.l
theorem sdl_len {e : Int × Cl} (h : e.2.a.length = 8) : (sdl e).length = 22 := by unfold sdl; rw [List.length_cons, Cl.len h]
/-- They lie in memory. -/
structure Sds (w : World) (A : Option Addr) (l : List (Int × Cl)) : Prop where
  e : Els 22 w A (l.map sdl)
  a8 : ∀ e, e ∈ l → e.2.a.length = 8
theorem Sds.below {w w' : World} {A : Option Addr} {l : List (Int × Cl)} (h : Sds w A l) (hb : Below w.heap.size w w') : Sds w' A l := ⟨h.e.below hb, h.a8⟩
theorem range_mid {w : World} {q o n : Nat} {L A ys D : List Value} (h : w.rangeAt q o L) (e : L = A ++ (ys ++ D)) (hn : A.length = n) : w.rangeAt q (o + n) ys := fun j v hj => by
  have h1 := h (n + j) v (by
    rw [e, ← hn, List.getElem?_append_right (by omega), Nat.add_sub_cancel_left, List.getElem?_append_left (List.getElem?_eq_some_iff.1 hj).1]
    exact hj)
  rw [← Nat.add_assoc] at h1
  exact h1
/-- One of them lies there. -/
structure SdAt (w : World) (q o : Nat) (e : Int × Cl) : Prop where
  r : w.cell? ⟨q, o, none⟩ = some (.int .i64 e.1)
  c : w.rangeAt q (o + 1) e.2.l
theorem Sds.at_ {w : World} {A : Option Addr} {l : List (Int × Cl)} (h : Sds w A l) {k : Nat} {e : Int × Cl} (hk : l[k]? = some e) : ∃ q off, A = some ⟨q, off, none⟩ ∧ SdAt w q (off + k * 22) e := by
  have hl : (l.map sdl)[k]? = some (sdl e) := by rw [List.getElem?_map, hk]; rfl
  obtain ⟨q, off, rfl, _, hc⟩ := h.e.at_ hl
  have h8 := h.a8 e (List.mem_of_getElem? hk)
  refine ⟨q, off, rfl, hc 0 (by omega), fun j v hj => ?_⟩
  have hj21 : j < 21 := by
    have := (List.getElem?_eq_some_iff.1 hj).1
    rwa [Cl.len h8] at this
  have h1 := hc (1 + j) (by omega)
  rw [show (sdl e)[1 + j]? = e.2.l[j]? by rw [Nat.add_comm]; rfl, hj, ← Nat.add_assoc] at h1
  exact h1
section
variable {w : World} {q o : Nat} {e : Int × Cl}
theorem SdAt.st (h : SdAt w q o e) : w.cell? ⟨q, o + 1, none⟩ = some (.int .i64 e.2.st) := h.c 0 _ rfl
theorem SdAt.v (h : SdAt w q o e) : w.rangeAt q (o + 1 + 3) [.int .i64 e.2.v.1, .int .i64 e.2.v.2] := range_mid h.c (A := [.int .i64 e.2.st, .int .i64 e.2.p.1, .int .i64 e.2.p.2]) (D := e.2.c.l ++ (cellsR e.2.a ++ [.bool e.2.s])) rfl rfl
theorem SdAt.cm (h : SdAt w q o e) : w.rangeAt q (o + 1 + 5) e.2.c.l := range_mid h.c (A := [.int .i64 e.2.st, .int .i64 e.2.p.1, .int .i64 e.2.p.2, .int .i64 e.2.v.1, .int .i64 e.2.v.2]) (D := cellsR e.2.a ++ [.bool e.2.s]) rfl rfl
theorem SdAt.at (h : SdAt w q o e) : w.rangeAt q (o + 1 + 12) (cellsR e.2.a) := range_mid h.c (A := [.int .i64 e.2.st, .int .i64 e.2.p.1, .int .i64 e.2.p.2, .int .i64 e.2.v.1, .int .i64 e.2.v.2] ++ e.2.c.l) (D := [.bool e.2.s]) (by unfold Cl.l; simp) rfl
end
def cmA (x : Cm) : Value := .agg (rowC x)
section
variable {op : Oper} {ops : Array Oper} {rest : List Oper} {d : Option Tmp} {ty : TypeId} {ps : String} {af : Array Edge} {a : Act} {w : World} {K : Act → World → Prop} {Q : Exit → Act → World → Prop} {b : Nat} {x u : Operand} {t : TypeId} {y z : Cm}
theorem wp_store_cm (ho : op.op = .store 32 x u) (hx : a.eval x = .pointer (some ⟨b, 0, none⟩)) (hy : a.eval u = .agg (rowC y)) (R : Row w b t (rowC z)) (h : ∀ w', Row w' b t (rowC y) → w.grownBy w' (some b) → K (a.put op.dst undef) w') : op.wp Try.prog a w K Q := by
  have hth := Row.all_there (ys := z.l) R
  refine wp_store_mid 32 x u ho b 0 (rowC y) hx hy hth cm_info (all_oneCell_toArray (one_cm y)) ?_
  exact h _ (Row.all_put (ys := z.l) (vs := y.l) R rfl) (grown_setCells b y.l 0 w)
theorem wpList_store_cm (hx : a.eval x = .pointer (some ⟨b, 0, none⟩)) (hy : a.eval u = .agg (rowC y)) (R : Row w b t (rowC z)) (h : ∀ w', Row w' b t (rowC y) → w.grownBy w' (some b) → wpList Try.prog ops Q rest (a.put d undef) w') :
    wpList Try.prog ops Q ({ dst := d, op := .store 32 x u, type := ty, pos := ps, after := af, guard := none } :: rest) a w :=
  wpList_plain rfl fun _ hK => wp_store_cm rfl hx hy R fun w' h1 h2 => hK _ _ (h w' h1 h2)
end
/-- The answer's blocks: a command, attributes. -/
structure Pq (W w : World) (x : Cm) (y : List Int) : Prop where
  low : Below W.heap.size W w
  c : Row w W.heap.size 32 (rowC x)
  a : Row w (W.heap.size + 1) 26 (cA y)
section
variable {W w w' : World} {x x' : Cm} {y y' : List Int}
theorem Pq.kept (h : Pq W w x y) (hb : Below w.heap.size w w') : Pq W w' x y := ⟨kept_trans h.low hb, h.c.below hb h.c.lt, h.a.below hb h.a.lt⟩
theorem Pq.drew (h : Pq W w x y) : Pq W w.drew x y := h.kept (kept_drewN (kept_refl w) 1)
theorem Pq.putc (h : Pq W w x y) (hn : Row w' W.heap.size 32 (rowC x')) (hg : w.grownBy w' (some W.heap.size)) : Pq W w' x' y := ⟨below_own h.low hg (Nat.le_refl _), hn, h.a.grown hg (by simp)⟩
theorem Pq.puta (h : Pq W w x y) (hn : Row w' (W.heap.size + 1) 26 (cA y')) (hg : w.grownBy w' (some (W.heap.size + 1))) : Pq W w' x y' := ⟨below_own h.low hg (by omega), h.c.grown hg (by simp), hn⟩
theorem Pq.start (w : World) : Pq w ((w.alloc (.cells (rowC zeroC) 32)).alloc (.cells (cA zero8) 26)) zeroC zero8 :=
  ⟨kept_alloc (kept_alloc (kept_refl w) _) _, (Row.new w _ _).alloc _, by have h := Row.new (w.alloc (.cells (rowC zeroC) 32)) 26 (cA zero8); rw [show (w.alloc (.cells (rowC zeroC) 32)).heap.size = w.heap.size + 1 by simp] at h; exact h⟩
end
theorem results_prep {fn : Func} {tmps : Array Value} {w : World} {a b c p q : Nat} {t s : TypeId} {z : Value} {x : Cm} {y : List Int} (hf : fn.results = #[.tmp a, .cell b 32, .cell c 26]) (ha : tmps[a]? = some z)
    (hb : tmps[b]? = some (.pointer (some ⟨p, 0, none⟩))) (R : Row w p t (rowC x)) (hc : tmps[c]? = some (.pointer (some ⟨q, 0, none⟩))) (T : Row w q s (cA y)) (hy : y.length = 8) : (results fn tmps).run Try.prog w = .ok (.tuple #[z, cmA x, .agg (cA y)]) w := by
  have h1 := run_loadVar_row w p t 32 (rowC x) _ _ R cm_under rfl cm_info
  have h2 := run_loadVar_row w q s 26 (cA y) _ _ T at_under rfl (by rw [cA_size hy]; exact at_info)
  simp only [results, hf]
  simp [asAddr, ha, hb, hc, h1, h2, cmA]
/-- Where the first one at the greatest Voted stands. -/
def Bi (st : Int) (l : List (Int × Cl)) (k : Nat) (b : Int) : Prop := (b = -1 ∧ bestL st none (l.take k) = none) ∨ ∃ (j : Nat) (e : Int × Cl), b = j ∧ j < k ∧ l[j]? = some e ∧ bestL st none (l.take k) = some e.2
theorem best_take (st : Int) {l : List (Int × Cl)} {k : Nat} {e : Int × Cl} (h : l[k]? = some e) : bestL st none (l.take (k + 1)) = bestF st (bestL st none (l.take k)) e := by rw [take_snoc h, bestL_snoc]
theorem same_take (owner : Int) {l : List (Int × Cl)} {k : Nat} {e : Int × Cl} (h : l[k]? = some e) : sameL owner (l.take (k + 1)) = sameL owner (l.take k) ++ if decide (e.2.st = 1) && (decide (e.1 ≠ owner) && e.2.s) then [e] else [] := by
  unfold sameL
  rw [take_snoc h, List.filter_append, List.filter_cons, List.filter_nil]
theorem all_take (owner : Int) {l : List (Int × Cl)} {k : Nat} {e : Int × Cl} (h : l[k]? = some e) : (!(l.take (k + 1)).all fun e => decide (e.1 ≠ owner)) = ((!(l.take k).all fun e => decide (e.1 ≠ owner)) || decide (e.1 = owner)) := by
  rw [take_snoc h, List.all_append]
  by_cases ho : e.1 = owner <;> simp [ho]
end Go.Proofs.Ytjkdccokiaejhaa
