/- QuorumPre walked. Conditions: attributes are eight numbers. -/
import Derived.Test.YtjkdccokiaejhaaWk
import Derived.Test.YtjkdccokiaejhaaQr
import Derived.Deep.CutBlock
import Derived.Deep.DeepCutAuto
namespace Go.Proofs.Ytjkdccokiaejhaa
set_option maxRecDepth 100000
open Go.RowKit
theorem pre_8 {n : Nat} {first late : Bool} {own : List Int} {zs : List (List Int)} (h : own.length = 8) : (preL n first own zs late).2.length = 8 := by
  unfold preL
  split
  · exact h
  · split
    · exact allA_len h zs
    · rfl
theorem Cnr.drew {W w : World} {own : List Int} (h : Cnr W w own) : Cnr W w.drew own := h.kept (kept_drewN (kept_refl w) 1)
set_option maxHeartbeats 16000000 in
theorem pre_walk {n : Int} {first late : Bool} {own : List Int} {A : Option Addr} {m c : Nat} {zs : List (List Int)} (W : World) (h8 : own.length = 8) (hz : AttrsIn W A m c zs) :
    Calls Try.prog 5 #[.int .i64 n, .bool first, .agg (cA own), .slice A m c, .bool late] W fun e w' => e = .returned (.bool true) ∧ Below W.heap.size W w' := by
  obtain ⟨k, hk, hF⟩ := fit_any n
  have HF := hide hF
  have hk7 : k ≤ 7 := by omega
  have hk3 : 3 ≤ k := by omega
  have hmc : m ≤ c := hz.le
  have hcr := hz.room
  have HRR : Hid (∀ w : World, Calls Try.prog 3 #[] w fun e w' => e = .returned (.bool true) ∧ Below w.heap.size w w') := hide runs_ok
  have HO0 := hide (show Cnr W (W.alloc (.cells (cA own) 26)) own from ⟨kept_alloc (kept_refl W) _, Row.new W _ _⟩)
  have HZ0 := hide hz
  clear hF hk hz
  by_cases h6 : 6 < m
  · have h6i : (6 : Int) < (m : Int) := by omega
    have HM := hide (show (zs.take 6).length = 6 from by rw [List.length_take, HZ0.out.len]; omega)
    have HA8 := hide (show All 8 (zs.take 6) from fun x hx => (HZ0.out.ok x (List.mem_of_mem_take hx)).len)
    have HZ := hide (HZ0.out.lies.take 6)
    have HRM := hide (fun w (h : Its 8 w A (zs.take 6)) => (show Calls Try.prog 22 #[.slice A 6 c, .agg (cA (attrS (-9)))] w fun e w' => e = .returned (.slice (some ⟨w.heap.size + 1, 0, none⟩) (6 + 80) (6 + 80)) ∧ Its 8 w' (some ⟨w.heap.size + 1, 0, none⟩) (zs.take 6 ++ List.replicate 80 (attrS (-9))) ∧ Below w.heap.size w w' from roomy8_any A 6 c (zs.take 6) (-9) 0 0 0 0 0 0 0 w HM.out HA8.out h (by omega)))
    have h6c : 6 ≤ c := by omega
    go_enter Try.func5, Try.ntmps5
    go_upto_region 1 with (fail)
    generalize W.alloc (.cells (cA own) 26) = w1 at HO0 ⊢
    have HO := HO0
    clear HO0 HZ0
    go_upto_region 3 with (fail)
    go_upto_region 4 with (first
      | (go_at_call 12; (with_reducible refine (attr_any _ _).mono ?_); rintro e w2 ⟨rfl, hb⟩; replace HO := hide (HO.out.kept hb); clear hb)
      | (go_at_call 22; go_loud ((with_reducible refine (HRM.out _ (HZ.out.below HO.out.low)).mono ?_); rintro e w3 ⟨rfl, hr, hb⟩; replace HO := hide (HO.out.kept hb); have HS3 := hide hr; clear hr hb)))
    generalize w2.heap.size + 1 = sb at HS3 ⊢
    have HL3 := hide (HZ.out.below HO.out.low)
    have HT3 := hide (show Its 8 w3 (some ⟨sb, 0, none⟩) (zs.take 6) from by have h := HS3.out.take 6; rwa [show ((zs.take 6) ++ List.replicate 80 (attrS (-9))).take 6 = (zs.take 6) from List.take_left' HM.out] at h)
    have HPE := hide (fun wz (h : Below w3.heap.size w3 wz) => pre_ok k first late own (some ⟨sb, 0, none⟩) 6 (6 + 80) (zs.take 6) wz (by omega) h8 HM.out HA8.out (HT3.out.below h) (by omega) (by omega) (fun h => by cases h))
    have HRE := hide (fun wz (h : Below w3.heap.size w3 wz) => rpre_any (c := c) (n := k) (first := first) (late := late) (w := wz) (by omega) h8 HM.out HA8.out (HL3.out.below h) (by omega))
    have HIT := hide (fun wz (h : Below w3.heap.size w3 wz) => (show Calls Try.prog 26 #[.slice (some ⟨sb, 0, none⟩) (6 + 80) (6 + 80), .slice A 6 c, .agg (cA (attrS (-9)))] wz fun e w' => e = .returned (.bool true) ∧ Below wz.heap.size wz w' from intact8_any (some ⟨sb, 0, none⟩) A (6 + 80) 6 (6 + 80) c (zs.take 6) (-9) 0 0 0 0 0 0 0 wz rfl HM.out HA8.out (HS3.out.below h) (HL3.out.below h) (Nat.le_refl _) (by omega) (by omega)))
    have hp8 : (preL k first own (zs.take 6) late).2.length = 8 := pre_8 h8
    generalize preL k first own (zs.take 6) late = P at HPE HRE hp8
    obtain ⟨P1, P2⟩ := P
    dsimp only at HPE HRE hp8
    clear HRM HZ HT3
    have f1 : ¬ ((6 : Int) + 80 < (6 : Int)) := by omega
    go_cut [12, 13] from 24 to 36 (fun s12 s13 wx => s12 = .int .i64 P1 ∧ ∃ ga, s13 = .pointer (some ⟨ga, 0, none⟩) ∧ Hid (Below w3.heap.size w3 wx) ∧ Hid (Row wx ga 26 (cA P2)))
    case first =>
      refine wp_region_noPanic ?_
      refine wp_region_U 15 (fun wz => Below w3.heap.size w3 wz) (by kernel_rfl) ?_
      have HD := hide (show Below w3.heap.size w3 w3.drew from kept_drewN (kept_refl w3) 1)
      generalize w3.drew = wd at HD ⊢
      refine anyU_take2 (i := 0) (v := .int .i64 n) (by simp only [List.getElem?_toArray, List.getElem?_cons_zero]; exact rfl) (by kernel_rfl) 12 (by kernel_rfl) (by kernel_rfl) (fun _ _ _ h => h) (by kernel_rfl) (by kernel_rfl) (by kernel_rfl) (by kernel_rfl) (Or.inl ⟨by rfl, fun w hSw => (by go_simp; try with_reducible rfl)⟩) (by with_reducible exact HD.out) ?_
      try simp only [Act.put, List.setIfInBounds_toArray, List.set_cons_zero, List.set_cons_succ]
      refine anyU_take2 (i := 2) (v := .bool first) (by simp only [List.getElem?_toArray, List.getElem?_cons_succ, List.getElem?_cons_zero]; exact rfl) (by kernel_rfl) 12 (by kernel_rfl) (by kernel_rfl) (fun _ _ _ h => h) (by kernel_rfl) (by kernel_rfl) (by kernel_rfl) (by kernel_rfl) (Or.inl ⟨by rfl, fun w hSw => (by go_simp; try with_reducible rfl)⟩) (by with_reducible exact HD.out) ?_
      try simp only [Act.put, List.setIfInBounds_toArray, List.set_cons_zero, List.set_cons_succ]
      refine anyU_take2 (i := 3) (v := .agg (cA own)) (by simp only [List.getElem?_toArray, List.getElem?_cons_succ, List.getElem?_cons_zero]; exact rfl) (by kernel_rfl) 12 (by kernel_rfl) (by kernel_rfl) (fun _ _ _ h => h) (by kernel_rfl) (by kernel_rfl) (by kernel_rfl) (by kernel_rfl) (Or.inl ⟨by rfl, fun w hSw => exec_load_gp rfl rfl ((HO.out.kept hSw).o.at8) at_under rfl (at_sz h8)⟩) (by with_reducible exact HD.out) ?_
      try simp only [Act.put, List.setIfInBounds_toArray, List.set_cons_zero, List.set_cons_succ]
      refine anyU_take2 (i := 4) (v := .slice (some ⟨sb, 0, none⟩) (6 + 80) (6 + 80)) (by simp only [List.getElem?_toArray, List.getElem?_cons_succ, List.getElem?_cons_zero]; exact rfl) (by kernel_rfl) 12 (by kernel_rfl) (by kernel_rfl) (fun _ _ _ h => h) (by kernel_rfl) (by kernel_rfl) (by kernel_rfl) (by kernel_rfl) (Or.inl ⟨by rfl, fun w hSw => (by go_simp; try with_reducible rfl)⟩) (by with_reducible exact HD.out) ?_
      try simp only [Act.put, List.setIfInBounds_toArray, List.set_cons_zero, List.set_cons_succ]
      refine anyU_take2 (i := 5) (v := .slice A 6 c) (by simp only [List.getElem?_toArray, List.getElem?_cons_succ, List.getElem?_cons_zero]; exact rfl) (by kernel_rfl) 12 (by kernel_rfl) (by kernel_rfl) (fun _ _ _ h => h) (by kernel_rfl) (by kernel_rfl) (by kernel_rfl) (by kernel_rfl) (Or.inl ⟨by rfl, fun w hSw => (by go_simp; try with_reducible rfl)⟩) (by with_reducible exact HD.out) ?_
      try simp only [Act.put, List.setIfInBounds_toArray, List.set_cons_zero, List.set_cons_succ]
      refine anyU_take2 (i := 6) (v := .int .i64 (6 : Nat)) (by simp only [List.getElem?_toArray, List.getElem?_cons_succ, List.getElem?_cons_zero]; exact rfl) (by kernel_rfl) 12 (by kernel_rfl) (by kernel_rfl) (fun _ _ _ h => h) (by kernel_rfl) (by kernel_rfl) (by kernel_rfl) (by kernel_rfl) (Or.inl ⟨by rfl, fun w hSw => (by go_simp; try with_reducible rfl)⟩) (by with_reducible exact HD.out) ?_
      try simp only [Act.put, List.setIfInBounds_toArray, List.set_cons_zero, List.set_cons_succ]
      refine anyU_take2 (i := 7) (v := .slice (some ⟨sb, 0, none⟩) 6 (6 + 80)) (by simp only [List.getElem?_toArray, List.getElem?_cons_succ, List.getElem?_cons_zero]; exact rfl) (by kernel_rfl) 12 (by kernel_rfl) (by kernel_rfl) (fun _ _ _ h => h) (by kernel_rfl) (by kernel_rfl) (by kernel_rfl) (by kernel_rfl) (Or.inl ⟨by rfl, fun w hSw => (by go_simp; try with_reducible rfl)⟩) (by with_reducible exact HD.out) ?_
      try simp only [Act.put, List.setIfInBounds_toArray, List.set_cons_zero, List.set_cons_succ]
      refine anyU_take2 (i := 8) (v := .bool late) (by simp only [List.getElem?_toArray, List.getElem?_cons_succ, List.getElem?_cons_zero]; exact rfl) (by kernel_rfl) 12 (by kernel_rfl) (by kernel_rfl) (fun _ _ _ h => h) (by kernel_rfl) (by kernel_rfl) (by kernel_rfl) (by kernel_rfl) (Or.inl ⟨by rfl, fun w hSw => (by go_simp; try with_reducible rfl)⟩) (by with_reducible exact HD.out) ?_
      try simp only [Act.put, List.setIfInBounds_toArray, List.set_cons_zero, List.set_cons_succ]
      refine anyU_two (i := 1) (j := 13) (by kernel_rfl) (by simp only [List.getElem?_toArray, List.getElem?_cons_succ, List.getElem?_cons_zero]; exact rfl) (by simp only [List.getElem?_toArray, List.getElem?_cons_succ, List.getElem?_cons_zero]; exact rfl) (fun K hK => ?_) (fun K hK => ?_)
      · skip
        try go_simp
        refine (HF.out _).mono ?_
        rintro e wt1 ⟨rfl, hb⟩
        replace HD := hide (kept_trans HD.out hb)
        clear hb
        refine hK.out _ _ (fun _ _ => HD.out) ?_
        clear hK K
        try simp only [Act.put, List.setIfInBounds_toArray, List.set_cons_zero, List.set_cons_succ]
        refine anyU_two (i := 9) (j := 13) (by kernel_rfl) (by simp only [List.getElem?_toArray, List.getElem?_cons_succ, List.getElem?_cons_zero]; exact rfl) (by simp only [List.getElem?_toArray, List.getElem?_cons_succ, List.getElem?_cons_zero]; exact rfl) (fun K hK => ?_) (fun K hK => ?_)
        · skip
          try go_simp
          refine (HPE.out _ HD.out).mono ?_
          rintro e wt2 ⟨rfl, hb⟩
          replace HD := hide (kept_trans HD.out hb)
          clear hb
          refine hK.out _ _ (fun _ _ => HD.out) ?_
          clear hK K
          try simp only [Act.put, List.setIfInBounds_toArray, List.set_cons_zero, List.set_cons_succ]
          refine anyU_take2 (i := 10) (v := .tuple #[.int .i64 P1, .agg (cA P2)]) (by simp only [List.getElem?_toArray, List.getElem?_cons_succ, List.getElem?_cons_zero]; exact rfl) (by kernel_rfl) 12 (by kernel_rfl) (by kernel_rfl) (fun _ _ _ h => h) (by kernel_rfl) (by kernel_rfl) (by kernel_rfl) (by kernel_rfl) (Or.inl ⟨by rfl, fun w hSw => (by go_simp; try with_reducible rfl)⟩) (by with_reducible exact HD.out) ?_
          try simp only [Act.put, List.setIfInBounds_toArray, List.set_cons_zero, List.set_cons_succ]
          refine anyU_take2 (i := 11) (v := .int .i64 P1) (by simp only [List.getElem?_toArray, List.getElem?_cons_succ, List.getElem?_cons_zero]; exact rfl) (by kernel_rfl) 12 (by kernel_rfl) (by kernel_rfl) (fun _ _ _ h => h) (by kernel_rfl) (by kernel_rfl) (by kernel_rfl) (by kernel_rfl) (Or.inl ⟨by rfl, fun w hSw => (by go_simp; try with_reducible rfl)⟩) (by with_reducible exact HD.out) ?_
          try simp only [Act.put, List.setIfInBounds_toArray, List.set_cons_zero, List.set_cons_succ]
          refine anyU_take2 (i := 12) (v := .agg (cA P2)) (by simp only [List.getElem?_toArray, List.getElem?_cons_succ, List.getElem?_cons_zero]; exact rfl) (by kernel_rfl) 12 (by kernel_rfl) (by kernel_rfl) (fun _ _ _ h => h) (by kernel_rfl) (by kernel_rfl) (by kernel_rfl) (by kernel_rfl) (Or.inl ⟨by rfl, fun w hSw => (by go_simp; try with_reducible rfl)⟩) (by with_reducible exact HD.out) ?_
          try simp only [Act.put, List.setIfInBounds_toArray, List.set_cons_zero, List.set_cons_succ]
          refine anyU_one (i := 13) (by kernel_rfl) (by simp only [List.getElem?_toArray, List.getElem?_cons_succ, List.getElem?_cons_zero]; exact rfl) (fun K hK => ?_)
          try go_simp
          have HA := hide (show Row (wt2.alloc (.cells #[.int .i64 0, .int .i64 0, .int .i64 0, .int .i64 0, .int .i64 0, .int .i64 0, .int .i64 0, .int .i64 0] 26)) wt2.heap.size 26 (cA zero8) from Row.new wt2 _ _)
          have HQga := hide HD.out.size
          replace HD := hide (kept_trans HD.out (kept_alloc (kept_refl wt2) (.cells #[.int .i64 0, .int .i64 0, .int .i64 0, .int .i64 0, .int .i64 0, .int .i64 0, .int .i64 0, .int .i64 0] 26)))
          generalize wt2.alloc (.cells #[.int .i64 0, .int .i64 0, .int .i64 0, .int .i64 0, .int .i64 0, .int .i64 0, .int .i64 0, .int .i64 0] 26) = wt3 at HD HA ⊢
          generalize wt2.heap.size = ga at HA HQga ⊢
          refine hK.out _ _ (fun _ _ => HD.out) ?_
          clear hK K
          try simp only [Act.put, List.setIfInBounds_toArray, List.set_cons_zero, List.set_cons_succ]
          refine anyU_take2 (i := 14) (v := .int .i64 P1) (by simp only [List.getElem?_toArray, List.getElem?_cons_succ, List.getElem?_cons_zero]; exact rfl) (by kernel_rfl) 12 (by kernel_rfl) (by kernel_rfl) (fun _ _ _ h => h) (by kernel_rfl) (by kernel_rfl) (by kernel_rfl) (by kernel_rfl) (Or.inl ⟨by rfl, fun w hSw => (by go_simp; try with_reducible rfl)⟩) (by with_reducible exact HD.out) ?_
          try simp only [Act.put, List.setIfInBounds_toArray, List.set_cons_zero, List.set_cons_succ]
          refine anyU_one (i := 15) (by kernel_rfl) (by simp only [List.getElem?_toArray, List.getElem?_cons_succ, List.getElem?_cons_zero]; exact rfl) (fun K hK => ?_)
          rw [if_pos (by rfl)]
          refine wp_store_at (z := zero8) rfl hp8 rfl rfl HA.out rfl ?_
          intro wt4 hn hg
          replace HD := hide (below_own HD.out hg HQga.out)
          replace HA := hide hn
          clear hn hg
          refine hK.out _ _ (fun e _ => absurd rfl e) ?_
          clear hK K
          try simp only [Act.put]
          refine anyU_done (by kernel_rfl) ?_
          refine NoPanic.normal ?_
          try simp only [Act.put]
          go_wp2
          go_meet
          exact ⟨rfl, ga, rfl, HD, HA⟩
        · skip
          try go_simp
          have HA := hide (show Row (wt1.alloc (.cells #[.int .i64 0, .int .i64 0, .int .i64 0, .int .i64 0, .int .i64 0, .int .i64 0, .int .i64 0, .int .i64 0] 26)) wt1.heap.size 26 (cA zero8) from Row.new wt1 _ _)
          have HQga := hide HD.out.size
          replace HD := hide (kept_trans HD.out (kept_alloc (kept_refl wt1) (.cells #[.int .i64 0, .int .i64 0, .int .i64 0, .int .i64 0, .int .i64 0, .int .i64 0, .int .i64 0, .int .i64 0] 26)))
          generalize wt1.alloc (.cells #[.int .i64 0, .int .i64 0, .int .i64 0, .int .i64 0, .int .i64 0, .int .i64 0, .int .i64 0, .int .i64 0] 26) = wt5 at HD HA ⊢
          generalize wt1.heap.size = ga at HA HQga ⊢
          refine hK.out _ _ (fun _ _ => HD.out) ?_
          clear hK K
          try simp only [Act.put, List.setIfInBounds_toArray, List.set_cons_zero, List.set_cons_succ]
          refine anyU_one (i := 9) (by kernel_rfl) (by simp only [List.getElem?_toArray, List.getElem?_cons_succ, List.getElem?_cons_zero]; exact rfl) (fun K hK => ?_)
          try go_simp
          refine (HPE.out _ HD.out).mono ?_
          rintro e wt6 ⟨rfl, hb⟩
          replace HD := hide (kept_trans HD.out hb)
          replace HA := hide (HA.out.below hb HA.out.lt)
          clear hb
          refine hK.out _ _ (fun _ _ => HD.out) ?_
          clear hK K
          try simp only [Act.put, List.setIfInBounds_toArray, List.set_cons_zero, List.set_cons_succ]
          refine anyU_take2 (i := 10) (v := .tuple #[.int .i64 P1, .agg (cA P2)]) (by simp only [List.getElem?_toArray, List.getElem?_cons_succ, List.getElem?_cons_zero]; exact rfl) (by kernel_rfl) 12 (by kernel_rfl) (by kernel_rfl) (fun _ _ _ h => h) (by kernel_rfl) (by kernel_rfl) (by kernel_rfl) (by kernel_rfl) (Or.inl ⟨by rfl, fun w hSw => (by go_simp; try with_reducible rfl)⟩) (by with_reducible exact HD.out) ?_
          try simp only [Act.put, List.setIfInBounds_toArray, List.set_cons_zero, List.set_cons_succ]
          refine anyU_take2 (i := 11) (v := .int .i64 P1) (by simp only [List.getElem?_toArray, List.getElem?_cons_succ, List.getElem?_cons_zero]; exact rfl) (by kernel_rfl) 12 (by kernel_rfl) (by kernel_rfl) (fun _ _ _ h => h) (by kernel_rfl) (by kernel_rfl) (by kernel_rfl) (by kernel_rfl) (Or.inl ⟨by rfl, fun w hSw => (by go_simp; try with_reducible rfl)⟩) (by with_reducible exact HD.out) ?_
          try simp only [Act.put, List.setIfInBounds_toArray, List.set_cons_zero, List.set_cons_succ]
          refine anyU_take2 (i := 12) (v := .agg (cA P2)) (by simp only [List.getElem?_toArray, List.getElem?_cons_succ, List.getElem?_cons_zero]; exact rfl) (by kernel_rfl) 12 (by kernel_rfl) (by kernel_rfl) (fun _ _ _ h => h) (by kernel_rfl) (by kernel_rfl) (by kernel_rfl) (by kernel_rfl) (Or.inl ⟨by rfl, fun w hSw => (by go_simp; try with_reducible rfl)⟩) (by with_reducible exact HD.out) ?_
          try simp only [Act.put, List.setIfInBounds_toArray, List.set_cons_zero, List.set_cons_succ]
          refine anyU_take2 (i := 14) (v := .int .i64 P1) (by simp only [List.getElem?_toArray, List.getElem?_cons_succ, List.getElem?_cons_zero]; exact rfl) (by kernel_rfl) 12 (by kernel_rfl) (by kernel_rfl) (fun _ _ _ h => h) (by kernel_rfl) (by kernel_rfl) (by kernel_rfl) (by kernel_rfl) (Or.inl ⟨by rfl, fun w hSw => (by go_simp; try with_reducible rfl)⟩) (by with_reducible exact HD.out) ?_
          try simp only [Act.put, List.setIfInBounds_toArray, List.set_cons_zero, List.set_cons_succ]
          refine anyU_one (i := 15) (by kernel_rfl) (by simp only [List.getElem?_toArray, List.getElem?_cons_succ, List.getElem?_cons_zero]; exact rfl) (fun K hK => ?_)
          rw [if_pos (by rfl)]
          refine wp_store_at (z := zero8) rfl hp8 rfl rfl HA.out rfl ?_
          intro wt7 hn hg
          replace HD := hide (below_own HD.out hg HQga.out)
          replace HA := hide hn
          clear hn hg
          refine hK.out _ _ (fun e _ => absurd rfl e) ?_
          clear hK K
          try simp only [Act.put]
          refine anyU_done (by kernel_rfl) ?_
          refine NoPanic.normal ?_
          try simp only [Act.put]
          go_wp2
          go_meet
          exact ⟨rfl, ga, rfl, HD, HA⟩
      · skip
        try go_simp
        have HA := hide (show Row (wd.alloc (.cells #[.int .i64 0, .int .i64 0, .int .i64 0, .int .i64 0, .int .i64 0, .int .i64 0, .int .i64 0, .int .i64 0] 26)) wd.heap.size 26 (cA zero8) from Row.new wd _ _)
        have HQga := hide HD.out.size
        replace HD := hide (kept_trans HD.out (kept_alloc (kept_refl wd) (.cells #[.int .i64 0, .int .i64 0, .int .i64 0, .int .i64 0, .int .i64 0, .int .i64 0, .int .i64 0, .int .i64 0] 26)))
        generalize wd.alloc (.cells #[.int .i64 0, .int .i64 0, .int .i64 0, .int .i64 0, .int .i64 0, .int .i64 0, .int .i64 0, .int .i64 0] 26) = wt8 at HD HA ⊢
        generalize wd.heap.size = ga at HA HQga ⊢
        refine hK.out _ _ (fun _ _ => HD.out) ?_
        clear hK K
        try simp only [Act.put, List.setIfInBounds_toArray, List.set_cons_zero, List.set_cons_succ]
        refine anyU_one (i := 1) (by kernel_rfl) (by simp only [List.getElem?_toArray, List.getElem?_cons_succ, List.getElem?_cons_zero]; exact rfl) (fun K hK => ?_)
        try go_simp
        refine (HF.out _).mono ?_
        rintro e wt9 ⟨rfl, hb⟩
        replace HD := hide (kept_trans HD.out hb)
        replace HA := hide (HA.out.below hb HA.out.lt)
        clear hb
        refine hK.out _ _ (fun _ _ => HD.out) ?_
        clear hK K
        try simp only [Act.put, List.setIfInBounds_toArray, List.set_cons_zero, List.set_cons_succ]
        refine anyU_one (i := 9) (by kernel_rfl) (by simp only [List.getElem?_toArray, List.getElem?_cons_succ, List.getElem?_cons_zero]; exact rfl) (fun K hK => ?_)
        try go_simp
        refine (HPE.out _ HD.out).mono ?_
        rintro e wt10 ⟨rfl, hb⟩
        replace HD := hide (kept_trans HD.out hb)
        replace HA := hide (HA.out.below hb HA.out.lt)
        clear hb
        refine hK.out _ _ (fun _ _ => HD.out) ?_
        clear hK K
        try simp only [Act.put, List.setIfInBounds_toArray, List.set_cons_zero, List.set_cons_succ]
        refine anyU_take2 (i := 10) (v := .tuple #[.int .i64 P1, .agg (cA P2)]) (by simp only [List.getElem?_toArray, List.getElem?_cons_succ, List.getElem?_cons_zero]; exact rfl) (by kernel_rfl) 12 (by kernel_rfl) (by kernel_rfl) (fun _ _ _ h => h) (by kernel_rfl) (by kernel_rfl) (by kernel_rfl) (by kernel_rfl) (Or.inl ⟨by rfl, fun w hSw => (by go_simp; try with_reducible rfl)⟩) (by with_reducible exact HD.out) ?_
        try simp only [Act.put, List.setIfInBounds_toArray, List.set_cons_zero, List.set_cons_succ]
        refine anyU_take2 (i := 11) (v := .int .i64 P1) (by simp only [List.getElem?_toArray, List.getElem?_cons_succ, List.getElem?_cons_zero]; exact rfl) (by kernel_rfl) 12 (by kernel_rfl) (by kernel_rfl) (fun _ _ _ h => h) (by kernel_rfl) (by kernel_rfl) (by kernel_rfl) (by kernel_rfl) (Or.inl ⟨by rfl, fun w hSw => (by go_simp; try with_reducible rfl)⟩) (by with_reducible exact HD.out) ?_
        try simp only [Act.put, List.setIfInBounds_toArray, List.set_cons_zero, List.set_cons_succ]
        refine anyU_take2 (i := 12) (v := .agg (cA P2)) (by simp only [List.getElem?_toArray, List.getElem?_cons_succ, List.getElem?_cons_zero]; exact rfl) (by kernel_rfl) 12 (by kernel_rfl) (by kernel_rfl) (fun _ _ _ h => h) (by kernel_rfl) (by kernel_rfl) (by kernel_rfl) (by kernel_rfl) (Or.inl ⟨by rfl, fun w hSw => (by go_simp; try with_reducible rfl)⟩) (by with_reducible exact HD.out) ?_
        try simp only [Act.put, List.setIfInBounds_toArray, List.set_cons_zero, List.set_cons_succ]
        refine anyU_take2 (i := 14) (v := .int .i64 P1) (by simp only [List.getElem?_toArray, List.getElem?_cons_succ, List.getElem?_cons_zero]; exact rfl) (by kernel_rfl) 12 (by kernel_rfl) (by kernel_rfl) (fun _ _ _ h => h) (by kernel_rfl) (by kernel_rfl) (by kernel_rfl) (by kernel_rfl) (Or.inl ⟨by rfl, fun w hSw => (by go_simp; try with_reducible rfl)⟩) (by with_reducible exact HD.out) ?_
        try simp only [Act.put, List.setIfInBounds_toArray, List.set_cons_zero, List.set_cons_succ]
        refine anyU_one (i := 15) (by kernel_rfl) (by simp only [List.getElem?_toArray, List.getElem?_cons_succ, List.getElem?_cons_zero]; exact rfl) (fun K hK => ?_)
        rw [if_pos (by rfl)]
        refine wp_store_at (z := zero8) rfl hp8 rfl rfl HA.out rfl ?_
        intro wt11 hn hg
        replace HD := hide (below_own HD.out hg HQga.out)
        replace HA := hide hn
        clear hn hg
        refine hK.out _ _ (fun e _ => absurd rfl e) ?_
        clear hK K
        try simp only [Act.put]
        refine anyU_done (by kernel_rfl) ?_
        refine NoPanic.normal ?_
        try simp only [Act.put]
        go_wp2
        go_meet
        exact ⟨rfl, ga, rfl, HD, HA⟩
    case rest =>
    obtain ⟨hs12, ga, hs13, HD4, HA4⟩ := hcut
    subst hs12
    subst hs13
    replace HO := hide (HO.out.kept HD4.out)
    go_upto_region 5 with (fail)
    go_cut [14, 15] from 37 to 46 (fun s14 s15 wx => s14 = .int .i64 P1 ∧ ∃ gb, s15 = .pointer (some ⟨gb, 0, none⟩) ∧ Hid (Below wc.heap.size wc wx) ∧ Hid (Row wx gb 26 (cA P2)))
    case first =>
      refine wp_region_noPanic ?_
      refine wp_region_U 12 (fun wz => Below wc.heap.size wc wz) (by kernel_rfl) ?_
      have HD := hide (show Below wc.heap.size wc wc.drew from kept_drewN (kept_refl wc) 1)
      generalize wc.drew = wd at HD ⊢
      refine anyU_take2 (i := 0) (v := .int .i64 n) (by simp only [List.getElem?_toArray, List.getElem?_cons_zero]; exact rfl) (by kernel_rfl) 12 (by kernel_rfl) (by kernel_rfl) (fun _ _ _ h => h) (by kernel_rfl) (by kernel_rfl) (by kernel_rfl) (by kernel_rfl) (Or.inl ⟨by rfl, fun w hSw => (by go_simp; try with_reducible rfl)⟩) (by with_reducible exact HD.out) ?_
      try simp only [Act.put, List.setIfInBounds_toArray, List.set_cons_zero, List.set_cons_succ]
      refine anyU_take2 (i := 2) (v := .bool first) (by simp only [List.getElem?_toArray, List.getElem?_cons_succ, List.getElem?_cons_zero]; exact rfl) (by kernel_rfl) 12 (by kernel_rfl) (by kernel_rfl) (fun _ _ _ h => h) (by kernel_rfl) (by kernel_rfl) (by kernel_rfl) (by kernel_rfl) (Or.inl ⟨by rfl, fun w hSw => (by go_simp; try with_reducible rfl)⟩) (by with_reducible exact HD.out) ?_
      try simp only [Act.put, List.setIfInBounds_toArray, List.set_cons_zero, List.set_cons_succ]
      refine anyU_take2 (i := 3) (v := .agg (cA own)) (by simp only [List.getElem?_toArray, List.getElem?_cons_succ, List.getElem?_cons_zero]; exact rfl) (by kernel_rfl) 12 (by kernel_rfl) (by kernel_rfl) (fun _ _ _ h => h) (by kernel_rfl) (by kernel_rfl) (by kernel_rfl) (by kernel_rfl) (Or.inl ⟨by rfl, fun w hSw => exec_load_gp rfl rfl ((HO.out.kept hSw).o.at8) at_under rfl (at_sz h8)⟩) (by with_reducible exact HD.out) ?_
      try simp only [Act.put, List.setIfInBounds_toArray, List.set_cons_zero, List.set_cons_succ]
      refine anyU_take2 (i := 4) (v := .slice A 6 c) (by simp only [List.getElem?_toArray, List.getElem?_cons_succ, List.getElem?_cons_zero]; exact rfl) (by kernel_rfl) 12 (by kernel_rfl) (by kernel_rfl) (fun _ _ _ h => h) (by kernel_rfl) (by kernel_rfl) (by kernel_rfl) (by kernel_rfl) (Or.inl ⟨by rfl, fun w hSw => (by go_simp; try with_reducible rfl)⟩) (by with_reducible exact HD.out) ?_
      try simp only [Act.put, List.setIfInBounds_toArray, List.set_cons_zero, List.set_cons_succ]
      refine anyU_take2 (i := 5) (v := .bool late) (by simp only [List.getElem?_toArray, List.getElem?_cons_succ, List.getElem?_cons_zero]; exact rfl) (by kernel_rfl) 12 (by kernel_rfl) (by kernel_rfl) (fun _ _ _ h => h) (by kernel_rfl) (by kernel_rfl) (by kernel_rfl) (by kernel_rfl) (Or.inl ⟨by rfl, fun w hSw => (by go_simp; try with_reducible rfl)⟩) (by with_reducible exact HD.out) ?_
      try simp only [Act.put, List.setIfInBounds_toArray, List.set_cons_zero, List.set_cons_succ]
      refine anyU_two (i := 1) (j := 10) (by kernel_rfl) (by simp only [List.getElem?_toArray, List.getElem?_cons_succ, List.getElem?_cons_zero]; exact rfl) (by simp only [List.getElem?_toArray, List.getElem?_cons_succ, List.getElem?_cons_zero]; exact rfl) (fun K hK => ?_) (fun K hK => ?_)
      · skip
        try go_simp
        refine (HF.out _).mono ?_
        rintro e wt12 ⟨rfl, hb⟩
        replace HD := hide (kept_trans HD.out hb)
        clear hb
        refine hK.out _ _ (fun _ _ => HD.out) ?_
        clear hK K
        try simp only [Act.put, List.setIfInBounds_toArray, List.set_cons_zero, List.set_cons_succ]
        refine anyU_two (i := 6) (j := 10) (by kernel_rfl) (by simp only [List.getElem?_toArray, List.getElem?_cons_succ, List.getElem?_cons_zero]; exact rfl) (by simp only [List.getElem?_toArray, List.getElem?_cons_succ, List.getElem?_cons_zero]; exact rfl) (fun K hK => ?_) (fun K hK => ?_)
        · skip
          try go_simp
          refine (HRE.out _ (kept_trans HD4.out HD.out)).mono ?_
          rintro e wt13 ⟨rfl, hb⟩
          replace HD := hide (kept_trans HD.out hb)
          clear hb
          refine hK.out _ _ (fun _ _ => HD.out) ?_
          clear hK K
          try simp only [Act.put, List.setIfInBounds_toArray, List.set_cons_zero, List.set_cons_succ]
          refine anyU_take2 (i := 7) (v := .tuple #[.int .i64 P1, .agg (cA P2)]) (by simp only [List.getElem?_toArray, List.getElem?_cons_succ, List.getElem?_cons_zero]; exact rfl) (by kernel_rfl) 12 (by kernel_rfl) (by kernel_rfl) (fun _ _ _ h => h) (by kernel_rfl) (by kernel_rfl) (by kernel_rfl) (by kernel_rfl) (Or.inl ⟨by rfl, fun w hSw => (by go_simp; try with_reducible rfl)⟩) (by with_reducible exact HD.out) ?_
          try simp only [Act.put, List.setIfInBounds_toArray, List.set_cons_zero, List.set_cons_succ]
          refine anyU_take2 (i := 8) (v := .int .i64 P1) (by simp only [List.getElem?_toArray, List.getElem?_cons_succ, List.getElem?_cons_zero]; exact rfl) (by kernel_rfl) 12 (by kernel_rfl) (by kernel_rfl) (fun _ _ _ h => h) (by kernel_rfl) (by kernel_rfl) (by kernel_rfl) (by kernel_rfl) (Or.inl ⟨by rfl, fun w hSw => (by go_simp; try with_reducible rfl)⟩) (by with_reducible exact HD.out) ?_
          try simp only [Act.put, List.setIfInBounds_toArray, List.set_cons_zero, List.set_cons_succ]
          refine anyU_take2 (i := 9) (v := .agg (cA P2)) (by simp only [List.getElem?_toArray, List.getElem?_cons_succ, List.getElem?_cons_zero]; exact rfl) (by kernel_rfl) 12 (by kernel_rfl) (by kernel_rfl) (fun _ _ _ h => h) (by kernel_rfl) (by kernel_rfl) (by kernel_rfl) (by kernel_rfl) (Or.inl ⟨by rfl, fun w hSw => (by go_simp; try with_reducible rfl)⟩) (by with_reducible exact HD.out) ?_
          try simp only [Act.put, List.setIfInBounds_toArray, List.set_cons_zero, List.set_cons_succ]
          refine anyU_one (i := 10) (by kernel_rfl) (by simp only [List.getElem?_toArray, List.getElem?_cons_succ, List.getElem?_cons_zero]; exact rfl) (fun K hK => ?_)
          try go_simp
          have HA := hide (show Row (wt13.alloc (.cells #[.int .i64 0, .int .i64 0, .int .i64 0, .int .i64 0, .int .i64 0, .int .i64 0, .int .i64 0, .int .i64 0] 26)) wt13.heap.size 26 (cA zero8) from Row.new wt13 _ _)
          have HQgb := hide HD.out.size
          replace HD := hide (kept_trans HD.out (kept_alloc (kept_refl wt13) (.cells #[.int .i64 0, .int .i64 0, .int .i64 0, .int .i64 0, .int .i64 0, .int .i64 0, .int .i64 0, .int .i64 0] 26)))
          generalize wt13.alloc (.cells #[.int .i64 0, .int .i64 0, .int .i64 0, .int .i64 0, .int .i64 0, .int .i64 0, .int .i64 0, .int .i64 0] 26) = wt14 at HD HA ⊢
          generalize wt13.heap.size = gb at HA HQgb ⊢
          refine hK.out _ _ (fun _ _ => HD.out) ?_
          clear hK K
          try simp only [Act.put, List.setIfInBounds_toArray, List.set_cons_zero, List.set_cons_succ]
          refine anyU_take2 (i := 11) (v := .int .i64 P1) (by simp only [List.getElem?_toArray, List.getElem?_cons_succ, List.getElem?_cons_zero]; exact rfl) (by kernel_rfl) 12 (by kernel_rfl) (by kernel_rfl) (fun _ _ _ h => h) (by kernel_rfl) (by kernel_rfl) (by kernel_rfl) (by kernel_rfl) (Or.inl ⟨by rfl, fun w hSw => (by go_simp; try with_reducible rfl)⟩) (by with_reducible exact HD.out) ?_
          try simp only [Act.put, List.setIfInBounds_toArray, List.set_cons_zero, List.set_cons_succ]
          refine anyU_one (i := 12) (by kernel_rfl) (by simp only [List.getElem?_toArray, List.getElem?_cons_succ, List.getElem?_cons_zero]; exact rfl) (fun K hK => ?_)
          rw [if_pos (by rfl)]
          refine wp_store_at (z := zero8) rfl hp8 rfl rfl HA.out rfl ?_
          intro wt15 hn hg
          replace HD := hide (below_own HD.out hg HQgb.out)
          replace HA := hide hn
          clear hn hg
          refine hK.out _ _ (fun e _ => absurd rfl e) ?_
          clear hK K
          try simp only [Act.put]
          refine anyU_done (by kernel_rfl) ?_
          refine NoPanic.normal ?_
          try simp only [Act.put]
          go_wp2
          go_meet
          exact ⟨rfl, gb, rfl, HD, HA⟩
        · skip
          try go_simp
          have HA := hide (show Row (wt12.alloc (.cells #[.int .i64 0, .int .i64 0, .int .i64 0, .int .i64 0, .int .i64 0, .int .i64 0, .int .i64 0, .int .i64 0] 26)) wt12.heap.size 26 (cA zero8) from Row.new wt12 _ _)
          have HQgb := hide HD.out.size
          replace HD := hide (kept_trans HD.out (kept_alloc (kept_refl wt12) (.cells #[.int .i64 0, .int .i64 0, .int .i64 0, .int .i64 0, .int .i64 0, .int .i64 0, .int .i64 0, .int .i64 0] 26)))
          generalize wt12.alloc (.cells #[.int .i64 0, .int .i64 0, .int .i64 0, .int .i64 0, .int .i64 0, .int .i64 0, .int .i64 0, .int .i64 0] 26) = wt16 at HD HA ⊢
          generalize wt12.heap.size = gb at HA HQgb ⊢
          refine hK.out _ _ (fun _ _ => HD.out) ?_
          clear hK K
          try simp only [Act.put, List.setIfInBounds_toArray, List.set_cons_zero, List.set_cons_succ]
          refine anyU_one (i := 6) (by kernel_rfl) (by simp only [List.getElem?_toArray, List.getElem?_cons_succ, List.getElem?_cons_zero]; exact rfl) (fun K hK => ?_)
          try go_simp
          refine (HRE.out _ (kept_trans HD4.out HD.out)).mono ?_
          rintro e wt17 ⟨rfl, hb⟩
          replace HD := hide (kept_trans HD.out hb)
          replace HA := hide (HA.out.below hb HA.out.lt)
          clear hb
          refine hK.out _ _ (fun _ _ => HD.out) ?_
          clear hK K
          try simp only [Act.put, List.setIfInBounds_toArray, List.set_cons_zero, List.set_cons_succ]
          refine anyU_take2 (i := 7) (v := .tuple #[.int .i64 P1, .agg (cA P2)]) (by simp only [List.getElem?_toArray, List.getElem?_cons_succ, List.getElem?_cons_zero]; exact rfl) (by kernel_rfl) 12 (by kernel_rfl) (by kernel_rfl) (fun _ _ _ h => h) (by kernel_rfl) (by kernel_rfl) (by kernel_rfl) (by kernel_rfl) (Or.inl ⟨by rfl, fun w hSw => (by go_simp; try with_reducible rfl)⟩) (by with_reducible exact HD.out) ?_
          try simp only [Act.put, List.setIfInBounds_toArray, List.set_cons_zero, List.set_cons_succ]
          refine anyU_take2 (i := 8) (v := .int .i64 P1) (by simp only [List.getElem?_toArray, List.getElem?_cons_succ, List.getElem?_cons_zero]; exact rfl) (by kernel_rfl) 12 (by kernel_rfl) (by kernel_rfl) (fun _ _ _ h => h) (by kernel_rfl) (by kernel_rfl) (by kernel_rfl) (by kernel_rfl) (Or.inl ⟨by rfl, fun w hSw => (by go_simp; try with_reducible rfl)⟩) (by with_reducible exact HD.out) ?_
          try simp only [Act.put, List.setIfInBounds_toArray, List.set_cons_zero, List.set_cons_succ]
          refine anyU_take2 (i := 9) (v := .agg (cA P2)) (by simp only [List.getElem?_toArray, List.getElem?_cons_succ, List.getElem?_cons_zero]; exact rfl) (by kernel_rfl) 12 (by kernel_rfl) (by kernel_rfl) (fun _ _ _ h => h) (by kernel_rfl) (by kernel_rfl) (by kernel_rfl) (by kernel_rfl) (Or.inl ⟨by rfl, fun w hSw => (by go_simp; try with_reducible rfl)⟩) (by with_reducible exact HD.out) ?_
          try simp only [Act.put, List.setIfInBounds_toArray, List.set_cons_zero, List.set_cons_succ]
          refine anyU_take2 (i := 11) (v := .int .i64 P1) (by simp only [List.getElem?_toArray, List.getElem?_cons_succ, List.getElem?_cons_zero]; exact rfl) (by kernel_rfl) 12 (by kernel_rfl) (by kernel_rfl) (fun _ _ _ h => h) (by kernel_rfl) (by kernel_rfl) (by kernel_rfl) (by kernel_rfl) (Or.inl ⟨by rfl, fun w hSw => (by go_simp; try with_reducible rfl)⟩) (by with_reducible exact HD.out) ?_
          try simp only [Act.put, List.setIfInBounds_toArray, List.set_cons_zero, List.set_cons_succ]
          refine anyU_one (i := 12) (by kernel_rfl) (by simp only [List.getElem?_toArray, List.getElem?_cons_succ, List.getElem?_cons_zero]; exact rfl) (fun K hK => ?_)
          rw [if_pos (by rfl)]
          refine wp_store_at (z := zero8) rfl hp8 rfl rfl HA.out rfl ?_
          intro wt18 hn hg
          replace HD := hide (below_own HD.out hg HQgb.out)
          replace HA := hide hn
          clear hn hg
          refine hK.out _ _ (fun e _ => absurd rfl e) ?_
          clear hK K
          try simp only [Act.put]
          refine anyU_done (by kernel_rfl) ?_
          refine NoPanic.normal ?_
          try simp only [Act.put]
          go_wp2
          go_meet
          exact ⟨rfl, gb, rfl, HD, HA⟩
      · skip
        try go_simp
        have HA := hide (show Row (wd.alloc (.cells #[.int .i64 0, .int .i64 0, .int .i64 0, .int .i64 0, .int .i64 0, .int .i64 0, .int .i64 0, .int .i64 0] 26)) wd.heap.size 26 (cA zero8) from Row.new wd _ _)
        have HQgb := hide HD.out.size
        replace HD := hide (kept_trans HD.out (kept_alloc (kept_refl wd) (.cells #[.int .i64 0, .int .i64 0, .int .i64 0, .int .i64 0, .int .i64 0, .int .i64 0, .int .i64 0, .int .i64 0] 26)))
        generalize wd.alloc (.cells #[.int .i64 0, .int .i64 0, .int .i64 0, .int .i64 0, .int .i64 0, .int .i64 0, .int .i64 0, .int .i64 0] 26) = wt19 at HD HA ⊢
        generalize wd.heap.size = gb at HA HQgb ⊢
        refine hK.out _ _ (fun _ _ => HD.out) ?_
        clear hK K
        try simp only [Act.put, List.setIfInBounds_toArray, List.set_cons_zero, List.set_cons_succ]
        refine anyU_one (i := 1) (by kernel_rfl) (by simp only [List.getElem?_toArray, List.getElem?_cons_succ, List.getElem?_cons_zero]; exact rfl) (fun K hK => ?_)
        try go_simp
        refine (HF.out _).mono ?_
        rintro e wt20 ⟨rfl, hb⟩
        replace HD := hide (kept_trans HD.out hb)
        replace HA := hide (HA.out.below hb HA.out.lt)
        clear hb
        refine hK.out _ _ (fun _ _ => HD.out) ?_
        clear hK K
        try simp only [Act.put, List.setIfInBounds_toArray, List.set_cons_zero, List.set_cons_succ]
        refine anyU_one (i := 6) (by kernel_rfl) (by simp only [List.getElem?_toArray, List.getElem?_cons_succ, List.getElem?_cons_zero]; exact rfl) (fun K hK => ?_)
        try go_simp
        refine (HRE.out _ (kept_trans HD4.out HD.out)).mono ?_
        rintro e wt21 ⟨rfl, hb⟩
        replace HD := hide (kept_trans HD.out hb)
        replace HA := hide (HA.out.below hb HA.out.lt)
        clear hb
        refine hK.out _ _ (fun _ _ => HD.out) ?_
        clear hK K
        try simp only [Act.put, List.setIfInBounds_toArray, List.set_cons_zero, List.set_cons_succ]
        refine anyU_take2 (i := 7) (v := .tuple #[.int .i64 P1, .agg (cA P2)]) (by simp only [List.getElem?_toArray, List.getElem?_cons_succ, List.getElem?_cons_zero]; exact rfl) (by kernel_rfl) 12 (by kernel_rfl) (by kernel_rfl) (fun _ _ _ h => h) (by kernel_rfl) (by kernel_rfl) (by kernel_rfl) (by kernel_rfl) (Or.inl ⟨by rfl, fun w hSw => (by go_simp; try with_reducible rfl)⟩) (by with_reducible exact HD.out) ?_
        try simp only [Act.put, List.setIfInBounds_toArray, List.set_cons_zero, List.set_cons_succ]
        refine anyU_take2 (i := 8) (v := .int .i64 P1) (by simp only [List.getElem?_toArray, List.getElem?_cons_succ, List.getElem?_cons_zero]; exact rfl) (by kernel_rfl) 12 (by kernel_rfl) (by kernel_rfl) (fun _ _ _ h => h) (by kernel_rfl) (by kernel_rfl) (by kernel_rfl) (by kernel_rfl) (Or.inl ⟨by rfl, fun w hSw => (by go_simp; try with_reducible rfl)⟩) (by with_reducible exact HD.out) ?_
        try simp only [Act.put, List.setIfInBounds_toArray, List.set_cons_zero, List.set_cons_succ]
        refine anyU_take2 (i := 9) (v := .agg (cA P2)) (by simp only [List.getElem?_toArray, List.getElem?_cons_succ, List.getElem?_cons_zero]; exact rfl) (by kernel_rfl) 12 (by kernel_rfl) (by kernel_rfl) (fun _ _ _ h => h) (by kernel_rfl) (by kernel_rfl) (by kernel_rfl) (by kernel_rfl) (Or.inl ⟨by rfl, fun w hSw => (by go_simp; try with_reducible rfl)⟩) (by with_reducible exact HD.out) ?_
        try simp only [Act.put, List.setIfInBounds_toArray, List.set_cons_zero, List.set_cons_succ]
        refine anyU_take2 (i := 11) (v := .int .i64 P1) (by simp only [List.getElem?_toArray, List.getElem?_cons_succ, List.getElem?_cons_zero]; exact rfl) (by kernel_rfl) 12 (by kernel_rfl) (by kernel_rfl) (fun _ _ _ h => h) (by kernel_rfl) (by kernel_rfl) (by kernel_rfl) (by kernel_rfl) (Or.inl ⟨by rfl, fun w hSw => (by go_simp; try with_reducible rfl)⟩) (by with_reducible exact HD.out) ?_
        try simp only [Act.put, List.setIfInBounds_toArray, List.set_cons_zero, List.set_cons_succ]
        refine anyU_one (i := 12) (by kernel_rfl) (by simp only [List.getElem?_toArray, List.getElem?_cons_succ, List.getElem?_cons_zero]; exact rfl) (fun K hK => ?_)
        rw [if_pos (by rfl)]
        refine wp_store_at (z := zero8) rfl hp8 rfl rfl HA.out rfl ?_
        intro wt22 hn hg
        replace HD := hide (below_own HD.out hg HQgb.out)
        replace HA := hide hn
        clear hn hg
        refine hK.out _ _ (fun e _ => absurd rfl e) ?_
        clear hK K
        try simp only [Act.put]
        refine anyU_done (by kernel_rfl) ?_
        refine NoPanic.normal ?_
        try simp only [Act.put]
        go_wp2
        go_meet
        exact ⟨rfl, gb, rfl, HD, HA⟩
    case rest =>
    obtain ⟨hs14, gb, hs15, HD5, HA5⟩ := hcut
    subst hs14
    subst hs15
    replace HO := hide (HO.out.kept HD5.out)
    replace HA4 := hide (HA4.out.below HD5.out HA4.out.lt)
    replace HD4 := hide (kept_trans HD4.out HD5.out)
    clear HD5 HPE HRE
    have hea := fun w => eql_at hp8 hp8 w
    rw [decide_eq_true rfl] at hea
    go_wp2_with (first
      | ((with_reducible refine wpList_load_at hp8 ?_ ?_ HA4.out.at8 ?_); rfl; rfl)
      | ((with_reducible refine wpList_load_at hp8 ?_ ?_ HA5.out.at8 ?_); rfl; rfl)
      | (go_at_call 12; (with_reducible refine (attr_any _ _).mono ?_); rintro e w7 ⟨rfl, hb⟩; replace HO := hide (HO.out.kept hb); replace HD4 := hide (kept_trans HD4.out hb); clear hb)
      | (go_at_call 26; go_loud ((with_reducible refine (HIT.out _ HD4.out).mono ?_); rintro e w8 ⟨rfl, hb⟩; replace HO := hide (HO.out.kept hb); clear hb))
      | (go_at_call 3; (with_reducible refine (HRR.out _).mono ?_); rintro e w9 ⟨rfl, hb⟩; replace HO := hide (HO.out.kept hb); clear hb))
    go_ret
    exact ⟨rfl, HO.out.low⟩
  · have h6i : ¬ (6 : Int) < (m : Int) := by omega
    have HM := hide HZ0.out.len
    have HA8 := hide (show All 8 zs from fun x hx => (HZ0.out.ok x hx).len)
    have HZ := hide HZ0.out.lies
    have HRM := hide (fun w (h : Its 8 w A zs) => (show Calls Try.prog 22 #[.slice A m c, .agg (cA (attrS (-9)))] w fun e w' => e = .returned (.slice (some ⟨w.heap.size + 1, 0, none⟩) (m + 80) (m + 80)) ∧ Its 8 w' (some ⟨w.heap.size + 1, 0, none⟩) (zs ++ List.replicate 80 (attrS (-9))) ∧ Below w.heap.size w w' from roomy8_any A m c zs (-9) 0 0 0 0 0 0 0 w HM.out HA8.out h (by omega)))
    go_enter Try.func5, Try.ntmps5
    go_upto_region 1 with (fail)
    generalize W.alloc (.cells (cA own) 26) = w1 at HO0 ⊢
    have HO := HO0
    clear HO0 HZ0
    go_upto_region 3 with (fail)
    go_upto_region 4 with (first
      | (go_at_call 12; (with_reducible refine (attr_any _ _).mono ?_); rintro e w2 ⟨rfl, hb⟩; replace HO := hide (HO.out.kept hb); clear hb)
      | (go_at_call 22; go_loud ((with_reducible refine (HRM.out _ (HZ.out.below HO.out.low)).mono ?_); rintro e w3 ⟨rfl, hr, hb⟩; replace HO := hide (HO.out.kept hb); have HS3 := hide hr; clear hr hb)))
    generalize w2.heap.size + 1 = sb at HS3 ⊢
    have HL3 := hide (HZ.out.below HO.out.low)
    have HT3 := hide (show Its 8 w3 (some ⟨sb, 0, none⟩) zs from by have h := HS3.out.take m; rwa [show (zs ++ List.replicate 80 (attrS (-9))).take m = zs from List.take_left' HM.out] at h)
    have HPE := hide (fun wz (h : Below w3.heap.size w3 wz) => pre_ok k first late own (some ⟨sb, 0, none⟩) m (m + 80) zs wz (by omega) h8 HM.out HA8.out (HT3.out.below h) (by omega) (by omega) (fun h => by cases h))
    have HRE := hide (fun wz (h : Below w3.heap.size w3 wz) => rpre_any (c := c) (n := k) (first := first) (late := late) (w := wz) (by omega) h8 HM.out HA8.out (HL3.out.below h) (by omega))
    have HIT := hide (fun wz (h : Below w3.heap.size w3 wz) => (show Calls Try.prog 26 #[.slice (some ⟨sb, 0, none⟩) (m + 80) (m + 80), .slice A m c, .agg (cA (attrS (-9)))] wz fun e w' => e = .returned (.bool true) ∧ Below wz.heap.size wz w' from intact8_any (some ⟨sb, 0, none⟩) A (m + 80) m (m + 80) c zs (-9) 0 0 0 0 0 0 0 wz rfl HM.out HA8.out (HS3.out.below h) (HL3.out.below h) (Nat.le_refl _) (by omega) (by omega)))
    have hp8 : (preL k first own zs late).2.length = 8 := pre_8 h8
    generalize preL k first own zs late = P at HPE HRE hp8
    obtain ⟨P1, P2⟩ := P
    dsimp only at HPE HRE hp8
    clear HRM HZ HT3
    have f1 : ¬ ((m : Int) + 80 < (m : Int)) := by omega
    go_cut [12, 13] from 24 to 36 (fun s12 s13 wx => s12 = .int .i64 P1 ∧ ∃ ga, s13 = .pointer (some ⟨ga, 0, none⟩) ∧ Hid (Below w3.heap.size w3 wx) ∧ Hid (Row wx ga 26 (cA P2)))
    case first =>
      refine wp_region_noPanic ?_
      refine wp_region_U 15 (fun wz => Below w3.heap.size w3 wz) (by kernel_rfl) ?_
      have HD := hide (show Below w3.heap.size w3 w3.drew from kept_drewN (kept_refl w3) 1)
      generalize w3.drew = wd at HD ⊢
      refine anyU_take2 (i := 0) (v := .int .i64 n) (by simp only [List.getElem?_toArray, List.getElem?_cons_zero]; exact rfl) (by kernel_rfl) 12 (by kernel_rfl) (by kernel_rfl) (fun _ _ _ h => h) (by kernel_rfl) (by kernel_rfl) (by kernel_rfl) (by kernel_rfl) (Or.inl ⟨by rfl, fun w hSw => (by go_simp; try with_reducible rfl)⟩) (by with_reducible exact HD.out) ?_
      try simp only [Act.put, List.setIfInBounds_toArray, List.set_cons_zero, List.set_cons_succ]
      refine anyU_take2 (i := 2) (v := .bool first) (by simp only [List.getElem?_toArray, List.getElem?_cons_succ, List.getElem?_cons_zero]; exact rfl) (by kernel_rfl) 12 (by kernel_rfl) (by kernel_rfl) (fun _ _ _ h => h) (by kernel_rfl) (by kernel_rfl) (by kernel_rfl) (by kernel_rfl) (Or.inl ⟨by rfl, fun w hSw => (by go_simp; try with_reducible rfl)⟩) (by with_reducible exact HD.out) ?_
      try simp only [Act.put, List.setIfInBounds_toArray, List.set_cons_zero, List.set_cons_succ]
      refine anyU_take2 (i := 3) (v := .agg (cA own)) (by simp only [List.getElem?_toArray, List.getElem?_cons_succ, List.getElem?_cons_zero]; exact rfl) (by kernel_rfl) 12 (by kernel_rfl) (by kernel_rfl) (fun _ _ _ h => h) (by kernel_rfl) (by kernel_rfl) (by kernel_rfl) (by kernel_rfl) (Or.inl ⟨by rfl, fun w hSw => exec_load_gp rfl rfl ((HO.out.kept hSw).o.at8) at_under rfl (at_sz h8)⟩) (by with_reducible exact HD.out) ?_
      try simp only [Act.put, List.setIfInBounds_toArray, List.set_cons_zero, List.set_cons_succ]
      refine anyU_take2 (i := 4) (v := .slice (some ⟨sb, 0, none⟩) (m + 80) (m + 80)) (by simp only [List.getElem?_toArray, List.getElem?_cons_succ, List.getElem?_cons_zero]; exact rfl) (by kernel_rfl) 12 (by kernel_rfl) (by kernel_rfl) (fun _ _ _ h => h) (by kernel_rfl) (by kernel_rfl) (by kernel_rfl) (by kernel_rfl) (Or.inl ⟨by rfl, fun w hSw => (by go_simp; try with_reducible rfl)⟩) (by with_reducible exact HD.out) ?_
      try simp only [Act.put, List.setIfInBounds_toArray, List.set_cons_zero, List.set_cons_succ]
      refine anyU_take2 (i := 5) (v := .slice A m c) (by simp only [List.getElem?_toArray, List.getElem?_cons_succ, List.getElem?_cons_zero]; exact rfl) (by kernel_rfl) 12 (by kernel_rfl) (by kernel_rfl) (fun _ _ _ h => h) (by kernel_rfl) (by kernel_rfl) (by kernel_rfl) (by kernel_rfl) (Or.inl ⟨by rfl, fun w hSw => (by go_simp; try with_reducible rfl)⟩) (by with_reducible exact HD.out) ?_
      try simp only [Act.put, List.setIfInBounds_toArray, List.set_cons_zero, List.set_cons_succ]
      refine anyU_take2 (i := 6) (v := .int .i64 (m : Nat)) (by simp only [List.getElem?_toArray, List.getElem?_cons_succ, List.getElem?_cons_zero]; exact rfl) (by kernel_rfl) 12 (by kernel_rfl) (by kernel_rfl) (fun _ _ _ h => h) (by kernel_rfl) (by kernel_rfl) (by kernel_rfl) (by kernel_rfl) (Or.inl ⟨by rfl, fun w hSw => (by go_simp; try with_reducible rfl)⟩) (by with_reducible exact HD.out) ?_
      try simp only [Act.put, List.setIfInBounds_toArray, List.set_cons_zero, List.set_cons_succ]
      refine anyU_take2 (i := 7) (v := .slice (some ⟨sb, 0, none⟩) m (m + 80)) (by simp only [List.getElem?_toArray, List.getElem?_cons_succ, List.getElem?_cons_zero]; exact rfl) (by kernel_rfl) 12 (by kernel_rfl) (by kernel_rfl) (fun _ _ _ h => h) (by kernel_rfl) (by kernel_rfl) (by kernel_rfl) (by kernel_rfl) (Or.inl ⟨by rfl, fun w hSw => (by go_simp; try with_reducible rfl)⟩) (by with_reducible exact HD.out) ?_
      try simp only [Act.put, List.setIfInBounds_toArray, List.set_cons_zero, List.set_cons_succ]
      refine anyU_take2 (i := 8) (v := .bool late) (by simp only [List.getElem?_toArray, List.getElem?_cons_succ, List.getElem?_cons_zero]; exact rfl) (by kernel_rfl) 12 (by kernel_rfl) (by kernel_rfl) (fun _ _ _ h => h) (by kernel_rfl) (by kernel_rfl) (by kernel_rfl) (by kernel_rfl) (Or.inl ⟨by rfl, fun w hSw => (by go_simp; try with_reducible rfl)⟩) (by with_reducible exact HD.out) ?_
      try simp only [Act.put, List.setIfInBounds_toArray, List.set_cons_zero, List.set_cons_succ]
      refine anyU_two (i := 1) (j := 13) (by kernel_rfl) (by simp only [List.getElem?_toArray, List.getElem?_cons_succ, List.getElem?_cons_zero]; exact rfl) (by simp only [List.getElem?_toArray, List.getElem?_cons_succ, List.getElem?_cons_zero]; exact rfl) (fun K hK => ?_) (fun K hK => ?_)
      · skip
        try go_simp
        refine (HF.out _).mono ?_
        rintro e wt23 ⟨rfl, hb⟩
        replace HD := hide (kept_trans HD.out hb)
        clear hb
        refine hK.out _ _ (fun _ _ => HD.out) ?_
        clear hK K
        try simp only [Act.put, List.setIfInBounds_toArray, List.set_cons_zero, List.set_cons_succ]
        refine anyU_two (i := 9) (j := 13) (by kernel_rfl) (by simp only [List.getElem?_toArray, List.getElem?_cons_succ, List.getElem?_cons_zero]; exact rfl) (by simp only [List.getElem?_toArray, List.getElem?_cons_succ, List.getElem?_cons_zero]; exact rfl) (fun K hK => ?_) (fun K hK => ?_)
        · skip
          try go_simp
          refine (HPE.out _ HD.out).mono ?_
          rintro e wt24 ⟨rfl, hb⟩
          replace HD := hide (kept_trans HD.out hb)
          clear hb
          refine hK.out _ _ (fun _ _ => HD.out) ?_
          clear hK K
          try simp only [Act.put, List.setIfInBounds_toArray, List.set_cons_zero, List.set_cons_succ]
          refine anyU_take2 (i := 10) (v := .tuple #[.int .i64 P1, .agg (cA P2)]) (by simp only [List.getElem?_toArray, List.getElem?_cons_succ, List.getElem?_cons_zero]; exact rfl) (by kernel_rfl) 12 (by kernel_rfl) (by kernel_rfl) (fun _ _ _ h => h) (by kernel_rfl) (by kernel_rfl) (by kernel_rfl) (by kernel_rfl) (Or.inl ⟨by rfl, fun w hSw => (by go_simp; try with_reducible rfl)⟩) (by with_reducible exact HD.out) ?_
          try simp only [Act.put, List.setIfInBounds_toArray, List.set_cons_zero, List.set_cons_succ]
          refine anyU_take2 (i := 11) (v := .int .i64 P1) (by simp only [List.getElem?_toArray, List.getElem?_cons_succ, List.getElem?_cons_zero]; exact rfl) (by kernel_rfl) 12 (by kernel_rfl) (by kernel_rfl) (fun _ _ _ h => h) (by kernel_rfl) (by kernel_rfl) (by kernel_rfl) (by kernel_rfl) (Or.inl ⟨by rfl, fun w hSw => (by go_simp; try with_reducible rfl)⟩) (by with_reducible exact HD.out) ?_
          try simp only [Act.put, List.setIfInBounds_toArray, List.set_cons_zero, List.set_cons_succ]
          refine anyU_take2 (i := 12) (v := .agg (cA P2)) (by simp only [List.getElem?_toArray, List.getElem?_cons_succ, List.getElem?_cons_zero]; exact rfl) (by kernel_rfl) 12 (by kernel_rfl) (by kernel_rfl) (fun _ _ _ h => h) (by kernel_rfl) (by kernel_rfl) (by kernel_rfl) (by kernel_rfl) (Or.inl ⟨by rfl, fun w hSw => (by go_simp; try with_reducible rfl)⟩) (by with_reducible exact HD.out) ?_
          try simp only [Act.put, List.setIfInBounds_toArray, List.set_cons_zero, List.set_cons_succ]
          refine anyU_one (i := 13) (by kernel_rfl) (by simp only [List.getElem?_toArray, List.getElem?_cons_succ, List.getElem?_cons_zero]; exact rfl) (fun K hK => ?_)
          try go_simp
          have HA := hide (show Row (wt24.alloc (.cells #[.int .i64 0, .int .i64 0, .int .i64 0, .int .i64 0, .int .i64 0, .int .i64 0, .int .i64 0, .int .i64 0] 26)) wt24.heap.size 26 (cA zero8) from Row.new wt24 _ _)
          have HQga := hide HD.out.size
          replace HD := hide (kept_trans HD.out (kept_alloc (kept_refl wt24) (.cells #[.int .i64 0, .int .i64 0, .int .i64 0, .int .i64 0, .int .i64 0, .int .i64 0, .int .i64 0, .int .i64 0] 26)))
          generalize wt24.alloc (.cells #[.int .i64 0, .int .i64 0, .int .i64 0, .int .i64 0, .int .i64 0, .int .i64 0, .int .i64 0, .int .i64 0] 26) = wt25 at HD HA ⊢
          generalize wt24.heap.size = ga at HA HQga ⊢
          refine hK.out _ _ (fun _ _ => HD.out) ?_
          clear hK K
          try simp only [Act.put, List.setIfInBounds_toArray, List.set_cons_zero, List.set_cons_succ]
          refine anyU_take2 (i := 14) (v := .int .i64 P1) (by simp only [List.getElem?_toArray, List.getElem?_cons_succ, List.getElem?_cons_zero]; exact rfl) (by kernel_rfl) 12 (by kernel_rfl) (by kernel_rfl) (fun _ _ _ h => h) (by kernel_rfl) (by kernel_rfl) (by kernel_rfl) (by kernel_rfl) (Or.inl ⟨by rfl, fun w hSw => (by go_simp; try with_reducible rfl)⟩) (by with_reducible exact HD.out) ?_
          try simp only [Act.put, List.setIfInBounds_toArray, List.set_cons_zero, List.set_cons_succ]
          refine anyU_one (i := 15) (by kernel_rfl) (by simp only [List.getElem?_toArray, List.getElem?_cons_succ, List.getElem?_cons_zero]; exact rfl) (fun K hK => ?_)
          rw [if_pos (by rfl)]
          refine wp_store_at (z := zero8) rfl hp8 rfl rfl HA.out rfl ?_
          intro wt26 hn hg
          replace HD := hide (below_own HD.out hg HQga.out)
          replace HA := hide hn
          clear hn hg
          refine hK.out _ _ (fun e _ => absurd rfl e) ?_
          clear hK K
          try simp only [Act.put]
          refine anyU_done (by kernel_rfl) ?_
          refine NoPanic.normal ?_
          try simp only [Act.put]
          go_wp2
          go_meet
          exact ⟨rfl, ga, rfl, HD, HA⟩
        · skip
          try go_simp
          have HA := hide (show Row (wt23.alloc (.cells #[.int .i64 0, .int .i64 0, .int .i64 0, .int .i64 0, .int .i64 0, .int .i64 0, .int .i64 0, .int .i64 0] 26)) wt23.heap.size 26 (cA zero8) from Row.new wt23 _ _)
          have HQga := hide HD.out.size
          replace HD := hide (kept_trans HD.out (kept_alloc (kept_refl wt23) (.cells #[.int .i64 0, .int .i64 0, .int .i64 0, .int .i64 0, .int .i64 0, .int .i64 0, .int .i64 0, .int .i64 0] 26)))
          generalize wt23.alloc (.cells #[.int .i64 0, .int .i64 0, .int .i64 0, .int .i64 0, .int .i64 0, .int .i64 0, .int .i64 0, .int .i64 0] 26) = wt27 at HD HA ⊢
          generalize wt23.heap.size = ga at HA HQga ⊢
          refine hK.out _ _ (fun _ _ => HD.out) ?_
          clear hK K
          try simp only [Act.put, List.setIfInBounds_toArray, List.set_cons_zero, List.set_cons_succ]
          refine anyU_one (i := 9) (by kernel_rfl) (by simp only [List.getElem?_toArray, List.getElem?_cons_succ, List.getElem?_cons_zero]; exact rfl) (fun K hK => ?_)
          try go_simp
          refine (HPE.out _ HD.out).mono ?_
          rintro e wt28 ⟨rfl, hb⟩
          replace HD := hide (kept_trans HD.out hb)
          replace HA := hide (HA.out.below hb HA.out.lt)
          clear hb
          refine hK.out _ _ (fun _ _ => HD.out) ?_
          clear hK K
          try simp only [Act.put, List.setIfInBounds_toArray, List.set_cons_zero, List.set_cons_succ]
          refine anyU_take2 (i := 10) (v := .tuple #[.int .i64 P1, .agg (cA P2)]) (by simp only [List.getElem?_toArray, List.getElem?_cons_succ, List.getElem?_cons_zero]; exact rfl) (by kernel_rfl) 12 (by kernel_rfl) (by kernel_rfl) (fun _ _ _ h => h) (by kernel_rfl) (by kernel_rfl) (by kernel_rfl) (by kernel_rfl) (Or.inl ⟨by rfl, fun w hSw => (by go_simp; try with_reducible rfl)⟩) (by with_reducible exact HD.out) ?_
          try simp only [Act.put, List.setIfInBounds_toArray, List.set_cons_zero, List.set_cons_succ]
          refine anyU_take2 (i := 11) (v := .int .i64 P1) (by simp only [List.getElem?_toArray, List.getElem?_cons_succ, List.getElem?_cons_zero]; exact rfl) (by kernel_rfl) 12 (by kernel_rfl) (by kernel_rfl) (fun _ _ _ h => h) (by kernel_rfl) (by kernel_rfl) (by kernel_rfl) (by kernel_rfl) (Or.inl ⟨by rfl, fun w hSw => (by go_simp; try with_reducible rfl)⟩) (by with_reducible exact HD.out) ?_
          try simp only [Act.put, List.setIfInBounds_toArray, List.set_cons_zero, List.set_cons_succ]
          refine anyU_take2 (i := 12) (v := .agg (cA P2)) (by simp only [List.getElem?_toArray, List.getElem?_cons_succ, List.getElem?_cons_zero]; exact rfl) (by kernel_rfl) 12 (by kernel_rfl) (by kernel_rfl) (fun _ _ _ h => h) (by kernel_rfl) (by kernel_rfl) (by kernel_rfl) (by kernel_rfl) (Or.inl ⟨by rfl, fun w hSw => (by go_simp; try with_reducible rfl)⟩) (by with_reducible exact HD.out) ?_
          try simp only [Act.put, List.setIfInBounds_toArray, List.set_cons_zero, List.set_cons_succ]
          refine anyU_take2 (i := 14) (v := .int .i64 P1) (by simp only [List.getElem?_toArray, List.getElem?_cons_succ, List.getElem?_cons_zero]; exact rfl) (by kernel_rfl) 12 (by kernel_rfl) (by kernel_rfl) (fun _ _ _ h => h) (by kernel_rfl) (by kernel_rfl) (by kernel_rfl) (by kernel_rfl) (Or.inl ⟨by rfl, fun w hSw => (by go_simp; try with_reducible rfl)⟩) (by with_reducible exact HD.out) ?_
          try simp only [Act.put, List.setIfInBounds_toArray, List.set_cons_zero, List.set_cons_succ]
          refine anyU_one (i := 15) (by kernel_rfl) (by simp only [List.getElem?_toArray, List.getElem?_cons_succ, List.getElem?_cons_zero]; exact rfl) (fun K hK => ?_)
          rw [if_pos (by rfl)]
          refine wp_store_at (z := zero8) rfl hp8 rfl rfl HA.out rfl ?_
          intro wt29 hn hg
          replace HD := hide (below_own HD.out hg HQga.out)
          replace HA := hide hn
          clear hn hg
          refine hK.out _ _ (fun e _ => absurd rfl e) ?_
          clear hK K
          try simp only [Act.put]
          refine anyU_done (by kernel_rfl) ?_
          refine NoPanic.normal ?_
          try simp only [Act.put]
          go_wp2
          go_meet
          exact ⟨rfl, ga, rfl, HD, HA⟩
      · skip
        try go_simp
        have HA := hide (show Row (wd.alloc (.cells #[.int .i64 0, .int .i64 0, .int .i64 0, .int .i64 0, .int .i64 0, .int .i64 0, .int .i64 0, .int .i64 0] 26)) wd.heap.size 26 (cA zero8) from Row.new wd _ _)
        have HQga := hide HD.out.size
        replace HD := hide (kept_trans HD.out (kept_alloc (kept_refl wd) (.cells #[.int .i64 0, .int .i64 0, .int .i64 0, .int .i64 0, .int .i64 0, .int .i64 0, .int .i64 0, .int .i64 0] 26)))
        generalize wd.alloc (.cells #[.int .i64 0, .int .i64 0, .int .i64 0, .int .i64 0, .int .i64 0, .int .i64 0, .int .i64 0, .int .i64 0] 26) = wt30 at HD HA ⊢
        generalize wd.heap.size = ga at HA HQga ⊢
        refine hK.out _ _ (fun _ _ => HD.out) ?_
        clear hK K
        try simp only [Act.put, List.setIfInBounds_toArray, List.set_cons_zero, List.set_cons_succ]
        refine anyU_one (i := 1) (by kernel_rfl) (by simp only [List.getElem?_toArray, List.getElem?_cons_succ, List.getElem?_cons_zero]; exact rfl) (fun K hK => ?_)
        try go_simp
        refine (HF.out _).mono ?_
        rintro e wt31 ⟨rfl, hb⟩
        replace HD := hide (kept_trans HD.out hb)
        replace HA := hide (HA.out.below hb HA.out.lt)
        clear hb
        refine hK.out _ _ (fun _ _ => HD.out) ?_
        clear hK K
        try simp only [Act.put, List.setIfInBounds_toArray, List.set_cons_zero, List.set_cons_succ]
        refine anyU_one (i := 9) (by kernel_rfl) (by simp only [List.getElem?_toArray, List.getElem?_cons_succ, List.getElem?_cons_zero]; exact rfl) (fun K hK => ?_)
        try go_simp
        refine (HPE.out _ HD.out).mono ?_
        rintro e wt32 ⟨rfl, hb⟩
        replace HD := hide (kept_trans HD.out hb)
        replace HA := hide (HA.out.below hb HA.out.lt)
        clear hb
        refine hK.out _ _ (fun _ _ => HD.out) ?_
        clear hK K
        try simp only [Act.put, List.setIfInBounds_toArray, List.set_cons_zero, List.set_cons_succ]
        refine anyU_take2 (i := 10) (v := .tuple #[.int .i64 P1, .agg (cA P2)]) (by simp only [List.getElem?_toArray, List.getElem?_cons_succ, List.getElem?_cons_zero]; exact rfl) (by kernel_rfl) 12 (by kernel_rfl) (by kernel_rfl) (fun _ _ _ h => h) (by kernel_rfl) (by kernel_rfl) (by kernel_rfl) (by kernel_rfl) (Or.inl ⟨by rfl, fun w hSw => (by go_simp; try with_reducible rfl)⟩) (by with_reducible exact HD.out) ?_
        try simp only [Act.put, List.setIfInBounds_toArray, List.set_cons_zero, List.set_cons_succ]
        refine anyU_take2 (i := 11) (v := .int .i64 P1) (by simp only [List.getElem?_toArray, List.getElem?_cons_succ, List.getElem?_cons_zero]; exact rfl) (by kernel_rfl) 12 (by kernel_rfl) (by kernel_rfl) (fun _ _ _ h => h) (by kernel_rfl) (by kernel_rfl) (by kernel_rfl) (by kernel_rfl) (Or.inl ⟨by rfl, fun w hSw => (by go_simp; try with_reducible rfl)⟩) (by with_reducible exact HD.out) ?_
        try simp only [Act.put, List.setIfInBounds_toArray, List.set_cons_zero, List.set_cons_succ]
        refine anyU_take2 (i := 12) (v := .agg (cA P2)) (by simp only [List.getElem?_toArray, List.getElem?_cons_succ, List.getElem?_cons_zero]; exact rfl) (by kernel_rfl) 12 (by kernel_rfl) (by kernel_rfl) (fun _ _ _ h => h) (by kernel_rfl) (by kernel_rfl) (by kernel_rfl) (by kernel_rfl) (Or.inl ⟨by rfl, fun w hSw => (by go_simp; try with_reducible rfl)⟩) (by with_reducible exact HD.out) ?_
        try simp only [Act.put, List.setIfInBounds_toArray, List.set_cons_zero, List.set_cons_succ]
        refine anyU_take2 (i := 14) (v := .int .i64 P1) (by simp only [List.getElem?_toArray, List.getElem?_cons_succ, List.getElem?_cons_zero]; exact rfl) (by kernel_rfl) 12 (by kernel_rfl) (by kernel_rfl) (fun _ _ _ h => h) (by kernel_rfl) (by kernel_rfl) (by kernel_rfl) (by kernel_rfl) (Or.inl ⟨by rfl, fun w hSw => (by go_simp; try with_reducible rfl)⟩) (by with_reducible exact HD.out) ?_
        try simp only [Act.put, List.setIfInBounds_toArray, List.set_cons_zero, List.set_cons_succ]
        refine anyU_one (i := 15) (by kernel_rfl) (by simp only [List.getElem?_toArray, List.getElem?_cons_succ, List.getElem?_cons_zero]; exact rfl) (fun K hK => ?_)
        rw [if_pos (by rfl)]
        refine wp_store_at (z := zero8) rfl hp8 rfl rfl HA.out rfl ?_
        intro wt33 hn hg
        replace HD := hide (below_own HD.out hg HQga.out)
        replace HA := hide hn
        clear hn hg
        refine hK.out _ _ (fun e _ => absurd rfl e) ?_
        clear hK K
        try simp only [Act.put]
        refine anyU_done (by kernel_rfl) ?_
        refine NoPanic.normal ?_
        try simp only [Act.put]
        go_wp2
        go_meet
        exact ⟨rfl, ga, rfl, HD, HA⟩
    case rest =>
    obtain ⟨hs12, ga, hs13, HD4, HA4⟩ := hcut
    subst hs12
    subst hs13
    replace HO := hide (HO.out.kept HD4.out)
    go_upto_region 5 with (fail)
    go_cut [14, 15] from 37 to 46 (fun s14 s15 wx => s14 = .int .i64 P1 ∧ ∃ gb, s15 = .pointer (some ⟨gb, 0, none⟩) ∧ Hid (Below wc.heap.size wc wx) ∧ Hid (Row wx gb 26 (cA P2)))
    case first =>
      refine wp_region_noPanic ?_
      refine wp_region_U 12 (fun wz => Below wc.heap.size wc wz) (by kernel_rfl) ?_
      have HD := hide (show Below wc.heap.size wc wc.drew from kept_drewN (kept_refl wc) 1)
      generalize wc.drew = wd at HD ⊢
      refine anyU_take2 (i := 0) (v := .int .i64 n) (by simp only [List.getElem?_toArray, List.getElem?_cons_zero]; exact rfl) (by kernel_rfl) 12 (by kernel_rfl) (by kernel_rfl) (fun _ _ _ h => h) (by kernel_rfl) (by kernel_rfl) (by kernel_rfl) (by kernel_rfl) (Or.inl ⟨by rfl, fun w hSw => (by go_simp; try with_reducible rfl)⟩) (by with_reducible exact HD.out) ?_
      try simp only [Act.put, List.setIfInBounds_toArray, List.set_cons_zero, List.set_cons_succ]
      refine anyU_take2 (i := 2) (v := .bool first) (by simp only [List.getElem?_toArray, List.getElem?_cons_succ, List.getElem?_cons_zero]; exact rfl) (by kernel_rfl) 12 (by kernel_rfl) (by kernel_rfl) (fun _ _ _ h => h) (by kernel_rfl) (by kernel_rfl) (by kernel_rfl) (by kernel_rfl) (Or.inl ⟨by rfl, fun w hSw => (by go_simp; try with_reducible rfl)⟩) (by with_reducible exact HD.out) ?_
      try simp only [Act.put, List.setIfInBounds_toArray, List.set_cons_zero, List.set_cons_succ]
      refine anyU_take2 (i := 3) (v := .agg (cA own)) (by simp only [List.getElem?_toArray, List.getElem?_cons_succ, List.getElem?_cons_zero]; exact rfl) (by kernel_rfl) 12 (by kernel_rfl) (by kernel_rfl) (fun _ _ _ h => h) (by kernel_rfl) (by kernel_rfl) (by kernel_rfl) (by kernel_rfl) (Or.inl ⟨by rfl, fun w hSw => exec_load_gp rfl rfl ((HO.out.kept hSw).o.at8) at_under rfl (at_sz h8)⟩) (by with_reducible exact HD.out) ?_
      try simp only [Act.put, List.setIfInBounds_toArray, List.set_cons_zero, List.set_cons_succ]
      refine anyU_take2 (i := 4) (v := .slice A m c) (by simp only [List.getElem?_toArray, List.getElem?_cons_succ, List.getElem?_cons_zero]; exact rfl) (by kernel_rfl) 12 (by kernel_rfl) (by kernel_rfl) (fun _ _ _ h => h) (by kernel_rfl) (by kernel_rfl) (by kernel_rfl) (by kernel_rfl) (Or.inl ⟨by rfl, fun w hSw => (by go_simp; try with_reducible rfl)⟩) (by with_reducible exact HD.out) ?_
      try simp only [Act.put, List.setIfInBounds_toArray, List.set_cons_zero, List.set_cons_succ]
      refine anyU_take2 (i := 5) (v := .bool late) (by simp only [List.getElem?_toArray, List.getElem?_cons_succ, List.getElem?_cons_zero]; exact rfl) (by kernel_rfl) 12 (by kernel_rfl) (by kernel_rfl) (fun _ _ _ h => h) (by kernel_rfl) (by kernel_rfl) (by kernel_rfl) (by kernel_rfl) (Or.inl ⟨by rfl, fun w hSw => (by go_simp; try with_reducible rfl)⟩) (by with_reducible exact HD.out) ?_
      try simp only [Act.put, List.setIfInBounds_toArray, List.set_cons_zero, List.set_cons_succ]
      refine anyU_two (i := 1) (j := 10) (by kernel_rfl) (by simp only [List.getElem?_toArray, List.getElem?_cons_succ, List.getElem?_cons_zero]; exact rfl) (by simp only [List.getElem?_toArray, List.getElem?_cons_succ, List.getElem?_cons_zero]; exact rfl) (fun K hK => ?_) (fun K hK => ?_)
      · skip
        try go_simp
        refine (HF.out _).mono ?_
        rintro e wt34 ⟨rfl, hb⟩
        replace HD := hide (kept_trans HD.out hb)
        clear hb
        refine hK.out _ _ (fun _ _ => HD.out) ?_
        clear hK K
        try simp only [Act.put, List.setIfInBounds_toArray, List.set_cons_zero, List.set_cons_succ]
        refine anyU_two (i := 6) (j := 10) (by kernel_rfl) (by simp only [List.getElem?_toArray, List.getElem?_cons_succ, List.getElem?_cons_zero]; exact rfl) (by simp only [List.getElem?_toArray, List.getElem?_cons_succ, List.getElem?_cons_zero]; exact rfl) (fun K hK => ?_) (fun K hK => ?_)
        · skip
          try go_simp
          refine (HRE.out _ (kept_trans HD4.out HD.out)).mono ?_
          rintro e wt35 ⟨rfl, hb⟩
          replace HD := hide (kept_trans HD.out hb)
          clear hb
          refine hK.out _ _ (fun _ _ => HD.out) ?_
          clear hK K
          try simp only [Act.put, List.setIfInBounds_toArray, List.set_cons_zero, List.set_cons_succ]
          refine anyU_take2 (i := 7) (v := .tuple #[.int .i64 P1, .agg (cA P2)]) (by simp only [List.getElem?_toArray, List.getElem?_cons_succ, List.getElem?_cons_zero]; exact rfl) (by kernel_rfl) 12 (by kernel_rfl) (by kernel_rfl) (fun _ _ _ h => h) (by kernel_rfl) (by kernel_rfl) (by kernel_rfl) (by kernel_rfl) (Or.inl ⟨by rfl, fun w hSw => (by go_simp; try with_reducible rfl)⟩) (by with_reducible exact HD.out) ?_
          try simp only [Act.put, List.setIfInBounds_toArray, List.set_cons_zero, List.set_cons_succ]
          refine anyU_take2 (i := 8) (v := .int .i64 P1) (by simp only [List.getElem?_toArray, List.getElem?_cons_succ, List.getElem?_cons_zero]; exact rfl) (by kernel_rfl) 12 (by kernel_rfl) (by kernel_rfl) (fun _ _ _ h => h) (by kernel_rfl) (by kernel_rfl) (by kernel_rfl) (by kernel_rfl) (Or.inl ⟨by rfl, fun w hSw => (by go_simp; try with_reducible rfl)⟩) (by with_reducible exact HD.out) ?_
          try simp only [Act.put, List.setIfInBounds_toArray, List.set_cons_zero, List.set_cons_succ]
          refine anyU_take2 (i := 9) (v := .agg (cA P2)) (by simp only [List.getElem?_toArray, List.getElem?_cons_succ, List.getElem?_cons_zero]; exact rfl) (by kernel_rfl) 12 (by kernel_rfl) (by kernel_rfl) (fun _ _ _ h => h) (by kernel_rfl) (by kernel_rfl) (by kernel_rfl) (by kernel_rfl) (Or.inl ⟨by rfl, fun w hSw => (by go_simp; try with_reducible rfl)⟩) (by with_reducible exact HD.out) ?_
          try simp only [Act.put, List.setIfInBounds_toArray, List.set_cons_zero, List.set_cons_succ]
          refine anyU_one (i := 10) (by kernel_rfl) (by simp only [List.getElem?_toArray, List.getElem?_cons_succ, List.getElem?_cons_zero]; exact rfl) (fun K hK => ?_)
          try go_simp
          have HA := hide (show Row (wt35.alloc (.cells #[.int .i64 0, .int .i64 0, .int .i64 0, .int .i64 0, .int .i64 0, .int .i64 0, .int .i64 0, .int .i64 0] 26)) wt35.heap.size 26 (cA zero8) from Row.new wt35 _ _)
          have HQgb := hide HD.out.size
          replace HD := hide (kept_trans HD.out (kept_alloc (kept_refl wt35) (.cells #[.int .i64 0, .int .i64 0, .int .i64 0, .int .i64 0, .int .i64 0, .int .i64 0, .int .i64 0, .int .i64 0] 26)))
          generalize wt35.alloc (.cells #[.int .i64 0, .int .i64 0, .int .i64 0, .int .i64 0, .int .i64 0, .int .i64 0, .int .i64 0, .int .i64 0] 26) = wt36 at HD HA ⊢
          generalize wt35.heap.size = gb at HA HQgb ⊢
          refine hK.out _ _ (fun _ _ => HD.out) ?_
          clear hK K
          try simp only [Act.put, List.setIfInBounds_toArray, List.set_cons_zero, List.set_cons_succ]
          refine anyU_take2 (i := 11) (v := .int .i64 P1) (by simp only [List.getElem?_toArray, List.getElem?_cons_succ, List.getElem?_cons_zero]; exact rfl) (by kernel_rfl) 12 (by kernel_rfl) (by kernel_rfl) (fun _ _ _ h => h) (by kernel_rfl) (by kernel_rfl) (by kernel_rfl) (by kernel_rfl) (Or.inl ⟨by rfl, fun w hSw => (by go_simp; try with_reducible rfl)⟩) (by with_reducible exact HD.out) ?_
          try simp only [Act.put, List.setIfInBounds_toArray, List.set_cons_zero, List.set_cons_succ]
          refine anyU_one (i := 12) (by kernel_rfl) (by simp only [List.getElem?_toArray, List.getElem?_cons_succ, List.getElem?_cons_zero]; exact rfl) (fun K hK => ?_)
          rw [if_pos (by rfl)]
          refine wp_store_at (z := zero8) rfl hp8 rfl rfl HA.out rfl ?_
          intro wt37 hn hg
          replace HD := hide (below_own HD.out hg HQgb.out)
          replace HA := hide hn
          clear hn hg
          refine hK.out _ _ (fun e _ => absurd rfl e) ?_
          clear hK K
          try simp only [Act.put]
          refine anyU_done (by kernel_rfl) ?_
          refine NoPanic.normal ?_
          try simp only [Act.put]
          go_wp2
          go_meet
          exact ⟨rfl, gb, rfl, HD, HA⟩
        · skip
          try go_simp
          have HA := hide (show Row (wt34.alloc (.cells #[.int .i64 0, .int .i64 0, .int .i64 0, .int .i64 0, .int .i64 0, .int .i64 0, .int .i64 0, .int .i64 0] 26)) wt34.heap.size 26 (cA zero8) from Row.new wt34 _ _)
          have HQgb := hide HD.out.size
          replace HD := hide (kept_trans HD.out (kept_alloc (kept_refl wt34) (.cells #[.int .i64 0, .int .i64 0, .int .i64 0, .int .i64 0, .int .i64 0, .int .i64 0, .int .i64 0, .int .i64 0] 26)))
          generalize wt34.alloc (.cells #[.int .i64 0, .int .i64 0, .int .i64 0, .int .i64 0, .int .i64 0, .int .i64 0, .int .i64 0, .int .i64 0] 26) = wt38 at HD HA ⊢
          generalize wt34.heap.size = gb at HA HQgb ⊢
          refine hK.out _ _ (fun _ _ => HD.out) ?_
          clear hK K
          try simp only [Act.put, List.setIfInBounds_toArray, List.set_cons_zero, List.set_cons_succ]
          refine anyU_one (i := 6) (by kernel_rfl) (by simp only [List.getElem?_toArray, List.getElem?_cons_succ, List.getElem?_cons_zero]; exact rfl) (fun K hK => ?_)
          try go_simp
          refine (HRE.out _ (kept_trans HD4.out HD.out)).mono ?_
          rintro e wt39 ⟨rfl, hb⟩
          replace HD := hide (kept_trans HD.out hb)
          replace HA := hide (HA.out.below hb HA.out.lt)
          clear hb
          refine hK.out _ _ (fun _ _ => HD.out) ?_
          clear hK K
          try simp only [Act.put, List.setIfInBounds_toArray, List.set_cons_zero, List.set_cons_succ]
          refine anyU_take2 (i := 7) (v := .tuple #[.int .i64 P1, .agg (cA P2)]) (by simp only [List.getElem?_toArray, List.getElem?_cons_succ, List.getElem?_cons_zero]; exact rfl) (by kernel_rfl) 12 (by kernel_rfl) (by kernel_rfl) (fun _ _ _ h => h) (by kernel_rfl) (by kernel_rfl) (by kernel_rfl) (by kernel_rfl) (Or.inl ⟨by rfl, fun w hSw => (by go_simp; try with_reducible rfl)⟩) (by with_reducible exact HD.out) ?_
          try simp only [Act.put, List.setIfInBounds_toArray, List.set_cons_zero, List.set_cons_succ]
          refine anyU_take2 (i := 8) (v := .int .i64 P1) (by simp only [List.getElem?_toArray, List.getElem?_cons_succ, List.getElem?_cons_zero]; exact rfl) (by kernel_rfl) 12 (by kernel_rfl) (by kernel_rfl) (fun _ _ _ h => h) (by kernel_rfl) (by kernel_rfl) (by kernel_rfl) (by kernel_rfl) (Or.inl ⟨by rfl, fun w hSw => (by go_simp; try with_reducible rfl)⟩) (by with_reducible exact HD.out) ?_
          try simp only [Act.put, List.setIfInBounds_toArray, List.set_cons_zero, List.set_cons_succ]
          refine anyU_take2 (i := 9) (v := .agg (cA P2)) (by simp only [List.getElem?_toArray, List.getElem?_cons_succ, List.getElem?_cons_zero]; exact rfl) (by kernel_rfl) 12 (by kernel_rfl) (by kernel_rfl) (fun _ _ _ h => h) (by kernel_rfl) (by kernel_rfl) (by kernel_rfl) (by kernel_rfl) (Or.inl ⟨by rfl, fun w hSw => (by go_simp; try with_reducible rfl)⟩) (by with_reducible exact HD.out) ?_
          try simp only [Act.put, List.setIfInBounds_toArray, List.set_cons_zero, List.set_cons_succ]
          refine anyU_take2 (i := 11) (v := .int .i64 P1) (by simp only [List.getElem?_toArray, List.getElem?_cons_succ, List.getElem?_cons_zero]; exact rfl) (by kernel_rfl) 12 (by kernel_rfl) (by kernel_rfl) (fun _ _ _ h => h) (by kernel_rfl) (by kernel_rfl) (by kernel_rfl) (by kernel_rfl) (Or.inl ⟨by rfl, fun w hSw => (by go_simp; try with_reducible rfl)⟩) (by with_reducible exact HD.out) ?_
          try simp only [Act.put, List.setIfInBounds_toArray, List.set_cons_zero, List.set_cons_succ]
          refine anyU_one (i := 12) (by kernel_rfl) (by simp only [List.getElem?_toArray, List.getElem?_cons_succ, List.getElem?_cons_zero]; exact rfl) (fun K hK => ?_)
          rw [if_pos (by rfl)]
          refine wp_store_at (z := zero8) rfl hp8 rfl rfl HA.out rfl ?_
          intro wt40 hn hg
          replace HD := hide (below_own HD.out hg HQgb.out)
          replace HA := hide hn
          clear hn hg
          refine hK.out _ _ (fun e _ => absurd rfl e) ?_
          clear hK K
          try simp only [Act.put]
          refine anyU_done (by kernel_rfl) ?_
          refine NoPanic.normal ?_
          try simp only [Act.put]
          go_wp2
          go_meet
          exact ⟨rfl, gb, rfl, HD, HA⟩
      · skip
        try go_simp
        have HA := hide (show Row (wd.alloc (.cells #[.int .i64 0, .int .i64 0, .int .i64 0, .int .i64 0, .int .i64 0, .int .i64 0, .int .i64 0, .int .i64 0] 26)) wd.heap.size 26 (cA zero8) from Row.new wd _ _)
        have HQgb := hide HD.out.size
        replace HD := hide (kept_trans HD.out (kept_alloc (kept_refl wd) (.cells #[.int .i64 0, .int .i64 0, .int .i64 0, .int .i64 0, .int .i64 0, .int .i64 0, .int .i64 0, .int .i64 0] 26)))
        generalize wd.alloc (.cells #[.int .i64 0, .int .i64 0, .int .i64 0, .int .i64 0, .int .i64 0, .int .i64 0, .int .i64 0, .int .i64 0] 26) = wt41 at HD HA ⊢
        generalize wd.heap.size = gb at HA HQgb ⊢
        refine hK.out _ _ (fun _ _ => HD.out) ?_
        clear hK K
        try simp only [Act.put, List.setIfInBounds_toArray, List.set_cons_zero, List.set_cons_succ]
        refine anyU_one (i := 1) (by kernel_rfl) (by simp only [List.getElem?_toArray, List.getElem?_cons_succ, List.getElem?_cons_zero]; exact rfl) (fun K hK => ?_)
        try go_simp
        refine (HF.out _).mono ?_
        rintro e wt42 ⟨rfl, hb⟩
        replace HD := hide (kept_trans HD.out hb)
        replace HA := hide (HA.out.below hb HA.out.lt)
        clear hb
        refine hK.out _ _ (fun _ _ => HD.out) ?_
        clear hK K
        try simp only [Act.put, List.setIfInBounds_toArray, List.set_cons_zero, List.set_cons_succ]
        refine anyU_one (i := 6) (by kernel_rfl) (by simp only [List.getElem?_toArray, List.getElem?_cons_succ, List.getElem?_cons_zero]; exact rfl) (fun K hK => ?_)
        try go_simp
        refine (HRE.out _ (kept_trans HD4.out HD.out)).mono ?_
        rintro e wt43 ⟨rfl, hb⟩
        replace HD := hide (kept_trans HD.out hb)
        replace HA := hide (HA.out.below hb HA.out.lt)
        clear hb
        refine hK.out _ _ (fun _ _ => HD.out) ?_
        clear hK K
        try simp only [Act.put, List.setIfInBounds_toArray, List.set_cons_zero, List.set_cons_succ]
        refine anyU_take2 (i := 7) (v := .tuple #[.int .i64 P1, .agg (cA P2)]) (by simp only [List.getElem?_toArray, List.getElem?_cons_succ, List.getElem?_cons_zero]; exact rfl) (by kernel_rfl) 12 (by kernel_rfl) (by kernel_rfl) (fun _ _ _ h => h) (by kernel_rfl) (by kernel_rfl) (by kernel_rfl) (by kernel_rfl) (Or.inl ⟨by rfl, fun w hSw => (by go_simp; try with_reducible rfl)⟩) (by with_reducible exact HD.out) ?_
        try simp only [Act.put, List.setIfInBounds_toArray, List.set_cons_zero, List.set_cons_succ]
        refine anyU_take2 (i := 8) (v := .int .i64 P1) (by simp only [List.getElem?_toArray, List.getElem?_cons_succ, List.getElem?_cons_zero]; exact rfl) (by kernel_rfl) 12 (by kernel_rfl) (by kernel_rfl) (fun _ _ _ h => h) (by kernel_rfl) (by kernel_rfl) (by kernel_rfl) (by kernel_rfl) (Or.inl ⟨by rfl, fun w hSw => (by go_simp; try with_reducible rfl)⟩) (by with_reducible exact HD.out) ?_
        try simp only [Act.put, List.setIfInBounds_toArray, List.set_cons_zero, List.set_cons_succ]
        refine anyU_take2 (i := 9) (v := .agg (cA P2)) (by simp only [List.getElem?_toArray, List.getElem?_cons_succ, List.getElem?_cons_zero]; exact rfl) (by kernel_rfl) 12 (by kernel_rfl) (by kernel_rfl) (fun _ _ _ h => h) (by kernel_rfl) (by kernel_rfl) (by kernel_rfl) (by kernel_rfl) (Or.inl ⟨by rfl, fun w hSw => (by go_simp; try with_reducible rfl)⟩) (by with_reducible exact HD.out) ?_
        try simp only [Act.put, List.setIfInBounds_toArray, List.set_cons_zero, List.set_cons_succ]
        refine anyU_take2 (i := 11) (v := .int .i64 P1) (by simp only [List.getElem?_toArray, List.getElem?_cons_succ, List.getElem?_cons_zero]; exact rfl) (by kernel_rfl) 12 (by kernel_rfl) (by kernel_rfl) (fun _ _ _ h => h) (by kernel_rfl) (by kernel_rfl) (by kernel_rfl) (by kernel_rfl) (Or.inl ⟨by rfl, fun w hSw => (by go_simp; try with_reducible rfl)⟩) (by with_reducible exact HD.out) ?_
        try simp only [Act.put, List.setIfInBounds_toArray, List.set_cons_zero, List.set_cons_succ]
        refine anyU_one (i := 12) (by kernel_rfl) (by simp only [List.getElem?_toArray, List.getElem?_cons_succ, List.getElem?_cons_zero]; exact rfl) (fun K hK => ?_)
        rw [if_pos (by rfl)]
        refine wp_store_at (z := zero8) rfl hp8 rfl rfl HA.out rfl ?_
        intro wt44 hn hg
        replace HD := hide (below_own HD.out hg HQgb.out)
        replace HA := hide hn
        clear hn hg
        refine hK.out _ _ (fun e _ => absurd rfl e) ?_
        clear hK K
        try simp only [Act.put]
        refine anyU_done (by kernel_rfl) ?_
        refine NoPanic.normal ?_
        try simp only [Act.put]
        go_wp2
        go_meet
        exact ⟨rfl, gb, rfl, HD, HA⟩
    case rest =>
    obtain ⟨hs14, gb, hs15, HD5, HA5⟩ := hcut
    subst hs14
    subst hs15
    replace HO := hide (HO.out.kept HD5.out)
    replace HA4 := hide (HA4.out.below HD5.out HA4.out.lt)
    replace HD4 := hide (kept_trans HD4.out HD5.out)
    clear HD5 HPE HRE
    have hea := fun w => eql_at hp8 hp8 w
    rw [decide_eq_true rfl] at hea
    go_wp2_with (first
      | ((with_reducible refine wpList_load_at hp8 ?_ ?_ HA4.out.at8 ?_); rfl; rfl)
      | ((with_reducible refine wpList_load_at hp8 ?_ ?_ HA5.out.at8 ?_); rfl; rfl)
      | (go_at_call 12; (with_reducible refine (attr_any _ _).mono ?_); rintro e w7 ⟨rfl, hb⟩; replace HO := hide (HO.out.kept hb); replace HD4 := hide (kept_trans HD4.out hb); clear hb)
      | (go_at_call 26; go_loud ((with_reducible refine (HIT.out _ HD4.out).mono ?_); rintro e w8 ⟨rfl, hb⟩; replace HO := hide (HO.out.kept hb); clear hb))
      | (go_at_call 3; (with_reducible refine (HRR.out _).mono ?_); rintro e w9 ⟨rfl, hb⟩; replace HO := hide (HO.out.kept hb); clear hb))
    go_ret
    exact ⟨rfl, HO.out.low⟩
end Go.Proofs.Ytjkdccokiaejhaa
