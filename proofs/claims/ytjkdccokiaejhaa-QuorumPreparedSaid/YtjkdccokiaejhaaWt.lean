/- QuorumPrepared walked. Conditions: what was said came in. -/
import Derived.Test.YtjkdccokiaejhaaQn
import Derived.Test.YtjkdccokiaejhaaQs
import Derived.Deep.CutBlock
import Derived.Deep.DeepCutAuto
namespace Go.Proofs.Ytjkdccokiaejhaa
set_option maxRecDepth 100000
open Go.RowKit
theorem rows_apart {w : World} {g g' : Nat} {t t' : TypeId} {cs cs' : Array Value} (h : Row w g t cs) (k : Row w g' t' cs') (hne : t ≠ t') : g ≠ g' := fun e => by
  subst e
  unfold Row at h k
  rw [h] at k
  injection k with k
  injection k with _ h2 _
  exact hne h2
theorem prepL_8 {n : Nat} {owner : Int} {l : List (Int × Cl)} (h8 : ∀ e, e ∈ l → e.2.a.length = 8) : (prepL n owner l).2.2.length = 8 := by
  unfold prepL
  split
  · rfl
  · split
    · rename_i e hf
      exact h8 e (List.mem_of_find?_eq_some hf)
    · split
      · rename_i b hb
        exact best_8 h8 hb
      · split
        · rfl
        · rename_i b hb
          split
          · exact head_8 h8
          · exact best_8 h8 hb
def mk9 : Int × Cl := (-9, zeroCl)
theorem fill_mark (w : World) : (Instr.build 36 #[(0, .int .i64 (-9))]).run Try.prog w = .ok (.agg (sdA mk9)) w := by kernel_rfl
theorem Row.cm_atp {w : World} {g : Nat} {t : TypeId} {c : Cm} (R : Row w g t (rowC c)) : w.rangeAt g 0 c.l := R.mid (A := []) (ys := c.l) (B := []) rfl rfl
theorem eql_cmp (x : Cm) (w : World) : (binOp .eql 32 (.agg #[.int .i64 x.k, .int .i64 x.c, .int .i64 x.q, .string x.key, .string x.en, .string x.old, .string x.val]) (.agg #[.int .i64 x.k, .int .i64 x.c, .int .i64 x.q, .string x.key, .string x.en, .string x.old, .string x.val])).run Try.prog w = .ok (.bool true) w := by
  have h := eql_cmd x.k x.c x.q x.key x.en x.old x.val x.k x.c x.q x.key x.en x.old x.val w
  rw [sameC_iff.2 rfl] at h
  exact h
set_option maxHeartbeats 16000000 in
theorem prepared_walk {n ow : Int} {A : Option Addr} {m c : Nat} {l : List (Int × Cl)} (W : World) (hz : SaidsIn W A m c l) :
    Calls Try.prog 6 #[.int .i64 n, .int .i64 ow, .slice A m c] W fun e w' => e = .returned (.bool true) ∧ Below W.heap.size W w' := by
  obtain ⟨k, hk, hF⟩ := fit_any n
  have HF := hide hF
  have hk7 : k ≤ 7 := by omega
  have hk3 : 3 ≤ k := by omega
  have hmc : m ≤ c := hz.le
  have hcr := hz.room
  have HRR : Hid (∀ w : World, Calls Try.prog 3 #[] w fun e w' => e = .returned (.bool true) ∧ Below w.heap.size w w') := hide runs_ok
  have HZ0 := hide hz
  clear hF hk hz
  by_cases h7 : 7 < m
  · have h7i : (7 : Int) < (m : Int) := by omega
    have HM := hide (show (l.take 7).length = 7 from by rw [List.length_take, HZ0.out.len]; omega)
    have HZ := hide (HZ0.out.sds.takeq 7)
    have HRM := hide (roomy_said (c := c) HM.out (show mk9.2.a.length = 8 from rfl) HZ.out (by omega))
    have h7c : 7 ≤ c := by omega
    clear HZ0
    go_enter Try.func6, Try.ntmps6
    go_upto_region 3 with (fail)
    go_upto_region 4 with (first
      | ((with_reducible refine wpList_build_one (u := .int .i64 (-9)) (v := .agg (sdA mk9)) ?_ ?_ (fill_mark _) ?_); rfl; rfl)
      | (go_at_call 27; go_loud ((with_reducible refine HRM.out.mono ?_); rintro e w3 ⟨rfl, hr, hb⟩; have HW := hide hb; have HS3 := hide hr; clear hr hb)))
    generalize W.heap.size + 1 = sb at HS3 ⊢
    have HL3 := hide (HZ.out.below HW.out)
    have HT3 := hide (show Sds w3 (some ⟨sb, 0, none⟩) (l.take 7) from by have h := HS3.out.takeq 7; rwa [List.take_left' HM.out] at h)
    have HPE : Hid (∀ wz : World, Below w3.heap.size w3 wz → Calls Try.prog 28 #[.int .i64 (k : Nat), .int .i64 ow, .slice (some ⟨sb, 0, none⟩) 7 (7 + 80)] wz fun e w' => e = .returned (.tuple #[.int .i64 (prepL k ow (l.take 7)).1, .agg (rowC (prepL k ow (l.take 7)).2.1), .agg (cA (prepL k ow (l.take 7)).2.2)]) ∧ Below wz.heap.size wz w') := hide (fun wz h => prep_ok k ow (some ⟨sb, 0, none⟩) 7 (7 + 80) (l.take 7) wz (by omega) (by omega) HM.out (HT3.out.below h) (by omega) (by omega) (fun h => by cases h))
    have HRE : Hid (∀ (B : Option Addr) (d : Nat) (wz : World), Sds wz B (l.take 7) → Calls Try.prog 29 #[.int .i64 (k : Nat), .int .i64 ow, .slice B 7 d] wz fun e w' => e = .returned (.tuple #[.int .i64 (prepL k ow (l.take 7)).1, .agg (rowC (prepL k ow (l.take 7)).2.1), .agg (cA (prepL k ow (l.take 7)).2.2)]) ∧ Below wz.heap.size wz w') := hide (fun B d wz h => rprep_any (n := k) (owner := ow) (A := B) (c := d) (by omega) HM.out h (by omega))
    have HRO := hide (fun wz (h : Below w3.heap.size w3 wz) => row_any (c := c) HM.out (HL3.out.below h) (by omega))
    have HIT := hide (fun wz (h : Below w3.heap.size w3 wz) => intact_said (d := c) HM.out (show mk9.2.a.length = 8 from rfl) (HS3.out.below h) (HL3.out.below h) (by omega))
    have hp8 : (prepL k ow (l.take 7)).2.2.length = 8 := prepL_8 HZ.out.a8
    generalize prepL k ow (l.take 7) = P at HPE HRE hp8
    obtain ⟨P1, Pc, Pa⟩ := P
    dsimp only at HPE HRE hp8
    clear HRM HT3
    have f1 : ¬ ((7 : Int) + 80 < (7 : Int)) := by omega
    go_cut [8, 9, 10] from 22 to 33 (fun s8 s9 s10 wx => s8 = .int .i64 P1 ∧ ∃ gc, s9 = .pointer (some ⟨gc, 0, none⟩) ∧ ∃ ga, s10 = .pointer (some ⟨ga, 0, none⟩) ∧ Hid (Below w3.heap.size w3 wx) ∧ Hid (Row wx gc 32 (rowC Pc)) ∧ Hid (Row wx ga 26 (cA Pa)))
    case first =>
      refine wp_region_noPanic ?_
      refine wp_region_U 16 (fun wz => Below w3.heap.size w3 wz) (by kernel_rfl) ?_
      have HD := hide (show Below w3.heap.size w3 w3.drew from kept_drewN (kept_refl w3) 1)
      generalize w3.drew = wd at HD ⊢
      refine anyU_take2 (i := 0) (v := .int .i64 n) (by simp only [List.getElem?_toArray, List.getElem?_cons_zero]; exact rfl) (by kernel_rfl) 12 (by kernel_rfl) (by kernel_rfl) (fun _ _ _ h => h) (by kernel_rfl) (by kernel_rfl) (by kernel_rfl) (by kernel_rfl) (Or.inl ⟨by rfl, fun w hSw => (by go_simp; try with_reducible rfl)⟩) (by with_reducible exact HD.out) ?_
      try simp only [Act.put, List.setIfInBounds_toArray, List.set_cons_zero, List.set_cons_succ]
      refine anyU_take2 (i := 2) (v := .int .i64 ow) (by simp only [List.getElem?_toArray, List.getElem?_cons_succ, List.getElem?_cons_zero]; exact rfl) (by kernel_rfl) 12 (by kernel_rfl) (by kernel_rfl) (fun _ _ _ h => h) (by kernel_rfl) (by kernel_rfl) (by kernel_rfl) (by kernel_rfl) (Or.inl ⟨by rfl, fun w hSw => (by go_simp; try with_reducible rfl)⟩) (by with_reducible exact HD.out) ?_
      try simp only [Act.put, List.setIfInBounds_toArray, List.set_cons_zero, List.set_cons_succ]
      refine anyU_take2 (i := 3) (v := .slice (some ⟨sb, 0, none⟩) (7 + 80) (7 + 80)) (by simp only [List.getElem?_toArray, List.getElem?_cons_succ, List.getElem?_cons_zero]; exact rfl) (by kernel_rfl) 12 (by kernel_rfl) (by kernel_rfl) (fun _ _ _ h => h) (by kernel_rfl) (by kernel_rfl) (by kernel_rfl) (by kernel_rfl) (Or.inl ⟨by rfl, fun w hSw => (by go_simp; try with_reducible rfl)⟩) (by with_reducible exact HD.out) ?_
      try simp only [Act.put, List.setIfInBounds_toArray, List.set_cons_zero, List.set_cons_succ]
      refine anyU_take2 (i := 4) (v := .slice A 7 c) (by simp only [List.getElem?_toArray, List.getElem?_cons_succ, List.getElem?_cons_zero]; exact rfl) (by kernel_rfl) 12 (by kernel_rfl) (by kernel_rfl) (fun _ _ _ h => h) (by kernel_rfl) (by kernel_rfl) (by kernel_rfl) (by kernel_rfl) (Or.inl ⟨by rfl, fun w hSw => (by go_simp; try with_reducible rfl)⟩) (by with_reducible exact HD.out) ?_
      try simp only [Act.put, List.setIfInBounds_toArray, List.set_cons_zero, List.set_cons_succ]
      refine anyU_take2 (i := 5) (v := .int .i64 (7 : Nat)) (by simp only [List.getElem?_toArray, List.getElem?_cons_succ, List.getElem?_cons_zero]; exact rfl) (by kernel_rfl) 12 (by kernel_rfl) (by kernel_rfl) (fun _ _ _ h => h) (by kernel_rfl) (by kernel_rfl) (by kernel_rfl) (by kernel_rfl) (Or.inl ⟨by rfl, fun w hSw => (by go_simp; try with_reducible rfl)⟩) (by with_reducible exact HD.out) ?_
      try simp only [Act.put, List.setIfInBounds_toArray, List.set_cons_zero, List.set_cons_succ]
      refine anyU_take2 (i := 6) (v := .slice (some ⟨sb, 0, none⟩) 7 (7 + 80)) (by simp only [List.getElem?_toArray, List.getElem?_cons_succ, List.getElem?_cons_zero]; exact rfl) (by kernel_rfl) 12 (by kernel_rfl) (by kernel_rfl) (fun _ _ _ h => h) (by kernel_rfl) (by kernel_rfl) (by kernel_rfl) (by kernel_rfl) (Or.inl ⟨by rfl, fun w hSw => (by go_simp; try with_reducible rfl)⟩) (by with_reducible exact HD.out) ?_
      try simp only [Act.put, List.setIfInBounds_toArray, List.set_cons_zero, List.set_cons_succ]
      refine anyU_three (i := 1) (j := 12) (k := 13) (by kernel_rfl) (by simp only [List.getElem?_toArray, List.getElem?_cons_succ, List.getElem?_cons_zero]; exact rfl) (by simp only [List.getElem?_toArray, List.getElem?_cons_succ, List.getElem?_cons_zero]; exact rfl) (by simp only [List.getElem?_toArray, List.getElem?_cons_succ, List.getElem?_cons_zero]; exact rfl) (fun K hK => ?_) (fun K hK => ?_) (fun K hK => ?_)
      · skip
        try go_simp
        refine (HF.out _).mono ?_
        rintro e wt1 ⟨rfl, hb⟩
        replace HD := hide (kept_trans HD.out hb)
        clear hb
        refine hK.out _ _ (fun _ _ => HD.out) ?_
        clear hK K
        try simp only [Act.put, List.setIfInBounds_toArray, List.set_cons_zero, List.set_cons_succ]
        refine anyU_three (i := 7) (j := 12) (k := 13) (by kernel_rfl) (by simp only [List.getElem?_toArray, List.getElem?_cons_succ, List.getElem?_cons_zero]; exact rfl) (by simp only [List.getElem?_toArray, List.getElem?_cons_succ, List.getElem?_cons_zero]; exact rfl) (by simp only [List.getElem?_toArray, List.getElem?_cons_succ, List.getElem?_cons_zero]; exact rfl) (fun K hK => ?_) (fun K hK => ?_) (fun K hK => ?_)
        · skip
          try go_simp
          refine (HPE.out _ HD.out).mono ?_
          rintro e wt2 ⟨rfl, hb⟩
          replace HD := hide (kept_trans HD.out hb)
          clear hb
          refine hK.out _ _ (fun _ _ => HD.out) ?_
          clear hK K
          try simp only [Act.put, List.setIfInBounds_toArray, List.set_cons_zero, List.set_cons_succ]
          refine anyU_take2 (i := 8) (v := .tuple #[.int .i64 P1, .agg (rowC Pc), .agg (cA Pa)]) (by simp only [List.getElem?_toArray, List.getElem?_cons_succ, List.getElem?_cons_zero]; exact rfl) (by kernel_rfl) 12 (by kernel_rfl) (by kernel_rfl) (fun _ _ _ h => h) (by kernel_rfl) (by kernel_rfl) (by kernel_rfl) (by kernel_rfl) (Or.inl ⟨by rfl, fun w hSw => (by go_simp; try with_reducible rfl)⟩) (by with_reducible exact HD.out) ?_
          try simp only [Act.put, List.setIfInBounds_toArray, List.set_cons_zero, List.set_cons_succ]
          refine anyU_take2 (i := 9) (v := .int .i64 P1) (by simp only [List.getElem?_toArray, List.getElem?_cons_succ, List.getElem?_cons_zero]; exact rfl) (by kernel_rfl) 12 (by kernel_rfl) (by kernel_rfl) (fun _ _ _ h => h) (by kernel_rfl) (by kernel_rfl) (by kernel_rfl) (by kernel_rfl) (Or.inl ⟨by rfl, fun w hSw => (by go_simp; try with_reducible rfl)⟩) (by with_reducible exact HD.out) ?_
          try simp only [Act.put, List.setIfInBounds_toArray, List.set_cons_zero, List.set_cons_succ]
          refine anyU_take2 (i := 10) (v := .agg (rowC Pc)) (by simp only [List.getElem?_toArray, List.getElem?_cons_succ, List.getElem?_cons_zero]; exact rfl) (by kernel_rfl) 12 (by kernel_rfl) (by kernel_rfl) (fun _ _ _ h => h) (by kernel_rfl) (by kernel_rfl) (by kernel_rfl) (by kernel_rfl) (Or.inl ⟨by rfl, fun w hSw => (by go_simp; try with_reducible rfl)⟩) (by with_reducible exact HD.out) ?_
          try simp only [Act.put, List.setIfInBounds_toArray, List.set_cons_zero, List.set_cons_succ]
          refine anyU_take2 (i := 11) (v := .agg (cA Pa)) (by simp only [List.getElem?_toArray, List.getElem?_cons_succ, List.getElem?_cons_zero]; exact rfl) (by kernel_rfl) 12 (by kernel_rfl) (by kernel_rfl) (fun _ _ _ h => h) (by kernel_rfl) (by kernel_rfl) (by kernel_rfl) (by kernel_rfl) (Or.inl ⟨by rfl, fun w hSw => (by go_simp; try with_reducible rfl)⟩) (by with_reducible exact HD.out) ?_
          try simp only [Act.put, List.setIfInBounds_toArray, List.set_cons_zero, List.set_cons_succ]
          refine anyU_two (i := 12) (j := 13) (by kernel_rfl) (by simp only [List.getElem?_toArray, List.getElem?_cons_succ, List.getElem?_cons_zero]; exact rfl) (by simp only [List.getElem?_toArray, List.getElem?_cons_succ, List.getElem?_cons_zero]; exact rfl) (fun K hK => ?_) (fun K hK => ?_)
          · skip
            try go_simp
            have HC := hide (show Row (wt2.alloc (.cells #[.int .i64 0, .int .i64 0, .int .i64 0, .string ⟨#[]⟩, .string ⟨#[]⟩, .string ⟨#[]⟩, .string ⟨#[]⟩] 32)) wt2.heap.size 32 (rowC zeroC) from Row.new wt2 _ _)
            have HQgc := hide HD.out.size
            replace HD := hide (kept_trans HD.out (kept_alloc (kept_refl wt2) (.cells #[.int .i64 0, .int .i64 0, .int .i64 0, .string ⟨#[]⟩, .string ⟨#[]⟩, .string ⟨#[]⟩, .string ⟨#[]⟩] 32)))
            generalize wt2.alloc (.cells #[.int .i64 0, .int .i64 0, .int .i64 0, .string ⟨#[]⟩, .string ⟨#[]⟩, .string ⟨#[]⟩, .string ⟨#[]⟩] 32) = wt3 at HD HC ⊢
            generalize wt2.heap.size = gc at HC HQgc ⊢
            refine hK.out _ _ (fun _ _ => HD.out) ?_
            clear hK K
            try simp only [Act.put, List.setIfInBounds_toArray, List.set_cons_zero, List.set_cons_succ]
            refine anyU_one (i := 13) (by kernel_rfl) (by simp only [List.getElem?_toArray, List.getElem?_cons_succ, List.getElem?_cons_zero]; exact rfl) (fun K hK => ?_)
            try go_simp
            have HA := hide (show Row (wt3.alloc (.cells #[.int .i64 0, .int .i64 0, .int .i64 0, .int .i64 0, .int .i64 0, .int .i64 0, .int .i64 0, .int .i64 0] 26)) wt3.heap.size 26 (cA zero8) from Row.new wt3 _ _)
            replace HC := hide (HC.out.below (kept_alloc (kept_refl wt3) (.cells #[.int .i64 0, .int .i64 0, .int .i64 0, .int .i64 0, .int .i64 0, .int .i64 0, .int .i64 0, .int .i64 0] 26)) HC.out.lt)
            have HQga := hide HD.out.size
            replace HD := hide (kept_trans HD.out (kept_alloc (kept_refl wt3) (.cells #[.int .i64 0, .int .i64 0, .int .i64 0, .int .i64 0, .int .i64 0, .int .i64 0, .int .i64 0, .int .i64 0] 26)))
            generalize wt3.alloc (.cells #[.int .i64 0, .int .i64 0, .int .i64 0, .int .i64 0, .int .i64 0, .int .i64 0, .int .i64 0, .int .i64 0] 26) = wt4 at HD HA HC ⊢
            generalize wt3.heap.size = ga at HA HQga ⊢
            refine hK.out _ _ (fun _ _ => HD.out) ?_
            clear hK K
            try simp only [Act.put, List.setIfInBounds_toArray, List.set_cons_zero, List.set_cons_succ]
            refine anyU_take2 (i := 14) (v := .int .i64 P1) (by simp only [List.getElem?_toArray, List.getElem?_cons_succ, List.getElem?_cons_zero]; exact rfl) (by kernel_rfl) 12 (by kernel_rfl) (by kernel_rfl) (fun _ _ _ h => h) (by kernel_rfl) (by kernel_rfl) (by kernel_rfl) (by kernel_rfl) (Or.inl ⟨by rfl, fun w hSw => (by go_simp; try with_reducible rfl)⟩) (by with_reducible exact HD.out) ?_
            try simp only [Act.put, List.setIfInBounds_toArray, List.set_cons_zero, List.set_cons_succ]
            have hne := rows_apart HC.out HA.out (by decide)
            refine anyU_one (i := 15) (by kernel_rfl) (by simp only [List.getElem?_toArray, List.getElem?_cons_succ, List.getElem?_cons_zero]; exact rfl) (fun K hK => ?_)
            rw [if_pos (by rfl)]
            refine wp_store_cm (z := zeroC) rfl rfl rfl HC.out ?_
            intro wt5 hn hg
            replace HA := hide (HA.out.grown hg (by simpa using hne.symm))
            replace HD := hide (below_own HD.out hg HQgc.out)
            replace HC := hide hn
            clear hn hg
            refine hK.out _ _ (fun _ _ => HD.out) ?_
            clear hK K
            try simp only [Act.put]
            refine anyU_one (i := 16) (by kernel_rfl) (by simp only [List.getElem?_toArray, List.getElem?_cons_succ, List.getElem?_cons_zero]; exact rfl) (fun K hK => ?_)
            rw [if_pos (by rfl)]
            refine wp_store_at (z := zero8) rfl hp8 rfl rfl HA.out rfl ?_
            intro wt6 hn hg
            replace HC := hide (HC.out.grown hg (by simpa using hne))
            replace HD := hide (below_own HD.out hg HQga.out)
            replace HA := hide hn
            clear hn hg hne
            refine hK.out _ _ (fun e _ => absurd rfl e) ?_
            clear hK K
            try simp only [Act.put]
            refine anyU_done (by kernel_rfl) ?_
            refine NoPanic.normal ?_
            try simp only [Act.put]
            go_wp2
            go_meet
            exact ⟨rfl, gc, rfl, ga, rfl, HD, HC, HA⟩
          · skip
            try go_simp
            have HA := hide (show Row (wt2.alloc (.cells #[.int .i64 0, .int .i64 0, .int .i64 0, .int .i64 0, .int .i64 0, .int .i64 0, .int .i64 0, .int .i64 0] 26)) wt2.heap.size 26 (cA zero8) from Row.new wt2 _ _)
            have HQga := hide HD.out.size
            replace HD := hide (kept_trans HD.out (kept_alloc (kept_refl wt2) (.cells #[.int .i64 0, .int .i64 0, .int .i64 0, .int .i64 0, .int .i64 0, .int .i64 0, .int .i64 0, .int .i64 0] 26)))
            generalize wt2.alloc (.cells #[.int .i64 0, .int .i64 0, .int .i64 0, .int .i64 0, .int .i64 0, .int .i64 0, .int .i64 0, .int .i64 0] 26) = wt7 at HD HA ⊢
            generalize wt2.heap.size = ga at HA HQga ⊢
            refine hK.out _ _ (fun _ _ => HD.out) ?_
            clear hK K
            try simp only [Act.put, List.setIfInBounds_toArray, List.set_cons_zero, List.set_cons_succ]
            refine anyU_one (i := 12) (by kernel_rfl) (by simp only [List.getElem?_toArray, List.getElem?_cons_succ, List.getElem?_cons_zero]; exact rfl) (fun K hK => ?_)
            try go_simp
            have HC := hide (show Row (wt7.alloc (.cells #[.int .i64 0, .int .i64 0, .int .i64 0, .string ⟨#[]⟩, .string ⟨#[]⟩, .string ⟨#[]⟩, .string ⟨#[]⟩] 32)) wt7.heap.size 32 (rowC zeroC) from Row.new wt7 _ _)
            replace HA := hide (HA.out.below (kept_alloc (kept_refl wt7) (.cells #[.int .i64 0, .int .i64 0, .int .i64 0, .string ⟨#[]⟩, .string ⟨#[]⟩, .string ⟨#[]⟩, .string ⟨#[]⟩] 32)) HA.out.lt)
            have HQgc := hide HD.out.size
            replace HD := hide (kept_trans HD.out (kept_alloc (kept_refl wt7) (.cells #[.int .i64 0, .int .i64 0, .int .i64 0, .string ⟨#[]⟩, .string ⟨#[]⟩, .string ⟨#[]⟩, .string ⟨#[]⟩] 32)))
            generalize wt7.alloc (.cells #[.int .i64 0, .int .i64 0, .int .i64 0, .string ⟨#[]⟩, .string ⟨#[]⟩, .string ⟨#[]⟩, .string ⟨#[]⟩] 32) = wt8 at HD HC HA ⊢
            generalize wt7.heap.size = gc at HC HQgc ⊢
            refine hK.out _ _ (fun _ _ => HD.out) ?_
            clear hK K
            try simp only [Act.put, List.setIfInBounds_toArray, List.set_cons_zero, List.set_cons_succ]
            refine anyU_take2 (i := 14) (v := .int .i64 P1) (by simp only [List.getElem?_toArray, List.getElem?_cons_succ, List.getElem?_cons_zero]; exact rfl) (by kernel_rfl) 12 (by kernel_rfl) (by kernel_rfl) (fun _ _ _ h => h) (by kernel_rfl) (by kernel_rfl) (by kernel_rfl) (by kernel_rfl) (Or.inl ⟨by rfl, fun w hSw => (by go_simp; try with_reducible rfl)⟩) (by with_reducible exact HD.out) ?_
            try simp only [Act.put, List.setIfInBounds_toArray, List.set_cons_zero, List.set_cons_succ]
            have hne := rows_apart HC.out HA.out (by decide)
            refine anyU_one (i := 15) (by kernel_rfl) (by simp only [List.getElem?_toArray, List.getElem?_cons_succ, List.getElem?_cons_zero]; exact rfl) (fun K hK => ?_)
            rw [if_pos (by rfl)]
            refine wp_store_cm (z := zeroC) rfl rfl rfl HC.out ?_
            intro wt9 hn hg
            replace HA := hide (HA.out.grown hg (by simpa using hne.symm))
            replace HD := hide (below_own HD.out hg HQgc.out)
            replace HC := hide hn
            clear hn hg
            refine hK.out _ _ (fun _ _ => HD.out) ?_
            clear hK K
            try simp only [Act.put]
            refine anyU_one (i := 16) (by kernel_rfl) (by simp only [List.getElem?_toArray, List.getElem?_cons_succ, List.getElem?_cons_zero]; exact rfl) (fun K hK => ?_)
            rw [if_pos (by rfl)]
            refine wp_store_at (z := zero8) rfl hp8 rfl rfl HA.out rfl ?_
            intro wt10 hn hg
            replace HC := hide (HC.out.grown hg (by simpa using hne))
            replace HD := hide (below_own HD.out hg HQga.out)
            replace HA := hide hn
            clear hn hg hne
            refine hK.out _ _ (fun e _ => absurd rfl e) ?_
            clear hK K
            try simp only [Act.put]
            refine anyU_done (by kernel_rfl) ?_
            refine NoPanic.normal ?_
            try simp only [Act.put]
            go_wp2
            go_meet
            exact ⟨rfl, gc, rfl, ga, rfl, HD, HC, HA⟩
        · skip
          try go_simp
          have HC := hide (show Row (wt1.alloc (.cells #[.int .i64 0, .int .i64 0, .int .i64 0, .string ⟨#[]⟩, .string ⟨#[]⟩, .string ⟨#[]⟩, .string ⟨#[]⟩] 32)) wt1.heap.size 32 (rowC zeroC) from Row.new wt1 _ _)
          have HQgc := hide HD.out.size
          replace HD := hide (kept_trans HD.out (kept_alloc (kept_refl wt1) (.cells #[.int .i64 0, .int .i64 0, .int .i64 0, .string ⟨#[]⟩, .string ⟨#[]⟩, .string ⟨#[]⟩, .string ⟨#[]⟩] 32)))
          generalize wt1.alloc (.cells #[.int .i64 0, .int .i64 0, .int .i64 0, .string ⟨#[]⟩, .string ⟨#[]⟩, .string ⟨#[]⟩, .string ⟨#[]⟩] 32) = wt11 at HD HC ⊢
          generalize wt1.heap.size = gc at HC HQgc ⊢
          refine hK.out _ _ (fun _ _ => HD.out) ?_
          clear hK K
          try simp only [Act.put, List.setIfInBounds_toArray, List.set_cons_zero, List.set_cons_succ]
          refine anyU_two (i := 7) (j := 13) (by kernel_rfl) (by simp only [List.getElem?_toArray, List.getElem?_cons_succ, List.getElem?_cons_zero]; exact rfl) (by simp only [List.getElem?_toArray, List.getElem?_cons_succ, List.getElem?_cons_zero]; exact rfl) (fun K hK => ?_) (fun K hK => ?_)
          · skip
            try go_simp
            refine (HPE.out _ HD.out).mono ?_
            rintro e wt12 ⟨rfl, hb⟩
            replace HD := hide (kept_trans HD.out hb)
            replace HC := hide (HC.out.below hb HC.out.lt)
            clear hb
            refine hK.out _ _ (fun _ _ => HD.out) ?_
            clear hK K
            try simp only [Act.put, List.setIfInBounds_toArray, List.set_cons_zero, List.set_cons_succ]
            refine anyU_take2 (i := 8) (v := .tuple #[.int .i64 P1, .agg (rowC Pc), .agg (cA Pa)]) (by simp only [List.getElem?_toArray, List.getElem?_cons_succ, List.getElem?_cons_zero]; exact rfl) (by kernel_rfl) 12 (by kernel_rfl) (by kernel_rfl) (fun _ _ _ h => h) (by kernel_rfl) (by kernel_rfl) (by kernel_rfl) (by kernel_rfl) (Or.inl ⟨by rfl, fun w hSw => (by go_simp; try with_reducible rfl)⟩) (by with_reducible exact HD.out) ?_
            try simp only [Act.put, List.setIfInBounds_toArray, List.set_cons_zero, List.set_cons_succ]
            refine anyU_take2 (i := 9) (v := .int .i64 P1) (by simp only [List.getElem?_toArray, List.getElem?_cons_succ, List.getElem?_cons_zero]; exact rfl) (by kernel_rfl) 12 (by kernel_rfl) (by kernel_rfl) (fun _ _ _ h => h) (by kernel_rfl) (by kernel_rfl) (by kernel_rfl) (by kernel_rfl) (Or.inl ⟨by rfl, fun w hSw => (by go_simp; try with_reducible rfl)⟩) (by with_reducible exact HD.out) ?_
            try simp only [Act.put, List.setIfInBounds_toArray, List.set_cons_zero, List.set_cons_succ]
            refine anyU_take2 (i := 10) (v := .agg (rowC Pc)) (by simp only [List.getElem?_toArray, List.getElem?_cons_succ, List.getElem?_cons_zero]; exact rfl) (by kernel_rfl) 12 (by kernel_rfl) (by kernel_rfl) (fun _ _ _ h => h) (by kernel_rfl) (by kernel_rfl) (by kernel_rfl) (by kernel_rfl) (Or.inl ⟨by rfl, fun w hSw => (by go_simp; try with_reducible rfl)⟩) (by with_reducible exact HD.out) ?_
            try simp only [Act.put, List.setIfInBounds_toArray, List.set_cons_zero, List.set_cons_succ]
            refine anyU_take2 (i := 11) (v := .agg (cA Pa)) (by simp only [List.getElem?_toArray, List.getElem?_cons_succ, List.getElem?_cons_zero]; exact rfl) (by kernel_rfl) 12 (by kernel_rfl) (by kernel_rfl) (fun _ _ _ h => h) (by kernel_rfl) (by kernel_rfl) (by kernel_rfl) (by kernel_rfl) (Or.inl ⟨by rfl, fun w hSw => (by go_simp; try with_reducible rfl)⟩) (by with_reducible exact HD.out) ?_
            try simp only [Act.put, List.setIfInBounds_toArray, List.set_cons_zero, List.set_cons_succ]
            refine anyU_one (i := 13) (by kernel_rfl) (by simp only [List.getElem?_toArray, List.getElem?_cons_succ, List.getElem?_cons_zero]; exact rfl) (fun K hK => ?_)
            try go_simp
            have HA := hide (show Row (wt12.alloc (.cells #[.int .i64 0, .int .i64 0, .int .i64 0, .int .i64 0, .int .i64 0, .int .i64 0, .int .i64 0, .int .i64 0] 26)) wt12.heap.size 26 (cA zero8) from Row.new wt12 _ _)
            replace HC := hide (HC.out.below (kept_alloc (kept_refl wt12) (.cells #[.int .i64 0, .int .i64 0, .int .i64 0, .int .i64 0, .int .i64 0, .int .i64 0, .int .i64 0, .int .i64 0] 26)) HC.out.lt)
            have HQga := hide HD.out.size
            replace HD := hide (kept_trans HD.out (kept_alloc (kept_refl wt12) (.cells #[.int .i64 0, .int .i64 0, .int .i64 0, .int .i64 0, .int .i64 0, .int .i64 0, .int .i64 0, .int .i64 0] 26)))
            generalize wt12.alloc (.cells #[.int .i64 0, .int .i64 0, .int .i64 0, .int .i64 0, .int .i64 0, .int .i64 0, .int .i64 0, .int .i64 0] 26) = wt13 at HD HA HC ⊢
            generalize wt12.heap.size = ga at HA HQga ⊢
            refine hK.out _ _ (fun _ _ => HD.out) ?_
            clear hK K
            try simp only [Act.put, List.setIfInBounds_toArray, List.set_cons_zero, List.set_cons_succ]
            refine anyU_take2 (i := 14) (v := .int .i64 P1) (by simp only [List.getElem?_toArray, List.getElem?_cons_succ, List.getElem?_cons_zero]; exact rfl) (by kernel_rfl) 12 (by kernel_rfl) (by kernel_rfl) (fun _ _ _ h => h) (by kernel_rfl) (by kernel_rfl) (by kernel_rfl) (by kernel_rfl) (Or.inl ⟨by rfl, fun w hSw => (by go_simp; try with_reducible rfl)⟩) (by with_reducible exact HD.out) ?_
            try simp only [Act.put, List.setIfInBounds_toArray, List.set_cons_zero, List.set_cons_succ]
            have hne := rows_apart HC.out HA.out (by decide)
            refine anyU_one (i := 15) (by kernel_rfl) (by simp only [List.getElem?_toArray, List.getElem?_cons_succ, List.getElem?_cons_zero]; exact rfl) (fun K hK => ?_)
            rw [if_pos (by rfl)]
            refine wp_store_cm (z := zeroC) rfl rfl rfl HC.out ?_
            intro wt14 hn hg
            replace HA := hide (HA.out.grown hg (by simpa using hne.symm))
            replace HD := hide (below_own HD.out hg HQgc.out)
            replace HC := hide hn
            clear hn hg
            refine hK.out _ _ (fun _ _ => HD.out) ?_
            clear hK K
            try simp only [Act.put]
            refine anyU_one (i := 16) (by kernel_rfl) (by simp only [List.getElem?_toArray, List.getElem?_cons_succ, List.getElem?_cons_zero]; exact rfl) (fun K hK => ?_)
            rw [if_pos (by rfl)]
            refine wp_store_at (z := zero8) rfl hp8 rfl rfl HA.out rfl ?_
            intro wt15 hn hg
            replace HC := hide (HC.out.grown hg (by simpa using hne))
            replace HD := hide (below_own HD.out hg HQga.out)
            replace HA := hide hn
            clear hn hg hne
            refine hK.out _ _ (fun e _ => absurd rfl e) ?_
            clear hK K
            try simp only [Act.put]
            refine anyU_done (by kernel_rfl) ?_
            refine NoPanic.normal ?_
            try simp only [Act.put]
            go_wp2
            go_meet
            exact ⟨rfl, gc, rfl, ga, rfl, HD, HC, HA⟩
          · skip
            try go_simp
            have HA := hide (show Row (wt11.alloc (.cells #[.int .i64 0, .int .i64 0, .int .i64 0, .int .i64 0, .int .i64 0, .int .i64 0, .int .i64 0, .int .i64 0] 26)) wt11.heap.size 26 (cA zero8) from Row.new wt11 _ _)
            replace HC := hide (HC.out.below (kept_alloc (kept_refl wt11) (.cells #[.int .i64 0, .int .i64 0, .int .i64 0, .int .i64 0, .int .i64 0, .int .i64 0, .int .i64 0, .int .i64 0] 26)) HC.out.lt)
            have HQga := hide HD.out.size
            replace HD := hide (kept_trans HD.out (kept_alloc (kept_refl wt11) (.cells #[.int .i64 0, .int .i64 0, .int .i64 0, .int .i64 0, .int .i64 0, .int .i64 0, .int .i64 0, .int .i64 0] 26)))
            generalize wt11.alloc (.cells #[.int .i64 0, .int .i64 0, .int .i64 0, .int .i64 0, .int .i64 0, .int .i64 0, .int .i64 0, .int .i64 0] 26) = wt16 at HD HA HC ⊢
            generalize wt11.heap.size = ga at HA HQga ⊢
            refine hK.out _ _ (fun _ _ => HD.out) ?_
            clear hK K
            try simp only [Act.put, List.setIfInBounds_toArray, List.set_cons_zero, List.set_cons_succ]
            refine anyU_one (i := 7) (by kernel_rfl) (by simp only [List.getElem?_toArray, List.getElem?_cons_succ, List.getElem?_cons_zero]; exact rfl) (fun K hK => ?_)
            try go_simp
            refine (HPE.out _ HD.out).mono ?_
            rintro e wt17 ⟨rfl, hb⟩
            replace HD := hide (kept_trans HD.out hb)
            replace HC := hide (HC.out.below hb HC.out.lt)
            replace HA := hide (HA.out.below hb HA.out.lt)
            clear hb
            refine hK.out _ _ (fun _ _ => HD.out) ?_
            clear hK K
            try simp only [Act.put, List.setIfInBounds_toArray, List.set_cons_zero, List.set_cons_succ]
            refine anyU_take2 (i := 8) (v := .tuple #[.int .i64 P1, .agg (rowC Pc), .agg (cA Pa)]) (by simp only [List.getElem?_toArray, List.getElem?_cons_succ, List.getElem?_cons_zero]; exact rfl) (by kernel_rfl) 12 (by kernel_rfl) (by kernel_rfl) (fun _ _ _ h => h) (by kernel_rfl) (by kernel_rfl) (by kernel_rfl) (by kernel_rfl) (Or.inl ⟨by rfl, fun w hSw => (by go_simp; try with_reducible rfl)⟩) (by with_reducible exact HD.out) ?_
            try simp only [Act.put, List.setIfInBounds_toArray, List.set_cons_zero, List.set_cons_succ]
            refine anyU_take2 (i := 9) (v := .int .i64 P1) (by simp only [List.getElem?_toArray, List.getElem?_cons_succ, List.getElem?_cons_zero]; exact rfl) (by kernel_rfl) 12 (by kernel_rfl) (by kernel_rfl) (fun _ _ _ h => h) (by kernel_rfl) (by kernel_rfl) (by kernel_rfl) (by kernel_rfl) (Or.inl ⟨by rfl, fun w hSw => (by go_simp; try with_reducible rfl)⟩) (by with_reducible exact HD.out) ?_
            try simp only [Act.put, List.setIfInBounds_toArray, List.set_cons_zero, List.set_cons_succ]
            refine anyU_take2 (i := 10) (v := .agg (rowC Pc)) (by simp only [List.getElem?_toArray, List.getElem?_cons_succ, List.getElem?_cons_zero]; exact rfl) (by kernel_rfl) 12 (by kernel_rfl) (by kernel_rfl) (fun _ _ _ h => h) (by kernel_rfl) (by kernel_rfl) (by kernel_rfl) (by kernel_rfl) (Or.inl ⟨by rfl, fun w hSw => (by go_simp; try with_reducible rfl)⟩) (by with_reducible exact HD.out) ?_
            try simp only [Act.put, List.setIfInBounds_toArray, List.set_cons_zero, List.set_cons_succ]
            refine anyU_take2 (i := 11) (v := .agg (cA Pa)) (by simp only [List.getElem?_toArray, List.getElem?_cons_succ, List.getElem?_cons_zero]; exact rfl) (by kernel_rfl) 12 (by kernel_rfl) (by kernel_rfl) (fun _ _ _ h => h) (by kernel_rfl) (by kernel_rfl) (by kernel_rfl) (by kernel_rfl) (Or.inl ⟨by rfl, fun w hSw => (by go_simp; try with_reducible rfl)⟩) (by with_reducible exact HD.out) ?_
            try simp only [Act.put, List.setIfInBounds_toArray, List.set_cons_zero, List.set_cons_succ]
            refine anyU_take2 (i := 14) (v := .int .i64 P1) (by simp only [List.getElem?_toArray, List.getElem?_cons_succ, List.getElem?_cons_zero]; exact rfl) (by kernel_rfl) 12 (by kernel_rfl) (by kernel_rfl) (fun _ _ _ h => h) (by kernel_rfl) (by kernel_rfl) (by kernel_rfl) (by kernel_rfl) (Or.inl ⟨by rfl, fun w hSw => (by go_simp; try with_reducible rfl)⟩) (by with_reducible exact HD.out) ?_
            try simp only [Act.put, List.setIfInBounds_toArray, List.set_cons_zero, List.set_cons_succ]
            have hne := rows_apart HC.out HA.out (by decide)
            refine anyU_one (i := 15) (by kernel_rfl) (by simp only [List.getElem?_toArray, List.getElem?_cons_succ, List.getElem?_cons_zero]; exact rfl) (fun K hK => ?_)
            rw [if_pos (by rfl)]
            refine wp_store_cm (z := zeroC) rfl rfl rfl HC.out ?_
            intro wt18 hn hg
            replace HA := hide (HA.out.grown hg (by simpa using hne.symm))
            replace HD := hide (below_own HD.out hg HQgc.out)
            replace HC := hide hn
            clear hn hg
            refine hK.out _ _ (fun _ _ => HD.out) ?_
            clear hK K
            try simp only [Act.put]
            refine anyU_one (i := 16) (by kernel_rfl) (by simp only [List.getElem?_toArray, List.getElem?_cons_succ, List.getElem?_cons_zero]; exact rfl) (fun K hK => ?_)
            rw [if_pos (by rfl)]
            refine wp_store_at (z := zero8) rfl hp8 rfl rfl HA.out rfl ?_
            intro wt19 hn hg
            replace HC := hide (HC.out.grown hg (by simpa using hne))
            replace HD := hide (below_own HD.out hg HQga.out)
            replace HA := hide hn
            clear hn hg hne
            refine hK.out _ _ (fun e _ => absurd rfl e) ?_
            clear hK K
            try simp only [Act.put]
            refine anyU_done (by kernel_rfl) ?_
            refine NoPanic.normal ?_
            try simp only [Act.put]
            go_wp2
            go_meet
            exact ⟨rfl, gc, rfl, ga, rfl, HD, HC, HA⟩
        · skip
          try go_simp
          have HA := hide (show Row (wt1.alloc (.cells #[.int .i64 0, .int .i64 0, .int .i64 0, .int .i64 0, .int .i64 0, .int .i64 0, .int .i64 0, .int .i64 0] 26)) wt1.heap.size 26 (cA zero8) from Row.new wt1 _ _)
          have HQga := hide HD.out.size
          replace HD := hide (kept_trans HD.out (kept_alloc (kept_refl wt1) (.cells #[.int .i64 0, .int .i64 0, .int .i64 0, .int .i64 0, .int .i64 0, .int .i64 0, .int .i64 0, .int .i64 0] 26)))
          generalize wt1.alloc (.cells #[.int .i64 0, .int .i64 0, .int .i64 0, .int .i64 0, .int .i64 0, .int .i64 0, .int .i64 0, .int .i64 0] 26) = wt20 at HD HA ⊢
          generalize wt1.heap.size = ga at HA HQga ⊢
          refine hK.out _ _ (fun _ _ => HD.out) ?_
          clear hK K
          try simp only [Act.put, List.setIfInBounds_toArray, List.set_cons_zero, List.set_cons_succ]
          refine anyU_two (i := 7) (j := 12) (by kernel_rfl) (by simp only [List.getElem?_toArray, List.getElem?_cons_succ, List.getElem?_cons_zero]; exact rfl) (by simp only [List.getElem?_toArray, List.getElem?_cons_succ, List.getElem?_cons_zero]; exact rfl) (fun K hK => ?_) (fun K hK => ?_)
          · skip
            try go_simp
            refine (HPE.out _ HD.out).mono ?_
            rintro e wt21 ⟨rfl, hb⟩
            replace HD := hide (kept_trans HD.out hb)
            replace HA := hide (HA.out.below hb HA.out.lt)
            clear hb
            refine hK.out _ _ (fun _ _ => HD.out) ?_
            clear hK K
            try simp only [Act.put, List.setIfInBounds_toArray, List.set_cons_zero, List.set_cons_succ]
            refine anyU_take2 (i := 8) (v := .tuple #[.int .i64 P1, .agg (rowC Pc), .agg (cA Pa)]) (by simp only [List.getElem?_toArray, List.getElem?_cons_succ, List.getElem?_cons_zero]; exact rfl) (by kernel_rfl) 12 (by kernel_rfl) (by kernel_rfl) (fun _ _ _ h => h) (by kernel_rfl) (by kernel_rfl) (by kernel_rfl) (by kernel_rfl) (Or.inl ⟨by rfl, fun w hSw => (by go_simp; try with_reducible rfl)⟩) (by with_reducible exact HD.out) ?_
            try simp only [Act.put, List.setIfInBounds_toArray, List.set_cons_zero, List.set_cons_succ]
            refine anyU_take2 (i := 9) (v := .int .i64 P1) (by simp only [List.getElem?_toArray, List.getElem?_cons_succ, List.getElem?_cons_zero]; exact rfl) (by kernel_rfl) 12 (by kernel_rfl) (by kernel_rfl) (fun _ _ _ h => h) (by kernel_rfl) (by kernel_rfl) (by kernel_rfl) (by kernel_rfl) (Or.inl ⟨by rfl, fun w hSw => (by go_simp; try with_reducible rfl)⟩) (by with_reducible exact HD.out) ?_
            try simp only [Act.put, List.setIfInBounds_toArray, List.set_cons_zero, List.set_cons_succ]
            refine anyU_take2 (i := 10) (v := .agg (rowC Pc)) (by simp only [List.getElem?_toArray, List.getElem?_cons_succ, List.getElem?_cons_zero]; exact rfl) (by kernel_rfl) 12 (by kernel_rfl) (by kernel_rfl) (fun _ _ _ h => h) (by kernel_rfl) (by kernel_rfl) (by kernel_rfl) (by kernel_rfl) (Or.inl ⟨by rfl, fun w hSw => (by go_simp; try with_reducible rfl)⟩) (by with_reducible exact HD.out) ?_
            try simp only [Act.put, List.setIfInBounds_toArray, List.set_cons_zero, List.set_cons_succ]
            refine anyU_take2 (i := 11) (v := .agg (cA Pa)) (by simp only [List.getElem?_toArray, List.getElem?_cons_succ, List.getElem?_cons_zero]; exact rfl) (by kernel_rfl) 12 (by kernel_rfl) (by kernel_rfl) (fun _ _ _ h => h) (by kernel_rfl) (by kernel_rfl) (by kernel_rfl) (by kernel_rfl) (Or.inl ⟨by rfl, fun w hSw => (by go_simp; try with_reducible rfl)⟩) (by with_reducible exact HD.out) ?_
            try simp only [Act.put, List.setIfInBounds_toArray, List.set_cons_zero, List.set_cons_succ]
            refine anyU_one (i := 12) (by kernel_rfl) (by simp only [List.getElem?_toArray, List.getElem?_cons_succ, List.getElem?_cons_zero]; exact rfl) (fun K hK => ?_)
            try go_simp
            have HC := hide (show Row (wt21.alloc (.cells #[.int .i64 0, .int .i64 0, .int .i64 0, .string ⟨#[]⟩, .string ⟨#[]⟩, .string ⟨#[]⟩, .string ⟨#[]⟩] 32)) wt21.heap.size 32 (rowC zeroC) from Row.new wt21 _ _)
            replace HA := hide (HA.out.below (kept_alloc (kept_refl wt21) (.cells #[.int .i64 0, .int .i64 0, .int .i64 0, .string ⟨#[]⟩, .string ⟨#[]⟩, .string ⟨#[]⟩, .string ⟨#[]⟩] 32)) HA.out.lt)
            have HQgc := hide HD.out.size
            replace HD := hide (kept_trans HD.out (kept_alloc (kept_refl wt21) (.cells #[.int .i64 0, .int .i64 0, .int .i64 0, .string ⟨#[]⟩, .string ⟨#[]⟩, .string ⟨#[]⟩, .string ⟨#[]⟩] 32)))
            generalize wt21.alloc (.cells #[.int .i64 0, .int .i64 0, .int .i64 0, .string ⟨#[]⟩, .string ⟨#[]⟩, .string ⟨#[]⟩, .string ⟨#[]⟩] 32) = wt22 at HD HC HA ⊢
            generalize wt21.heap.size = gc at HC HQgc ⊢
            refine hK.out _ _ (fun _ _ => HD.out) ?_
            clear hK K
            try simp only [Act.put, List.setIfInBounds_toArray, List.set_cons_zero, List.set_cons_succ]
            refine anyU_take2 (i := 14) (v := .int .i64 P1) (by simp only [List.getElem?_toArray, List.getElem?_cons_succ, List.getElem?_cons_zero]; exact rfl) (by kernel_rfl) 12 (by kernel_rfl) (by kernel_rfl) (fun _ _ _ h => h) (by kernel_rfl) (by kernel_rfl) (by kernel_rfl) (by kernel_rfl) (Or.inl ⟨by rfl, fun w hSw => (by go_simp; try with_reducible rfl)⟩) (by with_reducible exact HD.out) ?_
            try simp only [Act.put, List.setIfInBounds_toArray, List.set_cons_zero, List.set_cons_succ]
            have hne := rows_apart HC.out HA.out (by decide)
            refine anyU_one (i := 15) (by kernel_rfl) (by simp only [List.getElem?_toArray, List.getElem?_cons_succ, List.getElem?_cons_zero]; exact rfl) (fun K hK => ?_)
            rw [if_pos (by rfl)]
            refine wp_store_cm (z := zeroC) rfl rfl rfl HC.out ?_
            intro wt23 hn hg
            replace HA := hide (HA.out.grown hg (by simpa using hne.symm))
            replace HD := hide (below_own HD.out hg HQgc.out)
            replace HC := hide hn
            clear hn hg
            refine hK.out _ _ (fun _ _ => HD.out) ?_
            clear hK K
            try simp only [Act.put]
            refine anyU_one (i := 16) (by kernel_rfl) (by simp only [List.getElem?_toArray, List.getElem?_cons_succ, List.getElem?_cons_zero]; exact rfl) (fun K hK => ?_)
            rw [if_pos (by rfl)]
            refine wp_store_at (z := zero8) rfl hp8 rfl rfl HA.out rfl ?_
            intro wt24 hn hg
            replace HC := hide (HC.out.grown hg (by simpa using hne))
            replace HD := hide (below_own HD.out hg HQga.out)
            replace HA := hide hn
            clear hn hg hne
            refine hK.out _ _ (fun e _ => absurd rfl e) ?_
            clear hK K
            try simp only [Act.put]
            refine anyU_done (by kernel_rfl) ?_
            refine NoPanic.normal ?_
            try simp only [Act.put]
            go_wp2
            go_meet
            exact ⟨rfl, gc, rfl, ga, rfl, HD, HC, HA⟩
          · skip
            try go_simp
            have HC := hide (show Row (wt20.alloc (.cells #[.int .i64 0, .int .i64 0, .int .i64 0, .string ⟨#[]⟩, .string ⟨#[]⟩, .string ⟨#[]⟩, .string ⟨#[]⟩] 32)) wt20.heap.size 32 (rowC zeroC) from Row.new wt20 _ _)
            replace HA := hide (HA.out.below (kept_alloc (kept_refl wt20) (.cells #[.int .i64 0, .int .i64 0, .int .i64 0, .string ⟨#[]⟩, .string ⟨#[]⟩, .string ⟨#[]⟩, .string ⟨#[]⟩] 32)) HA.out.lt)
            have HQgc := hide HD.out.size
            replace HD := hide (kept_trans HD.out (kept_alloc (kept_refl wt20) (.cells #[.int .i64 0, .int .i64 0, .int .i64 0, .string ⟨#[]⟩, .string ⟨#[]⟩, .string ⟨#[]⟩, .string ⟨#[]⟩] 32)))
            generalize wt20.alloc (.cells #[.int .i64 0, .int .i64 0, .int .i64 0, .string ⟨#[]⟩, .string ⟨#[]⟩, .string ⟨#[]⟩, .string ⟨#[]⟩] 32) = wt25 at HD HC HA ⊢
            generalize wt20.heap.size = gc at HC HQgc ⊢
            refine hK.out _ _ (fun _ _ => HD.out) ?_
            clear hK K
            try simp only [Act.put, List.setIfInBounds_toArray, List.set_cons_zero, List.set_cons_succ]
            refine anyU_one (i := 7) (by kernel_rfl) (by simp only [List.getElem?_toArray, List.getElem?_cons_succ, List.getElem?_cons_zero]; exact rfl) (fun K hK => ?_)
            try go_simp
            refine (HPE.out _ HD.out).mono ?_
            rintro e wt26 ⟨rfl, hb⟩
            replace HD := hide (kept_trans HD.out hb)
            replace HC := hide (HC.out.below hb HC.out.lt)
            replace HA := hide (HA.out.below hb HA.out.lt)
            clear hb
            refine hK.out _ _ (fun _ _ => HD.out) ?_
            clear hK K
            try simp only [Act.put, List.setIfInBounds_toArray, List.set_cons_zero, List.set_cons_succ]
            refine anyU_take2 (i := 8) (v := .tuple #[.int .i64 P1, .agg (rowC Pc), .agg (cA Pa)]) (by simp only [List.getElem?_toArray, List.getElem?_cons_succ, List.getElem?_cons_zero]; exact rfl) (by kernel_rfl) 12 (by kernel_rfl) (by kernel_rfl) (fun _ _ _ h => h) (by kernel_rfl) (by kernel_rfl) (by kernel_rfl) (by kernel_rfl) (Or.inl ⟨by rfl, fun w hSw => (by go_simp; try with_reducible rfl)⟩) (by with_reducible exact HD.out) ?_
            try simp only [Act.put, List.setIfInBounds_toArray, List.set_cons_zero, List.set_cons_succ]
            refine anyU_take2 (i := 9) (v := .int .i64 P1) (by simp only [List.getElem?_toArray, List.getElem?_cons_succ, List.getElem?_cons_zero]; exact rfl) (by kernel_rfl) 12 (by kernel_rfl) (by kernel_rfl) (fun _ _ _ h => h) (by kernel_rfl) (by kernel_rfl) (by kernel_rfl) (by kernel_rfl) (Or.inl ⟨by rfl, fun w hSw => (by go_simp; try with_reducible rfl)⟩) (by with_reducible exact HD.out) ?_
            try simp only [Act.put, List.setIfInBounds_toArray, List.set_cons_zero, List.set_cons_succ]
            refine anyU_take2 (i := 10) (v := .agg (rowC Pc)) (by simp only [List.getElem?_toArray, List.getElem?_cons_succ, List.getElem?_cons_zero]; exact rfl) (by kernel_rfl) 12 (by kernel_rfl) (by kernel_rfl) (fun _ _ _ h => h) (by kernel_rfl) (by kernel_rfl) (by kernel_rfl) (by kernel_rfl) (Or.inl ⟨by rfl, fun w hSw => (by go_simp; try with_reducible rfl)⟩) (by with_reducible exact HD.out) ?_
            try simp only [Act.put, List.setIfInBounds_toArray, List.set_cons_zero, List.set_cons_succ]
            refine anyU_take2 (i := 11) (v := .agg (cA Pa)) (by simp only [List.getElem?_toArray, List.getElem?_cons_succ, List.getElem?_cons_zero]; exact rfl) (by kernel_rfl) 12 (by kernel_rfl) (by kernel_rfl) (fun _ _ _ h => h) (by kernel_rfl) (by kernel_rfl) (by kernel_rfl) (by kernel_rfl) (Or.inl ⟨by rfl, fun w hSw => (by go_simp; try with_reducible rfl)⟩) (by with_reducible exact HD.out) ?_
            try simp only [Act.put, List.setIfInBounds_toArray, List.set_cons_zero, List.set_cons_succ]
            refine anyU_take2 (i := 14) (v := .int .i64 P1) (by simp only [List.getElem?_toArray, List.getElem?_cons_succ, List.getElem?_cons_zero]; exact rfl) (by kernel_rfl) 12 (by kernel_rfl) (by kernel_rfl) (fun _ _ _ h => h) (by kernel_rfl) (by kernel_rfl) (by kernel_rfl) (by kernel_rfl) (Or.inl ⟨by rfl, fun w hSw => (by go_simp; try with_reducible rfl)⟩) (by with_reducible exact HD.out) ?_
            try simp only [Act.put, List.setIfInBounds_toArray, List.set_cons_zero, List.set_cons_succ]
            have hne := rows_apart HC.out HA.out (by decide)
            refine anyU_one (i := 15) (by kernel_rfl) (by simp only [List.getElem?_toArray, List.getElem?_cons_succ, List.getElem?_cons_zero]; exact rfl) (fun K hK => ?_)
            rw [if_pos (by rfl)]
            refine wp_store_cm (z := zeroC) rfl rfl rfl HC.out ?_
            intro wt27 hn hg
            replace HA := hide (HA.out.grown hg (by simpa using hne.symm))
            replace HD := hide (below_own HD.out hg HQgc.out)
            replace HC := hide hn
            clear hn hg
            refine hK.out _ _ (fun _ _ => HD.out) ?_
            clear hK K
            try simp only [Act.put]
            refine anyU_one (i := 16) (by kernel_rfl) (by simp only [List.getElem?_toArray, List.getElem?_cons_succ, List.getElem?_cons_zero]; exact rfl) (fun K hK => ?_)
            rw [if_pos (by rfl)]
            refine wp_store_at (z := zero8) rfl hp8 rfl rfl HA.out rfl ?_
            intro wt28 hn hg
            replace HC := hide (HC.out.grown hg (by simpa using hne))
            replace HD := hide (below_own HD.out hg HQga.out)
            replace HA := hide hn
            clear hn hg hne
            refine hK.out _ _ (fun e _ => absurd rfl e) ?_
            clear hK K
            try simp only [Act.put]
            refine anyU_done (by kernel_rfl) ?_
            refine NoPanic.normal ?_
            try simp only [Act.put]
            go_wp2
            go_meet
            exact ⟨rfl, gc, rfl, ga, rfl, HD, HC, HA⟩
      · skip
        try go_simp
        have HC := hide (show Row (wd.alloc (.cells #[.int .i64 0, .int .i64 0, .int .i64 0, .string ⟨#[]⟩, .string ⟨#[]⟩, .string ⟨#[]⟩, .string ⟨#[]⟩] 32)) wd.heap.size 32 (rowC zeroC) from Row.new wd _ _)
        have HQgc := hide HD.out.size
        replace HD := hide (kept_trans HD.out (kept_alloc (kept_refl wd) (.cells #[.int .i64 0, .int .i64 0, .int .i64 0, .string ⟨#[]⟩, .string ⟨#[]⟩, .string ⟨#[]⟩, .string ⟨#[]⟩] 32)))
        generalize wd.alloc (.cells #[.int .i64 0, .int .i64 0, .int .i64 0, .string ⟨#[]⟩, .string ⟨#[]⟩, .string ⟨#[]⟩, .string ⟨#[]⟩] 32) = wt29 at HD HC ⊢
        generalize wd.heap.size = gc at HC HQgc ⊢
        refine hK.out _ _ (fun _ _ => HD.out) ?_
        clear hK K
        try simp only [Act.put, List.setIfInBounds_toArray, List.set_cons_zero, List.set_cons_succ]
        refine anyU_two (i := 1) (j := 13) (by kernel_rfl) (by simp only [List.getElem?_toArray, List.getElem?_cons_succ, List.getElem?_cons_zero]; exact rfl) (by simp only [List.getElem?_toArray, List.getElem?_cons_succ, List.getElem?_cons_zero]; exact rfl) (fun K hK => ?_) (fun K hK => ?_)
        · skip
          try go_simp
          refine (HF.out _).mono ?_
          rintro e wt30 ⟨rfl, hb⟩
          replace HD := hide (kept_trans HD.out hb)
          replace HC := hide (HC.out.below hb HC.out.lt)
          clear hb
          refine hK.out _ _ (fun _ _ => HD.out) ?_
          clear hK K
          try simp only [Act.put, List.setIfInBounds_toArray, List.set_cons_zero, List.set_cons_succ]
          refine anyU_two (i := 7) (j := 13) (by kernel_rfl) (by simp only [List.getElem?_toArray, List.getElem?_cons_succ, List.getElem?_cons_zero]; exact rfl) (by simp only [List.getElem?_toArray, List.getElem?_cons_succ, List.getElem?_cons_zero]; exact rfl) (fun K hK => ?_) (fun K hK => ?_)
          · skip
            try go_simp
            refine (HPE.out _ HD.out).mono ?_
            rintro e wt31 ⟨rfl, hb⟩
            replace HD := hide (kept_trans HD.out hb)
            replace HC := hide (HC.out.below hb HC.out.lt)
            clear hb
            refine hK.out _ _ (fun _ _ => HD.out) ?_
            clear hK K
            try simp only [Act.put, List.setIfInBounds_toArray, List.set_cons_zero, List.set_cons_succ]
            refine anyU_take2 (i := 8) (v := .tuple #[.int .i64 P1, .agg (rowC Pc), .agg (cA Pa)]) (by simp only [List.getElem?_toArray, List.getElem?_cons_succ, List.getElem?_cons_zero]; exact rfl) (by kernel_rfl) 12 (by kernel_rfl) (by kernel_rfl) (fun _ _ _ h => h) (by kernel_rfl) (by kernel_rfl) (by kernel_rfl) (by kernel_rfl) (Or.inl ⟨by rfl, fun w hSw => (by go_simp; try with_reducible rfl)⟩) (by with_reducible exact HD.out) ?_
            try simp only [Act.put, List.setIfInBounds_toArray, List.set_cons_zero, List.set_cons_succ]
            refine anyU_take2 (i := 9) (v := .int .i64 P1) (by simp only [List.getElem?_toArray, List.getElem?_cons_succ, List.getElem?_cons_zero]; exact rfl) (by kernel_rfl) 12 (by kernel_rfl) (by kernel_rfl) (fun _ _ _ h => h) (by kernel_rfl) (by kernel_rfl) (by kernel_rfl) (by kernel_rfl) (Or.inl ⟨by rfl, fun w hSw => (by go_simp; try with_reducible rfl)⟩) (by with_reducible exact HD.out) ?_
            try simp only [Act.put, List.setIfInBounds_toArray, List.set_cons_zero, List.set_cons_succ]
            refine anyU_take2 (i := 10) (v := .agg (rowC Pc)) (by simp only [List.getElem?_toArray, List.getElem?_cons_succ, List.getElem?_cons_zero]; exact rfl) (by kernel_rfl) 12 (by kernel_rfl) (by kernel_rfl) (fun _ _ _ h => h) (by kernel_rfl) (by kernel_rfl) (by kernel_rfl) (by kernel_rfl) (Or.inl ⟨by rfl, fun w hSw => (by go_simp; try with_reducible rfl)⟩) (by with_reducible exact HD.out) ?_
            try simp only [Act.put, List.setIfInBounds_toArray, List.set_cons_zero, List.set_cons_succ]
            refine anyU_take2 (i := 11) (v := .agg (cA Pa)) (by simp only [List.getElem?_toArray, List.getElem?_cons_succ, List.getElem?_cons_zero]; exact rfl) (by kernel_rfl) 12 (by kernel_rfl) (by kernel_rfl) (fun _ _ _ h => h) (by kernel_rfl) (by kernel_rfl) (by kernel_rfl) (by kernel_rfl) (Or.inl ⟨by rfl, fun w hSw => (by go_simp; try with_reducible rfl)⟩) (by with_reducible exact HD.out) ?_
            try simp only [Act.put, List.setIfInBounds_toArray, List.set_cons_zero, List.set_cons_succ]
            refine anyU_one (i := 13) (by kernel_rfl) (by simp only [List.getElem?_toArray, List.getElem?_cons_succ, List.getElem?_cons_zero]; exact rfl) (fun K hK => ?_)
            try go_simp
            have HA := hide (show Row (wt31.alloc (.cells #[.int .i64 0, .int .i64 0, .int .i64 0, .int .i64 0, .int .i64 0, .int .i64 0, .int .i64 0, .int .i64 0] 26)) wt31.heap.size 26 (cA zero8) from Row.new wt31 _ _)
            replace HC := hide (HC.out.below (kept_alloc (kept_refl wt31) (.cells #[.int .i64 0, .int .i64 0, .int .i64 0, .int .i64 0, .int .i64 0, .int .i64 0, .int .i64 0, .int .i64 0] 26)) HC.out.lt)
            have HQga := hide HD.out.size
            replace HD := hide (kept_trans HD.out (kept_alloc (kept_refl wt31) (.cells #[.int .i64 0, .int .i64 0, .int .i64 0, .int .i64 0, .int .i64 0, .int .i64 0, .int .i64 0, .int .i64 0] 26)))
            generalize wt31.alloc (.cells #[.int .i64 0, .int .i64 0, .int .i64 0, .int .i64 0, .int .i64 0, .int .i64 0, .int .i64 0, .int .i64 0] 26) = wt32 at HD HA HC ⊢
            generalize wt31.heap.size = ga at HA HQga ⊢
            refine hK.out _ _ (fun _ _ => HD.out) ?_
            clear hK K
            try simp only [Act.put, List.setIfInBounds_toArray, List.set_cons_zero, List.set_cons_succ]
            refine anyU_take2 (i := 14) (v := .int .i64 P1) (by simp only [List.getElem?_toArray, List.getElem?_cons_succ, List.getElem?_cons_zero]; exact rfl) (by kernel_rfl) 12 (by kernel_rfl) (by kernel_rfl) (fun _ _ _ h => h) (by kernel_rfl) (by kernel_rfl) (by kernel_rfl) (by kernel_rfl) (Or.inl ⟨by rfl, fun w hSw => (by go_simp; try with_reducible rfl)⟩) (by with_reducible exact HD.out) ?_
            try simp only [Act.put, List.setIfInBounds_toArray, List.set_cons_zero, List.set_cons_succ]
            have hne := rows_apart HC.out HA.out (by decide)
            refine anyU_one (i := 15) (by kernel_rfl) (by simp only [List.getElem?_toArray, List.getElem?_cons_succ, List.getElem?_cons_zero]; exact rfl) (fun K hK => ?_)
            rw [if_pos (by rfl)]
            refine wp_store_cm (z := zeroC) rfl rfl rfl HC.out ?_
            intro wt33 hn hg
            replace HA := hide (HA.out.grown hg (by simpa using hne.symm))
            replace HD := hide (below_own HD.out hg HQgc.out)
            replace HC := hide hn
            clear hn hg
            refine hK.out _ _ (fun _ _ => HD.out) ?_
            clear hK K
            try simp only [Act.put]
            refine anyU_one (i := 16) (by kernel_rfl) (by simp only [List.getElem?_toArray, List.getElem?_cons_succ, List.getElem?_cons_zero]; exact rfl) (fun K hK => ?_)
            rw [if_pos (by rfl)]
            refine wp_store_at (z := zero8) rfl hp8 rfl rfl HA.out rfl ?_
            intro wt34 hn hg
            replace HC := hide (HC.out.grown hg (by simpa using hne))
            replace HD := hide (below_own HD.out hg HQga.out)
            replace HA := hide hn
            clear hn hg hne
            refine hK.out _ _ (fun e _ => absurd rfl e) ?_
            clear hK K
            try simp only [Act.put]
            refine anyU_done (by kernel_rfl) ?_
            refine NoPanic.normal ?_
            try simp only [Act.put]
            go_wp2
            go_meet
            exact ⟨rfl, gc, rfl, ga, rfl, HD, HC, HA⟩
          · skip
            try go_simp
            have HA := hide (show Row (wt30.alloc (.cells #[.int .i64 0, .int .i64 0, .int .i64 0, .int .i64 0, .int .i64 0, .int .i64 0, .int .i64 0, .int .i64 0] 26)) wt30.heap.size 26 (cA zero8) from Row.new wt30 _ _)
            replace HC := hide (HC.out.below (kept_alloc (kept_refl wt30) (.cells #[.int .i64 0, .int .i64 0, .int .i64 0, .int .i64 0, .int .i64 0, .int .i64 0, .int .i64 0, .int .i64 0] 26)) HC.out.lt)
            have HQga := hide HD.out.size
            replace HD := hide (kept_trans HD.out (kept_alloc (kept_refl wt30) (.cells #[.int .i64 0, .int .i64 0, .int .i64 0, .int .i64 0, .int .i64 0, .int .i64 0, .int .i64 0, .int .i64 0] 26)))
            generalize wt30.alloc (.cells #[.int .i64 0, .int .i64 0, .int .i64 0, .int .i64 0, .int .i64 0, .int .i64 0, .int .i64 0, .int .i64 0] 26) = wt35 at HD HA HC ⊢
            generalize wt30.heap.size = ga at HA HQga ⊢
            refine hK.out _ _ (fun _ _ => HD.out) ?_
            clear hK K
            try simp only [Act.put, List.setIfInBounds_toArray, List.set_cons_zero, List.set_cons_succ]
            refine anyU_one (i := 7) (by kernel_rfl) (by simp only [List.getElem?_toArray, List.getElem?_cons_succ, List.getElem?_cons_zero]; exact rfl) (fun K hK => ?_)
            try go_simp
            refine (HPE.out _ HD.out).mono ?_
            rintro e wt36 ⟨rfl, hb⟩
            replace HD := hide (kept_trans HD.out hb)
            replace HC := hide (HC.out.below hb HC.out.lt)
            replace HA := hide (HA.out.below hb HA.out.lt)
            clear hb
            refine hK.out _ _ (fun _ _ => HD.out) ?_
            clear hK K
            try simp only [Act.put, List.setIfInBounds_toArray, List.set_cons_zero, List.set_cons_succ]
            refine anyU_take2 (i := 8) (v := .tuple #[.int .i64 P1, .agg (rowC Pc), .agg (cA Pa)]) (by simp only [List.getElem?_toArray, List.getElem?_cons_succ, List.getElem?_cons_zero]; exact rfl) (by kernel_rfl) 12 (by kernel_rfl) (by kernel_rfl) (fun _ _ _ h => h) (by kernel_rfl) (by kernel_rfl) (by kernel_rfl) (by kernel_rfl) (Or.inl ⟨by rfl, fun w hSw => (by go_simp; try with_reducible rfl)⟩) (by with_reducible exact HD.out) ?_
            try simp only [Act.put, List.setIfInBounds_toArray, List.set_cons_zero, List.set_cons_succ]
            refine anyU_take2 (i := 9) (v := .int .i64 P1) (by simp only [List.getElem?_toArray, List.getElem?_cons_succ, List.getElem?_cons_zero]; exact rfl) (by kernel_rfl) 12 (by kernel_rfl) (by kernel_rfl) (fun _ _ _ h => h) (by kernel_rfl) (by kernel_rfl) (by kernel_rfl) (by kernel_rfl) (Or.inl ⟨by rfl, fun w hSw => (by go_simp; try with_reducible rfl)⟩) (by with_reducible exact HD.out) ?_
            try simp only [Act.put, List.setIfInBounds_toArray, List.set_cons_zero, List.set_cons_succ]
            refine anyU_take2 (i := 10) (v := .agg (rowC Pc)) (by simp only [List.getElem?_toArray, List.getElem?_cons_succ, List.getElem?_cons_zero]; exact rfl) (by kernel_rfl) 12 (by kernel_rfl) (by kernel_rfl) (fun _ _ _ h => h) (by kernel_rfl) (by kernel_rfl) (by kernel_rfl) (by kernel_rfl) (Or.inl ⟨by rfl, fun w hSw => (by go_simp; try with_reducible rfl)⟩) (by with_reducible exact HD.out) ?_
            try simp only [Act.put, List.setIfInBounds_toArray, List.set_cons_zero, List.set_cons_succ]
            refine anyU_take2 (i := 11) (v := .agg (cA Pa)) (by simp only [List.getElem?_toArray, List.getElem?_cons_succ, List.getElem?_cons_zero]; exact rfl) (by kernel_rfl) 12 (by kernel_rfl) (by kernel_rfl) (fun _ _ _ h => h) (by kernel_rfl) (by kernel_rfl) (by kernel_rfl) (by kernel_rfl) (Or.inl ⟨by rfl, fun w hSw => (by go_simp; try with_reducible rfl)⟩) (by with_reducible exact HD.out) ?_
            try simp only [Act.put, List.setIfInBounds_toArray, List.set_cons_zero, List.set_cons_succ]
            refine anyU_take2 (i := 14) (v := .int .i64 P1) (by simp only [List.getElem?_toArray, List.getElem?_cons_succ, List.getElem?_cons_zero]; exact rfl) (by kernel_rfl) 12 (by kernel_rfl) (by kernel_rfl) (fun _ _ _ h => h) (by kernel_rfl) (by kernel_rfl) (by kernel_rfl) (by kernel_rfl) (Or.inl ⟨by rfl, fun w hSw => (by go_simp; try with_reducible rfl)⟩) (by with_reducible exact HD.out) ?_
            try simp only [Act.put, List.setIfInBounds_toArray, List.set_cons_zero, List.set_cons_succ]
            have hne := rows_apart HC.out HA.out (by decide)
            refine anyU_one (i := 15) (by kernel_rfl) (by simp only [List.getElem?_toArray, List.getElem?_cons_succ, List.getElem?_cons_zero]; exact rfl) (fun K hK => ?_)
            rw [if_pos (by rfl)]
            refine wp_store_cm (z := zeroC) rfl rfl rfl HC.out ?_
            intro wt37 hn hg
            replace HA := hide (HA.out.grown hg (by simpa using hne.symm))
            replace HD := hide (below_own HD.out hg HQgc.out)
            replace HC := hide hn
            clear hn hg
            refine hK.out _ _ (fun _ _ => HD.out) ?_
            clear hK K
            try simp only [Act.put]
            refine anyU_one (i := 16) (by kernel_rfl) (by simp only [List.getElem?_toArray, List.getElem?_cons_succ, List.getElem?_cons_zero]; exact rfl) (fun K hK => ?_)
            rw [if_pos (by rfl)]
            refine wp_store_at (z := zero8) rfl hp8 rfl rfl HA.out rfl ?_
            intro wt38 hn hg
            replace HC := hide (HC.out.grown hg (by simpa using hne))
            replace HD := hide (below_own HD.out hg HQga.out)
            replace HA := hide hn
            clear hn hg hne
            refine hK.out _ _ (fun e _ => absurd rfl e) ?_
            clear hK K
            try simp only [Act.put]
            refine anyU_done (by kernel_rfl) ?_
            refine NoPanic.normal ?_
            try simp only [Act.put]
            go_wp2
            go_meet
            exact ⟨rfl, gc, rfl, ga, rfl, HD, HC, HA⟩
        · skip
          try go_simp
          have HA := hide (show Row (wt29.alloc (.cells #[.int .i64 0, .int .i64 0, .int .i64 0, .int .i64 0, .int .i64 0, .int .i64 0, .int .i64 0, .int .i64 0] 26)) wt29.heap.size 26 (cA zero8) from Row.new wt29 _ _)
          replace HC := hide (HC.out.below (kept_alloc (kept_refl wt29) (.cells #[.int .i64 0, .int .i64 0, .int .i64 0, .int .i64 0, .int .i64 0, .int .i64 0, .int .i64 0, .int .i64 0] 26)) HC.out.lt)
          have HQga := hide HD.out.size
          replace HD := hide (kept_trans HD.out (kept_alloc (kept_refl wt29) (.cells #[.int .i64 0, .int .i64 0, .int .i64 0, .int .i64 0, .int .i64 0, .int .i64 0, .int .i64 0, .int .i64 0] 26)))
          generalize wt29.alloc (.cells #[.int .i64 0, .int .i64 0, .int .i64 0, .int .i64 0, .int .i64 0, .int .i64 0, .int .i64 0, .int .i64 0] 26) = wt39 at HD HA HC ⊢
          generalize wt29.heap.size = ga at HA HQga ⊢
          refine hK.out _ _ (fun _ _ => HD.out) ?_
          clear hK K
          try simp only [Act.put, List.setIfInBounds_toArray, List.set_cons_zero, List.set_cons_succ]
          refine anyU_one (i := 1) (by kernel_rfl) (by simp only [List.getElem?_toArray, List.getElem?_cons_succ, List.getElem?_cons_zero]; exact rfl) (fun K hK => ?_)
          try go_simp
          refine (HF.out _).mono ?_
          rintro e wt40 ⟨rfl, hb⟩
          replace HD := hide (kept_trans HD.out hb)
          replace HC := hide (HC.out.below hb HC.out.lt)
          replace HA := hide (HA.out.below hb HA.out.lt)
          clear hb
          refine hK.out _ _ (fun _ _ => HD.out) ?_
          clear hK K
          try simp only [Act.put, List.setIfInBounds_toArray, List.set_cons_zero, List.set_cons_succ]
          refine anyU_one (i := 7) (by kernel_rfl) (by simp only [List.getElem?_toArray, List.getElem?_cons_succ, List.getElem?_cons_zero]; exact rfl) (fun K hK => ?_)
          try go_simp
          refine (HPE.out _ HD.out).mono ?_
          rintro e wt41 ⟨rfl, hb⟩
          replace HD := hide (kept_trans HD.out hb)
          replace HC := hide (HC.out.below hb HC.out.lt)
          replace HA := hide (HA.out.below hb HA.out.lt)
          clear hb
          refine hK.out _ _ (fun _ _ => HD.out) ?_
          clear hK K
          try simp only [Act.put, List.setIfInBounds_toArray, List.set_cons_zero, List.set_cons_succ]
          refine anyU_take2 (i := 8) (v := .tuple #[.int .i64 P1, .agg (rowC Pc), .agg (cA Pa)]) (by simp only [List.getElem?_toArray, List.getElem?_cons_succ, List.getElem?_cons_zero]; exact rfl) (by kernel_rfl) 12 (by kernel_rfl) (by kernel_rfl) (fun _ _ _ h => h) (by kernel_rfl) (by kernel_rfl) (by kernel_rfl) (by kernel_rfl) (Or.inl ⟨by rfl, fun w hSw => (by go_simp; try with_reducible rfl)⟩) (by with_reducible exact HD.out) ?_
          try simp only [Act.put, List.setIfInBounds_toArray, List.set_cons_zero, List.set_cons_succ]
          refine anyU_take2 (i := 9) (v := .int .i64 P1) (by simp only [List.getElem?_toArray, List.getElem?_cons_succ, List.getElem?_cons_zero]; exact rfl) (by kernel_rfl) 12 (by kernel_rfl) (by kernel_rfl) (fun _ _ _ h => h) (by kernel_rfl) (by kernel_rfl) (by kernel_rfl) (by kernel_rfl) (Or.inl ⟨by rfl, fun w hSw => (by go_simp; try with_reducible rfl)⟩) (by with_reducible exact HD.out) ?_
          try simp only [Act.put, List.setIfInBounds_toArray, List.set_cons_zero, List.set_cons_succ]
          refine anyU_take2 (i := 10) (v := .agg (rowC Pc)) (by simp only [List.getElem?_toArray, List.getElem?_cons_succ, List.getElem?_cons_zero]; exact rfl) (by kernel_rfl) 12 (by kernel_rfl) (by kernel_rfl) (fun _ _ _ h => h) (by kernel_rfl) (by kernel_rfl) (by kernel_rfl) (by kernel_rfl) (Or.inl ⟨by rfl, fun w hSw => (by go_simp; try with_reducible rfl)⟩) (by with_reducible exact HD.out) ?_
          try simp only [Act.put, List.setIfInBounds_toArray, List.set_cons_zero, List.set_cons_succ]
          refine anyU_take2 (i := 11) (v := .agg (cA Pa)) (by simp only [List.getElem?_toArray, List.getElem?_cons_succ, List.getElem?_cons_zero]; exact rfl) (by kernel_rfl) 12 (by kernel_rfl) (by kernel_rfl) (fun _ _ _ h => h) (by kernel_rfl) (by kernel_rfl) (by kernel_rfl) (by kernel_rfl) (Or.inl ⟨by rfl, fun w hSw => (by go_simp; try with_reducible rfl)⟩) (by with_reducible exact HD.out) ?_
          try simp only [Act.put, List.setIfInBounds_toArray, List.set_cons_zero, List.set_cons_succ]
          refine anyU_take2 (i := 14) (v := .int .i64 P1) (by simp only [List.getElem?_toArray, List.getElem?_cons_succ, List.getElem?_cons_zero]; exact rfl) (by kernel_rfl) 12 (by kernel_rfl) (by kernel_rfl) (fun _ _ _ h => h) (by kernel_rfl) (by kernel_rfl) (by kernel_rfl) (by kernel_rfl) (Or.inl ⟨by rfl, fun w hSw => (by go_simp; try with_reducible rfl)⟩) (by with_reducible exact HD.out) ?_
          try simp only [Act.put, List.setIfInBounds_toArray, List.set_cons_zero, List.set_cons_succ]
          have hne := rows_apart HC.out HA.out (by decide)
          refine anyU_one (i := 15) (by kernel_rfl) (by simp only [List.getElem?_toArray, List.getElem?_cons_succ, List.getElem?_cons_zero]; exact rfl) (fun K hK => ?_)
          rw [if_pos (by rfl)]
          refine wp_store_cm (z := zeroC) rfl rfl rfl HC.out ?_
          intro wt42 hn hg
          replace HA := hide (HA.out.grown hg (by simpa using hne.symm))
          replace HD := hide (below_own HD.out hg HQgc.out)
          replace HC := hide hn
          clear hn hg
          refine hK.out _ _ (fun _ _ => HD.out) ?_
          clear hK K
          try simp only [Act.put]
          refine anyU_one (i := 16) (by kernel_rfl) (by simp only [List.getElem?_toArray, List.getElem?_cons_succ, List.getElem?_cons_zero]; exact rfl) (fun K hK => ?_)
          rw [if_pos (by rfl)]
          refine wp_store_at (z := zero8) rfl hp8 rfl rfl HA.out rfl ?_
          intro wt43 hn hg
          replace HC := hide (HC.out.grown hg (by simpa using hne))
          replace HD := hide (below_own HD.out hg HQga.out)
          replace HA := hide hn
          clear hn hg hne
          refine hK.out _ _ (fun e _ => absurd rfl e) ?_
          clear hK K
          try simp only [Act.put]
          refine anyU_done (by kernel_rfl) ?_
          refine NoPanic.normal ?_
          try simp only [Act.put]
          go_wp2
          go_meet
          exact ⟨rfl, gc, rfl, ga, rfl, HD, HC, HA⟩
      · skip
        try go_simp
        have HA := hide (show Row (wd.alloc (.cells #[.int .i64 0, .int .i64 0, .int .i64 0, .int .i64 0, .int .i64 0, .int .i64 0, .int .i64 0, .int .i64 0] 26)) wd.heap.size 26 (cA zero8) from Row.new wd _ _)
        have HQga := hide HD.out.size
        replace HD := hide (kept_trans HD.out (kept_alloc (kept_refl wd) (.cells #[.int .i64 0, .int .i64 0, .int .i64 0, .int .i64 0, .int .i64 0, .int .i64 0, .int .i64 0, .int .i64 0] 26)))
        generalize wd.alloc (.cells #[.int .i64 0, .int .i64 0, .int .i64 0, .int .i64 0, .int .i64 0, .int .i64 0, .int .i64 0, .int .i64 0] 26) = wt44 at HD HA ⊢
        generalize wd.heap.size = ga at HA HQga ⊢
        refine hK.out _ _ (fun _ _ => HD.out) ?_
        clear hK K
        try simp only [Act.put, List.setIfInBounds_toArray, List.set_cons_zero, List.set_cons_succ]
        refine anyU_two (i := 1) (j := 12) (by kernel_rfl) (by simp only [List.getElem?_toArray, List.getElem?_cons_succ, List.getElem?_cons_zero]; exact rfl) (by simp only [List.getElem?_toArray, List.getElem?_cons_succ, List.getElem?_cons_zero]; exact rfl) (fun K hK => ?_) (fun K hK => ?_)
        · skip
          try go_simp
          refine (HF.out _).mono ?_
          rintro e wt45 ⟨rfl, hb⟩
          replace HD := hide (kept_trans HD.out hb)
          replace HA := hide (HA.out.below hb HA.out.lt)
          clear hb
          refine hK.out _ _ (fun _ _ => HD.out) ?_
          clear hK K
          try simp only [Act.put, List.setIfInBounds_toArray, List.set_cons_zero, List.set_cons_succ]
          refine anyU_two (i := 7) (j := 12) (by kernel_rfl) (by simp only [List.getElem?_toArray, List.getElem?_cons_succ, List.getElem?_cons_zero]; exact rfl) (by simp only [List.getElem?_toArray, List.getElem?_cons_succ, List.getElem?_cons_zero]; exact rfl) (fun K hK => ?_) (fun K hK => ?_)
          · skip
            try go_simp
            refine (HPE.out _ HD.out).mono ?_
            rintro e wt46 ⟨rfl, hb⟩
            replace HD := hide (kept_trans HD.out hb)
            replace HA := hide (HA.out.below hb HA.out.lt)
            clear hb
            refine hK.out _ _ (fun _ _ => HD.out) ?_
            clear hK K
            try simp only [Act.put, List.setIfInBounds_toArray, List.set_cons_zero, List.set_cons_succ]
            refine anyU_take2 (i := 8) (v := .tuple #[.int .i64 P1, .agg (rowC Pc), .agg (cA Pa)]) (by simp only [List.getElem?_toArray, List.getElem?_cons_succ, List.getElem?_cons_zero]; exact rfl) (by kernel_rfl) 12 (by kernel_rfl) (by kernel_rfl) (fun _ _ _ h => h) (by kernel_rfl) (by kernel_rfl) (by kernel_rfl) (by kernel_rfl) (Or.inl ⟨by rfl, fun w hSw => (by go_simp; try with_reducible rfl)⟩) (by with_reducible exact HD.out) ?_
            try simp only [Act.put, List.setIfInBounds_toArray, List.set_cons_zero, List.set_cons_succ]
            refine anyU_take2 (i := 9) (v := .int .i64 P1) (by simp only [List.getElem?_toArray, List.getElem?_cons_succ, List.getElem?_cons_zero]; exact rfl) (by kernel_rfl) 12 (by kernel_rfl) (by kernel_rfl) (fun _ _ _ h => h) (by kernel_rfl) (by kernel_rfl) (by kernel_rfl) (by kernel_rfl) (Or.inl ⟨by rfl, fun w hSw => (by go_simp; try with_reducible rfl)⟩) (by with_reducible exact HD.out) ?_
            try simp only [Act.put, List.setIfInBounds_toArray, List.set_cons_zero, List.set_cons_succ]
            refine anyU_take2 (i := 10) (v := .agg (rowC Pc)) (by simp only [List.getElem?_toArray, List.getElem?_cons_succ, List.getElem?_cons_zero]; exact rfl) (by kernel_rfl) 12 (by kernel_rfl) (by kernel_rfl) (fun _ _ _ h => h) (by kernel_rfl) (by kernel_rfl) (by kernel_rfl) (by kernel_rfl) (Or.inl ⟨by rfl, fun w hSw => (by go_simp; try with_reducible rfl)⟩) (by with_reducible exact HD.out) ?_
            try simp only [Act.put, List.setIfInBounds_toArray, List.set_cons_zero, List.set_cons_succ]
            refine anyU_take2 (i := 11) (v := .agg (cA Pa)) (by simp only [List.getElem?_toArray, List.getElem?_cons_succ, List.getElem?_cons_zero]; exact rfl) (by kernel_rfl) 12 (by kernel_rfl) (by kernel_rfl) (fun _ _ _ h => h) (by kernel_rfl) (by kernel_rfl) (by kernel_rfl) (by kernel_rfl) (Or.inl ⟨by rfl, fun w hSw => (by go_simp; try with_reducible rfl)⟩) (by with_reducible exact HD.out) ?_
            try simp only [Act.put, List.setIfInBounds_toArray, List.set_cons_zero, List.set_cons_succ]
            refine anyU_one (i := 12) (by kernel_rfl) (by simp only [List.getElem?_toArray, List.getElem?_cons_succ, List.getElem?_cons_zero]; exact rfl) (fun K hK => ?_)
            try go_simp
            have HC := hide (show Row (wt46.alloc (.cells #[.int .i64 0, .int .i64 0, .int .i64 0, .string ⟨#[]⟩, .string ⟨#[]⟩, .string ⟨#[]⟩, .string ⟨#[]⟩] 32)) wt46.heap.size 32 (rowC zeroC) from Row.new wt46 _ _)
            replace HA := hide (HA.out.below (kept_alloc (kept_refl wt46) (.cells #[.int .i64 0, .int .i64 0, .int .i64 0, .string ⟨#[]⟩, .string ⟨#[]⟩, .string ⟨#[]⟩, .string ⟨#[]⟩] 32)) HA.out.lt)
            have HQgc := hide HD.out.size
            replace HD := hide (kept_trans HD.out (kept_alloc (kept_refl wt46) (.cells #[.int .i64 0, .int .i64 0, .int .i64 0, .string ⟨#[]⟩, .string ⟨#[]⟩, .string ⟨#[]⟩, .string ⟨#[]⟩] 32)))
            generalize wt46.alloc (.cells #[.int .i64 0, .int .i64 0, .int .i64 0, .string ⟨#[]⟩, .string ⟨#[]⟩, .string ⟨#[]⟩, .string ⟨#[]⟩] 32) = wt47 at HD HC HA ⊢
            generalize wt46.heap.size = gc at HC HQgc ⊢
            refine hK.out _ _ (fun _ _ => HD.out) ?_
            clear hK K
            try simp only [Act.put, List.setIfInBounds_toArray, List.set_cons_zero, List.set_cons_succ]
            refine anyU_take2 (i := 14) (v := .int .i64 P1) (by simp only [List.getElem?_toArray, List.getElem?_cons_succ, List.getElem?_cons_zero]; exact rfl) (by kernel_rfl) 12 (by kernel_rfl) (by kernel_rfl) (fun _ _ _ h => h) (by kernel_rfl) (by kernel_rfl) (by kernel_rfl) (by kernel_rfl) (Or.inl ⟨by rfl, fun w hSw => (by go_simp; try with_reducible rfl)⟩) (by with_reducible exact HD.out) ?_
            try simp only [Act.put, List.setIfInBounds_toArray, List.set_cons_zero, List.set_cons_succ]
            have hne := rows_apart HC.out HA.out (by decide)
            refine anyU_one (i := 15) (by kernel_rfl) (by simp only [List.getElem?_toArray, List.getElem?_cons_succ, List.getElem?_cons_zero]; exact rfl) (fun K hK => ?_)
            rw [if_pos (by rfl)]
            refine wp_store_cm (z := zeroC) rfl rfl rfl HC.out ?_
            intro wt48 hn hg
            replace HA := hide (HA.out.grown hg (by simpa using hne.symm))
            replace HD := hide (below_own HD.out hg HQgc.out)
            replace HC := hide hn
            clear hn hg
            refine hK.out _ _ (fun _ _ => HD.out) ?_
            clear hK K
            try simp only [Act.put]
            refine anyU_one (i := 16) (by kernel_rfl) (by simp only [List.getElem?_toArray, List.getElem?_cons_succ, List.getElem?_cons_zero]; exact rfl) (fun K hK => ?_)
            rw [if_pos (by rfl)]
            refine wp_store_at (z := zero8) rfl hp8 rfl rfl HA.out rfl ?_
            intro wt49 hn hg
            replace HC := hide (HC.out.grown hg (by simpa using hne))
            replace HD := hide (below_own HD.out hg HQga.out)
            replace HA := hide hn
            clear hn hg hne
            refine hK.out _ _ (fun e _ => absurd rfl e) ?_
            clear hK K
            try simp only [Act.put]
            refine anyU_done (by kernel_rfl) ?_
            refine NoPanic.normal ?_
            try simp only [Act.put]
            go_wp2
            go_meet
            exact ⟨rfl, gc, rfl, ga, rfl, HD, HC, HA⟩
          · skip
            try go_simp
            have HC := hide (show Row (wt45.alloc (.cells #[.int .i64 0, .int .i64 0, .int .i64 0, .string ⟨#[]⟩, .string ⟨#[]⟩, .string ⟨#[]⟩, .string ⟨#[]⟩] 32)) wt45.heap.size 32 (rowC zeroC) from Row.new wt45 _ _)
            replace HA := hide (HA.out.below (kept_alloc (kept_refl wt45) (.cells #[.int .i64 0, .int .i64 0, .int .i64 0, .string ⟨#[]⟩, .string ⟨#[]⟩, .string ⟨#[]⟩, .string ⟨#[]⟩] 32)) HA.out.lt)
            have HQgc := hide HD.out.size
            replace HD := hide (kept_trans HD.out (kept_alloc (kept_refl wt45) (.cells #[.int .i64 0, .int .i64 0, .int .i64 0, .string ⟨#[]⟩, .string ⟨#[]⟩, .string ⟨#[]⟩, .string ⟨#[]⟩] 32)))
            generalize wt45.alloc (.cells #[.int .i64 0, .int .i64 0, .int .i64 0, .string ⟨#[]⟩, .string ⟨#[]⟩, .string ⟨#[]⟩, .string ⟨#[]⟩] 32) = wt50 at HD HC HA ⊢
            generalize wt45.heap.size = gc at HC HQgc ⊢
            refine hK.out _ _ (fun _ _ => HD.out) ?_
            clear hK K
            try simp only [Act.put, List.setIfInBounds_toArray, List.set_cons_zero, List.set_cons_succ]
            refine anyU_one (i := 7) (by kernel_rfl) (by simp only [List.getElem?_toArray, List.getElem?_cons_succ, List.getElem?_cons_zero]; exact rfl) (fun K hK => ?_)
            try go_simp
            refine (HPE.out _ HD.out).mono ?_
            rintro e wt51 ⟨rfl, hb⟩
            replace HD := hide (kept_trans HD.out hb)
            replace HC := hide (HC.out.below hb HC.out.lt)
            replace HA := hide (HA.out.below hb HA.out.lt)
            clear hb
            refine hK.out _ _ (fun _ _ => HD.out) ?_
            clear hK K
            try simp only [Act.put, List.setIfInBounds_toArray, List.set_cons_zero, List.set_cons_succ]
            refine anyU_take2 (i := 8) (v := .tuple #[.int .i64 P1, .agg (rowC Pc), .agg (cA Pa)]) (by simp only [List.getElem?_toArray, List.getElem?_cons_succ, List.getElem?_cons_zero]; exact rfl) (by kernel_rfl) 12 (by kernel_rfl) (by kernel_rfl) (fun _ _ _ h => h) (by kernel_rfl) (by kernel_rfl) (by kernel_rfl) (by kernel_rfl) (Or.inl ⟨by rfl, fun w hSw => (by go_simp; try with_reducible rfl)⟩) (by with_reducible exact HD.out) ?_
            try simp only [Act.put, List.setIfInBounds_toArray, List.set_cons_zero, List.set_cons_succ]
            refine anyU_take2 (i := 9) (v := .int .i64 P1) (by simp only [List.getElem?_toArray, List.getElem?_cons_succ, List.getElem?_cons_zero]; exact rfl) (by kernel_rfl) 12 (by kernel_rfl) (by kernel_rfl) (fun _ _ _ h => h) (by kernel_rfl) (by kernel_rfl) (by kernel_rfl) (by kernel_rfl) (Or.inl ⟨by rfl, fun w hSw => (by go_simp; try with_reducible rfl)⟩) (by with_reducible exact HD.out) ?_
            try simp only [Act.put, List.setIfInBounds_toArray, List.set_cons_zero, List.set_cons_succ]
            refine anyU_take2 (i := 10) (v := .agg (rowC Pc)) (by simp only [List.getElem?_toArray, List.getElem?_cons_succ, List.getElem?_cons_zero]; exact rfl) (by kernel_rfl) 12 (by kernel_rfl) (by kernel_rfl) (fun _ _ _ h => h) (by kernel_rfl) (by kernel_rfl) (by kernel_rfl) (by kernel_rfl) (Or.inl ⟨by rfl, fun w hSw => (by go_simp; try with_reducible rfl)⟩) (by with_reducible exact HD.out) ?_
            try simp only [Act.put, List.setIfInBounds_toArray, List.set_cons_zero, List.set_cons_succ]
            refine anyU_take2 (i := 11) (v := .agg (cA Pa)) (by simp only [List.getElem?_toArray, List.getElem?_cons_succ, List.getElem?_cons_zero]; exact rfl) (by kernel_rfl) 12 (by kernel_rfl) (by kernel_rfl) (fun _ _ _ h => h) (by kernel_rfl) (by kernel_rfl) (by kernel_rfl) (by kernel_rfl) (Or.inl ⟨by rfl, fun w hSw => (by go_simp; try with_reducible rfl)⟩) (by with_reducible exact HD.out) ?_
            try simp only [Act.put, List.setIfInBounds_toArray, List.set_cons_zero, List.set_cons_succ]
            refine anyU_take2 (i := 14) (v := .int .i64 P1) (by simp only [List.getElem?_toArray, List.getElem?_cons_succ, List.getElem?_cons_zero]; exact rfl) (by kernel_rfl) 12 (by kernel_rfl) (by kernel_rfl) (fun _ _ _ h => h) (by kernel_rfl) (by kernel_rfl) (by kernel_rfl) (by kernel_rfl) (Or.inl ⟨by rfl, fun w hSw => (by go_simp; try with_reducible rfl)⟩) (by with_reducible exact HD.out) ?_
            try simp only [Act.put, List.setIfInBounds_toArray, List.set_cons_zero, List.set_cons_succ]
            have hne := rows_apart HC.out HA.out (by decide)
            refine anyU_one (i := 15) (by kernel_rfl) (by simp only [List.getElem?_toArray, List.getElem?_cons_succ, List.getElem?_cons_zero]; exact rfl) (fun K hK => ?_)
            rw [if_pos (by rfl)]
            refine wp_store_cm (z := zeroC) rfl rfl rfl HC.out ?_
            intro wt52 hn hg
            replace HA := hide (HA.out.grown hg (by simpa using hne.symm))
            replace HD := hide (below_own HD.out hg HQgc.out)
            replace HC := hide hn
            clear hn hg
            refine hK.out _ _ (fun _ _ => HD.out) ?_
            clear hK K
            try simp only [Act.put]
            refine anyU_one (i := 16) (by kernel_rfl) (by simp only [List.getElem?_toArray, List.getElem?_cons_succ, List.getElem?_cons_zero]; exact rfl) (fun K hK => ?_)
            rw [if_pos (by rfl)]
            refine wp_store_at (z := zero8) rfl hp8 rfl rfl HA.out rfl ?_
            intro wt53 hn hg
            replace HC := hide (HC.out.grown hg (by simpa using hne))
            replace HD := hide (below_own HD.out hg HQga.out)
            replace HA := hide hn
            clear hn hg hne
            refine hK.out _ _ (fun e _ => absurd rfl e) ?_
            clear hK K
            try simp only [Act.put]
            refine anyU_done (by kernel_rfl) ?_
            refine NoPanic.normal ?_
            try simp only [Act.put]
            go_wp2
            go_meet
            exact ⟨rfl, gc, rfl, ga, rfl, HD, HC, HA⟩
        · skip
          try go_simp
          have HC := hide (show Row (wt44.alloc (.cells #[.int .i64 0, .int .i64 0, .int .i64 0, .string ⟨#[]⟩, .string ⟨#[]⟩, .string ⟨#[]⟩, .string ⟨#[]⟩] 32)) wt44.heap.size 32 (rowC zeroC) from Row.new wt44 _ _)
          replace HA := hide (HA.out.below (kept_alloc (kept_refl wt44) (.cells #[.int .i64 0, .int .i64 0, .int .i64 0, .string ⟨#[]⟩, .string ⟨#[]⟩, .string ⟨#[]⟩, .string ⟨#[]⟩] 32)) HA.out.lt)
          have HQgc := hide HD.out.size
          replace HD := hide (kept_trans HD.out (kept_alloc (kept_refl wt44) (.cells #[.int .i64 0, .int .i64 0, .int .i64 0, .string ⟨#[]⟩, .string ⟨#[]⟩, .string ⟨#[]⟩, .string ⟨#[]⟩] 32)))
          generalize wt44.alloc (.cells #[.int .i64 0, .int .i64 0, .int .i64 0, .string ⟨#[]⟩, .string ⟨#[]⟩, .string ⟨#[]⟩, .string ⟨#[]⟩] 32) = wt54 at HD HC HA ⊢
          generalize wt44.heap.size = gc at HC HQgc ⊢
          refine hK.out _ _ (fun _ _ => HD.out) ?_
          clear hK K
          try simp only [Act.put, List.setIfInBounds_toArray, List.set_cons_zero, List.set_cons_succ]
          refine anyU_one (i := 1) (by kernel_rfl) (by simp only [List.getElem?_toArray, List.getElem?_cons_succ, List.getElem?_cons_zero]; exact rfl) (fun K hK => ?_)
          try go_simp
          refine (HF.out _).mono ?_
          rintro e wt55 ⟨rfl, hb⟩
          replace HD := hide (kept_trans HD.out hb)
          replace HC := hide (HC.out.below hb HC.out.lt)
          replace HA := hide (HA.out.below hb HA.out.lt)
          clear hb
          refine hK.out _ _ (fun _ _ => HD.out) ?_
          clear hK K
          try simp only [Act.put, List.setIfInBounds_toArray, List.set_cons_zero, List.set_cons_succ]
          refine anyU_one (i := 7) (by kernel_rfl) (by simp only [List.getElem?_toArray, List.getElem?_cons_succ, List.getElem?_cons_zero]; exact rfl) (fun K hK => ?_)
          try go_simp
          refine (HPE.out _ HD.out).mono ?_
          rintro e wt56 ⟨rfl, hb⟩
          replace HD := hide (kept_trans HD.out hb)
          replace HC := hide (HC.out.below hb HC.out.lt)
          replace HA := hide (HA.out.below hb HA.out.lt)
          clear hb
          refine hK.out _ _ (fun _ _ => HD.out) ?_
          clear hK K
          try simp only [Act.put, List.setIfInBounds_toArray, List.set_cons_zero, List.set_cons_succ]
          refine anyU_take2 (i := 8) (v := .tuple #[.int .i64 P1, .agg (rowC Pc), .agg (cA Pa)]) (by simp only [List.getElem?_toArray, List.getElem?_cons_succ, List.getElem?_cons_zero]; exact rfl) (by kernel_rfl) 12 (by kernel_rfl) (by kernel_rfl) (fun _ _ _ h => h) (by kernel_rfl) (by kernel_rfl) (by kernel_rfl) (by kernel_rfl) (Or.inl ⟨by rfl, fun w hSw => (by go_simp; try with_reducible rfl)⟩) (by with_reducible exact HD.out) ?_
          try simp only [Act.put, List.setIfInBounds_toArray, List.set_cons_zero, List.set_cons_succ]
          refine anyU_take2 (i := 9) (v := .int .i64 P1) (by simp only [List.getElem?_toArray, List.getElem?_cons_succ, List.getElem?_cons_zero]; exact rfl) (by kernel_rfl) 12 (by kernel_rfl) (by kernel_rfl) (fun _ _ _ h => h) (by kernel_rfl) (by kernel_rfl) (by kernel_rfl) (by kernel_rfl) (Or.inl ⟨by rfl, fun w hSw => (by go_simp; try with_reducible rfl)⟩) (by with_reducible exact HD.out) ?_
          try simp only [Act.put, List.setIfInBounds_toArray, List.set_cons_zero, List.set_cons_succ]
          refine anyU_take2 (i := 10) (v := .agg (rowC Pc)) (by simp only [List.getElem?_toArray, List.getElem?_cons_succ, List.getElem?_cons_zero]; exact rfl) (by kernel_rfl) 12 (by kernel_rfl) (by kernel_rfl) (fun _ _ _ h => h) (by kernel_rfl) (by kernel_rfl) (by kernel_rfl) (by kernel_rfl) (Or.inl ⟨by rfl, fun w hSw => (by go_simp; try with_reducible rfl)⟩) (by with_reducible exact HD.out) ?_
          try simp only [Act.put, List.setIfInBounds_toArray, List.set_cons_zero, List.set_cons_succ]
          refine anyU_take2 (i := 11) (v := .agg (cA Pa)) (by simp only [List.getElem?_toArray, List.getElem?_cons_succ, List.getElem?_cons_zero]; exact rfl) (by kernel_rfl) 12 (by kernel_rfl) (by kernel_rfl) (fun _ _ _ h => h) (by kernel_rfl) (by kernel_rfl) (by kernel_rfl) (by kernel_rfl) (Or.inl ⟨by rfl, fun w hSw => (by go_simp; try with_reducible rfl)⟩) (by with_reducible exact HD.out) ?_
          try simp only [Act.put, List.setIfInBounds_toArray, List.set_cons_zero, List.set_cons_succ]
          refine anyU_take2 (i := 14) (v := .int .i64 P1) (by simp only [List.getElem?_toArray, List.getElem?_cons_succ, List.getElem?_cons_zero]; exact rfl) (by kernel_rfl) 12 (by kernel_rfl) (by kernel_rfl) (fun _ _ _ h => h) (by kernel_rfl) (by kernel_rfl) (by kernel_rfl) (by kernel_rfl) (Or.inl ⟨by rfl, fun w hSw => (by go_simp; try with_reducible rfl)⟩) (by with_reducible exact HD.out) ?_
          try simp only [Act.put, List.setIfInBounds_toArray, List.set_cons_zero, List.set_cons_succ]
          have hne := rows_apart HC.out HA.out (by decide)
          refine anyU_one (i := 15) (by kernel_rfl) (by simp only [List.getElem?_toArray, List.getElem?_cons_succ, List.getElem?_cons_zero]; exact rfl) (fun K hK => ?_)
          rw [if_pos (by rfl)]
          refine wp_store_cm (z := zeroC) rfl rfl rfl HC.out ?_
          intro wt57 hn hg
          replace HA := hide (HA.out.grown hg (by simpa using hne.symm))
          replace HD := hide (below_own HD.out hg HQgc.out)
          replace HC := hide hn
          clear hn hg
          refine hK.out _ _ (fun _ _ => HD.out) ?_
          clear hK K
          try simp only [Act.put]
          refine anyU_one (i := 16) (by kernel_rfl) (by simp only [List.getElem?_toArray, List.getElem?_cons_succ, List.getElem?_cons_zero]; exact rfl) (fun K hK => ?_)
          rw [if_pos (by rfl)]
          refine wp_store_at (z := zero8) rfl hp8 rfl rfl HA.out rfl ?_
          intro wt58 hn hg
          replace HC := hide (HC.out.grown hg (by simpa using hne))
          replace HD := hide (below_own HD.out hg HQga.out)
          replace HA := hide hn
          clear hn hg hne
          refine hK.out _ _ (fun e _ => absurd rfl e) ?_
          clear hK K
          try simp only [Act.put]
          refine anyU_done (by kernel_rfl) ?_
          refine NoPanic.normal ?_
          try simp only [Act.put]
          go_wp2
          go_meet
          exact ⟨rfl, gc, rfl, ga, rfl, HD, HC, HA⟩
    case rest =>
    obtain ⟨hs8, gc, hs9, ga, hs10, HD, HC, HA⟩ := hcut
    subst hs8
    subst hs9
    subst hs10
    go_upto_region 6 with (first
      | (go_at_call 24; (with_reducible refine (HF.out _).mono ?_); rintro e w4 ⟨rfl, hb⟩; replace HC := hide (HC.out.below hb HC.out.lt); replace HA := hide (HA.out.below hb HA.out.lt); replace HD := hide (kept_trans HD.out hb); clear hb)
      | (go_at_call 30; go_loud ((with_reducible refine (HRO.out _ HD.out).mono ?_); rintro e w5 ⟨⟨B, d, rfl, hsb⟩, hb⟩; have HSB := hide hsb; clear hsb; replace HC := hide (HC.out.below hb HC.out.lt); replace HA := hide (HA.out.below hb HA.out.lt); replace HD := hide (kept_trans HD.out hb); clear hb))
      | (go_at_call 29; go_loud ((with_reducible refine (HRE.out _ _ _ HSB.out).mono ?_); rintro e w6 ⟨rfl, hb⟩; replace HC := hide (HC.out.below hb HC.out.lt); replace HA := hide (HA.out.below hb HA.out.lt); replace HD := hide (kept_trans HD.out hb); clear hb; have HN := hide (show Pq w6 ((w6.alloc (.cells #[.int .i64 0, .int .i64 0, .int .i64 0, .string ⟨#[]⟩, .string ⟨#[]⟩, .string ⟨#[]⟩, .string ⟨#[]⟩] 32)).alloc (.cells #[.int .i64 0, .int .i64 0, .int .i64 0, .int .i64 0, .int .i64 0, .int .i64 0, .int .i64 0, .int .i64 0] 26)) zeroC zero8 from Pq.start w6)))
      | ((with_reducible refine wpList_store_cm (y := Pc) (z := zeroC) ?_ ?_ HN.out.c ?_); rfl; rfl; intro w8 hn hg; replace HN := hide (HN.out.putc hn hg); clear hn hg)
      | ((with_reducible refine wpList_store_at (y := Pa) (z := zero8) hp8 ?_ ?_ HN.out.a rfl ?_); rfl; rfl; intro w9 hn hg; replace HN := hide (HN.out.puta hn hg); clear hn hg))
    replace HC := hide (HC.out.below HN.out.low HC.out.lt)
    replace HA := hide (HA.out.below HN.out.low HA.out.lt)
    replace HD := hide (kept_trans HD.out HN.out.low)
    clear HPE HRE HRO HSB
    have hec := fun w => eql_cmp Pc w
    have hea := fun w => eql_at hp8 hp8 w
    rw [decide_eq_true rfl] at hea
    go_wp2_with (first
      | ((with_reducible refine wpList_load_cm ?_ ?_ HC.out.cm_atp ?_); rfl; rfl)
      | ((with_reducible refine wpList_load_cm ?_ ?_ HN.out.c.cm_atp ?_); rfl; rfl)
      | ((with_reducible refine wpList_load_at hp8 ?_ ?_ HA.out.at8 ?_); rfl; rfl)
      | ((with_reducible refine wpList_load_at hp8 ?_ ?_ HN.out.a.at8 ?_); rfl; rfl)
      | ((with_reducible refine wpList_build_one (u := .int .i64 (-9)) (v := .agg (sdA mk9)) ?_ ?_ (fill_mark _) ?_); rfl; rfl)
      | (go_at_call 31; go_loud ((with_reducible refine (HIT.out _ HD.out).mono ?_); rintro e wy ⟨rfl, hb⟩; replace HD := hide (kept_trans HD.out hb); clear hb))
      | (go_at_call 3; (with_reducible refine (HRR.out _).mono ?_); rintro e wz ⟨rfl, hb⟩; replace HD := hide (kept_trans HD.out hb); clear hb))
    go_ret
    exact ⟨rfl, kept_trans HW.out HD.out⟩
  · have h7i : ¬ (7 : Int) < (m : Int) := by omega
    have HM := hide HZ0.out.len
    have HZ := hide HZ0.out.sds
    have HRM := hide (roomy_said (c := c) HM.out (show mk9.2.a.length = 8 from rfl) HZ.out (by omega))
    clear HZ0
    go_enter Try.func6, Try.ntmps6
    go_upto_region 3 with (fail)
    go_upto_region 4 with (first
      | ((with_reducible refine wpList_build_one (u := .int .i64 (-9)) (v := .agg (sdA mk9)) ?_ ?_ (fill_mark _) ?_); rfl; rfl)
      | (go_at_call 27; go_loud ((with_reducible refine HRM.out.mono ?_); rintro e w3 ⟨rfl, hr, hb⟩; have HW := hide hb; have HS3 := hide hr; clear hr hb)))
    generalize W.heap.size + 1 = sb at HS3 ⊢
    have HL3 := hide (HZ.out.below HW.out)
    have HT3 := hide (show Sds w3 (some ⟨sb, 0, none⟩) l from by have h := HS3.out.takeq m; rwa [List.take_left' HM.out] at h)
    have HPE : Hid (∀ wz : World, Below w3.heap.size w3 wz → Calls Try.prog 28 #[.int .i64 (k : Nat), .int .i64 ow, .slice (some ⟨sb, 0, none⟩) m (m + 80)] wz fun e w' => e = .returned (.tuple #[.int .i64 (prepL k ow l).1, .agg (rowC (prepL k ow l).2.1), .agg (cA (prepL k ow l).2.2)]) ∧ Below wz.heap.size wz w') := hide (fun wz h => prep_ok k ow (some ⟨sb, 0, none⟩) m (m + 80) l wz (by omega) (by omega) HM.out (HT3.out.below h) (by omega) (by omega) (fun h => by cases h))
    have HRE : Hid (∀ (B : Option Addr) (d : Nat) (wz : World), Sds wz B l → Calls Try.prog 29 #[.int .i64 (k : Nat), .int .i64 ow, .slice B m d] wz fun e w' => e = .returned (.tuple #[.int .i64 (prepL k ow l).1, .agg (rowC (prepL k ow l).2.1), .agg (cA (prepL k ow l).2.2)]) ∧ Below wz.heap.size wz w') := hide (fun B d wz h => rprep_any (n := k) (owner := ow) (A := B) (c := d) (by omega) HM.out h (by omega))
    have HRO := hide (fun wz (h : Below w3.heap.size w3 wz) => row_any (c := c) HM.out (HL3.out.below h) (by omega))
    have HIT := hide (fun wz (h : Below w3.heap.size w3 wz) => intact_said (d := c) HM.out (show mk9.2.a.length = 8 from rfl) (HS3.out.below h) (HL3.out.below h) (by omega))
    have hp8 : (prepL k ow l).2.2.length = 8 := prepL_8 HZ.out.a8
    generalize prepL k ow l = P at HPE HRE hp8
    obtain ⟨P1, Pc, Pa⟩ := P
    dsimp only at HPE HRE hp8
    clear HRM HT3
    have f1 : ¬ ((m : Int) + 80 < (m : Int)) := by omega
    go_cut [8, 9, 10] from 22 to 33 (fun s8 s9 s10 wx => s8 = .int .i64 P1 ∧ ∃ gc, s9 = .pointer (some ⟨gc, 0, none⟩) ∧ ∃ ga, s10 = .pointer (some ⟨ga, 0, none⟩) ∧ Hid (Below w3.heap.size w3 wx) ∧ Hid (Row wx gc 32 (rowC Pc)) ∧ Hid (Row wx ga 26 (cA Pa)))
    case first =>
      refine wp_region_noPanic ?_
      refine wp_region_U 16 (fun wz => Below w3.heap.size w3 wz) (by kernel_rfl) ?_
      have HD := hide (show Below w3.heap.size w3 w3.drew from kept_drewN (kept_refl w3) 1)
      generalize w3.drew = wd at HD ⊢
      refine anyU_take2 (i := 0) (v := .int .i64 n) (by simp only [List.getElem?_toArray, List.getElem?_cons_zero]; exact rfl) (by kernel_rfl) 12 (by kernel_rfl) (by kernel_rfl) (fun _ _ _ h => h) (by kernel_rfl) (by kernel_rfl) (by kernel_rfl) (by kernel_rfl) (Or.inl ⟨by rfl, fun w hSw => (by go_simp; try with_reducible rfl)⟩) (by with_reducible exact HD.out) ?_
      try simp only [Act.put, List.setIfInBounds_toArray, List.set_cons_zero, List.set_cons_succ]
      refine anyU_take2 (i := 2) (v := .int .i64 ow) (by simp only [List.getElem?_toArray, List.getElem?_cons_succ, List.getElem?_cons_zero]; exact rfl) (by kernel_rfl) 12 (by kernel_rfl) (by kernel_rfl) (fun _ _ _ h => h) (by kernel_rfl) (by kernel_rfl) (by kernel_rfl) (by kernel_rfl) (Or.inl ⟨by rfl, fun w hSw => (by go_simp; try with_reducible rfl)⟩) (by with_reducible exact HD.out) ?_
      try simp only [Act.put, List.setIfInBounds_toArray, List.set_cons_zero, List.set_cons_succ]
      refine anyU_take2 (i := 3) (v := .slice (some ⟨sb, 0, none⟩) (m + 80) (m + 80)) (by simp only [List.getElem?_toArray, List.getElem?_cons_succ, List.getElem?_cons_zero]; exact rfl) (by kernel_rfl) 12 (by kernel_rfl) (by kernel_rfl) (fun _ _ _ h => h) (by kernel_rfl) (by kernel_rfl) (by kernel_rfl) (by kernel_rfl) (Or.inl ⟨by rfl, fun w hSw => (by go_simp; try with_reducible rfl)⟩) (by with_reducible exact HD.out) ?_
      try simp only [Act.put, List.setIfInBounds_toArray, List.set_cons_zero, List.set_cons_succ]
      refine anyU_take2 (i := 4) (v := .slice A m c) (by simp only [List.getElem?_toArray, List.getElem?_cons_succ, List.getElem?_cons_zero]; exact rfl) (by kernel_rfl) 12 (by kernel_rfl) (by kernel_rfl) (fun _ _ _ h => h) (by kernel_rfl) (by kernel_rfl) (by kernel_rfl) (by kernel_rfl) (Or.inl ⟨by rfl, fun w hSw => (by go_simp; try with_reducible rfl)⟩) (by with_reducible exact HD.out) ?_
      try simp only [Act.put, List.setIfInBounds_toArray, List.set_cons_zero, List.set_cons_succ]
      refine anyU_take2 (i := 5) (v := .int .i64 (m : Nat)) (by simp only [List.getElem?_toArray, List.getElem?_cons_succ, List.getElem?_cons_zero]; exact rfl) (by kernel_rfl) 12 (by kernel_rfl) (by kernel_rfl) (fun _ _ _ h => h) (by kernel_rfl) (by kernel_rfl) (by kernel_rfl) (by kernel_rfl) (Or.inl ⟨by rfl, fun w hSw => (by go_simp; try with_reducible rfl)⟩) (by with_reducible exact HD.out) ?_
      try simp only [Act.put, List.setIfInBounds_toArray, List.set_cons_zero, List.set_cons_succ]
      refine anyU_take2 (i := 6) (v := .slice (some ⟨sb, 0, none⟩) m (m + 80)) (by simp only [List.getElem?_toArray, List.getElem?_cons_succ, List.getElem?_cons_zero]; exact rfl) (by kernel_rfl) 12 (by kernel_rfl) (by kernel_rfl) (fun _ _ _ h => h) (by kernel_rfl) (by kernel_rfl) (by kernel_rfl) (by kernel_rfl) (Or.inl ⟨by rfl, fun w hSw => (by go_simp; try with_reducible rfl)⟩) (by with_reducible exact HD.out) ?_
      try simp only [Act.put, List.setIfInBounds_toArray, List.set_cons_zero, List.set_cons_succ]
      refine anyU_three (i := 1) (j := 12) (k := 13) (by kernel_rfl) (by simp only [List.getElem?_toArray, List.getElem?_cons_succ, List.getElem?_cons_zero]; exact rfl) (by simp only [List.getElem?_toArray, List.getElem?_cons_succ, List.getElem?_cons_zero]; exact rfl) (by simp only [List.getElem?_toArray, List.getElem?_cons_succ, List.getElem?_cons_zero]; exact rfl) (fun K hK => ?_) (fun K hK => ?_) (fun K hK => ?_)
      · skip
        try go_simp
        refine (HF.out _).mono ?_
        rintro e wt59 ⟨rfl, hb⟩
        replace HD := hide (kept_trans HD.out hb)
        clear hb
        refine hK.out _ _ (fun _ _ => HD.out) ?_
        clear hK K
        try simp only [Act.put, List.setIfInBounds_toArray, List.set_cons_zero, List.set_cons_succ]
        refine anyU_three (i := 7) (j := 12) (k := 13) (by kernel_rfl) (by simp only [List.getElem?_toArray, List.getElem?_cons_succ, List.getElem?_cons_zero]; exact rfl) (by simp only [List.getElem?_toArray, List.getElem?_cons_succ, List.getElem?_cons_zero]; exact rfl) (by simp only [List.getElem?_toArray, List.getElem?_cons_succ, List.getElem?_cons_zero]; exact rfl) (fun K hK => ?_) (fun K hK => ?_) (fun K hK => ?_)
        · skip
          try go_simp
          refine (HPE.out _ HD.out).mono ?_
          rintro e wt60 ⟨rfl, hb⟩
          replace HD := hide (kept_trans HD.out hb)
          clear hb
          refine hK.out _ _ (fun _ _ => HD.out) ?_
          clear hK K
          try simp only [Act.put, List.setIfInBounds_toArray, List.set_cons_zero, List.set_cons_succ]
          refine anyU_take2 (i := 8) (v := .tuple #[.int .i64 P1, .agg (rowC Pc), .agg (cA Pa)]) (by simp only [List.getElem?_toArray, List.getElem?_cons_succ, List.getElem?_cons_zero]; exact rfl) (by kernel_rfl) 12 (by kernel_rfl) (by kernel_rfl) (fun _ _ _ h => h) (by kernel_rfl) (by kernel_rfl) (by kernel_rfl) (by kernel_rfl) (Or.inl ⟨by rfl, fun w hSw => (by go_simp; try with_reducible rfl)⟩) (by with_reducible exact HD.out) ?_
          try simp only [Act.put, List.setIfInBounds_toArray, List.set_cons_zero, List.set_cons_succ]
          refine anyU_take2 (i := 9) (v := .int .i64 P1) (by simp only [List.getElem?_toArray, List.getElem?_cons_succ, List.getElem?_cons_zero]; exact rfl) (by kernel_rfl) 12 (by kernel_rfl) (by kernel_rfl) (fun _ _ _ h => h) (by kernel_rfl) (by kernel_rfl) (by kernel_rfl) (by kernel_rfl) (Or.inl ⟨by rfl, fun w hSw => (by go_simp; try with_reducible rfl)⟩) (by with_reducible exact HD.out) ?_
          try simp only [Act.put, List.setIfInBounds_toArray, List.set_cons_zero, List.set_cons_succ]
          refine anyU_take2 (i := 10) (v := .agg (rowC Pc)) (by simp only [List.getElem?_toArray, List.getElem?_cons_succ, List.getElem?_cons_zero]; exact rfl) (by kernel_rfl) 12 (by kernel_rfl) (by kernel_rfl) (fun _ _ _ h => h) (by kernel_rfl) (by kernel_rfl) (by kernel_rfl) (by kernel_rfl) (Or.inl ⟨by rfl, fun w hSw => (by go_simp; try with_reducible rfl)⟩) (by with_reducible exact HD.out) ?_
          try simp only [Act.put, List.setIfInBounds_toArray, List.set_cons_zero, List.set_cons_succ]
          refine anyU_take2 (i := 11) (v := .agg (cA Pa)) (by simp only [List.getElem?_toArray, List.getElem?_cons_succ, List.getElem?_cons_zero]; exact rfl) (by kernel_rfl) 12 (by kernel_rfl) (by kernel_rfl) (fun _ _ _ h => h) (by kernel_rfl) (by kernel_rfl) (by kernel_rfl) (by kernel_rfl) (Or.inl ⟨by rfl, fun w hSw => (by go_simp; try with_reducible rfl)⟩) (by with_reducible exact HD.out) ?_
          try simp only [Act.put, List.setIfInBounds_toArray, List.set_cons_zero, List.set_cons_succ]
          refine anyU_two (i := 12) (j := 13) (by kernel_rfl) (by simp only [List.getElem?_toArray, List.getElem?_cons_succ, List.getElem?_cons_zero]; exact rfl) (by simp only [List.getElem?_toArray, List.getElem?_cons_succ, List.getElem?_cons_zero]; exact rfl) (fun K hK => ?_) (fun K hK => ?_)
          · skip
            try go_simp
            have HC := hide (show Row (wt60.alloc (.cells #[.int .i64 0, .int .i64 0, .int .i64 0, .string ⟨#[]⟩, .string ⟨#[]⟩, .string ⟨#[]⟩, .string ⟨#[]⟩] 32)) wt60.heap.size 32 (rowC zeroC) from Row.new wt60 _ _)
            have HQgc := hide HD.out.size
            replace HD := hide (kept_trans HD.out (kept_alloc (kept_refl wt60) (.cells #[.int .i64 0, .int .i64 0, .int .i64 0, .string ⟨#[]⟩, .string ⟨#[]⟩, .string ⟨#[]⟩, .string ⟨#[]⟩] 32)))
            generalize wt60.alloc (.cells #[.int .i64 0, .int .i64 0, .int .i64 0, .string ⟨#[]⟩, .string ⟨#[]⟩, .string ⟨#[]⟩, .string ⟨#[]⟩] 32) = wt61 at HD HC ⊢
            generalize wt60.heap.size = gc at HC HQgc ⊢
            refine hK.out _ _ (fun _ _ => HD.out) ?_
            clear hK K
            try simp only [Act.put, List.setIfInBounds_toArray, List.set_cons_zero, List.set_cons_succ]
            refine anyU_one (i := 13) (by kernel_rfl) (by simp only [List.getElem?_toArray, List.getElem?_cons_succ, List.getElem?_cons_zero]; exact rfl) (fun K hK => ?_)
            try go_simp
            have HA := hide (show Row (wt61.alloc (.cells #[.int .i64 0, .int .i64 0, .int .i64 0, .int .i64 0, .int .i64 0, .int .i64 0, .int .i64 0, .int .i64 0] 26)) wt61.heap.size 26 (cA zero8) from Row.new wt61 _ _)
            replace HC := hide (HC.out.below (kept_alloc (kept_refl wt61) (.cells #[.int .i64 0, .int .i64 0, .int .i64 0, .int .i64 0, .int .i64 0, .int .i64 0, .int .i64 0, .int .i64 0] 26)) HC.out.lt)
            have HQga := hide HD.out.size
            replace HD := hide (kept_trans HD.out (kept_alloc (kept_refl wt61) (.cells #[.int .i64 0, .int .i64 0, .int .i64 0, .int .i64 0, .int .i64 0, .int .i64 0, .int .i64 0, .int .i64 0] 26)))
            generalize wt61.alloc (.cells #[.int .i64 0, .int .i64 0, .int .i64 0, .int .i64 0, .int .i64 0, .int .i64 0, .int .i64 0, .int .i64 0] 26) = wt62 at HD HA HC ⊢
            generalize wt61.heap.size = ga at HA HQga ⊢
            refine hK.out _ _ (fun _ _ => HD.out) ?_
            clear hK K
            try simp only [Act.put, List.setIfInBounds_toArray, List.set_cons_zero, List.set_cons_succ]
            refine anyU_take2 (i := 14) (v := .int .i64 P1) (by simp only [List.getElem?_toArray, List.getElem?_cons_succ, List.getElem?_cons_zero]; exact rfl) (by kernel_rfl) 12 (by kernel_rfl) (by kernel_rfl) (fun _ _ _ h => h) (by kernel_rfl) (by kernel_rfl) (by kernel_rfl) (by kernel_rfl) (Or.inl ⟨by rfl, fun w hSw => (by go_simp; try with_reducible rfl)⟩) (by with_reducible exact HD.out) ?_
            try simp only [Act.put, List.setIfInBounds_toArray, List.set_cons_zero, List.set_cons_succ]
            have hne := rows_apart HC.out HA.out (by decide)
            refine anyU_one (i := 15) (by kernel_rfl) (by simp only [List.getElem?_toArray, List.getElem?_cons_succ, List.getElem?_cons_zero]; exact rfl) (fun K hK => ?_)
            rw [if_pos (by rfl)]
            refine wp_store_cm (z := zeroC) rfl rfl rfl HC.out ?_
            intro wt63 hn hg
            replace HA := hide (HA.out.grown hg (by simpa using hne.symm))
            replace HD := hide (below_own HD.out hg HQgc.out)
            replace HC := hide hn
            clear hn hg
            refine hK.out _ _ (fun _ _ => HD.out) ?_
            clear hK K
            try simp only [Act.put]
            refine anyU_one (i := 16) (by kernel_rfl) (by simp only [List.getElem?_toArray, List.getElem?_cons_succ, List.getElem?_cons_zero]; exact rfl) (fun K hK => ?_)
            rw [if_pos (by rfl)]
            refine wp_store_at (z := zero8) rfl hp8 rfl rfl HA.out rfl ?_
            intro wt64 hn hg
            replace HC := hide (HC.out.grown hg (by simpa using hne))
            replace HD := hide (below_own HD.out hg HQga.out)
            replace HA := hide hn
            clear hn hg hne
            refine hK.out _ _ (fun e _ => absurd rfl e) ?_
            clear hK K
            try simp only [Act.put]
            refine anyU_done (by kernel_rfl) ?_
            refine NoPanic.normal ?_
            try simp only [Act.put]
            go_wp2
            go_meet
            exact ⟨rfl, gc, rfl, ga, rfl, HD, HC, HA⟩
          · skip
            try go_simp
            have HA := hide (show Row (wt60.alloc (.cells #[.int .i64 0, .int .i64 0, .int .i64 0, .int .i64 0, .int .i64 0, .int .i64 0, .int .i64 0, .int .i64 0] 26)) wt60.heap.size 26 (cA zero8) from Row.new wt60 _ _)
            have HQga := hide HD.out.size
            replace HD := hide (kept_trans HD.out (kept_alloc (kept_refl wt60) (.cells #[.int .i64 0, .int .i64 0, .int .i64 0, .int .i64 0, .int .i64 0, .int .i64 0, .int .i64 0, .int .i64 0] 26)))
            generalize wt60.alloc (.cells #[.int .i64 0, .int .i64 0, .int .i64 0, .int .i64 0, .int .i64 0, .int .i64 0, .int .i64 0, .int .i64 0] 26) = wt65 at HD HA ⊢
            generalize wt60.heap.size = ga at HA HQga ⊢
            refine hK.out _ _ (fun _ _ => HD.out) ?_
            clear hK K
            try simp only [Act.put, List.setIfInBounds_toArray, List.set_cons_zero, List.set_cons_succ]
            refine anyU_one (i := 12) (by kernel_rfl) (by simp only [List.getElem?_toArray, List.getElem?_cons_succ, List.getElem?_cons_zero]; exact rfl) (fun K hK => ?_)
            try go_simp
            have HC := hide (show Row (wt65.alloc (.cells #[.int .i64 0, .int .i64 0, .int .i64 0, .string ⟨#[]⟩, .string ⟨#[]⟩, .string ⟨#[]⟩, .string ⟨#[]⟩] 32)) wt65.heap.size 32 (rowC zeroC) from Row.new wt65 _ _)
            replace HA := hide (HA.out.below (kept_alloc (kept_refl wt65) (.cells #[.int .i64 0, .int .i64 0, .int .i64 0, .string ⟨#[]⟩, .string ⟨#[]⟩, .string ⟨#[]⟩, .string ⟨#[]⟩] 32)) HA.out.lt)
            have HQgc := hide HD.out.size
            replace HD := hide (kept_trans HD.out (kept_alloc (kept_refl wt65) (.cells #[.int .i64 0, .int .i64 0, .int .i64 0, .string ⟨#[]⟩, .string ⟨#[]⟩, .string ⟨#[]⟩, .string ⟨#[]⟩] 32)))
            generalize wt65.alloc (.cells #[.int .i64 0, .int .i64 0, .int .i64 0, .string ⟨#[]⟩, .string ⟨#[]⟩, .string ⟨#[]⟩, .string ⟨#[]⟩] 32) = wt66 at HD HC HA ⊢
            generalize wt65.heap.size = gc at HC HQgc ⊢
            refine hK.out _ _ (fun _ _ => HD.out) ?_
            clear hK K
            try simp only [Act.put, List.setIfInBounds_toArray, List.set_cons_zero, List.set_cons_succ]
            refine anyU_take2 (i := 14) (v := .int .i64 P1) (by simp only [List.getElem?_toArray, List.getElem?_cons_succ, List.getElem?_cons_zero]; exact rfl) (by kernel_rfl) 12 (by kernel_rfl) (by kernel_rfl) (fun _ _ _ h => h) (by kernel_rfl) (by kernel_rfl) (by kernel_rfl) (by kernel_rfl) (Or.inl ⟨by rfl, fun w hSw => (by go_simp; try with_reducible rfl)⟩) (by with_reducible exact HD.out) ?_
            try simp only [Act.put, List.setIfInBounds_toArray, List.set_cons_zero, List.set_cons_succ]
            have hne := rows_apart HC.out HA.out (by decide)
            refine anyU_one (i := 15) (by kernel_rfl) (by simp only [List.getElem?_toArray, List.getElem?_cons_succ, List.getElem?_cons_zero]; exact rfl) (fun K hK => ?_)
            rw [if_pos (by rfl)]
            refine wp_store_cm (z := zeroC) rfl rfl rfl HC.out ?_
            intro wt67 hn hg
            replace HA := hide (HA.out.grown hg (by simpa using hne.symm))
            replace HD := hide (below_own HD.out hg HQgc.out)
            replace HC := hide hn
            clear hn hg
            refine hK.out _ _ (fun _ _ => HD.out) ?_
            clear hK K
            try simp only [Act.put]
            refine anyU_one (i := 16) (by kernel_rfl) (by simp only [List.getElem?_toArray, List.getElem?_cons_succ, List.getElem?_cons_zero]; exact rfl) (fun K hK => ?_)
            rw [if_pos (by rfl)]
            refine wp_store_at (z := zero8) rfl hp8 rfl rfl HA.out rfl ?_
            intro wt68 hn hg
            replace HC := hide (HC.out.grown hg (by simpa using hne))
            replace HD := hide (below_own HD.out hg HQga.out)
            replace HA := hide hn
            clear hn hg hne
            refine hK.out _ _ (fun e _ => absurd rfl e) ?_
            clear hK K
            try simp only [Act.put]
            refine anyU_done (by kernel_rfl) ?_
            refine NoPanic.normal ?_
            try simp only [Act.put]
            go_wp2
            go_meet
            exact ⟨rfl, gc, rfl, ga, rfl, HD, HC, HA⟩
        · skip
          try go_simp
          have HC := hide (show Row (wt59.alloc (.cells #[.int .i64 0, .int .i64 0, .int .i64 0, .string ⟨#[]⟩, .string ⟨#[]⟩, .string ⟨#[]⟩, .string ⟨#[]⟩] 32)) wt59.heap.size 32 (rowC zeroC) from Row.new wt59 _ _)
          have HQgc := hide HD.out.size
          replace HD := hide (kept_trans HD.out (kept_alloc (kept_refl wt59) (.cells #[.int .i64 0, .int .i64 0, .int .i64 0, .string ⟨#[]⟩, .string ⟨#[]⟩, .string ⟨#[]⟩, .string ⟨#[]⟩] 32)))
          generalize wt59.alloc (.cells #[.int .i64 0, .int .i64 0, .int .i64 0, .string ⟨#[]⟩, .string ⟨#[]⟩, .string ⟨#[]⟩, .string ⟨#[]⟩] 32) = wt69 at HD HC ⊢
          generalize wt59.heap.size = gc at HC HQgc ⊢
          refine hK.out _ _ (fun _ _ => HD.out) ?_
          clear hK K
          try simp only [Act.put, List.setIfInBounds_toArray, List.set_cons_zero, List.set_cons_succ]
          refine anyU_two (i := 7) (j := 13) (by kernel_rfl) (by simp only [List.getElem?_toArray, List.getElem?_cons_succ, List.getElem?_cons_zero]; exact rfl) (by simp only [List.getElem?_toArray, List.getElem?_cons_succ, List.getElem?_cons_zero]; exact rfl) (fun K hK => ?_) (fun K hK => ?_)
          · skip
            try go_simp
            refine (HPE.out _ HD.out).mono ?_
            rintro e wt70 ⟨rfl, hb⟩
            replace HD := hide (kept_trans HD.out hb)
            replace HC := hide (HC.out.below hb HC.out.lt)
            clear hb
            refine hK.out _ _ (fun _ _ => HD.out) ?_
            clear hK K
            try simp only [Act.put, List.setIfInBounds_toArray, List.set_cons_zero, List.set_cons_succ]
            refine anyU_take2 (i := 8) (v := .tuple #[.int .i64 P1, .agg (rowC Pc), .agg (cA Pa)]) (by simp only [List.getElem?_toArray, List.getElem?_cons_succ, List.getElem?_cons_zero]; exact rfl) (by kernel_rfl) 12 (by kernel_rfl) (by kernel_rfl) (fun _ _ _ h => h) (by kernel_rfl) (by kernel_rfl) (by kernel_rfl) (by kernel_rfl) (Or.inl ⟨by rfl, fun w hSw => (by go_simp; try with_reducible rfl)⟩) (by with_reducible exact HD.out) ?_
            try simp only [Act.put, List.setIfInBounds_toArray, List.set_cons_zero, List.set_cons_succ]
            refine anyU_take2 (i := 9) (v := .int .i64 P1) (by simp only [List.getElem?_toArray, List.getElem?_cons_succ, List.getElem?_cons_zero]; exact rfl) (by kernel_rfl) 12 (by kernel_rfl) (by kernel_rfl) (fun _ _ _ h => h) (by kernel_rfl) (by kernel_rfl) (by kernel_rfl) (by kernel_rfl) (Or.inl ⟨by rfl, fun w hSw => (by go_simp; try with_reducible rfl)⟩) (by with_reducible exact HD.out) ?_
            try simp only [Act.put, List.setIfInBounds_toArray, List.set_cons_zero, List.set_cons_succ]
            refine anyU_take2 (i := 10) (v := .agg (rowC Pc)) (by simp only [List.getElem?_toArray, List.getElem?_cons_succ, List.getElem?_cons_zero]; exact rfl) (by kernel_rfl) 12 (by kernel_rfl) (by kernel_rfl) (fun _ _ _ h => h) (by kernel_rfl) (by kernel_rfl) (by kernel_rfl) (by kernel_rfl) (Or.inl ⟨by rfl, fun w hSw => (by go_simp; try with_reducible rfl)⟩) (by with_reducible exact HD.out) ?_
            try simp only [Act.put, List.setIfInBounds_toArray, List.set_cons_zero, List.set_cons_succ]
            refine anyU_take2 (i := 11) (v := .agg (cA Pa)) (by simp only [List.getElem?_toArray, List.getElem?_cons_succ, List.getElem?_cons_zero]; exact rfl) (by kernel_rfl) 12 (by kernel_rfl) (by kernel_rfl) (fun _ _ _ h => h) (by kernel_rfl) (by kernel_rfl) (by kernel_rfl) (by kernel_rfl) (Or.inl ⟨by rfl, fun w hSw => (by go_simp; try with_reducible rfl)⟩) (by with_reducible exact HD.out) ?_
            try simp only [Act.put, List.setIfInBounds_toArray, List.set_cons_zero, List.set_cons_succ]
            refine anyU_one (i := 13) (by kernel_rfl) (by simp only [List.getElem?_toArray, List.getElem?_cons_succ, List.getElem?_cons_zero]; exact rfl) (fun K hK => ?_)
            try go_simp
            have HA := hide (show Row (wt70.alloc (.cells #[.int .i64 0, .int .i64 0, .int .i64 0, .int .i64 0, .int .i64 0, .int .i64 0, .int .i64 0, .int .i64 0] 26)) wt70.heap.size 26 (cA zero8) from Row.new wt70 _ _)
            replace HC := hide (HC.out.below (kept_alloc (kept_refl wt70) (.cells #[.int .i64 0, .int .i64 0, .int .i64 0, .int .i64 0, .int .i64 0, .int .i64 0, .int .i64 0, .int .i64 0] 26)) HC.out.lt)
            have HQga := hide HD.out.size
            replace HD := hide (kept_trans HD.out (kept_alloc (kept_refl wt70) (.cells #[.int .i64 0, .int .i64 0, .int .i64 0, .int .i64 0, .int .i64 0, .int .i64 0, .int .i64 0, .int .i64 0] 26)))
            generalize wt70.alloc (.cells #[.int .i64 0, .int .i64 0, .int .i64 0, .int .i64 0, .int .i64 0, .int .i64 0, .int .i64 0, .int .i64 0] 26) = wt71 at HD HA HC ⊢
            generalize wt70.heap.size = ga at HA HQga ⊢
            refine hK.out _ _ (fun _ _ => HD.out) ?_
            clear hK K
            try simp only [Act.put, List.setIfInBounds_toArray, List.set_cons_zero, List.set_cons_succ]
            refine anyU_take2 (i := 14) (v := .int .i64 P1) (by simp only [List.getElem?_toArray, List.getElem?_cons_succ, List.getElem?_cons_zero]; exact rfl) (by kernel_rfl) 12 (by kernel_rfl) (by kernel_rfl) (fun _ _ _ h => h) (by kernel_rfl) (by kernel_rfl) (by kernel_rfl) (by kernel_rfl) (Or.inl ⟨by rfl, fun w hSw => (by go_simp; try with_reducible rfl)⟩) (by with_reducible exact HD.out) ?_
            try simp only [Act.put, List.setIfInBounds_toArray, List.set_cons_zero, List.set_cons_succ]
            have hne := rows_apart HC.out HA.out (by decide)
            refine anyU_one (i := 15) (by kernel_rfl) (by simp only [List.getElem?_toArray, List.getElem?_cons_succ, List.getElem?_cons_zero]; exact rfl) (fun K hK => ?_)
            rw [if_pos (by rfl)]
            refine wp_store_cm (z := zeroC) rfl rfl rfl HC.out ?_
            intro wt72 hn hg
            replace HA := hide (HA.out.grown hg (by simpa using hne.symm))
            replace HD := hide (below_own HD.out hg HQgc.out)
            replace HC := hide hn
            clear hn hg
            refine hK.out _ _ (fun _ _ => HD.out) ?_
            clear hK K
            try simp only [Act.put]
            refine anyU_one (i := 16) (by kernel_rfl) (by simp only [List.getElem?_toArray, List.getElem?_cons_succ, List.getElem?_cons_zero]; exact rfl) (fun K hK => ?_)
            rw [if_pos (by rfl)]
            refine wp_store_at (z := zero8) rfl hp8 rfl rfl HA.out rfl ?_
            intro wt73 hn hg
            replace HC := hide (HC.out.grown hg (by simpa using hne))
            replace HD := hide (below_own HD.out hg HQga.out)
            replace HA := hide hn
            clear hn hg hne
            refine hK.out _ _ (fun e _ => absurd rfl e) ?_
            clear hK K
            try simp only [Act.put]
            refine anyU_done (by kernel_rfl) ?_
            refine NoPanic.normal ?_
            try simp only [Act.put]
            go_wp2
            go_meet
            exact ⟨rfl, gc, rfl, ga, rfl, HD, HC, HA⟩
          · skip
            try go_simp
            have HA := hide (show Row (wt69.alloc (.cells #[.int .i64 0, .int .i64 0, .int .i64 0, .int .i64 0, .int .i64 0, .int .i64 0, .int .i64 0, .int .i64 0] 26)) wt69.heap.size 26 (cA zero8) from Row.new wt69 _ _)
            replace HC := hide (HC.out.below (kept_alloc (kept_refl wt69) (.cells #[.int .i64 0, .int .i64 0, .int .i64 0, .int .i64 0, .int .i64 0, .int .i64 0, .int .i64 0, .int .i64 0] 26)) HC.out.lt)
            have HQga := hide HD.out.size
            replace HD := hide (kept_trans HD.out (kept_alloc (kept_refl wt69) (.cells #[.int .i64 0, .int .i64 0, .int .i64 0, .int .i64 0, .int .i64 0, .int .i64 0, .int .i64 0, .int .i64 0] 26)))
            generalize wt69.alloc (.cells #[.int .i64 0, .int .i64 0, .int .i64 0, .int .i64 0, .int .i64 0, .int .i64 0, .int .i64 0, .int .i64 0] 26) = wt74 at HD HA HC ⊢
            generalize wt69.heap.size = ga at HA HQga ⊢
            refine hK.out _ _ (fun _ _ => HD.out) ?_
            clear hK K
            try simp only [Act.put, List.setIfInBounds_toArray, List.set_cons_zero, List.set_cons_succ]
            refine anyU_one (i := 7) (by kernel_rfl) (by simp only [List.getElem?_toArray, List.getElem?_cons_succ, List.getElem?_cons_zero]; exact rfl) (fun K hK => ?_)
            try go_simp
            refine (HPE.out _ HD.out).mono ?_
            rintro e wt75 ⟨rfl, hb⟩
            replace HD := hide (kept_trans HD.out hb)
            replace HC := hide (HC.out.below hb HC.out.lt)
            replace HA := hide (HA.out.below hb HA.out.lt)
            clear hb
            refine hK.out _ _ (fun _ _ => HD.out) ?_
            clear hK K
            try simp only [Act.put, List.setIfInBounds_toArray, List.set_cons_zero, List.set_cons_succ]
            refine anyU_take2 (i := 8) (v := .tuple #[.int .i64 P1, .agg (rowC Pc), .agg (cA Pa)]) (by simp only [List.getElem?_toArray, List.getElem?_cons_succ, List.getElem?_cons_zero]; exact rfl) (by kernel_rfl) 12 (by kernel_rfl) (by kernel_rfl) (fun _ _ _ h => h) (by kernel_rfl) (by kernel_rfl) (by kernel_rfl) (by kernel_rfl) (Or.inl ⟨by rfl, fun w hSw => (by go_simp; try with_reducible rfl)⟩) (by with_reducible exact HD.out) ?_
            try simp only [Act.put, List.setIfInBounds_toArray, List.set_cons_zero, List.set_cons_succ]
            refine anyU_take2 (i := 9) (v := .int .i64 P1) (by simp only [List.getElem?_toArray, List.getElem?_cons_succ, List.getElem?_cons_zero]; exact rfl) (by kernel_rfl) 12 (by kernel_rfl) (by kernel_rfl) (fun _ _ _ h => h) (by kernel_rfl) (by kernel_rfl) (by kernel_rfl) (by kernel_rfl) (Or.inl ⟨by rfl, fun w hSw => (by go_simp; try with_reducible rfl)⟩) (by with_reducible exact HD.out) ?_
            try simp only [Act.put, List.setIfInBounds_toArray, List.set_cons_zero, List.set_cons_succ]
            refine anyU_take2 (i := 10) (v := .agg (rowC Pc)) (by simp only [List.getElem?_toArray, List.getElem?_cons_succ, List.getElem?_cons_zero]; exact rfl) (by kernel_rfl) 12 (by kernel_rfl) (by kernel_rfl) (fun _ _ _ h => h) (by kernel_rfl) (by kernel_rfl) (by kernel_rfl) (by kernel_rfl) (Or.inl ⟨by rfl, fun w hSw => (by go_simp; try with_reducible rfl)⟩) (by with_reducible exact HD.out) ?_
            try simp only [Act.put, List.setIfInBounds_toArray, List.set_cons_zero, List.set_cons_succ]
            refine anyU_take2 (i := 11) (v := .agg (cA Pa)) (by simp only [List.getElem?_toArray, List.getElem?_cons_succ, List.getElem?_cons_zero]; exact rfl) (by kernel_rfl) 12 (by kernel_rfl) (by kernel_rfl) (fun _ _ _ h => h) (by kernel_rfl) (by kernel_rfl) (by kernel_rfl) (by kernel_rfl) (Or.inl ⟨by rfl, fun w hSw => (by go_simp; try with_reducible rfl)⟩) (by with_reducible exact HD.out) ?_
            try simp only [Act.put, List.setIfInBounds_toArray, List.set_cons_zero, List.set_cons_succ]
            refine anyU_take2 (i := 14) (v := .int .i64 P1) (by simp only [List.getElem?_toArray, List.getElem?_cons_succ, List.getElem?_cons_zero]; exact rfl) (by kernel_rfl) 12 (by kernel_rfl) (by kernel_rfl) (fun _ _ _ h => h) (by kernel_rfl) (by kernel_rfl) (by kernel_rfl) (by kernel_rfl) (Or.inl ⟨by rfl, fun w hSw => (by go_simp; try with_reducible rfl)⟩) (by with_reducible exact HD.out) ?_
            try simp only [Act.put, List.setIfInBounds_toArray, List.set_cons_zero, List.set_cons_succ]
            have hne := rows_apart HC.out HA.out (by decide)
            refine anyU_one (i := 15) (by kernel_rfl) (by simp only [List.getElem?_toArray, List.getElem?_cons_succ, List.getElem?_cons_zero]; exact rfl) (fun K hK => ?_)
            rw [if_pos (by rfl)]
            refine wp_store_cm (z := zeroC) rfl rfl rfl HC.out ?_
            intro wt76 hn hg
            replace HA := hide (HA.out.grown hg (by simpa using hne.symm))
            replace HD := hide (below_own HD.out hg HQgc.out)
            replace HC := hide hn
            clear hn hg
            refine hK.out _ _ (fun _ _ => HD.out) ?_
            clear hK K
            try simp only [Act.put]
            refine anyU_one (i := 16) (by kernel_rfl) (by simp only [List.getElem?_toArray, List.getElem?_cons_succ, List.getElem?_cons_zero]; exact rfl) (fun K hK => ?_)
            rw [if_pos (by rfl)]
            refine wp_store_at (z := zero8) rfl hp8 rfl rfl HA.out rfl ?_
            intro wt77 hn hg
            replace HC := hide (HC.out.grown hg (by simpa using hne))
            replace HD := hide (below_own HD.out hg HQga.out)
            replace HA := hide hn
            clear hn hg hne
            refine hK.out _ _ (fun e _ => absurd rfl e) ?_
            clear hK K
            try simp only [Act.put]
            refine anyU_done (by kernel_rfl) ?_
            refine NoPanic.normal ?_
            try simp only [Act.put]
            go_wp2
            go_meet
            exact ⟨rfl, gc, rfl, ga, rfl, HD, HC, HA⟩
        · skip
          try go_simp
          have HA := hide (show Row (wt59.alloc (.cells #[.int .i64 0, .int .i64 0, .int .i64 0, .int .i64 0, .int .i64 0, .int .i64 0, .int .i64 0, .int .i64 0] 26)) wt59.heap.size 26 (cA zero8) from Row.new wt59 _ _)
          have HQga := hide HD.out.size
          replace HD := hide (kept_trans HD.out (kept_alloc (kept_refl wt59) (.cells #[.int .i64 0, .int .i64 0, .int .i64 0, .int .i64 0, .int .i64 0, .int .i64 0, .int .i64 0, .int .i64 0] 26)))
          generalize wt59.alloc (.cells #[.int .i64 0, .int .i64 0, .int .i64 0, .int .i64 0, .int .i64 0, .int .i64 0, .int .i64 0, .int .i64 0] 26) = wt78 at HD HA ⊢
          generalize wt59.heap.size = ga at HA HQga ⊢
          refine hK.out _ _ (fun _ _ => HD.out) ?_
          clear hK K
          try simp only [Act.put, List.setIfInBounds_toArray, List.set_cons_zero, List.set_cons_succ]
          refine anyU_two (i := 7) (j := 12) (by kernel_rfl) (by simp only [List.getElem?_toArray, List.getElem?_cons_succ, List.getElem?_cons_zero]; exact rfl) (by simp only [List.getElem?_toArray, List.getElem?_cons_succ, List.getElem?_cons_zero]; exact rfl) (fun K hK => ?_) (fun K hK => ?_)
          · skip
            try go_simp
            refine (HPE.out _ HD.out).mono ?_
            rintro e wt79 ⟨rfl, hb⟩
            replace HD := hide (kept_trans HD.out hb)
            replace HA := hide (HA.out.below hb HA.out.lt)
            clear hb
            refine hK.out _ _ (fun _ _ => HD.out) ?_
            clear hK K
            try simp only [Act.put, List.setIfInBounds_toArray, List.set_cons_zero, List.set_cons_succ]
            refine anyU_take2 (i := 8) (v := .tuple #[.int .i64 P1, .agg (rowC Pc), .agg (cA Pa)]) (by simp only [List.getElem?_toArray, List.getElem?_cons_succ, List.getElem?_cons_zero]; exact rfl) (by kernel_rfl) 12 (by kernel_rfl) (by kernel_rfl) (fun _ _ _ h => h) (by kernel_rfl) (by kernel_rfl) (by kernel_rfl) (by kernel_rfl) (Or.inl ⟨by rfl, fun w hSw => (by go_simp; try with_reducible rfl)⟩) (by with_reducible exact HD.out) ?_
            try simp only [Act.put, List.setIfInBounds_toArray, List.set_cons_zero, List.set_cons_succ]
            refine anyU_take2 (i := 9) (v := .int .i64 P1) (by simp only [List.getElem?_toArray, List.getElem?_cons_succ, List.getElem?_cons_zero]; exact rfl) (by kernel_rfl) 12 (by kernel_rfl) (by kernel_rfl) (fun _ _ _ h => h) (by kernel_rfl) (by kernel_rfl) (by kernel_rfl) (by kernel_rfl) (Or.inl ⟨by rfl, fun w hSw => (by go_simp; try with_reducible rfl)⟩) (by with_reducible exact HD.out) ?_
            try simp only [Act.put, List.setIfInBounds_toArray, List.set_cons_zero, List.set_cons_succ]
            refine anyU_take2 (i := 10) (v := .agg (rowC Pc)) (by simp only [List.getElem?_toArray, List.getElem?_cons_succ, List.getElem?_cons_zero]; exact rfl) (by kernel_rfl) 12 (by kernel_rfl) (by kernel_rfl) (fun _ _ _ h => h) (by kernel_rfl) (by kernel_rfl) (by kernel_rfl) (by kernel_rfl) (Or.inl ⟨by rfl, fun w hSw => (by go_simp; try with_reducible rfl)⟩) (by with_reducible exact HD.out) ?_
            try simp only [Act.put, List.setIfInBounds_toArray, List.set_cons_zero, List.set_cons_succ]
            refine anyU_take2 (i := 11) (v := .agg (cA Pa)) (by simp only [List.getElem?_toArray, List.getElem?_cons_succ, List.getElem?_cons_zero]; exact rfl) (by kernel_rfl) 12 (by kernel_rfl) (by kernel_rfl) (fun _ _ _ h => h) (by kernel_rfl) (by kernel_rfl) (by kernel_rfl) (by kernel_rfl) (Or.inl ⟨by rfl, fun w hSw => (by go_simp; try with_reducible rfl)⟩) (by with_reducible exact HD.out) ?_
            try simp only [Act.put, List.setIfInBounds_toArray, List.set_cons_zero, List.set_cons_succ]
            refine anyU_one (i := 12) (by kernel_rfl) (by simp only [List.getElem?_toArray, List.getElem?_cons_succ, List.getElem?_cons_zero]; exact rfl) (fun K hK => ?_)
            try go_simp
            have HC := hide (show Row (wt79.alloc (.cells #[.int .i64 0, .int .i64 0, .int .i64 0, .string ⟨#[]⟩, .string ⟨#[]⟩, .string ⟨#[]⟩, .string ⟨#[]⟩] 32)) wt79.heap.size 32 (rowC zeroC) from Row.new wt79 _ _)
            replace HA := hide (HA.out.below (kept_alloc (kept_refl wt79) (.cells #[.int .i64 0, .int .i64 0, .int .i64 0, .string ⟨#[]⟩, .string ⟨#[]⟩, .string ⟨#[]⟩, .string ⟨#[]⟩] 32)) HA.out.lt)
            have HQgc := hide HD.out.size
            replace HD := hide (kept_trans HD.out (kept_alloc (kept_refl wt79) (.cells #[.int .i64 0, .int .i64 0, .int .i64 0, .string ⟨#[]⟩, .string ⟨#[]⟩, .string ⟨#[]⟩, .string ⟨#[]⟩] 32)))
            generalize wt79.alloc (.cells #[.int .i64 0, .int .i64 0, .int .i64 0, .string ⟨#[]⟩, .string ⟨#[]⟩, .string ⟨#[]⟩, .string ⟨#[]⟩] 32) = wt80 at HD HC HA ⊢
            generalize wt79.heap.size = gc at HC HQgc ⊢
            refine hK.out _ _ (fun _ _ => HD.out) ?_
            clear hK K
            try simp only [Act.put, List.setIfInBounds_toArray, List.set_cons_zero, List.set_cons_succ]
            refine anyU_take2 (i := 14) (v := .int .i64 P1) (by simp only [List.getElem?_toArray, List.getElem?_cons_succ, List.getElem?_cons_zero]; exact rfl) (by kernel_rfl) 12 (by kernel_rfl) (by kernel_rfl) (fun _ _ _ h => h) (by kernel_rfl) (by kernel_rfl) (by kernel_rfl) (by kernel_rfl) (Or.inl ⟨by rfl, fun w hSw => (by go_simp; try with_reducible rfl)⟩) (by with_reducible exact HD.out) ?_
            try simp only [Act.put, List.setIfInBounds_toArray, List.set_cons_zero, List.set_cons_succ]
            have hne := rows_apart HC.out HA.out (by decide)
            refine anyU_one (i := 15) (by kernel_rfl) (by simp only [List.getElem?_toArray, List.getElem?_cons_succ, List.getElem?_cons_zero]; exact rfl) (fun K hK => ?_)
            rw [if_pos (by rfl)]
            refine wp_store_cm (z := zeroC) rfl rfl rfl HC.out ?_
            intro wt81 hn hg
            replace HA := hide (HA.out.grown hg (by simpa using hne.symm))
            replace HD := hide (below_own HD.out hg HQgc.out)
            replace HC := hide hn
            clear hn hg
            refine hK.out _ _ (fun _ _ => HD.out) ?_
            clear hK K
            try simp only [Act.put]
            refine anyU_one (i := 16) (by kernel_rfl) (by simp only [List.getElem?_toArray, List.getElem?_cons_succ, List.getElem?_cons_zero]; exact rfl) (fun K hK => ?_)
            rw [if_pos (by rfl)]
            refine wp_store_at (z := zero8) rfl hp8 rfl rfl HA.out rfl ?_
            intro wt82 hn hg
            replace HC := hide (HC.out.grown hg (by simpa using hne))
            replace HD := hide (below_own HD.out hg HQga.out)
            replace HA := hide hn
            clear hn hg hne
            refine hK.out _ _ (fun e _ => absurd rfl e) ?_
            clear hK K
            try simp only [Act.put]
            refine anyU_done (by kernel_rfl) ?_
            refine NoPanic.normal ?_
            try simp only [Act.put]
            go_wp2
            go_meet
            exact ⟨rfl, gc, rfl, ga, rfl, HD, HC, HA⟩
          · skip
            try go_simp
            have HC := hide (show Row (wt78.alloc (.cells #[.int .i64 0, .int .i64 0, .int .i64 0, .string ⟨#[]⟩, .string ⟨#[]⟩, .string ⟨#[]⟩, .string ⟨#[]⟩] 32)) wt78.heap.size 32 (rowC zeroC) from Row.new wt78 _ _)
            replace HA := hide (HA.out.below (kept_alloc (kept_refl wt78) (.cells #[.int .i64 0, .int .i64 0, .int .i64 0, .string ⟨#[]⟩, .string ⟨#[]⟩, .string ⟨#[]⟩, .string ⟨#[]⟩] 32)) HA.out.lt)
            have HQgc := hide HD.out.size
            replace HD := hide (kept_trans HD.out (kept_alloc (kept_refl wt78) (.cells #[.int .i64 0, .int .i64 0, .int .i64 0, .string ⟨#[]⟩, .string ⟨#[]⟩, .string ⟨#[]⟩, .string ⟨#[]⟩] 32)))
            generalize wt78.alloc (.cells #[.int .i64 0, .int .i64 0, .int .i64 0, .string ⟨#[]⟩, .string ⟨#[]⟩, .string ⟨#[]⟩, .string ⟨#[]⟩] 32) = wt83 at HD HC HA ⊢
            generalize wt78.heap.size = gc at HC HQgc ⊢
            refine hK.out _ _ (fun _ _ => HD.out) ?_
            clear hK K
            try simp only [Act.put, List.setIfInBounds_toArray, List.set_cons_zero, List.set_cons_succ]
            refine anyU_one (i := 7) (by kernel_rfl) (by simp only [List.getElem?_toArray, List.getElem?_cons_succ, List.getElem?_cons_zero]; exact rfl) (fun K hK => ?_)
            try go_simp
            refine (HPE.out _ HD.out).mono ?_
            rintro e wt84 ⟨rfl, hb⟩
            replace HD := hide (kept_trans HD.out hb)
            replace HC := hide (HC.out.below hb HC.out.lt)
            replace HA := hide (HA.out.below hb HA.out.lt)
            clear hb
            refine hK.out _ _ (fun _ _ => HD.out) ?_
            clear hK K
            try simp only [Act.put, List.setIfInBounds_toArray, List.set_cons_zero, List.set_cons_succ]
            refine anyU_take2 (i := 8) (v := .tuple #[.int .i64 P1, .agg (rowC Pc), .agg (cA Pa)]) (by simp only [List.getElem?_toArray, List.getElem?_cons_succ, List.getElem?_cons_zero]; exact rfl) (by kernel_rfl) 12 (by kernel_rfl) (by kernel_rfl) (fun _ _ _ h => h) (by kernel_rfl) (by kernel_rfl) (by kernel_rfl) (by kernel_rfl) (Or.inl ⟨by rfl, fun w hSw => (by go_simp; try with_reducible rfl)⟩) (by with_reducible exact HD.out) ?_
            try simp only [Act.put, List.setIfInBounds_toArray, List.set_cons_zero, List.set_cons_succ]
            refine anyU_take2 (i := 9) (v := .int .i64 P1) (by simp only [List.getElem?_toArray, List.getElem?_cons_succ, List.getElem?_cons_zero]; exact rfl) (by kernel_rfl) 12 (by kernel_rfl) (by kernel_rfl) (fun _ _ _ h => h) (by kernel_rfl) (by kernel_rfl) (by kernel_rfl) (by kernel_rfl) (Or.inl ⟨by rfl, fun w hSw => (by go_simp; try with_reducible rfl)⟩) (by with_reducible exact HD.out) ?_
            try simp only [Act.put, List.setIfInBounds_toArray, List.set_cons_zero, List.set_cons_succ]
            refine anyU_take2 (i := 10) (v := .agg (rowC Pc)) (by simp only [List.getElem?_toArray, List.getElem?_cons_succ, List.getElem?_cons_zero]; exact rfl) (by kernel_rfl) 12 (by kernel_rfl) (by kernel_rfl) (fun _ _ _ h => h) (by kernel_rfl) (by kernel_rfl) (by kernel_rfl) (by kernel_rfl) (Or.inl ⟨by rfl, fun w hSw => (by go_simp; try with_reducible rfl)⟩) (by with_reducible exact HD.out) ?_
            try simp only [Act.put, List.setIfInBounds_toArray, List.set_cons_zero, List.set_cons_succ]
            refine anyU_take2 (i := 11) (v := .agg (cA Pa)) (by simp only [List.getElem?_toArray, List.getElem?_cons_succ, List.getElem?_cons_zero]; exact rfl) (by kernel_rfl) 12 (by kernel_rfl) (by kernel_rfl) (fun _ _ _ h => h) (by kernel_rfl) (by kernel_rfl) (by kernel_rfl) (by kernel_rfl) (Or.inl ⟨by rfl, fun w hSw => (by go_simp; try with_reducible rfl)⟩) (by with_reducible exact HD.out) ?_
            try simp only [Act.put, List.setIfInBounds_toArray, List.set_cons_zero, List.set_cons_succ]
            refine anyU_take2 (i := 14) (v := .int .i64 P1) (by simp only [List.getElem?_toArray, List.getElem?_cons_succ, List.getElem?_cons_zero]; exact rfl) (by kernel_rfl) 12 (by kernel_rfl) (by kernel_rfl) (fun _ _ _ h => h) (by kernel_rfl) (by kernel_rfl) (by kernel_rfl) (by kernel_rfl) (Or.inl ⟨by rfl, fun w hSw => (by go_simp; try with_reducible rfl)⟩) (by with_reducible exact HD.out) ?_
            try simp only [Act.put, List.setIfInBounds_toArray, List.set_cons_zero, List.set_cons_succ]
            have hne := rows_apart HC.out HA.out (by decide)
            refine anyU_one (i := 15) (by kernel_rfl) (by simp only [List.getElem?_toArray, List.getElem?_cons_succ, List.getElem?_cons_zero]; exact rfl) (fun K hK => ?_)
            rw [if_pos (by rfl)]
            refine wp_store_cm (z := zeroC) rfl rfl rfl HC.out ?_
            intro wt85 hn hg
            replace HA := hide (HA.out.grown hg (by simpa using hne.symm))
            replace HD := hide (below_own HD.out hg HQgc.out)
            replace HC := hide hn
            clear hn hg
            refine hK.out _ _ (fun _ _ => HD.out) ?_
            clear hK K
            try simp only [Act.put]
            refine anyU_one (i := 16) (by kernel_rfl) (by simp only [List.getElem?_toArray, List.getElem?_cons_succ, List.getElem?_cons_zero]; exact rfl) (fun K hK => ?_)
            rw [if_pos (by rfl)]
            refine wp_store_at (z := zero8) rfl hp8 rfl rfl HA.out rfl ?_
            intro wt86 hn hg
            replace HC := hide (HC.out.grown hg (by simpa using hne))
            replace HD := hide (below_own HD.out hg HQga.out)
            replace HA := hide hn
            clear hn hg hne
            refine hK.out _ _ (fun e _ => absurd rfl e) ?_
            clear hK K
            try simp only [Act.put]
            refine anyU_done (by kernel_rfl) ?_
            refine NoPanic.normal ?_
            try simp only [Act.put]
            go_wp2
            go_meet
            exact ⟨rfl, gc, rfl, ga, rfl, HD, HC, HA⟩
      · skip
        try go_simp
        have HC := hide (show Row (wd.alloc (.cells #[.int .i64 0, .int .i64 0, .int .i64 0, .string ⟨#[]⟩, .string ⟨#[]⟩, .string ⟨#[]⟩, .string ⟨#[]⟩] 32)) wd.heap.size 32 (rowC zeroC) from Row.new wd _ _)
        have HQgc := hide HD.out.size
        replace HD := hide (kept_trans HD.out (kept_alloc (kept_refl wd) (.cells #[.int .i64 0, .int .i64 0, .int .i64 0, .string ⟨#[]⟩, .string ⟨#[]⟩, .string ⟨#[]⟩, .string ⟨#[]⟩] 32)))
        generalize wd.alloc (.cells #[.int .i64 0, .int .i64 0, .int .i64 0, .string ⟨#[]⟩, .string ⟨#[]⟩, .string ⟨#[]⟩, .string ⟨#[]⟩] 32) = wt87 at HD HC ⊢
        generalize wd.heap.size = gc at HC HQgc ⊢
        refine hK.out _ _ (fun _ _ => HD.out) ?_
        clear hK K
        try simp only [Act.put, List.setIfInBounds_toArray, List.set_cons_zero, List.set_cons_succ]
        refine anyU_two (i := 1) (j := 13) (by kernel_rfl) (by simp only [List.getElem?_toArray, List.getElem?_cons_succ, List.getElem?_cons_zero]; exact rfl) (by simp only [List.getElem?_toArray, List.getElem?_cons_succ, List.getElem?_cons_zero]; exact rfl) (fun K hK => ?_) (fun K hK => ?_)
        · skip
          try go_simp
          refine (HF.out _).mono ?_
          rintro e wt88 ⟨rfl, hb⟩
          replace HD := hide (kept_trans HD.out hb)
          replace HC := hide (HC.out.below hb HC.out.lt)
          clear hb
          refine hK.out _ _ (fun _ _ => HD.out) ?_
          clear hK K
          try simp only [Act.put, List.setIfInBounds_toArray, List.set_cons_zero, List.set_cons_succ]
          refine anyU_two (i := 7) (j := 13) (by kernel_rfl) (by simp only [List.getElem?_toArray, List.getElem?_cons_succ, List.getElem?_cons_zero]; exact rfl) (by simp only [List.getElem?_toArray, List.getElem?_cons_succ, List.getElem?_cons_zero]; exact rfl) (fun K hK => ?_) (fun K hK => ?_)
          · skip
            try go_simp
            refine (HPE.out _ HD.out).mono ?_
            rintro e wt89 ⟨rfl, hb⟩
            replace HD := hide (kept_trans HD.out hb)
            replace HC := hide (HC.out.below hb HC.out.lt)
            clear hb
            refine hK.out _ _ (fun _ _ => HD.out) ?_
            clear hK K
            try simp only [Act.put, List.setIfInBounds_toArray, List.set_cons_zero, List.set_cons_succ]
            refine anyU_take2 (i := 8) (v := .tuple #[.int .i64 P1, .agg (rowC Pc), .agg (cA Pa)]) (by simp only [List.getElem?_toArray, List.getElem?_cons_succ, List.getElem?_cons_zero]; exact rfl) (by kernel_rfl) 12 (by kernel_rfl) (by kernel_rfl) (fun _ _ _ h => h) (by kernel_rfl) (by kernel_rfl) (by kernel_rfl) (by kernel_rfl) (Or.inl ⟨by rfl, fun w hSw => (by go_simp; try with_reducible rfl)⟩) (by with_reducible exact HD.out) ?_
            try simp only [Act.put, List.setIfInBounds_toArray, List.set_cons_zero, List.set_cons_succ]
            refine anyU_take2 (i := 9) (v := .int .i64 P1) (by simp only [List.getElem?_toArray, List.getElem?_cons_succ, List.getElem?_cons_zero]; exact rfl) (by kernel_rfl) 12 (by kernel_rfl) (by kernel_rfl) (fun _ _ _ h => h) (by kernel_rfl) (by kernel_rfl) (by kernel_rfl) (by kernel_rfl) (Or.inl ⟨by rfl, fun w hSw => (by go_simp; try with_reducible rfl)⟩) (by with_reducible exact HD.out) ?_
            try simp only [Act.put, List.setIfInBounds_toArray, List.set_cons_zero, List.set_cons_succ]
            refine anyU_take2 (i := 10) (v := .agg (rowC Pc)) (by simp only [List.getElem?_toArray, List.getElem?_cons_succ, List.getElem?_cons_zero]; exact rfl) (by kernel_rfl) 12 (by kernel_rfl) (by kernel_rfl) (fun _ _ _ h => h) (by kernel_rfl) (by kernel_rfl) (by kernel_rfl) (by kernel_rfl) (Or.inl ⟨by rfl, fun w hSw => (by go_simp; try with_reducible rfl)⟩) (by with_reducible exact HD.out) ?_
            try simp only [Act.put, List.setIfInBounds_toArray, List.set_cons_zero, List.set_cons_succ]
            refine anyU_take2 (i := 11) (v := .agg (cA Pa)) (by simp only [List.getElem?_toArray, List.getElem?_cons_succ, List.getElem?_cons_zero]; exact rfl) (by kernel_rfl) 12 (by kernel_rfl) (by kernel_rfl) (fun _ _ _ h => h) (by kernel_rfl) (by kernel_rfl) (by kernel_rfl) (by kernel_rfl) (Or.inl ⟨by rfl, fun w hSw => (by go_simp; try with_reducible rfl)⟩) (by with_reducible exact HD.out) ?_
            try simp only [Act.put, List.setIfInBounds_toArray, List.set_cons_zero, List.set_cons_succ]
            refine anyU_one (i := 13) (by kernel_rfl) (by simp only [List.getElem?_toArray, List.getElem?_cons_succ, List.getElem?_cons_zero]; exact rfl) (fun K hK => ?_)
            try go_simp
            have HA := hide (show Row (wt89.alloc (.cells #[.int .i64 0, .int .i64 0, .int .i64 0, .int .i64 0, .int .i64 0, .int .i64 0, .int .i64 0, .int .i64 0] 26)) wt89.heap.size 26 (cA zero8) from Row.new wt89 _ _)
            replace HC := hide (HC.out.below (kept_alloc (kept_refl wt89) (.cells #[.int .i64 0, .int .i64 0, .int .i64 0, .int .i64 0, .int .i64 0, .int .i64 0, .int .i64 0, .int .i64 0] 26)) HC.out.lt)
            have HQga := hide HD.out.size
            replace HD := hide (kept_trans HD.out (kept_alloc (kept_refl wt89) (.cells #[.int .i64 0, .int .i64 0, .int .i64 0, .int .i64 0, .int .i64 0, .int .i64 0, .int .i64 0, .int .i64 0] 26)))
            generalize wt89.alloc (.cells #[.int .i64 0, .int .i64 0, .int .i64 0, .int .i64 0, .int .i64 0, .int .i64 0, .int .i64 0, .int .i64 0] 26) = wt90 at HD HA HC ⊢
            generalize wt89.heap.size = ga at HA HQga ⊢
            refine hK.out _ _ (fun _ _ => HD.out) ?_
            clear hK K
            try simp only [Act.put, List.setIfInBounds_toArray, List.set_cons_zero, List.set_cons_succ]
            refine anyU_take2 (i := 14) (v := .int .i64 P1) (by simp only [List.getElem?_toArray, List.getElem?_cons_succ, List.getElem?_cons_zero]; exact rfl) (by kernel_rfl) 12 (by kernel_rfl) (by kernel_rfl) (fun _ _ _ h => h) (by kernel_rfl) (by kernel_rfl) (by kernel_rfl) (by kernel_rfl) (Or.inl ⟨by rfl, fun w hSw => (by go_simp; try with_reducible rfl)⟩) (by with_reducible exact HD.out) ?_
            try simp only [Act.put, List.setIfInBounds_toArray, List.set_cons_zero, List.set_cons_succ]
            have hne := rows_apart HC.out HA.out (by decide)
            refine anyU_one (i := 15) (by kernel_rfl) (by simp only [List.getElem?_toArray, List.getElem?_cons_succ, List.getElem?_cons_zero]; exact rfl) (fun K hK => ?_)
            rw [if_pos (by rfl)]
            refine wp_store_cm (z := zeroC) rfl rfl rfl HC.out ?_
            intro wt91 hn hg
            replace HA := hide (HA.out.grown hg (by simpa using hne.symm))
            replace HD := hide (below_own HD.out hg HQgc.out)
            replace HC := hide hn
            clear hn hg
            refine hK.out _ _ (fun _ _ => HD.out) ?_
            clear hK K
            try simp only [Act.put]
            refine anyU_one (i := 16) (by kernel_rfl) (by simp only [List.getElem?_toArray, List.getElem?_cons_succ, List.getElem?_cons_zero]; exact rfl) (fun K hK => ?_)
            rw [if_pos (by rfl)]
            refine wp_store_at (z := zero8) rfl hp8 rfl rfl HA.out rfl ?_
            intro wt92 hn hg
            replace HC := hide (HC.out.grown hg (by simpa using hne))
            replace HD := hide (below_own HD.out hg HQga.out)
            replace HA := hide hn
            clear hn hg hne
            refine hK.out _ _ (fun e _ => absurd rfl e) ?_
            clear hK K
            try simp only [Act.put]
            refine anyU_done (by kernel_rfl) ?_
            refine NoPanic.normal ?_
            try simp only [Act.put]
            go_wp2
            go_meet
            exact ⟨rfl, gc, rfl, ga, rfl, HD, HC, HA⟩
          · skip
            try go_simp
            have HA := hide (show Row (wt88.alloc (.cells #[.int .i64 0, .int .i64 0, .int .i64 0, .int .i64 0, .int .i64 0, .int .i64 0, .int .i64 0, .int .i64 0] 26)) wt88.heap.size 26 (cA zero8) from Row.new wt88 _ _)
            replace HC := hide (HC.out.below (kept_alloc (kept_refl wt88) (.cells #[.int .i64 0, .int .i64 0, .int .i64 0, .int .i64 0, .int .i64 0, .int .i64 0, .int .i64 0, .int .i64 0] 26)) HC.out.lt)
            have HQga := hide HD.out.size
            replace HD := hide (kept_trans HD.out (kept_alloc (kept_refl wt88) (.cells #[.int .i64 0, .int .i64 0, .int .i64 0, .int .i64 0, .int .i64 0, .int .i64 0, .int .i64 0, .int .i64 0] 26)))
            generalize wt88.alloc (.cells #[.int .i64 0, .int .i64 0, .int .i64 0, .int .i64 0, .int .i64 0, .int .i64 0, .int .i64 0, .int .i64 0] 26) = wt93 at HD HA HC ⊢
            generalize wt88.heap.size = ga at HA HQga ⊢
            refine hK.out _ _ (fun _ _ => HD.out) ?_
            clear hK K
            try simp only [Act.put, List.setIfInBounds_toArray, List.set_cons_zero, List.set_cons_succ]
            refine anyU_one (i := 7) (by kernel_rfl) (by simp only [List.getElem?_toArray, List.getElem?_cons_succ, List.getElem?_cons_zero]; exact rfl) (fun K hK => ?_)
            try go_simp
            refine (HPE.out _ HD.out).mono ?_
            rintro e wt94 ⟨rfl, hb⟩
            replace HD := hide (kept_trans HD.out hb)
            replace HC := hide (HC.out.below hb HC.out.lt)
            replace HA := hide (HA.out.below hb HA.out.lt)
            clear hb
            refine hK.out _ _ (fun _ _ => HD.out) ?_
            clear hK K
            try simp only [Act.put, List.setIfInBounds_toArray, List.set_cons_zero, List.set_cons_succ]
            refine anyU_take2 (i := 8) (v := .tuple #[.int .i64 P1, .agg (rowC Pc), .agg (cA Pa)]) (by simp only [List.getElem?_toArray, List.getElem?_cons_succ, List.getElem?_cons_zero]; exact rfl) (by kernel_rfl) 12 (by kernel_rfl) (by kernel_rfl) (fun _ _ _ h => h) (by kernel_rfl) (by kernel_rfl) (by kernel_rfl) (by kernel_rfl) (Or.inl ⟨by rfl, fun w hSw => (by go_simp; try with_reducible rfl)⟩) (by with_reducible exact HD.out) ?_
            try simp only [Act.put, List.setIfInBounds_toArray, List.set_cons_zero, List.set_cons_succ]
            refine anyU_take2 (i := 9) (v := .int .i64 P1) (by simp only [List.getElem?_toArray, List.getElem?_cons_succ, List.getElem?_cons_zero]; exact rfl) (by kernel_rfl) 12 (by kernel_rfl) (by kernel_rfl) (fun _ _ _ h => h) (by kernel_rfl) (by kernel_rfl) (by kernel_rfl) (by kernel_rfl) (Or.inl ⟨by rfl, fun w hSw => (by go_simp; try with_reducible rfl)⟩) (by with_reducible exact HD.out) ?_
            try simp only [Act.put, List.setIfInBounds_toArray, List.set_cons_zero, List.set_cons_succ]
            refine anyU_take2 (i := 10) (v := .agg (rowC Pc)) (by simp only [List.getElem?_toArray, List.getElem?_cons_succ, List.getElem?_cons_zero]; exact rfl) (by kernel_rfl) 12 (by kernel_rfl) (by kernel_rfl) (fun _ _ _ h => h) (by kernel_rfl) (by kernel_rfl) (by kernel_rfl) (by kernel_rfl) (Or.inl ⟨by rfl, fun w hSw => (by go_simp; try with_reducible rfl)⟩) (by with_reducible exact HD.out) ?_
            try simp only [Act.put, List.setIfInBounds_toArray, List.set_cons_zero, List.set_cons_succ]
            refine anyU_take2 (i := 11) (v := .agg (cA Pa)) (by simp only [List.getElem?_toArray, List.getElem?_cons_succ, List.getElem?_cons_zero]; exact rfl) (by kernel_rfl) 12 (by kernel_rfl) (by kernel_rfl) (fun _ _ _ h => h) (by kernel_rfl) (by kernel_rfl) (by kernel_rfl) (by kernel_rfl) (Or.inl ⟨by rfl, fun w hSw => (by go_simp; try with_reducible rfl)⟩) (by with_reducible exact HD.out) ?_
            try simp only [Act.put, List.setIfInBounds_toArray, List.set_cons_zero, List.set_cons_succ]
            refine anyU_take2 (i := 14) (v := .int .i64 P1) (by simp only [List.getElem?_toArray, List.getElem?_cons_succ, List.getElem?_cons_zero]; exact rfl) (by kernel_rfl) 12 (by kernel_rfl) (by kernel_rfl) (fun _ _ _ h => h) (by kernel_rfl) (by kernel_rfl) (by kernel_rfl) (by kernel_rfl) (Or.inl ⟨by rfl, fun w hSw => (by go_simp; try with_reducible rfl)⟩) (by with_reducible exact HD.out) ?_
            try simp only [Act.put, List.setIfInBounds_toArray, List.set_cons_zero, List.set_cons_succ]
            have hne := rows_apart HC.out HA.out (by decide)
            refine anyU_one (i := 15) (by kernel_rfl) (by simp only [List.getElem?_toArray, List.getElem?_cons_succ, List.getElem?_cons_zero]; exact rfl) (fun K hK => ?_)
            rw [if_pos (by rfl)]
            refine wp_store_cm (z := zeroC) rfl rfl rfl HC.out ?_
            intro wt95 hn hg
            replace HA := hide (HA.out.grown hg (by simpa using hne.symm))
            replace HD := hide (below_own HD.out hg HQgc.out)
            replace HC := hide hn
            clear hn hg
            refine hK.out _ _ (fun _ _ => HD.out) ?_
            clear hK K
            try simp only [Act.put]
            refine anyU_one (i := 16) (by kernel_rfl) (by simp only [List.getElem?_toArray, List.getElem?_cons_succ, List.getElem?_cons_zero]; exact rfl) (fun K hK => ?_)
            rw [if_pos (by rfl)]
            refine wp_store_at (z := zero8) rfl hp8 rfl rfl HA.out rfl ?_
            intro wt96 hn hg
            replace HC := hide (HC.out.grown hg (by simpa using hne))
            replace HD := hide (below_own HD.out hg HQga.out)
            replace HA := hide hn
            clear hn hg hne
            refine hK.out _ _ (fun e _ => absurd rfl e) ?_
            clear hK K
            try simp only [Act.put]
            refine anyU_done (by kernel_rfl) ?_
            refine NoPanic.normal ?_
            try simp only [Act.put]
            go_wp2
            go_meet
            exact ⟨rfl, gc, rfl, ga, rfl, HD, HC, HA⟩
        · skip
          try go_simp
          have HA := hide (show Row (wt87.alloc (.cells #[.int .i64 0, .int .i64 0, .int .i64 0, .int .i64 0, .int .i64 0, .int .i64 0, .int .i64 0, .int .i64 0] 26)) wt87.heap.size 26 (cA zero8) from Row.new wt87 _ _)
          replace HC := hide (HC.out.below (kept_alloc (kept_refl wt87) (.cells #[.int .i64 0, .int .i64 0, .int .i64 0, .int .i64 0, .int .i64 0, .int .i64 0, .int .i64 0, .int .i64 0] 26)) HC.out.lt)
          have HQga := hide HD.out.size
          replace HD := hide (kept_trans HD.out (kept_alloc (kept_refl wt87) (.cells #[.int .i64 0, .int .i64 0, .int .i64 0, .int .i64 0, .int .i64 0, .int .i64 0, .int .i64 0, .int .i64 0] 26)))
          generalize wt87.alloc (.cells #[.int .i64 0, .int .i64 0, .int .i64 0, .int .i64 0, .int .i64 0, .int .i64 0, .int .i64 0, .int .i64 0] 26) = wt97 at HD HA HC ⊢
          generalize wt87.heap.size = ga at HA HQga ⊢
          refine hK.out _ _ (fun _ _ => HD.out) ?_
          clear hK K
          try simp only [Act.put, List.setIfInBounds_toArray, List.set_cons_zero, List.set_cons_succ]
          refine anyU_one (i := 1) (by kernel_rfl) (by simp only [List.getElem?_toArray, List.getElem?_cons_succ, List.getElem?_cons_zero]; exact rfl) (fun K hK => ?_)
          try go_simp
          refine (HF.out _).mono ?_
          rintro e wt98 ⟨rfl, hb⟩
          replace HD := hide (kept_trans HD.out hb)
          replace HC := hide (HC.out.below hb HC.out.lt)
          replace HA := hide (HA.out.below hb HA.out.lt)
          clear hb
          refine hK.out _ _ (fun _ _ => HD.out) ?_
          clear hK K
          try simp only [Act.put, List.setIfInBounds_toArray, List.set_cons_zero, List.set_cons_succ]
          refine anyU_one (i := 7) (by kernel_rfl) (by simp only [List.getElem?_toArray, List.getElem?_cons_succ, List.getElem?_cons_zero]; exact rfl) (fun K hK => ?_)
          try go_simp
          refine (HPE.out _ HD.out).mono ?_
          rintro e wt99 ⟨rfl, hb⟩
          replace HD := hide (kept_trans HD.out hb)
          replace HC := hide (HC.out.below hb HC.out.lt)
          replace HA := hide (HA.out.below hb HA.out.lt)
          clear hb
          refine hK.out _ _ (fun _ _ => HD.out) ?_
          clear hK K
          try simp only [Act.put, List.setIfInBounds_toArray, List.set_cons_zero, List.set_cons_succ]
          refine anyU_take2 (i := 8) (v := .tuple #[.int .i64 P1, .agg (rowC Pc), .agg (cA Pa)]) (by simp only [List.getElem?_toArray, List.getElem?_cons_succ, List.getElem?_cons_zero]; exact rfl) (by kernel_rfl) 12 (by kernel_rfl) (by kernel_rfl) (fun _ _ _ h => h) (by kernel_rfl) (by kernel_rfl) (by kernel_rfl) (by kernel_rfl) (Or.inl ⟨by rfl, fun w hSw => (by go_simp; try with_reducible rfl)⟩) (by with_reducible exact HD.out) ?_
          try simp only [Act.put, List.setIfInBounds_toArray, List.set_cons_zero, List.set_cons_succ]
          refine anyU_take2 (i := 9) (v := .int .i64 P1) (by simp only [List.getElem?_toArray, List.getElem?_cons_succ, List.getElem?_cons_zero]; exact rfl) (by kernel_rfl) 12 (by kernel_rfl) (by kernel_rfl) (fun _ _ _ h => h) (by kernel_rfl) (by kernel_rfl) (by kernel_rfl) (by kernel_rfl) (Or.inl ⟨by rfl, fun w hSw => (by go_simp; try with_reducible rfl)⟩) (by with_reducible exact HD.out) ?_
          try simp only [Act.put, List.setIfInBounds_toArray, List.set_cons_zero, List.set_cons_succ]
          refine anyU_take2 (i := 10) (v := .agg (rowC Pc)) (by simp only [List.getElem?_toArray, List.getElem?_cons_succ, List.getElem?_cons_zero]; exact rfl) (by kernel_rfl) 12 (by kernel_rfl) (by kernel_rfl) (fun _ _ _ h => h) (by kernel_rfl) (by kernel_rfl) (by kernel_rfl) (by kernel_rfl) (Or.inl ⟨by rfl, fun w hSw => (by go_simp; try with_reducible rfl)⟩) (by with_reducible exact HD.out) ?_
          try simp only [Act.put, List.setIfInBounds_toArray, List.set_cons_zero, List.set_cons_succ]
          refine anyU_take2 (i := 11) (v := .agg (cA Pa)) (by simp only [List.getElem?_toArray, List.getElem?_cons_succ, List.getElem?_cons_zero]; exact rfl) (by kernel_rfl) 12 (by kernel_rfl) (by kernel_rfl) (fun _ _ _ h => h) (by kernel_rfl) (by kernel_rfl) (by kernel_rfl) (by kernel_rfl) (Or.inl ⟨by rfl, fun w hSw => (by go_simp; try with_reducible rfl)⟩) (by with_reducible exact HD.out) ?_
          try simp only [Act.put, List.setIfInBounds_toArray, List.set_cons_zero, List.set_cons_succ]
          refine anyU_take2 (i := 14) (v := .int .i64 P1) (by simp only [List.getElem?_toArray, List.getElem?_cons_succ, List.getElem?_cons_zero]; exact rfl) (by kernel_rfl) 12 (by kernel_rfl) (by kernel_rfl) (fun _ _ _ h => h) (by kernel_rfl) (by kernel_rfl) (by kernel_rfl) (by kernel_rfl) (Or.inl ⟨by rfl, fun w hSw => (by go_simp; try with_reducible rfl)⟩) (by with_reducible exact HD.out) ?_
          try simp only [Act.put, List.setIfInBounds_toArray, List.set_cons_zero, List.set_cons_succ]
          have hne := rows_apart HC.out HA.out (by decide)
          refine anyU_one (i := 15) (by kernel_rfl) (by simp only [List.getElem?_toArray, List.getElem?_cons_succ, List.getElem?_cons_zero]; exact rfl) (fun K hK => ?_)
          rw [if_pos (by rfl)]
          refine wp_store_cm (z := zeroC) rfl rfl rfl HC.out ?_
          intro wt100 hn hg
          replace HA := hide (HA.out.grown hg (by simpa using hne.symm))
          replace HD := hide (below_own HD.out hg HQgc.out)
          replace HC := hide hn
          clear hn hg
          refine hK.out _ _ (fun _ _ => HD.out) ?_
          clear hK K
          try simp only [Act.put]
          refine anyU_one (i := 16) (by kernel_rfl) (by simp only [List.getElem?_toArray, List.getElem?_cons_succ, List.getElem?_cons_zero]; exact rfl) (fun K hK => ?_)
          rw [if_pos (by rfl)]
          refine wp_store_at (z := zero8) rfl hp8 rfl rfl HA.out rfl ?_
          intro wt101 hn hg
          replace HC := hide (HC.out.grown hg (by simpa using hne))
          replace HD := hide (below_own HD.out hg HQga.out)
          replace HA := hide hn
          clear hn hg hne
          refine hK.out _ _ (fun e _ => absurd rfl e) ?_
          clear hK K
          try simp only [Act.put]
          refine anyU_done (by kernel_rfl) ?_
          refine NoPanic.normal ?_
          try simp only [Act.put]
          go_wp2
          go_meet
          exact ⟨rfl, gc, rfl, ga, rfl, HD, HC, HA⟩
      · skip
        try go_simp
        have HA := hide (show Row (wd.alloc (.cells #[.int .i64 0, .int .i64 0, .int .i64 0, .int .i64 0, .int .i64 0, .int .i64 0, .int .i64 0, .int .i64 0] 26)) wd.heap.size 26 (cA zero8) from Row.new wd _ _)
        have HQga := hide HD.out.size
        replace HD := hide (kept_trans HD.out (kept_alloc (kept_refl wd) (.cells #[.int .i64 0, .int .i64 0, .int .i64 0, .int .i64 0, .int .i64 0, .int .i64 0, .int .i64 0, .int .i64 0] 26)))
        generalize wd.alloc (.cells #[.int .i64 0, .int .i64 0, .int .i64 0, .int .i64 0, .int .i64 0, .int .i64 0, .int .i64 0, .int .i64 0] 26) = wt102 at HD HA ⊢
        generalize wd.heap.size = ga at HA HQga ⊢
        refine hK.out _ _ (fun _ _ => HD.out) ?_
        clear hK K
        try simp only [Act.put, List.setIfInBounds_toArray, List.set_cons_zero, List.set_cons_succ]
        refine anyU_two (i := 1) (j := 12) (by kernel_rfl) (by simp only [List.getElem?_toArray, List.getElem?_cons_succ, List.getElem?_cons_zero]; exact rfl) (by simp only [List.getElem?_toArray, List.getElem?_cons_succ, List.getElem?_cons_zero]; exact rfl) (fun K hK => ?_) (fun K hK => ?_)
        · skip
          try go_simp
          refine (HF.out _).mono ?_
          rintro e wt103 ⟨rfl, hb⟩
          replace HD := hide (kept_trans HD.out hb)
          replace HA := hide (HA.out.below hb HA.out.lt)
          clear hb
          refine hK.out _ _ (fun _ _ => HD.out) ?_
          clear hK K
          try simp only [Act.put, List.setIfInBounds_toArray, List.set_cons_zero, List.set_cons_succ]
          refine anyU_two (i := 7) (j := 12) (by kernel_rfl) (by simp only [List.getElem?_toArray, List.getElem?_cons_succ, List.getElem?_cons_zero]; exact rfl) (by simp only [List.getElem?_toArray, List.getElem?_cons_succ, List.getElem?_cons_zero]; exact rfl) (fun K hK => ?_) (fun K hK => ?_)
          · skip
            try go_simp
            refine (HPE.out _ HD.out).mono ?_
            rintro e wt104 ⟨rfl, hb⟩
            replace HD := hide (kept_trans HD.out hb)
            replace HA := hide (HA.out.below hb HA.out.lt)
            clear hb
            refine hK.out _ _ (fun _ _ => HD.out) ?_
            clear hK K
            try simp only [Act.put, List.setIfInBounds_toArray, List.set_cons_zero, List.set_cons_succ]
            refine anyU_take2 (i := 8) (v := .tuple #[.int .i64 P1, .agg (rowC Pc), .agg (cA Pa)]) (by simp only [List.getElem?_toArray, List.getElem?_cons_succ, List.getElem?_cons_zero]; exact rfl) (by kernel_rfl) 12 (by kernel_rfl) (by kernel_rfl) (fun _ _ _ h => h) (by kernel_rfl) (by kernel_rfl) (by kernel_rfl) (by kernel_rfl) (Or.inl ⟨by rfl, fun w hSw => (by go_simp; try with_reducible rfl)⟩) (by with_reducible exact HD.out) ?_
            try simp only [Act.put, List.setIfInBounds_toArray, List.set_cons_zero, List.set_cons_succ]
            refine anyU_take2 (i := 9) (v := .int .i64 P1) (by simp only [List.getElem?_toArray, List.getElem?_cons_succ, List.getElem?_cons_zero]; exact rfl) (by kernel_rfl) 12 (by kernel_rfl) (by kernel_rfl) (fun _ _ _ h => h) (by kernel_rfl) (by kernel_rfl) (by kernel_rfl) (by kernel_rfl) (Or.inl ⟨by rfl, fun w hSw => (by go_simp; try with_reducible rfl)⟩) (by with_reducible exact HD.out) ?_
            try simp only [Act.put, List.setIfInBounds_toArray, List.set_cons_zero, List.set_cons_succ]
            refine anyU_take2 (i := 10) (v := .agg (rowC Pc)) (by simp only [List.getElem?_toArray, List.getElem?_cons_succ, List.getElem?_cons_zero]; exact rfl) (by kernel_rfl) 12 (by kernel_rfl) (by kernel_rfl) (fun _ _ _ h => h) (by kernel_rfl) (by kernel_rfl) (by kernel_rfl) (by kernel_rfl) (Or.inl ⟨by rfl, fun w hSw => (by go_simp; try with_reducible rfl)⟩) (by with_reducible exact HD.out) ?_
            try simp only [Act.put, List.setIfInBounds_toArray, List.set_cons_zero, List.set_cons_succ]
            refine anyU_take2 (i := 11) (v := .agg (cA Pa)) (by simp only [List.getElem?_toArray, List.getElem?_cons_succ, List.getElem?_cons_zero]; exact rfl) (by kernel_rfl) 12 (by kernel_rfl) (by kernel_rfl) (fun _ _ _ h => h) (by kernel_rfl) (by kernel_rfl) (by kernel_rfl) (by kernel_rfl) (Or.inl ⟨by rfl, fun w hSw => (by go_simp; try with_reducible rfl)⟩) (by with_reducible exact HD.out) ?_
            try simp only [Act.put, List.setIfInBounds_toArray, List.set_cons_zero, List.set_cons_succ]
            refine anyU_one (i := 12) (by kernel_rfl) (by simp only [List.getElem?_toArray, List.getElem?_cons_succ, List.getElem?_cons_zero]; exact rfl) (fun K hK => ?_)
            try go_simp
            have HC := hide (show Row (wt104.alloc (.cells #[.int .i64 0, .int .i64 0, .int .i64 0, .string ⟨#[]⟩, .string ⟨#[]⟩, .string ⟨#[]⟩, .string ⟨#[]⟩] 32)) wt104.heap.size 32 (rowC zeroC) from Row.new wt104 _ _)
            replace HA := hide (HA.out.below (kept_alloc (kept_refl wt104) (.cells #[.int .i64 0, .int .i64 0, .int .i64 0, .string ⟨#[]⟩, .string ⟨#[]⟩, .string ⟨#[]⟩, .string ⟨#[]⟩] 32)) HA.out.lt)
            have HQgc := hide HD.out.size
            replace HD := hide (kept_trans HD.out (kept_alloc (kept_refl wt104) (.cells #[.int .i64 0, .int .i64 0, .int .i64 0, .string ⟨#[]⟩, .string ⟨#[]⟩, .string ⟨#[]⟩, .string ⟨#[]⟩] 32)))
            generalize wt104.alloc (.cells #[.int .i64 0, .int .i64 0, .int .i64 0, .string ⟨#[]⟩, .string ⟨#[]⟩, .string ⟨#[]⟩, .string ⟨#[]⟩] 32) = wt105 at HD HC HA ⊢
            generalize wt104.heap.size = gc at HC HQgc ⊢
            refine hK.out _ _ (fun _ _ => HD.out) ?_
            clear hK K
            try simp only [Act.put, List.setIfInBounds_toArray, List.set_cons_zero, List.set_cons_succ]
            refine anyU_take2 (i := 14) (v := .int .i64 P1) (by simp only [List.getElem?_toArray, List.getElem?_cons_succ, List.getElem?_cons_zero]; exact rfl) (by kernel_rfl) 12 (by kernel_rfl) (by kernel_rfl) (fun _ _ _ h => h) (by kernel_rfl) (by kernel_rfl) (by kernel_rfl) (by kernel_rfl) (Or.inl ⟨by rfl, fun w hSw => (by go_simp; try with_reducible rfl)⟩) (by with_reducible exact HD.out) ?_
            try simp only [Act.put, List.setIfInBounds_toArray, List.set_cons_zero, List.set_cons_succ]
            have hne := rows_apart HC.out HA.out (by decide)
            refine anyU_one (i := 15) (by kernel_rfl) (by simp only [List.getElem?_toArray, List.getElem?_cons_succ, List.getElem?_cons_zero]; exact rfl) (fun K hK => ?_)
            rw [if_pos (by rfl)]
            refine wp_store_cm (z := zeroC) rfl rfl rfl HC.out ?_
            intro wt106 hn hg
            replace HA := hide (HA.out.grown hg (by simpa using hne.symm))
            replace HD := hide (below_own HD.out hg HQgc.out)
            replace HC := hide hn
            clear hn hg
            refine hK.out _ _ (fun _ _ => HD.out) ?_
            clear hK K
            try simp only [Act.put]
            refine anyU_one (i := 16) (by kernel_rfl) (by simp only [List.getElem?_toArray, List.getElem?_cons_succ, List.getElem?_cons_zero]; exact rfl) (fun K hK => ?_)
            rw [if_pos (by rfl)]
            refine wp_store_at (z := zero8) rfl hp8 rfl rfl HA.out rfl ?_
            intro wt107 hn hg
            replace HC := hide (HC.out.grown hg (by simpa using hne))
            replace HD := hide (below_own HD.out hg HQga.out)
            replace HA := hide hn
            clear hn hg hne
            refine hK.out _ _ (fun e _ => absurd rfl e) ?_
            clear hK K
            try simp only [Act.put]
            refine anyU_done (by kernel_rfl) ?_
            refine NoPanic.normal ?_
            try simp only [Act.put]
            go_wp2
            go_meet
            exact ⟨rfl, gc, rfl, ga, rfl, HD, HC, HA⟩
          · skip
            try go_simp
            have HC := hide (show Row (wt103.alloc (.cells #[.int .i64 0, .int .i64 0, .int .i64 0, .string ⟨#[]⟩, .string ⟨#[]⟩, .string ⟨#[]⟩, .string ⟨#[]⟩] 32)) wt103.heap.size 32 (rowC zeroC) from Row.new wt103 _ _)
            replace HA := hide (HA.out.below (kept_alloc (kept_refl wt103) (.cells #[.int .i64 0, .int .i64 0, .int .i64 0, .string ⟨#[]⟩, .string ⟨#[]⟩, .string ⟨#[]⟩, .string ⟨#[]⟩] 32)) HA.out.lt)
            have HQgc := hide HD.out.size
            replace HD := hide (kept_trans HD.out (kept_alloc (kept_refl wt103) (.cells #[.int .i64 0, .int .i64 0, .int .i64 0, .string ⟨#[]⟩, .string ⟨#[]⟩, .string ⟨#[]⟩, .string ⟨#[]⟩] 32)))
            generalize wt103.alloc (.cells #[.int .i64 0, .int .i64 0, .int .i64 0, .string ⟨#[]⟩, .string ⟨#[]⟩, .string ⟨#[]⟩, .string ⟨#[]⟩] 32) = wt108 at HD HC HA ⊢
            generalize wt103.heap.size = gc at HC HQgc ⊢
            refine hK.out _ _ (fun _ _ => HD.out) ?_
            clear hK K
            try simp only [Act.put, List.setIfInBounds_toArray, List.set_cons_zero, List.set_cons_succ]
            refine anyU_one (i := 7) (by kernel_rfl) (by simp only [List.getElem?_toArray, List.getElem?_cons_succ, List.getElem?_cons_zero]; exact rfl) (fun K hK => ?_)
            try go_simp
            refine (HPE.out _ HD.out).mono ?_
            rintro e wt109 ⟨rfl, hb⟩
            replace HD := hide (kept_trans HD.out hb)
            replace HC := hide (HC.out.below hb HC.out.lt)
            replace HA := hide (HA.out.below hb HA.out.lt)
            clear hb
            refine hK.out _ _ (fun _ _ => HD.out) ?_
            clear hK K
            try simp only [Act.put, List.setIfInBounds_toArray, List.set_cons_zero, List.set_cons_succ]
            refine anyU_take2 (i := 8) (v := .tuple #[.int .i64 P1, .agg (rowC Pc), .agg (cA Pa)]) (by simp only [List.getElem?_toArray, List.getElem?_cons_succ, List.getElem?_cons_zero]; exact rfl) (by kernel_rfl) 12 (by kernel_rfl) (by kernel_rfl) (fun _ _ _ h => h) (by kernel_rfl) (by kernel_rfl) (by kernel_rfl) (by kernel_rfl) (Or.inl ⟨by rfl, fun w hSw => (by go_simp; try with_reducible rfl)⟩) (by with_reducible exact HD.out) ?_
            try simp only [Act.put, List.setIfInBounds_toArray, List.set_cons_zero, List.set_cons_succ]
            refine anyU_take2 (i := 9) (v := .int .i64 P1) (by simp only [List.getElem?_toArray, List.getElem?_cons_succ, List.getElem?_cons_zero]; exact rfl) (by kernel_rfl) 12 (by kernel_rfl) (by kernel_rfl) (fun _ _ _ h => h) (by kernel_rfl) (by kernel_rfl) (by kernel_rfl) (by kernel_rfl) (Or.inl ⟨by rfl, fun w hSw => (by go_simp; try with_reducible rfl)⟩) (by with_reducible exact HD.out) ?_
            try simp only [Act.put, List.setIfInBounds_toArray, List.set_cons_zero, List.set_cons_succ]
            refine anyU_take2 (i := 10) (v := .agg (rowC Pc)) (by simp only [List.getElem?_toArray, List.getElem?_cons_succ, List.getElem?_cons_zero]; exact rfl) (by kernel_rfl) 12 (by kernel_rfl) (by kernel_rfl) (fun _ _ _ h => h) (by kernel_rfl) (by kernel_rfl) (by kernel_rfl) (by kernel_rfl) (Or.inl ⟨by rfl, fun w hSw => (by go_simp; try with_reducible rfl)⟩) (by with_reducible exact HD.out) ?_
            try simp only [Act.put, List.setIfInBounds_toArray, List.set_cons_zero, List.set_cons_succ]
            refine anyU_take2 (i := 11) (v := .agg (cA Pa)) (by simp only [List.getElem?_toArray, List.getElem?_cons_succ, List.getElem?_cons_zero]; exact rfl) (by kernel_rfl) 12 (by kernel_rfl) (by kernel_rfl) (fun _ _ _ h => h) (by kernel_rfl) (by kernel_rfl) (by kernel_rfl) (by kernel_rfl) (Or.inl ⟨by rfl, fun w hSw => (by go_simp; try with_reducible rfl)⟩) (by with_reducible exact HD.out) ?_
            try simp only [Act.put, List.setIfInBounds_toArray, List.set_cons_zero, List.set_cons_succ]
            refine anyU_take2 (i := 14) (v := .int .i64 P1) (by simp only [List.getElem?_toArray, List.getElem?_cons_succ, List.getElem?_cons_zero]; exact rfl) (by kernel_rfl) 12 (by kernel_rfl) (by kernel_rfl) (fun _ _ _ h => h) (by kernel_rfl) (by kernel_rfl) (by kernel_rfl) (by kernel_rfl) (Or.inl ⟨by rfl, fun w hSw => (by go_simp; try with_reducible rfl)⟩) (by with_reducible exact HD.out) ?_
            try simp only [Act.put, List.setIfInBounds_toArray, List.set_cons_zero, List.set_cons_succ]
            have hne := rows_apart HC.out HA.out (by decide)
            refine anyU_one (i := 15) (by kernel_rfl) (by simp only [List.getElem?_toArray, List.getElem?_cons_succ, List.getElem?_cons_zero]; exact rfl) (fun K hK => ?_)
            rw [if_pos (by rfl)]
            refine wp_store_cm (z := zeroC) rfl rfl rfl HC.out ?_
            intro wt110 hn hg
            replace HA := hide (HA.out.grown hg (by simpa using hne.symm))
            replace HD := hide (below_own HD.out hg HQgc.out)
            replace HC := hide hn
            clear hn hg
            refine hK.out _ _ (fun _ _ => HD.out) ?_
            clear hK K
            try simp only [Act.put]
            refine anyU_one (i := 16) (by kernel_rfl) (by simp only [List.getElem?_toArray, List.getElem?_cons_succ, List.getElem?_cons_zero]; exact rfl) (fun K hK => ?_)
            rw [if_pos (by rfl)]
            refine wp_store_at (z := zero8) rfl hp8 rfl rfl HA.out rfl ?_
            intro wt111 hn hg
            replace HC := hide (HC.out.grown hg (by simpa using hne))
            replace HD := hide (below_own HD.out hg HQga.out)
            replace HA := hide hn
            clear hn hg hne
            refine hK.out _ _ (fun e _ => absurd rfl e) ?_
            clear hK K
            try simp only [Act.put]
            refine anyU_done (by kernel_rfl) ?_
            refine NoPanic.normal ?_
            try simp only [Act.put]
            go_wp2
            go_meet
            exact ⟨rfl, gc, rfl, ga, rfl, HD, HC, HA⟩
        · skip
          try go_simp
          have HC := hide (show Row (wt102.alloc (.cells #[.int .i64 0, .int .i64 0, .int .i64 0, .string ⟨#[]⟩, .string ⟨#[]⟩, .string ⟨#[]⟩, .string ⟨#[]⟩] 32)) wt102.heap.size 32 (rowC zeroC) from Row.new wt102 _ _)
          replace HA := hide (HA.out.below (kept_alloc (kept_refl wt102) (.cells #[.int .i64 0, .int .i64 0, .int .i64 0, .string ⟨#[]⟩, .string ⟨#[]⟩, .string ⟨#[]⟩, .string ⟨#[]⟩] 32)) HA.out.lt)
          have HQgc := hide HD.out.size
          replace HD := hide (kept_trans HD.out (kept_alloc (kept_refl wt102) (.cells #[.int .i64 0, .int .i64 0, .int .i64 0, .string ⟨#[]⟩, .string ⟨#[]⟩, .string ⟨#[]⟩, .string ⟨#[]⟩] 32)))
          generalize wt102.alloc (.cells #[.int .i64 0, .int .i64 0, .int .i64 0, .string ⟨#[]⟩, .string ⟨#[]⟩, .string ⟨#[]⟩, .string ⟨#[]⟩] 32) = wt112 at HD HC HA ⊢
          generalize wt102.heap.size = gc at HC HQgc ⊢
          refine hK.out _ _ (fun _ _ => HD.out) ?_
          clear hK K
          try simp only [Act.put, List.setIfInBounds_toArray, List.set_cons_zero, List.set_cons_succ]
          refine anyU_one (i := 1) (by kernel_rfl) (by simp only [List.getElem?_toArray, List.getElem?_cons_succ, List.getElem?_cons_zero]; exact rfl) (fun K hK => ?_)
          try go_simp
          refine (HF.out _).mono ?_
          rintro e wt113 ⟨rfl, hb⟩
          replace HD := hide (kept_trans HD.out hb)
          replace HC := hide (HC.out.below hb HC.out.lt)
          replace HA := hide (HA.out.below hb HA.out.lt)
          clear hb
          refine hK.out _ _ (fun _ _ => HD.out) ?_
          clear hK K
          try simp only [Act.put, List.setIfInBounds_toArray, List.set_cons_zero, List.set_cons_succ]
          refine anyU_one (i := 7) (by kernel_rfl) (by simp only [List.getElem?_toArray, List.getElem?_cons_succ, List.getElem?_cons_zero]; exact rfl) (fun K hK => ?_)
          try go_simp
          refine (HPE.out _ HD.out).mono ?_
          rintro e wt114 ⟨rfl, hb⟩
          replace HD := hide (kept_trans HD.out hb)
          replace HC := hide (HC.out.below hb HC.out.lt)
          replace HA := hide (HA.out.below hb HA.out.lt)
          clear hb
          refine hK.out _ _ (fun _ _ => HD.out) ?_
          clear hK K
          try simp only [Act.put, List.setIfInBounds_toArray, List.set_cons_zero, List.set_cons_succ]
          refine anyU_take2 (i := 8) (v := .tuple #[.int .i64 P1, .agg (rowC Pc), .agg (cA Pa)]) (by simp only [List.getElem?_toArray, List.getElem?_cons_succ, List.getElem?_cons_zero]; exact rfl) (by kernel_rfl) 12 (by kernel_rfl) (by kernel_rfl) (fun _ _ _ h => h) (by kernel_rfl) (by kernel_rfl) (by kernel_rfl) (by kernel_rfl) (Or.inl ⟨by rfl, fun w hSw => (by go_simp; try with_reducible rfl)⟩) (by with_reducible exact HD.out) ?_
          try simp only [Act.put, List.setIfInBounds_toArray, List.set_cons_zero, List.set_cons_succ]
          refine anyU_take2 (i := 9) (v := .int .i64 P1) (by simp only [List.getElem?_toArray, List.getElem?_cons_succ, List.getElem?_cons_zero]; exact rfl) (by kernel_rfl) 12 (by kernel_rfl) (by kernel_rfl) (fun _ _ _ h => h) (by kernel_rfl) (by kernel_rfl) (by kernel_rfl) (by kernel_rfl) (Or.inl ⟨by rfl, fun w hSw => (by go_simp; try with_reducible rfl)⟩) (by with_reducible exact HD.out) ?_
          try simp only [Act.put, List.setIfInBounds_toArray, List.set_cons_zero, List.set_cons_succ]
          refine anyU_take2 (i := 10) (v := .agg (rowC Pc)) (by simp only [List.getElem?_toArray, List.getElem?_cons_succ, List.getElem?_cons_zero]; exact rfl) (by kernel_rfl) 12 (by kernel_rfl) (by kernel_rfl) (fun _ _ _ h => h) (by kernel_rfl) (by kernel_rfl) (by kernel_rfl) (by kernel_rfl) (Or.inl ⟨by rfl, fun w hSw => (by go_simp; try with_reducible rfl)⟩) (by with_reducible exact HD.out) ?_
          try simp only [Act.put, List.setIfInBounds_toArray, List.set_cons_zero, List.set_cons_succ]
          refine anyU_take2 (i := 11) (v := .agg (cA Pa)) (by simp only [List.getElem?_toArray, List.getElem?_cons_succ, List.getElem?_cons_zero]; exact rfl) (by kernel_rfl) 12 (by kernel_rfl) (by kernel_rfl) (fun _ _ _ h => h) (by kernel_rfl) (by kernel_rfl) (by kernel_rfl) (by kernel_rfl) (Or.inl ⟨by rfl, fun w hSw => (by go_simp; try with_reducible rfl)⟩) (by with_reducible exact HD.out) ?_
          try simp only [Act.put, List.setIfInBounds_toArray, List.set_cons_zero, List.set_cons_succ]
          refine anyU_take2 (i := 14) (v := .int .i64 P1) (by simp only [List.getElem?_toArray, List.getElem?_cons_succ, List.getElem?_cons_zero]; exact rfl) (by kernel_rfl) 12 (by kernel_rfl) (by kernel_rfl) (fun _ _ _ h => h) (by kernel_rfl) (by kernel_rfl) (by kernel_rfl) (by kernel_rfl) (Or.inl ⟨by rfl, fun w hSw => (by go_simp; try with_reducible rfl)⟩) (by with_reducible exact HD.out) ?_
          try simp only [Act.put, List.setIfInBounds_toArray, List.set_cons_zero, List.set_cons_succ]
          have hne := rows_apart HC.out HA.out (by decide)
          refine anyU_one (i := 15) (by kernel_rfl) (by simp only [List.getElem?_toArray, List.getElem?_cons_succ, List.getElem?_cons_zero]; exact rfl) (fun K hK => ?_)
          rw [if_pos (by rfl)]
          refine wp_store_cm (z := zeroC) rfl rfl rfl HC.out ?_
          intro wt115 hn hg
          replace HA := hide (HA.out.grown hg (by simpa using hne.symm))
          replace HD := hide (below_own HD.out hg HQgc.out)
          replace HC := hide hn
          clear hn hg
          refine hK.out _ _ (fun _ _ => HD.out) ?_
          clear hK K
          try simp only [Act.put]
          refine anyU_one (i := 16) (by kernel_rfl) (by simp only [List.getElem?_toArray, List.getElem?_cons_succ, List.getElem?_cons_zero]; exact rfl) (fun K hK => ?_)
          rw [if_pos (by rfl)]
          refine wp_store_at (z := zero8) rfl hp8 rfl rfl HA.out rfl ?_
          intro wt116 hn hg
          replace HC := hide (HC.out.grown hg (by simpa using hne))
          replace HD := hide (below_own HD.out hg HQga.out)
          replace HA := hide hn
          clear hn hg hne
          refine hK.out _ _ (fun e _ => absurd rfl e) ?_
          clear hK K
          try simp only [Act.put]
          refine anyU_done (by kernel_rfl) ?_
          refine NoPanic.normal ?_
          try simp only [Act.put]
          go_wp2
          go_meet
          exact ⟨rfl, gc, rfl, ga, rfl, HD, HC, HA⟩
    case rest =>
    obtain ⟨hs8, gc, hs9, ga, hs10, HD, HC, HA⟩ := hcut
    subst hs8
    subst hs9
    subst hs10
    go_upto_region 6 with (first
      | (go_at_call 24; (with_reducible refine (HF.out _).mono ?_); rintro e w4 ⟨rfl, hb⟩; replace HC := hide (HC.out.below hb HC.out.lt); replace HA := hide (HA.out.below hb HA.out.lt); replace HD := hide (kept_trans HD.out hb); clear hb)
      | (go_at_call 30; go_loud ((with_reducible refine (HRO.out _ HD.out).mono ?_); rintro e w5 ⟨⟨B, d, rfl, hsb⟩, hb⟩; have HSB := hide hsb; clear hsb; replace HC := hide (HC.out.below hb HC.out.lt); replace HA := hide (HA.out.below hb HA.out.lt); replace HD := hide (kept_trans HD.out hb); clear hb))
      | (go_at_call 29; go_loud ((with_reducible refine (HRE.out _ _ _ HSB.out).mono ?_); rintro e w6 ⟨rfl, hb⟩; replace HC := hide (HC.out.below hb HC.out.lt); replace HA := hide (HA.out.below hb HA.out.lt); replace HD := hide (kept_trans HD.out hb); clear hb; have HN := hide (show Pq w6 ((w6.alloc (.cells #[.int .i64 0, .int .i64 0, .int .i64 0, .string ⟨#[]⟩, .string ⟨#[]⟩, .string ⟨#[]⟩, .string ⟨#[]⟩] 32)).alloc (.cells #[.int .i64 0, .int .i64 0, .int .i64 0, .int .i64 0, .int .i64 0, .int .i64 0, .int .i64 0, .int .i64 0] 26)) zeroC zero8 from Pq.start w6)))
      | ((with_reducible refine wpList_store_cm (y := Pc) (z := zeroC) ?_ ?_ HN.out.c ?_); rfl; rfl; intro w8 hn hg; replace HN := hide (HN.out.putc hn hg); clear hn hg)
      | ((with_reducible refine wpList_store_at (y := Pa) (z := zero8) hp8 ?_ ?_ HN.out.a rfl ?_); rfl; rfl; intro w9 hn hg; replace HN := hide (HN.out.puta hn hg); clear hn hg))
    replace HC := hide (HC.out.below HN.out.low HC.out.lt)
    replace HA := hide (HA.out.below HN.out.low HA.out.lt)
    replace HD := hide (kept_trans HD.out HN.out.low)
    clear HPE HRE HRO HSB
    have hec := fun w => eql_cmp Pc w
    have hea := fun w => eql_at hp8 hp8 w
    rw [decide_eq_true rfl] at hea
    go_wp2_with (first
      | ((with_reducible refine wpList_load_cm ?_ ?_ HC.out.cm_atp ?_); rfl; rfl)
      | ((with_reducible refine wpList_load_cm ?_ ?_ HN.out.c.cm_atp ?_); rfl; rfl)
      | ((with_reducible refine wpList_load_at hp8 ?_ ?_ HA.out.at8 ?_); rfl; rfl)
      | ((with_reducible refine wpList_load_at hp8 ?_ ?_ HN.out.a.at8 ?_); rfl; rfl)
      | ((with_reducible refine wpList_build_one (u := .int .i64 (-9)) (v := .agg (sdA mk9)) ?_ ?_ (fill_mark _) ?_); rfl; rfl)
      | (go_at_call 31; go_loud ((with_reducible refine (HIT.out _ HD.out).mono ?_); rintro e wy ⟨rfl, hb⟩; replace HD := hide (kept_trans HD.out hb); clear hb))
      | (go_at_call 3; (with_reducible refine (HRR.out _).mono ?_); rintro e wz ⟨rfl, hb⟩; replace HD := hide (kept_trans HD.out hb); clear hb))
    go_ret
    exact ⟨rfl, kept_trans HW.out HD.out⟩
end Go.Proofs.Ytjkdccokiaejhaa
