/- Proved: the law LogReplays returns true for any calls and any cut. No condition. -/
import Derived.Test.YtiaegloipnhhdaaGreatQa
import Derived.Test.YtiaegloipnhhdaaGreatQy
import Derived.Test.YtiaegloipnhhdaaGreatQk
import Derived.LoopTactic
import Derived.Deep.CutBlock
namespace Go.Proofs.YtiaegloipnhhdaaGreat.logReplays
open Go.ChangeShapes Go.WideShapes Go.ChangeAt Go.RowKit
open Go.Maps
set_option maxRecDepth 100000 in
set_option maxHeartbeats 64000000 in
theorem walk (A : Option Addr) (n c : Nat) (l : List Ga) (cut : Int) (W : World) (hs : GasIn W A n c l) (hcut0 : -9223372036854775808 ≤ cut ∧ cut ≤ 9223372036854775807) :
    Calls Tryz.prog 3 #[.slice A n c, .int .i64 cut] W fun e w' => e = .returned (.bool true) ∧ Below W.heap.size W w' := by
  have HS := hide hs
  have HCU := hide hcut0
  have hn : n ≤ 9223372036854775807 := by have h1 := hs.le; have h2 := hs.room; omega
  have HN := hide hs.len
  have HNW := hide (fun w => new1 w)
  clear hs hcut0
  go_enter Tryz.func3, Tryz.ntmps3
  go_upto_region 2 with (first
    | (go_at_call 5; (with_reducible refine (HNW.out W).mono ?_); rintro e w1 ⟨g, b, rfl, hr⟩; have H1 := hide hr; clear hr)
    | (go_at_call 5; (with_reducible refine (HNW.out w1).mono ?_); rintro e w2 ⟨g2, b2, rfl, hr⟩; have HR := hide (r2_new H1.out hr); clear hr))
  clear H1 HNW
  go_upto_block 0 with (fail)
  go_cut [7, 8] from 34 to 77 (fun s7 _ wx => ∃ (x : Lw) (v : Value) (vs : List Value) (L : List ((Int × Int) × Cl)), s7 = v ∧ Hid (Pz x L) ∧ Hid (L.length ≤ 40) ∧ Hid (R2 W wx g b x g2 b2 zeroLw v vs L))
  case first =>
    go_wp2
    go_loopw [7, 8] (fun vv i wr => ∃ (k : Nat) (x : Lw) (v : Value) (vs : List Value) (L : List ((Int × Int) × Cl)), k ≤ n ∧ k ≤ 40 ∧ vv = v ∧ i = .int .i64 k ∧ Hid (L.length ≤ k ∧ x.k.length ≤ k) ∧ Hid (Pz x L) ∧ Hid (R2 W wr g b x g2 b2 zeroLw v vs L)) (fun _ i _ => 40 - (intOf i).toNat)
    case atStart => exact ⟨0, zeroLw, _, [], [], by omega, by omega, rfl, rfl, hide ⟨Nat.le_refl _, Nat.le_refl _⟩, hide Pz.nil_, HR⟩
    case round =>
      clear HR
      obtain ⟨k, x, v, vs, L, hk, hk40, hvv, rfl, HLL, HP, HR⟩ := hrel
      replace hvv := hvv.symm
      subst hvv
      by_cases hlt : k < n ∧ k < 40
      · obtain ⟨h1, h2⟩ := hlt
        have h1i : (k : Int) < (n : Int) := by omega
        have h2i : (k : Int) < 40 := by omega
        have hkl : k < l.length := by rw [HN.out]; exact h1
        obtain ⟨a, ha⟩ : ∃ a, l[k]? = some a := ⟨_, List.getElem?_eq_getElem hkl⟩
        have hok := HS.out.ok a (List.mem_of_getElem? ha)
        obtain ⟨gl, off, hA, hC⟩ := HS.out.at_ HR.out.a.low ha
        subst hA
        obtain ⟨hc1, hc2, hc3⟩ := ga_range hC
        have HC1 := hide hc1
        have HC2 := hide hc2
        have HC3 := hide hc3
        have HLI := hide (fun w => light_any a.c hok.c w)
        have HOI := hide hok.i
        have h8 := hok.c.a
        have hxl : x.k.length ≤ 1000000000 := by have := HLL.out.2; omega
        have HRN := hide (fun wz (hb : Below wr.heap.size wr wz) => (show wz.rangeAt gl (off + k * 31 + 3) a.c.l ∧ wz.cell? ⟨gl, off + k * 31 + 1, none⟩ = some (.int .i64 a.i.1) ∧ wz.cell? ⟨gl, off + k * 31 + 1 + 1, none⟩ = some (.int .i64 a.i.2) from
          ⟨fun j v hj => below_some hb (HC1.out j v hj), below_some hb HC2.out, below_some hb HC3.out⟩))
        have HCA := hide (fun wz (hb : Below W.heap.size W wz) => (show wz.rangeAt gl (off + k * 31) a.l from by obtain ⟨g', o', e, h⟩ := HS.out.at_ hb ha; cases e; exact h))
        clear ha hkl hC hok hc1 hc2 hc3 HC1 HC2 HC3
        cases hq : lightB a.c
        · simp only [hq] at HLI
          clear hq
          go_upto_region 8 with (fail)
          refine wp_region_noPanic ?_
          refine wp_region_U 19 (fun wz => Below wr.heap.size wr wz) (by kernel_rfl) ?_
          have HD := hide (show Below wr.heap.size wr wr.drew from kept_drewN (kept_refl _) 1)
          replace HR := hide (HR.out.below HD.out)
          generalize wr.drew = wd at HD HR ⊢
          refine anyU_take2 (i := 0) (v := .slice (some ⟨gl, off, none⟩) n c) (by simp only [List.getElem?_toArray, List.getElem?_cons_zero]; exact rfl) (by kernel_rfl) 12 (by kernel_rfl) (by kernel_rfl) (fun _ _ _ h => h) (by kernel_rfl) (by kernel_rfl) (by kernel_rfl) (by kernel_rfl) (Or.inl ⟨by rfl, fun w hSw => (by go_simp; try with_reducible rfl)⟩) (by with_reducible exact HD.out) ?_
          try simp only [Act.put, List.setIfInBounds_toArray, List.set_cons_zero, List.set_cons_succ]
          refine anyU_take2 (i := 1) (v := .int .i64 (k : Nat)) (by simp only [List.getElem?_toArray, List.getElem?_cons_succ, List.getElem?_cons_zero]; exact rfl) (by kernel_rfl) 12 (by kernel_rfl) (by kernel_rfl) (fun _ _ _ h => h) (by kernel_rfl) (by kernel_rfl) (by kernel_rfl) (by kernel_rfl) (Or.inl ⟨by rfl, fun w hSw => (by go_simp; try with_reducible rfl)⟩) (by with_reducible exact HD.out) ?_
          try simp only [Act.put, List.setIfInBounds_toArray, List.set_cons_zero, List.set_cons_succ]
          refine anyU_take2 (i := 2) (v := .pointer (some ⟨gl, off + k * 31, none⟩)) (by simp only [List.getElem?_toArray, List.getElem?_cons_succ, List.getElem?_cons_zero]; exact rfl) (by kernel_rfl) 12 (by kernel_rfl) (by kernel_rfl) (fun _ _ _ h => h) (by kernel_rfl) (by kernel_rfl) (by kernel_rfl) (by kernel_rfl) (Or.inl ⟨by rfl, fun w hSw => (by go_simp; try with_reducible rfl)⟩) (by with_reducible exact HD.out) ?_
          try simp only [Act.put, List.setIfInBounds_toArray, List.set_cons_zero, List.set_cons_succ]
          refine anyU_take2 (i := 3) (v := .pointer (some ⟨gl, off + k * 31 + 3, none⟩)) (by simp only [List.getElem?_toArray, List.getElem?_cons_succ, List.getElem?_cons_zero]; exact rfl) (by kernel_rfl) 12 (by kernel_rfl) (by kernel_rfl) (fun _ _ _ h => h) (by kernel_rfl) (by kernel_rfl) (by kernel_rfl) (by kernel_rfl) (Or.inl ⟨by rfl, fun w hSw => (by go_simp; try with_reducible rfl)⟩) (by with_reducible exact HD.out) ?_
          try simp only [Act.put, List.setIfInBounds_toArray, List.set_cons_zero, List.set_cons_succ]
          refine anyU_take2 (i := 4) (v := .agg (clC a.c)) (by simp only [List.getElem?_toArray, List.getElem?_cons_succ, List.getElem?_cons_zero]; exact rfl) (by kernel_rfl) 12 (by kernel_rfl) (by kernel_rfl) (fun _ _ _ h => h) (by kernel_rfl) (by kernel_rfl) (by kernel_rfl) (by kernel_rfl) (Or.inl ⟨by rfl, fun w hSw => exec_load_gp rfl rfl (HRN.out _ hSw).1 ce_under rfl (by rw [Cl.len h8]; exact ce_info)⟩) (by with_reducible exact HD.out) ?_
          try simp only [Act.put, List.setIfInBounds_toArray, List.set_cons_zero, List.set_cons_succ]
          refine anyU_one (i := 5) (by kernel_rfl) (by simp only [List.getElem?_toArray, List.getElem?_cons_succ, List.getElem?_cons_zero]; exact rfl) (fun K hK => ?_)
          try go_simp
          refine (HLI.out _).mono ?_
          rintro e w5 ⟨rfl, hb⟩
          replace HD := hide (kept_trans HD.out hb)
          replace HR := hide (HR.out.below hb)
          clear hb
          refine hK.out _ _ (fun _ _ => HD.out) ?_
          clear hK K
          try simp only [Act.put, List.setIfInBounds_toArray, List.set_cons_zero, List.set_cons_succ]
          refine anyU_take2 (i := 6) (v := .bool false) (by simp only [List.getElem?_toArray, List.getElem?_cons_succ, List.getElem?_cons_zero]; exact rfl) (by kernel_rfl) 12 (by kernel_rfl) (by kernel_rfl) (fun _ _ _ h => h) (by kernel_rfl) (by kernel_rfl) (by kernel_rfl) (by kernel_rfl) (Or.inl ⟨by rfl, fun w hSw => (by go_simp; try with_reducible rfl)⟩) (by with_reducible exact HD.out) ?_
          try simp only [Act.put, List.setIfInBounds_toArray, List.set_cons_zero, List.set_cons_succ]
          refine anyU_take2 (i := 7) (v := undef) (by simp only [List.getElem?_toArray, List.getElem?_cons_succ, List.getElem?_cons_zero]; exact rfl) (by kernel_rfl) 12 (by kernel_rfl) (by kernel_rfl) (fun _ _ _ h => h) (by kernel_rfl) (by kernel_rfl) (by kernel_rfl) (by kernel_rfl) (Or.inr ⟨by rfl, by rfl⟩) (by with_reducible exact HD.out) ?_
          try simp only [Act.put, List.setIfInBounds_toArray, List.set_cons_zero, List.set_cons_succ]
          refine anyU_take2 (i := 8) (v := undef) (by simp only [List.getElem?_toArray, List.getElem?_cons_succ, List.getElem?_cons_zero]; exact rfl) (by kernel_rfl) 12 (by kernel_rfl) (by kernel_rfl) (fun _ _ _ h => h) (by kernel_rfl) (by kernel_rfl) (by kernel_rfl) (by kernel_rfl) (Or.inr ⟨by rfl, by rfl⟩) (by with_reducible exact HD.out) ?_
          try simp only [Act.put, List.setIfInBounds_toArray, List.set_cons_zero, List.set_cons_succ]
          refine anyU_take2 (i := 9) (v := undef) (by simp only [List.getElem?_toArray, List.getElem?_cons_succ, List.getElem?_cons_zero]; exact rfl) (by kernel_rfl) 12 (by kernel_rfl) (by kernel_rfl) (fun _ _ _ h => h) (by kernel_rfl) (by kernel_rfl) (by kernel_rfl) (by kernel_rfl) (Or.inr ⟨by rfl, by rfl⟩) (by with_reducible exact HD.out) ?_
          try simp only [Act.put, List.setIfInBounds_toArray, List.set_cons_zero, List.set_cons_succ]
          refine anyU_take2 (i := 10) (v := undef) (by simp only [List.getElem?_toArray, List.getElem?_cons_succ, List.getElem?_cons_zero]; exact rfl) (by kernel_rfl) 12 (by kernel_rfl) (by kernel_rfl) (fun _ _ _ h => h) (by kernel_rfl) (by kernel_rfl) (by kernel_rfl) (by kernel_rfl) (Or.inr ⟨by rfl, by rfl⟩) (by with_reducible exact HD.out) ?_
          try simp only [Act.put, List.setIfInBounds_toArray, List.set_cons_zero, List.set_cons_succ]
          refine anyU_take2 (i := 11) (v := undef) (by simp only [List.getElem?_toArray, List.getElem?_cons_succ, List.getElem?_cons_zero]; exact rfl) (by kernel_rfl) 12 (by kernel_rfl) (by kernel_rfl) (fun _ _ _ h => h) (by kernel_rfl) (by kernel_rfl) (by kernel_rfl) (by kernel_rfl) (Or.inr ⟨by rfl, by rfl⟩) (by with_reducible exact HD.out) ?_
          try simp only [Act.put, List.setIfInBounds_toArray, List.set_cons_zero, List.set_cons_succ]
          refine anyU_take2 (i := 12) (v := undef) (by simp only [List.getElem?_toArray, List.getElem?_cons_succ, List.getElem?_cons_zero]; exact rfl) (by kernel_rfl) 12 (by kernel_rfl) (by kernel_rfl) (fun _ _ _ h => h) (by kernel_rfl) (by kernel_rfl) (by kernel_rfl) (by kernel_rfl) (Or.inr ⟨by rfl, by rfl⟩) (by with_reducible exact HD.out) ?_
          try simp only [Act.put, List.setIfInBounds_toArray, List.set_cons_zero, List.set_cons_succ]
          refine anyU_take2 (i := 13) (v := undef) (by simp only [List.getElem?_toArray, List.getElem?_cons_succ, List.getElem?_cons_zero]; exact rfl) (by kernel_rfl) 12 (by kernel_rfl) (by kernel_rfl) (fun _ _ _ h => h) (by kernel_rfl) (by kernel_rfl) (by kernel_rfl) (by kernel_rfl) (Or.inr ⟨by rfl, by rfl⟩) (by with_reducible exact HD.out) ?_
          try simp only [Act.put, List.setIfInBounds_toArray, List.set_cons_zero, List.set_cons_succ]
          refine anyU_take2 (i := 14) (v := undef) (by simp only [List.getElem?_toArray, List.getElem?_cons_succ, List.getElem?_cons_zero]; exact rfl) (by kernel_rfl) 12 (by kernel_rfl) (by kernel_rfl) (fun _ _ _ h => h) (by kernel_rfl) (by kernel_rfl) (by kernel_rfl) (by kernel_rfl) (Or.inr ⟨by rfl, by rfl⟩) (by with_reducible exact HD.out) ?_
          try simp only [Act.put, List.setIfInBounds_toArray, List.set_cons_zero, List.set_cons_succ]
          refine anyU_take2 (i := 15) (v := undef) (by simp only [List.getElem?_toArray, List.getElem?_cons_succ, List.getElem?_cons_zero]; exact rfl) (by kernel_rfl) 12 (by kernel_rfl) (by kernel_rfl) (fun _ _ _ h => h) (by kernel_rfl) (by kernel_rfl) (by kernel_rfl) (by kernel_rfl) (Or.inr ⟨by rfl, by rfl⟩) (by with_reducible exact HD.out) ?_
          try simp only [Act.put, List.setIfInBounds_toArray, List.set_cons_zero, List.set_cons_succ]
          refine anyU_take2 (i := 16) (v := undef) (by simp only [List.getElem?_toArray, List.getElem?_cons_succ, List.getElem?_cons_zero]; exact rfl) (by kernel_rfl) 12 (by kernel_rfl) (by kernel_rfl) (fun _ _ _ h => h) (by kernel_rfl) (by kernel_rfl) (by kernel_rfl) (by kernel_rfl) (Or.inr ⟨by rfl, by rfl⟩) (by with_reducible exact HD.out) ?_
          try simp only [Act.put, List.setIfInBounds_toArray, List.set_cons_zero, List.set_cons_succ]
          refine anyU_take2 (i := 17) (v := undef) (by simp only [List.getElem?_toArray, List.getElem?_cons_succ, List.getElem?_cons_zero]; exact rfl) (by kernel_rfl) 12 (by kernel_rfl) (by kernel_rfl) (fun _ _ _ h => h) (by kernel_rfl) (by kernel_rfl) (by kernel_rfl) (by kernel_rfl) (Or.inr ⟨by rfl, by rfl⟩) (by with_reducible exact HD.out) ?_
          try simp only [Act.put, List.setIfInBounds_toArray, List.set_cons_zero, List.set_cons_succ]
          refine anyU_take2 (i := 18) (v := undef) (by simp only [List.getElem?_toArray, List.getElem?_cons_succ, List.getElem?_cons_zero]; exact rfl) (by kernel_rfl) 12 (by kernel_rfl) (by kernel_rfl) (fun _ _ _ h => h) (by kernel_rfl) (by kernel_rfl) (by kernel_rfl) (by kernel_rfl) (Or.inr ⟨by rfl, by rfl⟩) (by with_reducible exact HD.out) ?_
          try simp only [Act.put, List.setIfInBounds_toArray, List.set_cons_zero, List.set_cons_succ]
          refine anyU_one (i := 19) (by kernel_rfl) (by simp only [List.getElem?_toArray, List.getElem?_cons_succ, List.getElem?_cons_zero]; exact rfl) (fun K hK => ?_)
          try go_simp
          refine hK.out _ _ (fun e _ => absurd rfl e) ?_
          clear hK K
          try simp only [Act.put]
          refine anyU_done (by kernel_rfl) ?_
          refine NoPanic.normal ?_
          try simp only [Act.put]
          go_wp2
          go_roundw
          case rel => exact ⟨k + 1, x, v, vs, L, by omega, by omega, rfl, by go_num, hide (by have := HLL.out; omega), HP, HR⟩
          case measure => simp [intOf]; omega
        · simp only [hq] at HLI
          have HQL := hide hq
          clear hq
          have HST := hide (fun w (h : Pg w g b x) => pset_any h h8 hxl a.i.1 a.i.2)
          unfold SetP at HST
          cases hm : maySet x (a.i.1, a.i.2) a.c
          · rw [hm, set_no' hm] at HST
            clear hm
            go_upto_region 8 with (fail)
            refine wp_region_noPanic ?_
            refine wp_region_U 18 (fun wz => Below wr.heap.size wr wz) (by kernel_rfl) ?_
            have HD := hide (show Below wr.heap.size wr wr.drew from kept_drewN (kept_refl _) 1)
            replace HR := hide (HR.out.below HD.out)
            generalize wr.drew = wd at HD HR ⊢
            refine anyU_take2 (i := 0) (v := .slice (some ⟨gl, off, none⟩) n c) (by simp only [List.getElem?_toArray, List.getElem?_cons_zero]; exact rfl) (by kernel_rfl) 12 (by kernel_rfl) (by kernel_rfl) (fun _ _ _ h => h) (by kernel_rfl) (by kernel_rfl) (by kernel_rfl) (by kernel_rfl) (Or.inl ⟨by rfl, fun w hSw => (by go_simp; try with_reducible rfl)⟩) (by with_reducible exact HD.out) ?_
            try simp only [Act.put, List.setIfInBounds_toArray, List.set_cons_zero, List.set_cons_succ]
            refine anyU_take2 (i := 1) (v := .int .i64 (k : Nat)) (by simp only [List.getElem?_toArray, List.getElem?_cons_succ, List.getElem?_cons_zero]; exact rfl) (by kernel_rfl) 12 (by kernel_rfl) (by kernel_rfl) (fun _ _ _ h => h) (by kernel_rfl) (by kernel_rfl) (by kernel_rfl) (by kernel_rfl) (Or.inl ⟨by rfl, fun w hSw => (by go_simp; try with_reducible rfl)⟩) (by with_reducible exact HD.out) ?_
            try simp only [Act.put, List.setIfInBounds_toArray, List.set_cons_zero, List.set_cons_succ]
            refine anyU_take2 (i := 2) (v := .pointer (some ⟨gl, off + k * 31, none⟩)) (by simp only [List.getElem?_toArray, List.getElem?_cons_succ, List.getElem?_cons_zero]; exact rfl) (by kernel_rfl) 12 (by kernel_rfl) (by kernel_rfl) (fun _ _ _ h => h) (by kernel_rfl) (by kernel_rfl) (by kernel_rfl) (by kernel_rfl) (Or.inl ⟨by rfl, fun w hSw => (by go_simp; try with_reducible rfl)⟩) (by with_reducible exact HD.out) ?_
            try simp only [Act.put, List.setIfInBounds_toArray, List.set_cons_zero, List.set_cons_succ]
            refine anyU_take2 (i := 3) (v := .pointer (some ⟨gl, off + k * 31 + 3, none⟩)) (by simp only [List.getElem?_toArray, List.getElem?_cons_succ, List.getElem?_cons_zero]; exact rfl) (by kernel_rfl) 12 (by kernel_rfl) (by kernel_rfl) (fun _ _ _ h => h) (by kernel_rfl) (by kernel_rfl) (by kernel_rfl) (by kernel_rfl) (Or.inl ⟨by rfl, fun w hSw => (by go_simp; try with_reducible rfl)⟩) (by with_reducible exact HD.out) ?_
            try simp only [Act.put, List.setIfInBounds_toArray, List.set_cons_zero, List.set_cons_succ]
            refine anyU_take2 (i := 4) (v := .agg (clC a.c)) (by simp only [List.getElem?_toArray, List.getElem?_cons_succ, List.getElem?_cons_zero]; exact rfl) (by kernel_rfl) 12 (by kernel_rfl) (by kernel_rfl) (fun _ _ _ h => h) (by kernel_rfl) (by kernel_rfl) (by kernel_rfl) (by kernel_rfl) (Or.inl ⟨by rfl, fun w hSw => exec_load_gp rfl rfl (HRN.out _ hSw).1 ce_under rfl (by rw [Cl.len h8]; exact ce_info)⟩) (by with_reducible exact HD.out) ?_
            try simp only [Act.put, List.setIfInBounds_toArray, List.set_cons_zero, List.set_cons_succ]
            refine anyU_one (i := 5) (by kernel_rfl) (by simp only [List.getElem?_toArray, List.getElem?_cons_succ, List.getElem?_cons_zero]; exact rfl) (fun K hK => ?_)
            try go_simp
            refine (HLI.out _).mono ?_
            rintro e w5 ⟨rfl, hb⟩
            replace HD := hide (kept_trans HD.out hb)
            replace HR := hide (HR.out.below hb)
            clear hb
            refine hK.out _ _ (fun _ _ => HD.out) ?_
            clear hK K
            try simp only [Act.put, List.setIfInBounds_toArray, List.set_cons_zero, List.set_cons_succ]
            refine anyU_take2 (i := 6) (v := .bool true) (by simp only [List.getElem?_toArray, List.getElem?_cons_succ, List.getElem?_cons_zero]; exact rfl) (by kernel_rfl) 12 (by kernel_rfl) (by kernel_rfl) (fun _ _ _ h => h) (by kernel_rfl) (by kernel_rfl) (by kernel_rfl) (by kernel_rfl) (Or.inl ⟨by rfl, fun w hSw => (by go_simp; try with_reducible rfl)⟩) (by with_reducible exact HD.out) ?_
            try simp only [Act.put, List.setIfInBounds_toArray, List.set_cons_zero, List.set_cons_succ]
            refine anyU_take2 (i := 7) (v := .pointer (some ⟨g, 0, none⟩)) (by simp only [List.getElem?_toArray, List.getElem?_cons_succ, List.getElem?_cons_zero]; exact rfl) (by kernel_rfl) 12 (by kernel_rfl) (by kernel_rfl) (fun _ _ _ h => h) (by kernel_rfl) (by kernel_rfl) (by kernel_rfl) (by kernel_rfl) (Or.inl ⟨by rfl, fun w hSw => (by go_simp; try with_reducible rfl)⟩) (by with_reducible exact HD.out) ?_
            try simp only [Act.put, List.setIfInBounds_toArray, List.set_cons_zero, List.set_cons_succ]
            refine anyU_take2 (i := 8) (v := .slice (some ⟨gl, off, none⟩) n c) (by simp only [List.getElem?_toArray, List.getElem?_cons_succ, List.getElem?_cons_zero]; exact rfl) (by kernel_rfl) 12 (by kernel_rfl) (by kernel_rfl) (fun _ _ _ h => h) (by kernel_rfl) (by kernel_rfl) (by kernel_rfl) (by kernel_rfl) (Or.inl ⟨by rfl, fun w hSw => (by go_simp; try with_reducible rfl)⟩) (by with_reducible exact HD.out) ?_
            try simp only [Act.put, List.setIfInBounds_toArray, List.set_cons_zero, List.set_cons_succ]
            refine anyU_take2 (i := 9) (v := .int .i64 (k : Nat)) (by simp only [List.getElem?_toArray, List.getElem?_cons_succ, List.getElem?_cons_zero]; exact rfl) (by kernel_rfl) 12 (by kernel_rfl) (by kernel_rfl) (fun _ _ _ h => h) (by kernel_rfl) (by kernel_rfl) (by kernel_rfl) (by kernel_rfl) (Or.inl ⟨by rfl, fun w hSw => (by go_simp; try with_reducible rfl)⟩) (by with_reducible exact HD.out) ?_
            try simp only [Act.put, List.setIfInBounds_toArray, List.set_cons_zero, List.set_cons_succ]
            refine anyU_take2 (i := 10) (v := .pointer (some ⟨gl, off + k * 31, none⟩)) (by simp only [List.getElem?_toArray, List.getElem?_cons_succ, List.getElem?_cons_zero]; exact rfl) (by kernel_rfl) 12 (by kernel_rfl) (by kernel_rfl) (fun _ _ _ h => h) (by kernel_rfl) (by kernel_rfl) (by kernel_rfl) (by kernel_rfl) (Or.inl ⟨by rfl, fun w hSw => (by go_simp; try with_reducible rfl)⟩) (by with_reducible exact HD.out) ?_
            try simp only [Act.put, List.setIfInBounds_toArray, List.set_cons_zero, List.set_cons_succ]
            refine anyU_take2 (i := 11) (v := .pointer (some ⟨gl, off + k * 31 + 1, none⟩)) (by simp only [List.getElem?_toArray, List.getElem?_cons_succ, List.getElem?_cons_zero]; exact rfl) (by kernel_rfl) 12 (by kernel_rfl) (by kernel_rfl) (fun _ _ _ h => h) (by kernel_rfl) (by kernel_rfl) (by kernel_rfl) (by kernel_rfl) (Or.inl ⟨by rfl, fun w hSw => (by go_simp; try with_reducible rfl)⟩) (by with_reducible exact HD.out) ?_
            try simp only [Act.put, List.setIfInBounds_toArray, List.set_cons_zero, List.set_cons_succ]
            refine anyU_take2 (i := 12) (v := .agg #[.int .i64 a.i.1, .int .i64 a.i.2]) (by simp only [List.getElem?_toArray, List.getElem?_cons_succ, List.getElem?_cons_zero]; exact rfl) (by kernel_rfl) 12 (by kernel_rfl) (by kernel_rfl) (fun _ _ _ h => h) (by kernel_rfl) (by kernel_rfl) (by kernel_rfl) (by kernel_rfl) (Or.inl ⟨by rfl, fun w hSw => (by have x0 := (HRN.out _ hSw).2.1; have x1 := (HRN.out _ hSw).2.2; go_simp; try with_reducible rfl)⟩) (by with_reducible exact HD.out) ?_
            try simp only [Act.put, List.setIfInBounds_toArray, List.set_cons_zero, List.set_cons_succ]
            refine anyU_take2 (i := 13) (v := .slice (some ⟨gl, off, none⟩) n c) (by simp only [List.getElem?_toArray, List.getElem?_cons_succ, List.getElem?_cons_zero]; exact rfl) (by kernel_rfl) 12 (by kernel_rfl) (by kernel_rfl) (fun _ _ _ h => h) (by kernel_rfl) (by kernel_rfl) (by kernel_rfl) (by kernel_rfl) (Or.inl ⟨by rfl, fun w hSw => (by go_simp; try with_reducible rfl)⟩) (by with_reducible exact HD.out) ?_
            try simp only [Act.put, List.setIfInBounds_toArray, List.set_cons_zero, List.set_cons_succ]
            refine anyU_take2 (i := 14) (v := .int .i64 (k : Nat)) (by simp only [List.getElem?_toArray, List.getElem?_cons_succ, List.getElem?_cons_zero]; exact rfl) (by kernel_rfl) 12 (by kernel_rfl) (by kernel_rfl) (fun _ _ _ h => h) (by kernel_rfl) (by kernel_rfl) (by kernel_rfl) (by kernel_rfl) (Or.inl ⟨by rfl, fun w hSw => (by go_simp; try with_reducible rfl)⟩) (by with_reducible exact HD.out) ?_
            try simp only [Act.put, List.setIfInBounds_toArray, List.set_cons_zero, List.set_cons_succ]
            refine anyU_take2 (i := 15) (v := .pointer (some ⟨gl, off + k * 31, none⟩)) (by simp only [List.getElem?_toArray, List.getElem?_cons_succ, List.getElem?_cons_zero]; exact rfl) (by kernel_rfl) 12 (by kernel_rfl) (by kernel_rfl) (fun _ _ _ h => h) (by kernel_rfl) (by kernel_rfl) (by kernel_rfl) (by kernel_rfl) (Or.inl ⟨by rfl, fun w hSw => (by go_simp; try with_reducible rfl)⟩) (by with_reducible exact HD.out) ?_
            try simp only [Act.put, List.setIfInBounds_toArray, List.set_cons_zero, List.set_cons_succ]
            refine anyU_take2 (i := 16) (v := .pointer (some ⟨gl, off + k * 31 + 3, none⟩)) (by simp only [List.getElem?_toArray, List.getElem?_cons_succ, List.getElem?_cons_zero]; exact rfl) (by kernel_rfl) 12 (by kernel_rfl) (by kernel_rfl) (fun _ _ _ h => h) (by kernel_rfl) (by kernel_rfl) (by kernel_rfl) (by kernel_rfl) (Or.inl ⟨by rfl, fun w hSw => (by go_simp; try with_reducible rfl)⟩) (by with_reducible exact HD.out) ?_
            try simp only [Act.put, List.setIfInBounds_toArray, List.set_cons_zero, List.set_cons_succ]
            refine anyU_take2 (i := 17) (v := .agg (clC a.c)) (by simp only [List.getElem?_toArray, List.getElem?_cons_succ, List.getElem?_cons_zero]; exact rfl) (by kernel_rfl) 12 (by kernel_rfl) (by kernel_rfl) (fun _ _ _ h => h) (by kernel_rfl) (by kernel_rfl) (by kernel_rfl) (by kernel_rfl) (Or.inl ⟨by rfl, fun w hSw => exec_load_gp rfl rfl (HRN.out _ hSw).1 ce_under rfl (by rw [Cl.len h8]; exact ce_info)⟩) (by with_reducible exact HD.out) ?_
            try simp only [Act.put, List.setIfInBounds_toArray, List.set_cons_zero, List.set_cons_succ]
            refine anyU_one (i := 18) (by kernel_rfl) (by simp only [List.getElem?_toArray, List.getElem?_cons_succ, List.getElem?_cons_zero]; exact rfl) (fun K hK => ?_)
            try go_simp
            refine (HST.out _ HR.out.a.pg).mono ?_
            rintro e w6 ⟨rfl, hp, hk⟩
            replace HR := hide (HR.out.set1 hp hk)
            clear hp hk
            refine hK.out _ _ (fun e _ => absurd rfl e) ?_
            clear hK K
            try simp only [Act.put]
            try simp only [Act.put, List.setIfInBounds_toArray, List.set_cons_zero, List.set_cons_succ]
            refine anyU_one (i := 19) (by kernel_rfl) (by simp only [List.getElem?_toArray, List.getElem?_cons_succ, List.getElem?_cons_zero]; exact rfl) (fun K hK => ?_)
            try go_simp
            refine hK.out _ _ (fun _ l => absurd (l.symm.trans (show _ = true by kernel_rfl)) (by decide)) ?_
            clear hK K
            try simp only [Act.put, List.setIfInBounds_toArray, List.set_cons_zero, List.set_cons_succ]
            refine anyU_done (by kernel_rfl) ?_
            refine NoPanic.normal ?_
            try simp only [Act.put]
            go_wp2
            go_roundw
            case rel => exact ⟨k + 1, x, v, vs, L, by omega, by omega, rfl, by go_num, hide (by have := HLL.out; omega), HP, HR⟩
            case measure => simp [intOf]; omega
          · have HP2 := hide (HP.out.snoc hm HOI.out HQL.out h8)
            rw [hm] at HST
            clear hm
            have HX := hide (set_len x (a.i.1, a.i.2) a.c)
            have hsx : setL x (a.i.1, a.i.2) a.c = setL x a.i a.c := rfl
            rw [hsx] at HST HX
            clear hsx
            generalize setL x a.i a.c = x' at HST HX HP2
            go_upto_region 8 with (fail)
            refine wp_region_noPanic ?_
            refine wp_region_U 18 (fun wz => Below wr.heap.size wr wz) (by kernel_rfl) ?_
            have HD := hide (show Below wr.heap.size wr wr.drew from kept_drewN (kept_refl _) 1)
            replace HR := hide (HR.out.below HD.out)
            generalize wr.drew = wd at HD HR ⊢
            refine anyU_take2 (i := 0) (v := .slice (some ⟨gl, off, none⟩) n c) (by simp only [List.getElem?_toArray, List.getElem?_cons_zero]; exact rfl) (by kernel_rfl) 12 (by kernel_rfl) (by kernel_rfl) (fun _ _ _ h => h) (by kernel_rfl) (by kernel_rfl) (by kernel_rfl) (by kernel_rfl) (Or.inl ⟨by rfl, fun w hSw => (by go_simp; try with_reducible rfl)⟩) (by with_reducible exact HD.out) ?_
            try simp only [Act.put, List.setIfInBounds_toArray, List.set_cons_zero, List.set_cons_succ]
            refine anyU_take2 (i := 1) (v := .int .i64 (k : Nat)) (by simp only [List.getElem?_toArray, List.getElem?_cons_succ, List.getElem?_cons_zero]; exact rfl) (by kernel_rfl) 12 (by kernel_rfl) (by kernel_rfl) (fun _ _ _ h => h) (by kernel_rfl) (by kernel_rfl) (by kernel_rfl) (by kernel_rfl) (Or.inl ⟨by rfl, fun w hSw => (by go_simp; try with_reducible rfl)⟩) (by with_reducible exact HD.out) ?_
            try simp only [Act.put, List.setIfInBounds_toArray, List.set_cons_zero, List.set_cons_succ]
            refine anyU_take2 (i := 2) (v := .pointer (some ⟨gl, off + k * 31, none⟩)) (by simp only [List.getElem?_toArray, List.getElem?_cons_succ, List.getElem?_cons_zero]; exact rfl) (by kernel_rfl) 12 (by kernel_rfl) (by kernel_rfl) (fun _ _ _ h => h) (by kernel_rfl) (by kernel_rfl) (by kernel_rfl) (by kernel_rfl) (Or.inl ⟨by rfl, fun w hSw => (by go_simp; try with_reducible rfl)⟩) (by with_reducible exact HD.out) ?_
            try simp only [Act.put, List.setIfInBounds_toArray, List.set_cons_zero, List.set_cons_succ]
            refine anyU_take2 (i := 3) (v := .pointer (some ⟨gl, off + k * 31 + 3, none⟩)) (by simp only [List.getElem?_toArray, List.getElem?_cons_succ, List.getElem?_cons_zero]; exact rfl) (by kernel_rfl) 12 (by kernel_rfl) (by kernel_rfl) (fun _ _ _ h => h) (by kernel_rfl) (by kernel_rfl) (by kernel_rfl) (by kernel_rfl) (Or.inl ⟨by rfl, fun w hSw => (by go_simp; try with_reducible rfl)⟩) (by with_reducible exact HD.out) ?_
            try simp only [Act.put, List.setIfInBounds_toArray, List.set_cons_zero, List.set_cons_succ]
            refine anyU_take2 (i := 4) (v := .agg (clC a.c)) (by simp only [List.getElem?_toArray, List.getElem?_cons_succ, List.getElem?_cons_zero]; exact rfl) (by kernel_rfl) 12 (by kernel_rfl) (by kernel_rfl) (fun _ _ _ h => h) (by kernel_rfl) (by kernel_rfl) (by kernel_rfl) (by kernel_rfl) (Or.inl ⟨by rfl, fun w hSw => exec_load_gp rfl rfl (HRN.out _ hSw).1 ce_under rfl (by rw [Cl.len h8]; exact ce_info)⟩) (by with_reducible exact HD.out) ?_
            try simp only [Act.put, List.setIfInBounds_toArray, List.set_cons_zero, List.set_cons_succ]
            refine anyU_one (i := 5) (by kernel_rfl) (by simp only [List.getElem?_toArray, List.getElem?_cons_succ, List.getElem?_cons_zero]; exact rfl) (fun K hK => ?_)
            try go_simp
            refine (HLI.out _).mono ?_
            rintro e w5 ⟨rfl, hb⟩
            replace HD := hide (kept_trans HD.out hb)
            replace HR := hide (HR.out.below hb)
            clear hb
            refine hK.out _ _ (fun _ _ => HD.out) ?_
            clear hK K
            try simp only [Act.put, List.setIfInBounds_toArray, List.set_cons_zero, List.set_cons_succ]
            refine anyU_take2 (i := 6) (v := .bool true) (by simp only [List.getElem?_toArray, List.getElem?_cons_succ, List.getElem?_cons_zero]; exact rfl) (by kernel_rfl) 12 (by kernel_rfl) (by kernel_rfl) (fun _ _ _ h => h) (by kernel_rfl) (by kernel_rfl) (by kernel_rfl) (by kernel_rfl) (Or.inl ⟨by rfl, fun w hSw => (by go_simp; try with_reducible rfl)⟩) (by with_reducible exact HD.out) ?_
            try simp only [Act.put, List.setIfInBounds_toArray, List.set_cons_zero, List.set_cons_succ]
            refine anyU_take2 (i := 7) (v := .pointer (some ⟨g, 0, none⟩)) (by simp only [List.getElem?_toArray, List.getElem?_cons_succ, List.getElem?_cons_zero]; exact rfl) (by kernel_rfl) 12 (by kernel_rfl) (by kernel_rfl) (fun _ _ _ h => h) (by kernel_rfl) (by kernel_rfl) (by kernel_rfl) (by kernel_rfl) (Or.inl ⟨by rfl, fun w hSw => (by go_simp; try with_reducible rfl)⟩) (by with_reducible exact HD.out) ?_
            try simp only [Act.put, List.setIfInBounds_toArray, List.set_cons_zero, List.set_cons_succ]
            refine anyU_take2 (i := 8) (v := .slice (some ⟨gl, off, none⟩) n c) (by simp only [List.getElem?_toArray, List.getElem?_cons_succ, List.getElem?_cons_zero]; exact rfl) (by kernel_rfl) 12 (by kernel_rfl) (by kernel_rfl) (fun _ _ _ h => h) (by kernel_rfl) (by kernel_rfl) (by kernel_rfl) (by kernel_rfl) (Or.inl ⟨by rfl, fun w hSw => (by go_simp; try with_reducible rfl)⟩) (by with_reducible exact HD.out) ?_
            try simp only [Act.put, List.setIfInBounds_toArray, List.set_cons_zero, List.set_cons_succ]
            refine anyU_take2 (i := 9) (v := .int .i64 (k : Nat)) (by simp only [List.getElem?_toArray, List.getElem?_cons_succ, List.getElem?_cons_zero]; exact rfl) (by kernel_rfl) 12 (by kernel_rfl) (by kernel_rfl) (fun _ _ _ h => h) (by kernel_rfl) (by kernel_rfl) (by kernel_rfl) (by kernel_rfl) (Or.inl ⟨by rfl, fun w hSw => (by go_simp; try with_reducible rfl)⟩) (by with_reducible exact HD.out) ?_
            try simp only [Act.put, List.setIfInBounds_toArray, List.set_cons_zero, List.set_cons_succ]
            refine anyU_take2 (i := 10) (v := .pointer (some ⟨gl, off + k * 31, none⟩)) (by simp only [List.getElem?_toArray, List.getElem?_cons_succ, List.getElem?_cons_zero]; exact rfl) (by kernel_rfl) 12 (by kernel_rfl) (by kernel_rfl) (fun _ _ _ h => h) (by kernel_rfl) (by kernel_rfl) (by kernel_rfl) (by kernel_rfl) (Or.inl ⟨by rfl, fun w hSw => (by go_simp; try with_reducible rfl)⟩) (by with_reducible exact HD.out) ?_
            try simp only [Act.put, List.setIfInBounds_toArray, List.set_cons_zero, List.set_cons_succ]
            refine anyU_take2 (i := 11) (v := .pointer (some ⟨gl, off + k * 31 + 1, none⟩)) (by simp only [List.getElem?_toArray, List.getElem?_cons_succ, List.getElem?_cons_zero]; exact rfl) (by kernel_rfl) 12 (by kernel_rfl) (by kernel_rfl) (fun _ _ _ h => h) (by kernel_rfl) (by kernel_rfl) (by kernel_rfl) (by kernel_rfl) (Or.inl ⟨by rfl, fun w hSw => (by go_simp; try with_reducible rfl)⟩) (by with_reducible exact HD.out) ?_
            try simp only [Act.put, List.setIfInBounds_toArray, List.set_cons_zero, List.set_cons_succ]
            refine anyU_take2 (i := 12) (v := .agg #[.int .i64 a.i.1, .int .i64 a.i.2]) (by simp only [List.getElem?_toArray, List.getElem?_cons_succ, List.getElem?_cons_zero]; exact rfl) (by kernel_rfl) 12 (by kernel_rfl) (by kernel_rfl) (fun _ _ _ h => h) (by kernel_rfl) (by kernel_rfl) (by kernel_rfl) (by kernel_rfl) (Or.inl ⟨by rfl, fun w hSw => (by have x0 := (HRN.out _ hSw).2.1; have x1 := (HRN.out _ hSw).2.2; go_simp; try with_reducible rfl)⟩) (by with_reducible exact HD.out) ?_
            try simp only [Act.put, List.setIfInBounds_toArray, List.set_cons_zero, List.set_cons_succ]
            refine anyU_take2 (i := 13) (v := .slice (some ⟨gl, off, none⟩) n c) (by simp only [List.getElem?_toArray, List.getElem?_cons_succ, List.getElem?_cons_zero]; exact rfl) (by kernel_rfl) 12 (by kernel_rfl) (by kernel_rfl) (fun _ _ _ h => h) (by kernel_rfl) (by kernel_rfl) (by kernel_rfl) (by kernel_rfl) (Or.inl ⟨by rfl, fun w hSw => (by go_simp; try with_reducible rfl)⟩) (by with_reducible exact HD.out) ?_
            try simp only [Act.put, List.setIfInBounds_toArray, List.set_cons_zero, List.set_cons_succ]
            refine anyU_take2 (i := 14) (v := .int .i64 (k : Nat)) (by simp only [List.getElem?_toArray, List.getElem?_cons_succ, List.getElem?_cons_zero]; exact rfl) (by kernel_rfl) 12 (by kernel_rfl) (by kernel_rfl) (fun _ _ _ h => h) (by kernel_rfl) (by kernel_rfl) (by kernel_rfl) (by kernel_rfl) (Or.inl ⟨by rfl, fun w hSw => (by go_simp; try with_reducible rfl)⟩) (by with_reducible exact HD.out) ?_
            try simp only [Act.put, List.setIfInBounds_toArray, List.set_cons_zero, List.set_cons_succ]
            refine anyU_take2 (i := 15) (v := .pointer (some ⟨gl, off + k * 31, none⟩)) (by simp only [List.getElem?_toArray, List.getElem?_cons_succ, List.getElem?_cons_zero]; exact rfl) (by kernel_rfl) 12 (by kernel_rfl) (by kernel_rfl) (fun _ _ _ h => h) (by kernel_rfl) (by kernel_rfl) (by kernel_rfl) (by kernel_rfl) (Or.inl ⟨by rfl, fun w hSw => (by go_simp; try with_reducible rfl)⟩) (by with_reducible exact HD.out) ?_
            try simp only [Act.put, List.setIfInBounds_toArray, List.set_cons_zero, List.set_cons_succ]
            refine anyU_take2 (i := 16) (v := .pointer (some ⟨gl, off + k * 31 + 3, none⟩)) (by simp only [List.getElem?_toArray, List.getElem?_cons_succ, List.getElem?_cons_zero]; exact rfl) (by kernel_rfl) 12 (by kernel_rfl) (by kernel_rfl) (fun _ _ _ h => h) (by kernel_rfl) (by kernel_rfl) (by kernel_rfl) (by kernel_rfl) (Or.inl ⟨by rfl, fun w hSw => (by go_simp; try with_reducible rfl)⟩) (by with_reducible exact HD.out) ?_
            try simp only [Act.put, List.setIfInBounds_toArray, List.set_cons_zero, List.set_cons_succ]
            refine anyU_take2 (i := 17) (v := .agg (clC a.c)) (by simp only [List.getElem?_toArray, List.getElem?_cons_succ, List.getElem?_cons_zero]; exact rfl) (by kernel_rfl) 12 (by kernel_rfl) (by kernel_rfl) (fun _ _ _ h => h) (by kernel_rfl) (by kernel_rfl) (by kernel_rfl) (by kernel_rfl) (Or.inl ⟨by rfl, fun w hSw => exec_load_gp rfl rfl (HRN.out _ hSw).1 ce_under rfl (by rw [Cl.len h8]; exact ce_info)⟩) (by with_reducible exact HD.out) ?_
            try simp only [Act.put, List.setIfInBounds_toArray, List.set_cons_zero, List.set_cons_succ]
            refine anyU_one (i := 18) (by kernel_rfl) (by simp only [List.getElem?_toArray, List.getElem?_cons_succ, List.getElem?_cons_zero]; exact rfl) (fun K hK => ?_)
            try go_simp
            refine (HST.out _ HR.out.a.pg).mono ?_
            rintro e w6 ⟨rfl, hp, hk⟩
            replace HR := hide (HR.out.set1 hp hk)
            clear hp hk
            refine hK.out _ _ (fun e _ => absurd rfl e) ?_
            clear hK K
            try simp only [Act.put]
            try simp only [Act.put, List.setIfInBounds_toArray, List.set_cons_zero, List.set_cons_succ]
            refine anyU_one (i := 19) (by kernel_rfl) (by simp only [List.getElem?_toArray, List.getElem?_cons_succ, List.getElem?_cons_zero]; exact rfl) (fun K hK => ?_)
            try go_simp
            refine hK.out _ _ (fun _ l => absurd (l.symm.trans (show _ = true by kernel_rfl)) (by decide)) ?_
            clear hK K
            try simp only [Act.put, List.setIfInBounds_toArray, List.set_cons_zero, List.set_cons_succ]
            refine anyU_done (by kernel_rfl) ?_
            refine NoPanic.normal ?_
            try simp only [Act.put]
            have HRM := hide (fun (wz : World) (hb : Below w6.heap.size w6 wz) => ga_range (HCA.out wz (kept_trans HR.out.a.low hb)))
            have HRE := hide (fun w => precord_any a.i a.c HOI.out h8 w)
            go_upto_region 9 with (fail)
            refine wp_region_noPanic ?_
            refine wp_region_U 13 (fun wz => Below w6.heap.size w6 wz) (by kernel_rfl) ?_
            have HD := hide (show Below w6.heap.size w6 w6.drew from kept_drewN (kept_refl _) 1)
            replace HR := hide (HR.out.below HD.out)
            generalize w6.drew = we at HD HR ⊢
            refine anyU_take2 (i := 0) (v := v) (by simp only [List.getElem?_toArray, List.getElem?_cons_zero]; exact rfl) (by kernel_rfl) 12 (by kernel_rfl) (by kernel_rfl) (fun _ _ _ h => h) (by kernel_rfl) (by kernel_rfl) (by kernel_rfl) (by kernel_rfl) (Or.inl ⟨by rfl, fun w hSw => (by go_simp; try with_reducible rfl)⟩) (by with_reducible exact HD.out) ?_
            try simp only [Act.put, List.setIfInBounds_toArray, List.set_cons_zero, List.set_cons_succ]
            refine anyU_take2 (i := 1) (v := .slice (some ⟨gl, off, none⟩) n c) (by simp only [List.getElem?_toArray, List.getElem?_cons_succ, List.getElem?_cons_zero]; exact rfl) (by kernel_rfl) 12 (by kernel_rfl) (by kernel_rfl) (fun _ _ _ h => h) (by kernel_rfl) (by kernel_rfl) (by kernel_rfl) (by kernel_rfl) (Or.inl ⟨by rfl, fun w hSw => (by go_simp; try with_reducible rfl)⟩) (by with_reducible exact HD.out) ?_
            try simp only [Act.put, List.setIfInBounds_toArray, List.set_cons_zero, List.set_cons_succ]
            refine anyU_take2 (i := 2) (v := .int .i64 (k : Nat)) (by simp only [List.getElem?_toArray, List.getElem?_cons_succ, List.getElem?_cons_zero]; exact rfl) (by kernel_rfl) 12 (by kernel_rfl) (by kernel_rfl) (fun _ _ _ h => h) (by kernel_rfl) (by kernel_rfl) (by kernel_rfl) (by kernel_rfl) (Or.inl ⟨by rfl, fun w hSw => (by go_simp; try with_reducible rfl)⟩) (by with_reducible exact HD.out) ?_
            try simp only [Act.put, List.setIfInBounds_toArray, List.set_cons_zero, List.set_cons_succ]
            refine anyU_take2 (i := 3) (v := .pointer (some ⟨gl, off + k * 31, none⟩)) (by simp only [List.getElem?_toArray, List.getElem?_cons_succ, List.getElem?_cons_zero]; exact rfl) (by kernel_rfl) 12 (by kernel_rfl) (by kernel_rfl) (fun _ _ _ h => h) (by kernel_rfl) (by kernel_rfl) (by kernel_rfl) (by kernel_rfl) (Or.inl ⟨by rfl, fun w hSw => (by go_simp; try with_reducible rfl)⟩) (by with_reducible exact HD.out) ?_
            try simp only [Act.put, List.setIfInBounds_toArray, List.set_cons_zero, List.set_cons_succ]
            refine anyU_take2 (i := 4) (v := .pointer (some ⟨gl, off + k * 31 + 1, none⟩)) (by simp only [List.getElem?_toArray, List.getElem?_cons_succ, List.getElem?_cons_zero]; exact rfl) (by kernel_rfl) 12 (by kernel_rfl) (by kernel_rfl) (fun _ _ _ h => h) (by kernel_rfl) (by kernel_rfl) (by kernel_rfl) (by kernel_rfl) (Or.inl ⟨by rfl, fun w hSw => (by go_simp; try with_reducible rfl)⟩) (by with_reducible exact HD.out) ?_
            try simp only [Act.put, List.setIfInBounds_toArray, List.set_cons_zero, List.set_cons_succ]
            refine anyU_take2 (i := 5) (v := .agg #[.int .i64 a.i.1, .int .i64 a.i.2]) (by simp only [List.getElem?_toArray, List.getElem?_cons_succ, List.getElem?_cons_zero]; exact rfl) (by kernel_rfl) 12 (by kernel_rfl) (by kernel_rfl) (fun _ _ _ h => h) (by kernel_rfl) (by kernel_rfl) (by kernel_rfl) (by kernel_rfl) (Or.inl ⟨by rfl, fun w hSw => (by have x0 := (HRM.out _ hSw).2.1; have x1 := (HRM.out _ hSw).2.2; go_simp; try with_reducible rfl)⟩) (by with_reducible exact HD.out) ?_
            try simp only [Act.put, List.setIfInBounds_toArray, List.set_cons_zero, List.set_cons_succ]
            refine anyU_take2 (i := 6) (v := .slice (some ⟨gl, off, none⟩) n c) (by simp only [List.getElem?_toArray, List.getElem?_cons_succ, List.getElem?_cons_zero]; exact rfl) (by kernel_rfl) 12 (by kernel_rfl) (by kernel_rfl) (fun _ _ _ h => h) (by kernel_rfl) (by kernel_rfl) (by kernel_rfl) (by kernel_rfl) (Or.inl ⟨by rfl, fun w hSw => (by go_simp; try with_reducible rfl)⟩) (by with_reducible exact HD.out) ?_
            try simp only [Act.put, List.setIfInBounds_toArray, List.set_cons_zero, List.set_cons_succ]
            refine anyU_take2 (i := 7) (v := .int .i64 (k : Nat)) (by simp only [List.getElem?_toArray, List.getElem?_cons_succ, List.getElem?_cons_zero]; exact rfl) (by kernel_rfl) 12 (by kernel_rfl) (by kernel_rfl) (fun _ _ _ h => h) (by kernel_rfl) (by kernel_rfl) (by kernel_rfl) (by kernel_rfl) (Or.inl ⟨by rfl, fun w hSw => (by go_simp; try with_reducible rfl)⟩) (by with_reducible exact HD.out) ?_
            try simp only [Act.put, List.setIfInBounds_toArray, List.set_cons_zero, List.set_cons_succ]
            refine anyU_take2 (i := 8) (v := .pointer (some ⟨gl, off + k * 31, none⟩)) (by simp only [List.getElem?_toArray, List.getElem?_cons_succ, List.getElem?_cons_zero]; exact rfl) (by kernel_rfl) 12 (by kernel_rfl) (by kernel_rfl) (fun _ _ _ h => h) (by kernel_rfl) (by kernel_rfl) (by kernel_rfl) (by kernel_rfl) (Or.inl ⟨by rfl, fun w hSw => (by go_simp; try with_reducible rfl)⟩) (by with_reducible exact HD.out) ?_
            try simp only [Act.put, List.setIfInBounds_toArray, List.set_cons_zero, List.set_cons_succ]
            refine anyU_take2 (i := 9) (v := .pointer (some ⟨gl, off + k * 31 + 3, none⟩)) (by simp only [List.getElem?_toArray, List.getElem?_cons_succ, List.getElem?_cons_zero]; exact rfl) (by kernel_rfl) 12 (by kernel_rfl) (by kernel_rfl) (fun _ _ _ h => h) (by kernel_rfl) (by kernel_rfl) (by kernel_rfl) (by kernel_rfl) (Or.inl ⟨by rfl, fun w hSw => (by go_simp; try with_reducible rfl)⟩) (by with_reducible exact HD.out) ?_
            try simp only [Act.put, List.setIfInBounds_toArray, List.set_cons_zero, List.set_cons_succ]
            refine anyU_take2 (i := 10) (v := .agg (clC a.c)) (by simp only [List.getElem?_toArray, List.getElem?_cons_succ, List.getElem?_cons_zero]; exact rfl) (by kernel_rfl) 12 (by kernel_rfl) (by kernel_rfl) (fun _ _ _ h => h) (by kernel_rfl) (by kernel_rfl) (by kernel_rfl) (by kernel_rfl) (Or.inl ⟨by rfl, fun w hSw => exec_load_gp rfl rfl (HRM.out _ hSw).1 ce_under rfl (by rw [Cl.len h8]; exact ce_info)⟩) (by with_reducible exact HD.out) ?_
            try simp only [Act.put, List.setIfInBounds_toArray, List.set_cons_zero, List.set_cons_succ]
            refine anyU_one (i := 11) (by kernel_rfl) (by simp only [List.getElem?_toArray, List.getElem?_cons_succ, List.getElem?_cons_zero]; exact rfl) (fun K hK => ?_)
            try go_simp
            refine (HRE.out _).mono ?_
            rintro e w7 ⟨y7, rfl, hy, hb⟩
            have HY := hide (hy.mono HR.out.a.low.size)
            replace HD := hide (kept_trans HD.out hb)
            replace HR := hide (HR.out.below hb)
            obtain ⟨A7, c7, e7⟩ := by_form hy
            subst e7
            clear hy hb
            refine hK.out _ _ (fun _ _ => HD.out) ?_
            clear hK K
            try simp only [Act.put, List.setIfInBounds_toArray, List.set_cons_zero, List.set_cons_succ]
            refine anyU_one (i := 12) (by kernel_rfl) (by simp only [List.getElem?_toArray, List.getElem?_cons_succ, List.getElem?_cons_zero]; exact rfl) (fun K hK => ?_)
            refine step_lit1 rfl (lit_rec _ _ _ _) ?_
            have HBF := hide (kept_alloc (kept_refl w7) (.cells [Value.slice A7 (encRec a.i a.c).length c7].toArray 42))
            have HZ := hide (Row.new w7 42 [Value.slice A7 (encRec a.i a.c).length c7].toArray)
            replace HD := hide (kept_trans HD.out HBF.out)
            replace HR := hide (HR.out.below HBF.out)
            replace HY := hide (HY.out.below HBF.out)
            clear HBF
            generalize w7.alloc (.cells [Value.slice A7 (encRec a.i a.c).length c7].toArray 42) = w8 at HD HR HY HZ ⊢
            generalize w7.heap.size = q8 at HZ ⊢
            refine hK.out _ _ (fun _ _ => HD.out) ?_
            clear hK K
            try simp only [Act.put, List.setIfInBounds_toArray, List.set_cons_zero, List.set_cons_succ]
            refine anyU_one (i := 13) (by kernel_rfl) (by simp only [List.getElem?_toArray, List.getElem?_cons_succ, List.getElem?_cons_zero]; exact rfl) (fun K hK => ?_)
            refine step_append_rw elm_rec (by decide) rfl HR.out.r.row rfl (zs := [[.slice A7 (encRec a.i a.c).length c7]]) (fun x hx => by rw [List.mem_singleton.1 hx]; exact ⟨rfl, (fun u hu => by rw [List.mem_singleton.1 hu]; rfl)⟩) rfl (fun h => by cases h) (els_lit HZ.out rfl (fun u hu => by rw [List.mem_singleton.1 hu]; rfl)) (by rw [vsV_len, HR.out.r.len]; have := HLL.out; omega) HR.out.a.low.size ?_
            intro v9 w9 hr9 hg9
            have HR9 := hide (HR.out.add HY.out hr9 hg9)
            clear hr9 hg9
            refine hK.out _ _ (fun e _ => absurd rfl e) ?_
            clear hK K
            try simp only [Act.put, List.setIfInBounds_toArray, List.set_cons_zero, List.set_cons_succ]
            refine anyU_one (i := 14) (by kernel_rfl) (by simp only [List.getElem?_toArray, List.getElem?_cons_succ, List.getElem?_cons_zero]; exact rfl) (fun K hK => ?_)
            try go_simp
            refine hK.out _ _ (fun _ l => absurd (l.symm.trans (show _ = true by kernel_rfl)) (by decide)) ?_
            clear hK K
            try simp only [Act.put, List.setIfInBounds_toArray, List.set_cons_zero, List.set_cons_succ]
            refine anyU_done (by kernel_rfl) ?_
            refine NoPanic.normal ?_
            try simp only [Act.put]
            go_wp2
            go_roundw
            case rel => exact ⟨k + 1, x', v9, _, _, by omega, by omega, rfl, by go_num, hide (by have := HLL.out; have := HX.out; rw [List.length_append]; simp; omega), HP2, HR9⟩
            case measure => simp [intOf]; omega
      · have hend : ¬ ((k : Int) < (n : Int) ∧ (k : Int) < 40) := by omega
        by_cases h1 : (k : Int) < (n : Int)
        · have h2 : ¬ (k : Int) < 40 := fun h => hend ⟨h1, h⟩
          clear hend
          go_wp2
          go_meet
          exact ⟨x, _, vs, L, rfl, HP, hide (Nat.le_trans HLL.out.1 hk40), HR⟩
        · clear hend
          go_wp2
          go_meet
          exact ⟨x, _, vs, L, rfl, HP, hide (Nat.le_trans HLL.out.1 hk40), HR⟩
  case rest =>
  clear HR
  obtain ⟨x, v, vs, L, hv, HP, HL, HR⟩ := hcut
  replace hv := hv.symm
  subst hv
  obtain ⟨Av, cv, hf⟩ := HR.out.r.form
  subst hf
  have hl40 := HL.out
  go_upto_block 2 with (fail)
  go_cut [9] from 78 to 137 (fun _ wx => Hid (R2 W wx g b x g2 b2 x (.slice Av L.length cv) vs L))
  case first =>
    go_wp2
    go_loopw [9] (fun i wr => ∃ r : Nat, r ≤ 2 ∧ i = .int .i64 r ∧ Hid (R2 W wr g b x g2 b2 (atRound x r) (.slice Av L.length cv) vs L)) (fun i _ => 2 - (intOf i).toNat)
    case atStart => exact ⟨0, by omega, rfl, hide HR.out⟩
    case round =>
      clear HR
      obtain ⟨r, hr2, rfl, HR⟩ := hrel
      by_cases hlt : r < 2
      · have hlti : (r : Int) < 2 := by omega
        go_wp2
        go_loopw [10] (fun i wr => ∃ k : Nat, k ≤ L.length ∧ i = .int .i64 k ∧ Hid (R2 W wr g b x g2 b2 (playL (atRound x r) (L.take k)) (.slice Av L.length cv) vs L)) (fun i _ => L.length - (intOf i).toNat)
        case atStart => exact ⟨0, Nat.zero_le _, rfl, HR⟩
        case round =>
          clear HR
          obtain ⟨k, hk, rfl, HR⟩ := hrel
          by_cases hlt3 : k < L.length
          · have hlt3i : (k : Int) < (L.length : Int) := by omega
            obtain ⟨rc, hrc⟩ : ∃ rc, L[k]? = some rc := ⟨_, List.getElem?_eq_getElem hlt3⟩
            obtain ⟨u, hu⟩ : ∃ u, vs[k]? = some u := ⟨_, List.getElem?_eq_getElem (by rw [HR.out.r.len]; exact hlt3)⟩
            obtain ⟨p1, p2, p3, p4, p5, p6⟩ := pz_rec HP.out hrc
            have hy := HR.out.r.at_ k u rc hu hrc
            obtain ⟨Au, cu, hue⟩ := by_form hy
            subst hue
            obtain ⟨gg, hAv, hcell⟩ := HR.out.r.cell hu
            subst hAv
            obtain ⟨⟨j1, j2⟩, cc⟩ := rc
            dsimp only at p1 p2 p3 p4 p5 p6 hy hcell
            have HYL := hide (y_len HP.out hl40 r k)
            have HNX := hide (play_take (x := atRound x r) hrc)
            have HMY := hide (show r = 0 → maySet (playL (atRound x r) (L.take k)) (j1, j2) cc = true from fun h => by rw [h]; exact may_at HP.out.may hrc)
            obtain ⟨Y, hY⟩ : ∃ Y, playL (atRound x r) (L.take k) = Y := ⟨_, rfl⟩
            rw [hY] at HR HYL HNX HMY
            clear hY
            have hyl : Y.k.length ≤ 1000000000 := by have := HYL.out; omega
            have HST := hide (fun w (h : Pg w g2 b2 Y) => pset_any h p3 hyl j1 j2)
            unfold SetP at HST
            dsimp only at HNX
            obtain ⟨nr, hnr⟩ : ∃ nr, (encRec (j1, j2) cc).length = nr := ⟨_, rfl⟩
            have HB0 := hide (fun (wz : World) (o : R2 W wz g b x g2 b2 Y (.slice (some ⟨gg, 0, none⟩) L.length cv) vs L) => o.r.at_ k _ _ hu hrc)
            dsimp only at HB0 hu
            have HRE := hide (fun wz (o : R2 W wz g b x g2 b2 Y (.slice (some ⟨gg, 0, none⟩) L.length cv) vs L) => rec_replay (HB0.out wz o) p1 p2 p3 p5)
            have hcu : (encRec (j1, j2) cc).length ≤ cu := by
              obtain ⟨A9, c9, e9, _, q9, _, _⟩ := hy.form
              injection e9 with _ _ e9
              omega
            rw [hnr] at HB0 HRE hu hcell p5 p6 hcu
            have HNR := hide hnr
            obtain ⟨q, hq, hwi⟩ := within_to cut (nr - 1) (by omega)
            have HWI := hide hwi
            have HRX := hide (fun wz (o : R2 W wz g b x g2 b2 Y (.slice (some ⟨gg, 0, none⟩) L.length cv) vs L) => rec_replay_cut (q := q) (HB0.out wz o) p1 p2 p3 (by rw [HNR.out]; exact p5) (by rw [HNR.out]; omega))
            have hqn : ¬ cu < q := by omega
            have hqi : (q : Int) ≤ (cu : Int) := by omega
            have hwr : IntKind.i64.wrap ((nr : Int) - 1) = (nr : Int) - 1 := by simp [IntKind.wrap, IntKind.bits, IntKind.signed]; omega
            have HU := hide hu
            clear hrc hy hnr hwi hcell HB0
            have c0 := HR.out.cell hu
            clear hu
            go_upto_region 17 with (first
              | (go_at_call 9; (with_reducible refine (HRE.out _ HR.out).mono ?_); rintro e wc1 ⟨rfl, hb⟩; replace HR := hide (HR.out.below hb); have HN := hide (two_new wc1); clear hb c0)
              | ((with_reducible refine wpList_store_in (p := j1) (q := j2) ?_ ?_ HN.out.r ?_); rfl; rfl; intro wy1 hn hg; replace HN := hide (HN.out.put1 hn hg); clear hn hg)
              | ((with_reducible refine wpList_store_xw (y := cc) p3 ?_ ?_ HN.out.c ?_); rfl; rfl; intro wz1 hn hg; replace HN := hide (HN.out.put2 hn hg); clear hn hg))
            have HP1 := hide HN.out.p
            replace HR := hide (HR.out.below HN.out.low)
            clear HN HRE
            generalize wc1.heap.size = q1 at HP1 ⊢
            have hu := HU.out
            go_cut [14, 15, 16] from 97 to 114 (fun _ _ s16 wx => ∃ mf, s16 = .int .i64 mf ∧ Hid (mf ≠ 0) ∧ Hid (R2 W wx g b x g2 b2 Y (.slice (some ⟨gg, 0, none⟩) L.length cv) vs L) ∧ Hid (P2 wx q1 j1 j2 cc))
            case first =>
              refine wp_region_noPanic ?_
              refine wp_region_U 22 (fun wz => Below wz1.heap.size wz1 wz) (by kernel_rfl) ?_
              have HR0 := HR
              have HD := hide (show Below wz1.heap.size wz1 wz1.drew from kept_drewN (kept_refl _) 1)
              generalize wz1.drew = wd at HD ⊢
              refine anyU_take2 (i := 0) (v := .slice (some ⟨gg, 0, none⟩) L.length cv) (by simp only [List.getElem?_toArray, List.getElem?_cons_zero]; exact rfl) (by kernel_rfl) 12 (by kernel_rfl) (by kernel_rfl) (fun _ _ _ h => h) (by kernel_rfl) (by kernel_rfl) (by kernel_rfl) (by kernel_rfl) (Or.inl ⟨by rfl, fun w hSw => (by go_simp; try with_reducible rfl)⟩) (by with_reducible exact HD.out) ?_
              try simp only [Act.put, List.setIfInBounds_toArray, List.set_cons_zero, List.set_cons_succ]
              refine anyU_take2 (i := 1) (v := .int .i64 (k : Nat)) (by simp only [List.getElem?_toArray, List.getElem?_cons_succ, List.getElem?_cons_zero]; exact rfl) (by kernel_rfl) 12 (by kernel_rfl) (by kernel_rfl) (fun _ _ _ h => h) (by kernel_rfl) (by kernel_rfl) (by kernel_rfl) (by kernel_rfl) (Or.inl ⟨by rfl, fun w hSw => (by go_simp; try with_reducible rfl)⟩) (by with_reducible exact HD.out) ?_
              try simp only [Act.put, List.setIfInBounds_toArray, List.set_cons_zero, List.set_cons_succ]
              refine anyU_take2 (i := 2) (v := .pointer (some ⟨gg, k, none⟩)) (by simp only [List.getElem?_toArray, List.getElem?_cons_succ, List.getElem?_cons_zero]; exact rfl) (by kernel_rfl) 12 (by kernel_rfl) (by kernel_rfl) (fun _ _ _ h => h) (by kernel_rfl) (by kernel_rfl) (by kernel_rfl) (by kernel_rfl) (Or.inl ⟨by rfl, fun w hSw => (by go_simp; try with_reducible rfl)⟩) (by with_reducible exact HD.out) ?_
              try simp only [Act.put, List.setIfInBounds_toArray, List.set_cons_zero, List.set_cons_succ]
              refine anyU_take2 (i := 3) (v := .slice Au nr cu) (by simp only [List.getElem?_toArray, List.getElem?_cons_succ, List.getElem?_cons_zero]; exact rfl) (by kernel_rfl) 12 (by kernel_rfl) (by kernel_rfl) (fun _ _ _ h => h) (by kernel_rfl) (by kernel_rfl) (by kernel_rfl) (by kernel_rfl) (Or.inl ⟨by rfl, fun w hSw => (by have x0 := (HR0.out.below hSw).cell hu; go_simp; try with_reducible rfl)⟩) (by with_reducible exact HD.out) ?_
              try simp only [Act.put, List.setIfInBounds_toArray, List.set_cons_zero, List.set_cons_succ]
              refine anyU_take2 (i := 4) (v := .int .i64 cut) (by simp only [List.getElem?_toArray, List.getElem?_cons_succ, List.getElem?_cons_zero]; exact rfl) (by kernel_rfl) 12 (by kernel_rfl) (by kernel_rfl) (fun _ _ _ h => h) (by kernel_rfl) (by kernel_rfl) (by kernel_rfl) (by kernel_rfl) (Or.inl ⟨by rfl, fun w hSw => (by go_simp; try with_reducible rfl)⟩) (by with_reducible exact HD.out) ?_
              try simp only [Act.put, List.setIfInBounds_toArray, List.set_cons_zero, List.set_cons_succ]
              refine anyU_take2 (i := 5) (v := .slice (some ⟨gg, 0, none⟩) L.length cv) (by simp only [List.getElem?_toArray, List.getElem?_cons_succ, List.getElem?_cons_zero]; exact rfl) (by kernel_rfl) 12 (by kernel_rfl) (by kernel_rfl) (fun _ _ _ h => h) (by kernel_rfl) (by kernel_rfl) (by kernel_rfl) (by kernel_rfl) (Or.inl ⟨by rfl, fun w hSw => (by go_simp; try with_reducible rfl)⟩) (by with_reducible exact HD.out) ?_
              try simp only [Act.put, List.setIfInBounds_toArray, List.set_cons_zero, List.set_cons_succ]
              refine anyU_take2 (i := 6) (v := .int .i64 (k : Nat)) (by simp only [List.getElem?_toArray, List.getElem?_cons_succ, List.getElem?_cons_zero]; exact rfl) (by kernel_rfl) 12 (by kernel_rfl) (by kernel_rfl) (fun _ _ _ h => h) (by kernel_rfl) (by kernel_rfl) (by kernel_rfl) (by kernel_rfl) (Or.inl ⟨by rfl, fun w hSw => (by go_simp; try with_reducible rfl)⟩) (by with_reducible exact HD.out) ?_
              try simp only [Act.put, List.setIfInBounds_toArray, List.set_cons_zero, List.set_cons_succ]
              refine anyU_take2 (i := 7) (v := .pointer (some ⟨gg, k, none⟩)) (by simp only [List.getElem?_toArray, List.getElem?_cons_succ, List.getElem?_cons_zero]; exact rfl) (by kernel_rfl) 12 (by kernel_rfl) (by kernel_rfl) (fun _ _ _ h => h) (by kernel_rfl) (by kernel_rfl) (by kernel_rfl) (by kernel_rfl) (Or.inl ⟨by rfl, fun w hSw => (by go_simp; try with_reducible rfl)⟩) (by with_reducible exact HD.out) ?_
              try simp only [Act.put, List.setIfInBounds_toArray, List.set_cons_zero, List.set_cons_succ]
              refine anyU_take2 (i := 8) (v := .slice Au nr cu) (by simp only [List.getElem?_toArray, List.getElem?_cons_succ, List.getElem?_cons_zero]; exact rfl) (by kernel_rfl) 12 (by kernel_rfl) (by kernel_rfl) (fun _ _ _ h => h) (by kernel_rfl) (by kernel_rfl) (by kernel_rfl) (by kernel_rfl) (Or.inl ⟨by rfl, fun w hSw => (by have x0 := (HR0.out.below hSw).cell hu; go_simp; try with_reducible rfl)⟩) (by with_reducible exact HD.out) ?_
              try simp only [Act.put, List.setIfInBounds_toArray, List.set_cons_zero, List.set_cons_succ]
              refine anyU_take2 (i := 9) (v := .int .i64 (nr : Nat)) (by simp only [List.getElem?_toArray, List.getElem?_cons_succ, List.getElem?_cons_zero]; exact rfl) (by kernel_rfl) 12 (by kernel_rfl) (by kernel_rfl) (fun _ _ _ h => h) (by kernel_rfl) (by kernel_rfl) (by kernel_rfl) (by kernel_rfl) (Or.inl ⟨by rfl, fun w hSw => (by go_simp; try with_reducible rfl)⟩) (by with_reducible exact HD.out) ?_
              try simp only [Act.put, List.setIfInBounds_toArray, List.set_cons_zero, List.set_cons_succ]
              refine anyU_take2 (i := 10) (v := .int .i64 ((nr : Int) - 1)) (by simp only [List.getElem?_toArray, List.getElem?_cons_succ, List.getElem?_cons_zero]; exact rfl) (by kernel_rfl) 12 (by kernel_rfl) (by kernel_rfl) (fun _ _ _ h => h) (by kernel_rfl) (by kernel_rfl) (by kernel_rfl) (by kernel_rfl) (Or.inl ⟨by rfl, fun w hSw => (by go_simp; try with_reducible rfl)⟩) (by with_reducible exact HD.out) ?_
              try simp only [Act.put, List.setIfInBounds_toArray, List.set_cons_zero, List.set_cons_succ]
              refine anyU_three (i := 11) (j := 18) (k := 19) (by kernel_rfl) (by simp only [List.getElem?_toArray, List.getElem?_cons_succ, List.getElem?_cons_zero]; exact rfl) (by simp only [List.getElem?_toArray, List.getElem?_cons_succ, List.getElem?_cons_zero]; exact rfl) (by simp only [List.getElem?_toArray, List.getElem?_cons_succ, List.getElem?_cons_zero]; exact rfl) (fun K hK => ?_) (fun K hK => ?_) (fun K hK => ?_)
              · skip
                try go_simp
                refine (HWI.out _ _ (by omega)).mono ?_
                rintro e wt1 ⟨rfl, hb⟩
                replace HD := hide (kept_trans HD.out hb)
                clear hb
                refine hK.out _ _ (fun _ _ => HD.out) ?_
                clear hK K
                try simp only [Act.put, List.setIfInBounds_toArray, List.set_cons_zero, List.set_cons_succ]
                refine anyU_take2 (i := 12) (v := .slice Au q cu) (by simp only [List.getElem?_toArray, List.getElem?_cons_succ, List.getElem?_cons_zero]; exact rfl) (by kernel_rfl) 12 (by kernel_rfl) (by kernel_rfl) (fun _ _ _ h => h) (by kernel_rfl) (by kernel_rfl) (by kernel_rfl) (by kernel_rfl) (Or.inl ⟨by rfl, fun w hSw => (by go_simp; try with_reducible rfl)⟩) (by with_reducible exact HD.out) ?_
                try simp only [Act.put, List.setIfInBounds_toArray, List.set_cons_zero, List.set_cons_succ]
                refine anyU_three (i := 13) (j := 18) (k := 19) (by kernel_rfl) (by simp only [List.getElem?_toArray, List.getElem?_cons_succ, List.getElem?_cons_zero]; exact rfl) (by simp only [List.getElem?_toArray, List.getElem?_cons_succ, List.getElem?_cons_zero]; exact rfl) (by simp only [List.getElem?_toArray, List.getElem?_cons_succ, List.getElem?_cons_zero]; exact rfl) (fun K hK => ?_) (fun K hK => ?_) (fun K hK => ?_)
                · skip
                  try go_simp
                  refine (HRX.out _ (HR0.out.below HD.out)).mono ?_
                  rintro e wt2 ⟨m1, m2, mz, mf, rfl, hmf, h8m, hb⟩
                  replace HD := hide (kept_trans HD.out hb)
                  have HMF := hide hmf
                  have H8M := hide h8m
                  clear hb hmf h8m
                  refine hK.out _ _ (fun _ _ => HD.out) ?_
                  clear hK K
                  try simp only [Act.put, List.setIfInBounds_toArray, List.set_cons_zero, List.set_cons_succ]
                  refine anyU_take2 (i := 14) (v := .tuple #[.agg #[.int .i64 m1, .int .i64 m2], .agg (clC mz), .int .i64 mf]) (by simp only [List.getElem?_toArray, List.getElem?_cons_succ, List.getElem?_cons_zero]; exact rfl) (by kernel_rfl) 12 (by kernel_rfl) (by kernel_rfl) (fun _ _ _ h => h) (by kernel_rfl) (by kernel_rfl) (by kernel_rfl) (by kernel_rfl) (Or.inl ⟨by rfl, fun w hSw => (by go_simp; try with_reducible rfl)⟩) (by with_reducible exact HD.out) ?_
                  try simp only [Act.put, List.setIfInBounds_toArray, List.set_cons_zero, List.set_cons_succ]
                  refine anyU_take2 (i := 15) (v := .agg #[.int .i64 m1, .int .i64 m2]) (by simp only [List.getElem?_toArray, List.getElem?_cons_succ, List.getElem?_cons_zero]; exact rfl) (by kernel_rfl) 12 (by kernel_rfl) (by kernel_rfl) (fun _ _ _ h => h) (by kernel_rfl) (by kernel_rfl) (by kernel_rfl) (by kernel_rfl) (Or.inl ⟨by rfl, fun w hSw => (by go_simp; try with_reducible rfl)⟩) (by with_reducible exact HD.out) ?_
                  try simp only [Act.put, List.setIfInBounds_toArray, List.set_cons_zero, List.set_cons_succ]
                  refine anyU_take2 (i := 16) (v := .agg (clC mz)) (by simp only [List.getElem?_toArray, List.getElem?_cons_succ, List.getElem?_cons_zero]; exact rfl) (by kernel_rfl) 12 (by kernel_rfl) (by kernel_rfl) (fun _ _ _ h => h) (by kernel_rfl) (by kernel_rfl) (by kernel_rfl) (by kernel_rfl) (Or.inl ⟨by rfl, fun w hSw => (by go_simp; try with_reducible rfl)⟩) (by with_reducible exact HD.out) ?_
                  try simp only [Act.put, List.setIfInBounds_toArray, List.set_cons_zero, List.set_cons_succ]
                  refine anyU_take2 (i := 17) (v := .int .i64 mf) (by simp only [List.getElem?_toArray, List.getElem?_cons_succ, List.getElem?_cons_zero]; exact rfl) (by kernel_rfl) 12 (by kernel_rfl) (by kernel_rfl) (fun _ _ _ h => h) (by kernel_rfl) (by kernel_rfl) (by kernel_rfl) (by kernel_rfl) (Or.inl ⟨by rfl, fun w hSw => (by go_simp; try with_reducible rfl)⟩) (by with_reducible exact HD.out) ?_
                  try simp only [Act.put, List.setIfInBounds_toArray, List.set_cons_zero, List.set_cons_succ]
                  refine anyU_two (i := 18) (j := 19) (by kernel_rfl) (by simp only [List.getElem?_toArray, List.getElem?_cons_succ, List.getElem?_cons_zero]; exact rfl) (by simp only [List.getElem?_toArray, List.getElem?_cons_succ, List.getElem?_cons_zero]; exact rfl) (fun K hK => ?_) (fun K hK => ?_)
                  · skip
                    try go_simp
                    have HI := hide (Row.new wt2 30 #[.int .i64 0, .int .i64 0])
                    have HQI := hide HD.out.size
                    replace HD := hide (kept_trans HD.out (kept_alloc (kept_refl wt2) (.cells #[.int .i64 0, .int .i64 0] 30)))
                    generalize wt2.alloc (.cells #[.int .i64 0, .int .i64 0] 30) = wt3 at HI HD ⊢
                    generalize wt2.heap.size = qi at HI HQI ⊢
                    refine hK.out _ _ (fun _ _ => HD.out) ?_
                    clear hK K
                    try simp only [Act.put, List.setIfInBounds_toArray, List.set_cons_zero, List.set_cons_succ]
                    refine anyU_one (i := 19) (by kernel_rfl) (by simp only [List.getElem?_toArray, List.getElem?_cons_succ, List.getElem?_cons_zero]; exact rfl) (fun K hK => ?_)
                    try go_simp
                    have HC := hide (cell_new wt3)
                    replace HI := hide (HI.out.below (kept_alloc (kept_refl wt3) (.cells #[.int .i64 0, .int .i64 0, .int .i64 0, .int .i64 0, .int .i64 0, .int .i64 0, .int .i64 0, .int .i64 0, .string ⟨#[]⟩, .string ⟨#[]⟩, .string ⟨#[]⟩, .string ⟨#[]⟩, .int .i64 0, .int .i64 0, .int .i64 0, .int .i64 0, .int .i64 0, .int .i64 0, .int .i64 0, .int .i64 0, .bool false] 38)) HI.out.lt)
                    have HQC := hide HD.out.size
                    replace HD := hide (kept_trans HD.out (kept_alloc (kept_refl wt3) (.cells #[.int .i64 0, .int .i64 0, .int .i64 0, .int .i64 0, .int .i64 0, .int .i64 0, .int .i64 0, .int .i64 0, .string ⟨#[]⟩, .string ⟨#[]⟩, .string ⟨#[]⟩, .string ⟨#[]⟩, .int .i64 0, .int .i64 0, .int .i64 0, .int .i64 0, .int .i64 0, .int .i64 0, .int .i64 0, .int .i64 0, .bool false] 38)))
                    generalize wt3.alloc (.cells #[.int .i64 0, .int .i64 0, .int .i64 0, .int .i64 0, .int .i64 0, .int .i64 0, .int .i64 0, .int .i64 0, .string ⟨#[]⟩, .string ⟨#[]⟩, .string ⟨#[]⟩, .string ⟨#[]⟩, .int .i64 0, .int .i64 0, .int .i64 0, .int .i64 0, .int .i64 0, .int .i64 0, .int .i64 0, .int .i64 0, .bool false] 38) = wt4 at HC HD HI ⊢
                    generalize wt3.heap.size = qc at HC HQC ⊢
                    refine hK.out _ _ (fun _ _ => HD.out) ?_
                    clear hK K
                    try simp only [Act.put, List.setIfInBounds_toArray, List.set_cons_zero, List.set_cons_succ]
                    have hne := rows_ne HI.out HC.out.r (by decide)
                    refine anyU_one (i := 20) (by kernel_rfl) (by simp only [List.getElem?_toArray, List.getElem?_cons_succ, List.getElem?_cons_zero]; exact rfl) (fun K hK => ?_)
                    rw [if_pos (by rfl)]
                    refine wp_store_in rfl rfl rfl HI.out ?_
                    intro wt5 hn hg
                    replace HC := hide (HC.out.other hg (fun e => hne e.symm))
                    replace HD := hide (below_own HD.out hg HQI.out)
                    clear hn hg hne
                    refine hK.out _ _ (fun _ _ => HD.out) ?_
                    clear hK K
                    try simp only [Act.put]
                    refine anyU_one (i := 21) (by kernel_rfl) (by simp only [List.getElem?_toArray, List.getElem?_cons_succ, List.getElem?_cons_zero]; exact rfl) (fun K hK => ?_)
                    rw [if_pos (by rfl)]
                    refine wp_store_xw rfl H8M.out rfl rfl HC.out ?_
                    intro wt6 hn hg
                    replace HD := hide (below_own HD.out hg HQC.out)
                    clear hn hg
                    refine hK.out _ _ (fun _ _ => HD.out) ?_
                    clear hK K
                    try simp only [Act.put]
                    refine anyU_one (i := 22) (by kernel_rfl) (by simp only [List.getElem?_toArray, List.getElem?_cons_succ, List.getElem?_cons_zero]; exact rfl) (fun K hK => ?_)
                    try go_simp
                    refine hK.out _ _ (fun e _ => absurd rfl e) ?_
                    clear hK K
                    try simp only [Act.put]
                    refine anyU_done (by kernel_rfl) ?_
                    refine NoPanic.normal ?_
                    try simp only [Act.put]
                    replace HR := hide (HR0.out.below HD.out)
                    replace HP1 := hide (HP1.out.kept HD.out)
                    clear HI HC HQI HQC HR0 HWI HRX H8M HD
                    generalize wt6 = we at HR HP1 ⊢
                    go_wp2
                    go_meet
                    exact ⟨mf, rfl, HMF, HR, HP1⟩
                  · skip
                    try go_simp
                    have HC := hide (cell_new wt2)
                    have HQC := hide HD.out.size
                    replace HD := hide (kept_trans HD.out (kept_alloc (kept_refl wt2) (.cells #[.int .i64 0, .int .i64 0, .int .i64 0, .int .i64 0, .int .i64 0, .int .i64 0, .int .i64 0, .int .i64 0, .string ⟨#[]⟩, .string ⟨#[]⟩, .string ⟨#[]⟩, .string ⟨#[]⟩, .int .i64 0, .int .i64 0, .int .i64 0, .int .i64 0, .int .i64 0, .int .i64 0, .int .i64 0, .int .i64 0, .bool false] 38)))
                    generalize wt2.alloc (.cells #[.int .i64 0, .int .i64 0, .int .i64 0, .int .i64 0, .int .i64 0, .int .i64 0, .int .i64 0, .int .i64 0, .string ⟨#[]⟩, .string ⟨#[]⟩, .string ⟨#[]⟩, .string ⟨#[]⟩, .int .i64 0, .int .i64 0, .int .i64 0, .int .i64 0, .int .i64 0, .int .i64 0, .int .i64 0, .int .i64 0, .bool false] 38) = wt7 at HC HD ⊢
                    generalize wt2.heap.size = qc at HC HQC ⊢
                    refine hK.out _ _ (fun _ _ => HD.out) ?_
                    clear hK K
                    try simp only [Act.put, List.setIfInBounds_toArray, List.set_cons_zero, List.set_cons_succ]
                    refine anyU_one (i := 18) (by kernel_rfl) (by simp only [List.getElem?_toArray, List.getElem?_cons_succ, List.getElem?_cons_zero]; exact rfl) (fun K hK => ?_)
                    try go_simp
                    have HI := hide (Row.new wt7 30 #[.int .i64 0, .int .i64 0])
                    replace HC := hide (HC.out.kept (kept_alloc (kept_refl wt7) (.cells #[.int .i64 0, .int .i64 0] 30)))
                    have HQI := hide HD.out.size
                    replace HD := hide (kept_trans HD.out (kept_alloc (kept_refl wt7) (.cells #[.int .i64 0, .int .i64 0] 30)))
                    generalize wt7.alloc (.cells #[.int .i64 0, .int .i64 0] 30) = wt8 at HI HD HC ⊢
                    generalize wt7.heap.size = qi at HI HQI ⊢
                    refine hK.out _ _ (fun _ _ => HD.out) ?_
                    clear hK K
                    try simp only [Act.put, List.setIfInBounds_toArray, List.set_cons_zero, List.set_cons_succ]
                    have hne := rows_ne HI.out HC.out.r (by decide)
                    refine anyU_one (i := 20) (by kernel_rfl) (by simp only [List.getElem?_toArray, List.getElem?_cons_succ, List.getElem?_cons_zero]; exact rfl) (fun K hK => ?_)
                    rw [if_pos (by rfl)]
                    refine wp_store_in rfl rfl rfl HI.out ?_
                    intro wt9 hn hg
                    replace HC := hide (HC.out.other hg (fun e => hne e.symm))
                    replace HD := hide (below_own HD.out hg HQI.out)
                    clear hn hg hne
                    refine hK.out _ _ (fun _ _ => HD.out) ?_
                    clear hK K
                    try simp only [Act.put]
                    refine anyU_one (i := 21) (by kernel_rfl) (by simp only [List.getElem?_toArray, List.getElem?_cons_succ, List.getElem?_cons_zero]; exact rfl) (fun K hK => ?_)
                    rw [if_pos (by rfl)]
                    refine wp_store_xw rfl H8M.out rfl rfl HC.out ?_
                    intro wt10 hn hg
                    replace HD := hide (below_own HD.out hg HQC.out)
                    clear hn hg
                    refine hK.out _ _ (fun _ _ => HD.out) ?_
                    clear hK K
                    try simp only [Act.put]
                    refine anyU_one (i := 22) (by kernel_rfl) (by simp only [List.getElem?_toArray, List.getElem?_cons_succ, List.getElem?_cons_zero]; exact rfl) (fun K hK => ?_)
                    try go_simp
                    refine hK.out _ _ (fun e _ => absurd rfl e) ?_
                    clear hK K
                    try simp only [Act.put]
                    refine anyU_done (by kernel_rfl) ?_
                    refine NoPanic.normal ?_
                    try simp only [Act.put]
                    replace HR := hide (HR0.out.below HD.out)
                    replace HP1 := hide (HP1.out.kept HD.out)
                    clear HI HC HQI HQC HR0 HWI HRX H8M HD
                    generalize wt10 = we at HR HP1 ⊢
                    go_wp2
                    go_meet
                    exact ⟨mf, rfl, HMF, HR, HP1⟩
                · skip
                  try go_simp
                  have HI := hide (Row.new wt1 30 #[.int .i64 0, .int .i64 0])
                  have HQI := hide HD.out.size
                  replace HD := hide (kept_trans HD.out (kept_alloc (kept_refl wt1) (.cells #[.int .i64 0, .int .i64 0] 30)))
                  generalize wt1.alloc (.cells #[.int .i64 0, .int .i64 0] 30) = wt11 at HI HD ⊢
                  generalize wt1.heap.size = qi at HI HQI ⊢
                  refine hK.out _ _ (fun _ _ => HD.out) ?_
                  clear hK K
                  try simp only [Act.put, List.setIfInBounds_toArray, List.set_cons_zero, List.set_cons_succ]
                  refine anyU_two (i := 13) (j := 19) (by kernel_rfl) (by simp only [List.getElem?_toArray, List.getElem?_cons_succ, List.getElem?_cons_zero]; exact rfl) (by simp only [List.getElem?_toArray, List.getElem?_cons_succ, List.getElem?_cons_zero]; exact rfl) (fun K hK => ?_) (fun K hK => ?_)
                  · skip
                    try go_simp
                    refine (HRX.out _ (HR0.out.below HD.out)).mono ?_
                    rintro e wt12 ⟨m1, m2, mz, mf, rfl, hmf, h8m, hb⟩
                    replace HD := hide (kept_trans HD.out hb)
                    replace HI := hide (HI.out.below hb HI.out.lt)
                    have HMF := hide hmf
                    have H8M := hide h8m
                    clear hb hmf h8m
                    refine hK.out _ _ (fun _ _ => HD.out) ?_
                    clear hK K
                    try simp only [Act.put, List.setIfInBounds_toArray, List.set_cons_zero, List.set_cons_succ]
                    refine anyU_take2 (i := 14) (v := .tuple #[.agg #[.int .i64 m1, .int .i64 m2], .agg (clC mz), .int .i64 mf]) (by simp only [List.getElem?_toArray, List.getElem?_cons_succ, List.getElem?_cons_zero]; exact rfl) (by kernel_rfl) 12 (by kernel_rfl) (by kernel_rfl) (fun _ _ _ h => h) (by kernel_rfl) (by kernel_rfl) (by kernel_rfl) (by kernel_rfl) (Or.inl ⟨by rfl, fun w hSw => (by go_simp; try with_reducible rfl)⟩) (by with_reducible exact HD.out) ?_
                    try simp only [Act.put, List.setIfInBounds_toArray, List.set_cons_zero, List.set_cons_succ]
                    refine anyU_take2 (i := 15) (v := .agg #[.int .i64 m1, .int .i64 m2]) (by simp only [List.getElem?_toArray, List.getElem?_cons_succ, List.getElem?_cons_zero]; exact rfl) (by kernel_rfl) 12 (by kernel_rfl) (by kernel_rfl) (fun _ _ _ h => h) (by kernel_rfl) (by kernel_rfl) (by kernel_rfl) (by kernel_rfl) (Or.inl ⟨by rfl, fun w hSw => (by go_simp; try with_reducible rfl)⟩) (by with_reducible exact HD.out) ?_
                    try simp only [Act.put, List.setIfInBounds_toArray, List.set_cons_zero, List.set_cons_succ]
                    refine anyU_take2 (i := 16) (v := .agg (clC mz)) (by simp only [List.getElem?_toArray, List.getElem?_cons_succ, List.getElem?_cons_zero]; exact rfl) (by kernel_rfl) 12 (by kernel_rfl) (by kernel_rfl) (fun _ _ _ h => h) (by kernel_rfl) (by kernel_rfl) (by kernel_rfl) (by kernel_rfl) (Or.inl ⟨by rfl, fun w hSw => (by go_simp; try with_reducible rfl)⟩) (by with_reducible exact HD.out) ?_
                    try simp only [Act.put, List.setIfInBounds_toArray, List.set_cons_zero, List.set_cons_succ]
                    refine anyU_take2 (i := 17) (v := .int .i64 mf) (by simp only [List.getElem?_toArray, List.getElem?_cons_succ, List.getElem?_cons_zero]; exact rfl) (by kernel_rfl) 12 (by kernel_rfl) (by kernel_rfl) (fun _ _ _ h => h) (by kernel_rfl) (by kernel_rfl) (by kernel_rfl) (by kernel_rfl) (Or.inl ⟨by rfl, fun w hSw => (by go_simp; try with_reducible rfl)⟩) (by with_reducible exact HD.out) ?_
                    try simp only [Act.put, List.setIfInBounds_toArray, List.set_cons_zero, List.set_cons_succ]
                    refine anyU_one (i := 19) (by kernel_rfl) (by simp only [List.getElem?_toArray, List.getElem?_cons_succ, List.getElem?_cons_zero]; exact rfl) (fun K hK => ?_)
                    try go_simp
                    have HC := hide (cell_new wt12)
                    replace HI := hide (HI.out.below (kept_alloc (kept_refl wt12) (.cells #[.int .i64 0, .int .i64 0, .int .i64 0, .int .i64 0, .int .i64 0, .int .i64 0, .int .i64 0, .int .i64 0, .string ⟨#[]⟩, .string ⟨#[]⟩, .string ⟨#[]⟩, .string ⟨#[]⟩, .int .i64 0, .int .i64 0, .int .i64 0, .int .i64 0, .int .i64 0, .int .i64 0, .int .i64 0, .int .i64 0, .bool false] 38)) HI.out.lt)
                    have HQC := hide HD.out.size
                    replace HD := hide (kept_trans HD.out (kept_alloc (kept_refl wt12) (.cells #[.int .i64 0, .int .i64 0, .int .i64 0, .int .i64 0, .int .i64 0, .int .i64 0, .int .i64 0, .int .i64 0, .string ⟨#[]⟩, .string ⟨#[]⟩, .string ⟨#[]⟩, .string ⟨#[]⟩, .int .i64 0, .int .i64 0, .int .i64 0, .int .i64 0, .int .i64 0, .int .i64 0, .int .i64 0, .int .i64 0, .bool false] 38)))
                    generalize wt12.alloc (.cells #[.int .i64 0, .int .i64 0, .int .i64 0, .int .i64 0, .int .i64 0, .int .i64 0, .int .i64 0, .int .i64 0, .string ⟨#[]⟩, .string ⟨#[]⟩, .string ⟨#[]⟩, .string ⟨#[]⟩, .int .i64 0, .int .i64 0, .int .i64 0, .int .i64 0, .int .i64 0, .int .i64 0, .int .i64 0, .int .i64 0, .bool false] 38) = wt13 at HC HD HI ⊢
                    generalize wt12.heap.size = qc at HC HQC ⊢
                    refine hK.out _ _ (fun _ _ => HD.out) ?_
                    clear hK K
                    try simp only [Act.put, List.setIfInBounds_toArray, List.set_cons_zero, List.set_cons_succ]
                    have hne := rows_ne HI.out HC.out.r (by decide)
                    refine anyU_one (i := 20) (by kernel_rfl) (by simp only [List.getElem?_toArray, List.getElem?_cons_succ, List.getElem?_cons_zero]; exact rfl) (fun K hK => ?_)
                    rw [if_pos (by rfl)]
                    refine wp_store_in rfl rfl rfl HI.out ?_
                    intro wt14 hn hg
                    replace HC := hide (HC.out.other hg (fun e => hne e.symm))
                    replace HD := hide (below_own HD.out hg HQI.out)
                    clear hn hg hne
                    refine hK.out _ _ (fun _ _ => HD.out) ?_
                    clear hK K
                    try simp only [Act.put]
                    refine anyU_one (i := 21) (by kernel_rfl) (by simp only [List.getElem?_toArray, List.getElem?_cons_succ, List.getElem?_cons_zero]; exact rfl) (fun K hK => ?_)
                    rw [if_pos (by rfl)]
                    refine wp_store_xw rfl H8M.out rfl rfl HC.out ?_
                    intro wt15 hn hg
                    replace HD := hide (below_own HD.out hg HQC.out)
                    clear hn hg
                    refine hK.out _ _ (fun _ _ => HD.out) ?_
                    clear hK K
                    try simp only [Act.put]
                    refine anyU_one (i := 22) (by kernel_rfl) (by simp only [List.getElem?_toArray, List.getElem?_cons_succ, List.getElem?_cons_zero]; exact rfl) (fun K hK => ?_)
                    try go_simp
                    refine hK.out _ _ (fun e _ => absurd rfl e) ?_
                    clear hK K
                    try simp only [Act.put]
                    refine anyU_done (by kernel_rfl) ?_
                    refine NoPanic.normal ?_
                    try simp only [Act.put]
                    replace HR := hide (HR0.out.below HD.out)
                    replace HP1 := hide (HP1.out.kept HD.out)
                    clear HI HC HQI HQC HR0 HWI HRX H8M HD
                    generalize wt15 = we at HR HP1 ⊢
                    go_wp2
                    go_meet
                    exact ⟨mf, rfl, HMF, HR, HP1⟩
                  · skip
                    try go_simp
                    have HC := hide (cell_new wt11)
                    replace HI := hide (HI.out.below (kept_alloc (kept_refl wt11) (.cells #[.int .i64 0, .int .i64 0, .int .i64 0, .int .i64 0, .int .i64 0, .int .i64 0, .int .i64 0, .int .i64 0, .string ⟨#[]⟩, .string ⟨#[]⟩, .string ⟨#[]⟩, .string ⟨#[]⟩, .int .i64 0, .int .i64 0, .int .i64 0, .int .i64 0, .int .i64 0, .int .i64 0, .int .i64 0, .int .i64 0, .bool false] 38)) HI.out.lt)
                    have HQC := hide HD.out.size
                    replace HD := hide (kept_trans HD.out (kept_alloc (kept_refl wt11) (.cells #[.int .i64 0, .int .i64 0, .int .i64 0, .int .i64 0, .int .i64 0, .int .i64 0, .int .i64 0, .int .i64 0, .string ⟨#[]⟩, .string ⟨#[]⟩, .string ⟨#[]⟩, .string ⟨#[]⟩, .int .i64 0, .int .i64 0, .int .i64 0, .int .i64 0, .int .i64 0, .int .i64 0, .int .i64 0, .int .i64 0, .bool false] 38)))
                    generalize wt11.alloc (.cells #[.int .i64 0, .int .i64 0, .int .i64 0, .int .i64 0, .int .i64 0, .int .i64 0, .int .i64 0, .int .i64 0, .string ⟨#[]⟩, .string ⟨#[]⟩, .string ⟨#[]⟩, .string ⟨#[]⟩, .int .i64 0, .int .i64 0, .int .i64 0, .int .i64 0, .int .i64 0, .int .i64 0, .int .i64 0, .int .i64 0, .bool false] 38) = wt16 at HC HD HI ⊢
                    generalize wt11.heap.size = qc at HC HQC ⊢
                    refine hK.out _ _ (fun _ _ => HD.out) ?_
                    clear hK K
                    try simp only [Act.put, List.setIfInBounds_toArray, List.set_cons_zero, List.set_cons_succ]
                    refine anyU_one (i := 13) (by kernel_rfl) (by simp only [List.getElem?_toArray, List.getElem?_cons_succ, List.getElem?_cons_zero]; exact rfl) (fun K hK => ?_)
                    try go_simp
                    refine (HRX.out _ (HR0.out.below HD.out)).mono ?_
                    rintro e wt17 ⟨m1, m2, mz, mf, rfl, hmf, h8m, hb⟩
                    replace HD := hide (kept_trans HD.out hb)
                    replace HI := hide (HI.out.below hb HI.out.lt)
                    replace HC := hide (HC.out.kept hb)
                    have HMF := hide hmf
                    have H8M := hide h8m
                    clear hb hmf h8m
                    refine hK.out _ _ (fun _ _ => HD.out) ?_
                    clear hK K
                    try simp only [Act.put, List.setIfInBounds_toArray, List.set_cons_zero, List.set_cons_succ]
                    refine anyU_take2 (i := 14) (v := .tuple #[.agg #[.int .i64 m1, .int .i64 m2], .agg (clC mz), .int .i64 mf]) (by simp only [List.getElem?_toArray, List.getElem?_cons_succ, List.getElem?_cons_zero]; exact rfl) (by kernel_rfl) 12 (by kernel_rfl) (by kernel_rfl) (fun _ _ _ h => h) (by kernel_rfl) (by kernel_rfl) (by kernel_rfl) (by kernel_rfl) (Or.inl ⟨by rfl, fun w hSw => (by go_simp; try with_reducible rfl)⟩) (by with_reducible exact HD.out) ?_
                    try simp only [Act.put, List.setIfInBounds_toArray, List.set_cons_zero, List.set_cons_succ]
                    refine anyU_take2 (i := 15) (v := .agg #[.int .i64 m1, .int .i64 m2]) (by simp only [List.getElem?_toArray, List.getElem?_cons_succ, List.getElem?_cons_zero]; exact rfl) (by kernel_rfl) 12 (by kernel_rfl) (by kernel_rfl) (fun _ _ _ h => h) (by kernel_rfl) (by kernel_rfl) (by kernel_rfl) (by kernel_rfl) (Or.inl ⟨by rfl, fun w hSw => (by go_simp; try with_reducible rfl)⟩) (by with_reducible exact HD.out) ?_
                    try simp only [Act.put, List.setIfInBounds_toArray, List.set_cons_zero, List.set_cons_succ]
                    refine anyU_take2 (i := 16) (v := .agg (clC mz)) (by simp only [List.getElem?_toArray, List.getElem?_cons_succ, List.getElem?_cons_zero]; exact rfl) (by kernel_rfl) 12 (by kernel_rfl) (by kernel_rfl) (fun _ _ _ h => h) (by kernel_rfl) (by kernel_rfl) (by kernel_rfl) (by kernel_rfl) (Or.inl ⟨by rfl, fun w hSw => (by go_simp; try with_reducible rfl)⟩) (by with_reducible exact HD.out) ?_
                    try simp only [Act.put, List.setIfInBounds_toArray, List.set_cons_zero, List.set_cons_succ]
                    refine anyU_take2 (i := 17) (v := .int .i64 mf) (by simp only [List.getElem?_toArray, List.getElem?_cons_succ, List.getElem?_cons_zero]; exact rfl) (by kernel_rfl) 12 (by kernel_rfl) (by kernel_rfl) (fun _ _ _ h => h) (by kernel_rfl) (by kernel_rfl) (by kernel_rfl) (by kernel_rfl) (Or.inl ⟨by rfl, fun w hSw => (by go_simp; try with_reducible rfl)⟩) (by with_reducible exact HD.out) ?_
                    try simp only [Act.put, List.setIfInBounds_toArray, List.set_cons_zero, List.set_cons_succ]
                    have hne := rows_ne HI.out HC.out.r (by decide)
                    refine anyU_one (i := 20) (by kernel_rfl) (by simp only [List.getElem?_toArray, List.getElem?_cons_succ, List.getElem?_cons_zero]; exact rfl) (fun K hK => ?_)
                    rw [if_pos (by rfl)]
                    refine wp_store_in rfl rfl rfl HI.out ?_
                    intro wt18 hn hg
                    replace HC := hide (HC.out.other hg (fun e => hne e.symm))
                    replace HD := hide (below_own HD.out hg HQI.out)
                    clear hn hg hne
                    refine hK.out _ _ (fun _ _ => HD.out) ?_
                    clear hK K
                    try simp only [Act.put]
                    refine anyU_one (i := 21) (by kernel_rfl) (by simp only [List.getElem?_toArray, List.getElem?_cons_succ, List.getElem?_cons_zero]; exact rfl) (fun K hK => ?_)
                    rw [if_pos (by rfl)]
                    refine wp_store_xw rfl H8M.out rfl rfl HC.out ?_
                    intro wt19 hn hg
                    replace HD := hide (below_own HD.out hg HQC.out)
                    clear hn hg
                    refine hK.out _ _ (fun _ _ => HD.out) ?_
                    clear hK K
                    try simp only [Act.put]
                    refine anyU_one (i := 22) (by kernel_rfl) (by simp only [List.getElem?_toArray, List.getElem?_cons_succ, List.getElem?_cons_zero]; exact rfl) (fun K hK => ?_)
                    try go_simp
                    refine hK.out _ _ (fun e _ => absurd rfl e) ?_
                    clear hK K
                    try simp only [Act.put]
                    refine anyU_done (by kernel_rfl) ?_
                    refine NoPanic.normal ?_
                    try simp only [Act.put]
                    replace HR := hide (HR0.out.below HD.out)
                    replace HP1 := hide (HP1.out.kept HD.out)
                    clear HI HC HQI HQC HR0 HWI HRX H8M HD
                    generalize wt19 = we at HR HP1 ⊢
                    go_wp2
                    go_meet
                    exact ⟨mf, rfl, HMF, HR, HP1⟩
                · skip
                  try go_simp
                  have HC := hide (cell_new wt1)
                  have HQC := hide HD.out.size
                  replace HD := hide (kept_trans HD.out (kept_alloc (kept_refl wt1) (.cells #[.int .i64 0, .int .i64 0, .int .i64 0, .int .i64 0, .int .i64 0, .int .i64 0, .int .i64 0, .int .i64 0, .string ⟨#[]⟩, .string ⟨#[]⟩, .string ⟨#[]⟩, .string ⟨#[]⟩, .int .i64 0, .int .i64 0, .int .i64 0, .int .i64 0, .int .i64 0, .int .i64 0, .int .i64 0, .int .i64 0, .bool false] 38)))
                  generalize wt1.alloc (.cells #[.int .i64 0, .int .i64 0, .int .i64 0, .int .i64 0, .int .i64 0, .int .i64 0, .int .i64 0, .int .i64 0, .string ⟨#[]⟩, .string ⟨#[]⟩, .string ⟨#[]⟩, .string ⟨#[]⟩, .int .i64 0, .int .i64 0, .int .i64 0, .int .i64 0, .int .i64 0, .int .i64 0, .int .i64 0, .int .i64 0, .bool false] 38) = wt20 at HC HD ⊢
                  generalize wt1.heap.size = qc at HC HQC ⊢
                  refine hK.out _ _ (fun _ _ => HD.out) ?_
                  clear hK K
                  try simp only [Act.put, List.setIfInBounds_toArray, List.set_cons_zero, List.set_cons_succ]
                  refine anyU_two (i := 13) (j := 18) (by kernel_rfl) (by simp only [List.getElem?_toArray, List.getElem?_cons_succ, List.getElem?_cons_zero]; exact rfl) (by simp only [List.getElem?_toArray, List.getElem?_cons_succ, List.getElem?_cons_zero]; exact rfl) (fun K hK => ?_) (fun K hK => ?_)
                  · skip
                    try go_simp
                    refine (HRX.out _ (HR0.out.below HD.out)).mono ?_
                    rintro e wt21 ⟨m1, m2, mz, mf, rfl, hmf, h8m, hb⟩
                    replace HD := hide (kept_trans HD.out hb)
                    replace HC := hide (HC.out.kept hb)
                    have HMF := hide hmf
                    have H8M := hide h8m
                    clear hb hmf h8m
                    refine hK.out _ _ (fun _ _ => HD.out) ?_
                    clear hK K
                    try simp only [Act.put, List.setIfInBounds_toArray, List.set_cons_zero, List.set_cons_succ]
                    refine anyU_take2 (i := 14) (v := .tuple #[.agg #[.int .i64 m1, .int .i64 m2], .agg (clC mz), .int .i64 mf]) (by simp only [List.getElem?_toArray, List.getElem?_cons_succ, List.getElem?_cons_zero]; exact rfl) (by kernel_rfl) 12 (by kernel_rfl) (by kernel_rfl) (fun _ _ _ h => h) (by kernel_rfl) (by kernel_rfl) (by kernel_rfl) (by kernel_rfl) (Or.inl ⟨by rfl, fun w hSw => (by go_simp; try with_reducible rfl)⟩) (by with_reducible exact HD.out) ?_
                    try simp only [Act.put, List.setIfInBounds_toArray, List.set_cons_zero, List.set_cons_succ]
                    refine anyU_take2 (i := 15) (v := .agg #[.int .i64 m1, .int .i64 m2]) (by simp only [List.getElem?_toArray, List.getElem?_cons_succ, List.getElem?_cons_zero]; exact rfl) (by kernel_rfl) 12 (by kernel_rfl) (by kernel_rfl) (fun _ _ _ h => h) (by kernel_rfl) (by kernel_rfl) (by kernel_rfl) (by kernel_rfl) (Or.inl ⟨by rfl, fun w hSw => (by go_simp; try with_reducible rfl)⟩) (by with_reducible exact HD.out) ?_
                    try simp only [Act.put, List.setIfInBounds_toArray, List.set_cons_zero, List.set_cons_succ]
                    refine anyU_take2 (i := 16) (v := .agg (clC mz)) (by simp only [List.getElem?_toArray, List.getElem?_cons_succ, List.getElem?_cons_zero]; exact rfl) (by kernel_rfl) 12 (by kernel_rfl) (by kernel_rfl) (fun _ _ _ h => h) (by kernel_rfl) (by kernel_rfl) (by kernel_rfl) (by kernel_rfl) (Or.inl ⟨by rfl, fun w hSw => (by go_simp; try with_reducible rfl)⟩) (by with_reducible exact HD.out) ?_
                    try simp only [Act.put, List.setIfInBounds_toArray, List.set_cons_zero, List.set_cons_succ]
                    refine anyU_take2 (i := 17) (v := .int .i64 mf) (by simp only [List.getElem?_toArray, List.getElem?_cons_succ, List.getElem?_cons_zero]; exact rfl) (by kernel_rfl) 12 (by kernel_rfl) (by kernel_rfl) (fun _ _ _ h => h) (by kernel_rfl) (by kernel_rfl) (by kernel_rfl) (by kernel_rfl) (Or.inl ⟨by rfl, fun w hSw => (by go_simp; try with_reducible rfl)⟩) (by with_reducible exact HD.out) ?_
                    try simp only [Act.put, List.setIfInBounds_toArray, List.set_cons_zero, List.set_cons_succ]
                    refine anyU_one (i := 18) (by kernel_rfl) (by simp only [List.getElem?_toArray, List.getElem?_cons_succ, List.getElem?_cons_zero]; exact rfl) (fun K hK => ?_)
                    try go_simp
                    have HI := hide (Row.new wt21 30 #[.int .i64 0, .int .i64 0])
                    replace HC := hide (HC.out.kept (kept_alloc (kept_refl wt21) (.cells #[.int .i64 0, .int .i64 0] 30)))
                    have HQI := hide HD.out.size
                    replace HD := hide (kept_trans HD.out (kept_alloc (kept_refl wt21) (.cells #[.int .i64 0, .int .i64 0] 30)))
                    generalize wt21.alloc (.cells #[.int .i64 0, .int .i64 0] 30) = wt22 at HI HD HC ⊢
                    generalize wt21.heap.size = qi at HI HQI ⊢
                    refine hK.out _ _ (fun _ _ => HD.out) ?_
                    clear hK K
                    try simp only [Act.put, List.setIfInBounds_toArray, List.set_cons_zero, List.set_cons_succ]
                    have hne := rows_ne HI.out HC.out.r (by decide)
                    refine anyU_one (i := 20) (by kernel_rfl) (by simp only [List.getElem?_toArray, List.getElem?_cons_succ, List.getElem?_cons_zero]; exact rfl) (fun K hK => ?_)
                    rw [if_pos (by rfl)]
                    refine wp_store_in rfl rfl rfl HI.out ?_
                    intro wt23 hn hg
                    replace HC := hide (HC.out.other hg (fun e => hne e.symm))
                    replace HD := hide (below_own HD.out hg HQI.out)
                    clear hn hg hne
                    refine hK.out _ _ (fun _ _ => HD.out) ?_
                    clear hK K
                    try simp only [Act.put]
                    refine anyU_one (i := 21) (by kernel_rfl) (by simp only [List.getElem?_toArray, List.getElem?_cons_succ, List.getElem?_cons_zero]; exact rfl) (fun K hK => ?_)
                    rw [if_pos (by rfl)]
                    refine wp_store_xw rfl H8M.out rfl rfl HC.out ?_
                    intro wt24 hn hg
                    replace HD := hide (below_own HD.out hg HQC.out)
                    clear hn hg
                    refine hK.out _ _ (fun _ _ => HD.out) ?_
                    clear hK K
                    try simp only [Act.put]
                    refine anyU_one (i := 22) (by kernel_rfl) (by simp only [List.getElem?_toArray, List.getElem?_cons_succ, List.getElem?_cons_zero]; exact rfl) (fun K hK => ?_)
                    try go_simp
                    refine hK.out _ _ (fun e _ => absurd rfl e) ?_
                    clear hK K
                    try simp only [Act.put]
                    refine anyU_done (by kernel_rfl) ?_
                    refine NoPanic.normal ?_
                    try simp only [Act.put]
                    replace HR := hide (HR0.out.below HD.out)
                    replace HP1 := hide (HP1.out.kept HD.out)
                    clear HI HC HQI HQC HR0 HWI HRX H8M HD
                    generalize wt24 = we at HR HP1 ⊢
                    go_wp2
                    go_meet
                    exact ⟨mf, rfl, HMF, HR, HP1⟩
                  · skip
                    try go_simp
                    have HI := hide (Row.new wt20 30 #[.int .i64 0, .int .i64 0])
                    replace HC := hide (HC.out.kept (kept_alloc (kept_refl wt20) (.cells #[.int .i64 0, .int .i64 0] 30)))
                    have HQI := hide HD.out.size
                    replace HD := hide (kept_trans HD.out (kept_alloc (kept_refl wt20) (.cells #[.int .i64 0, .int .i64 0] 30)))
                    generalize wt20.alloc (.cells #[.int .i64 0, .int .i64 0] 30) = wt25 at HI HD HC ⊢
                    generalize wt20.heap.size = qi at HI HQI ⊢
                    refine hK.out _ _ (fun _ _ => HD.out) ?_
                    clear hK K
                    try simp only [Act.put, List.setIfInBounds_toArray, List.set_cons_zero, List.set_cons_succ]
                    refine anyU_one (i := 13) (by kernel_rfl) (by simp only [List.getElem?_toArray, List.getElem?_cons_succ, List.getElem?_cons_zero]; exact rfl) (fun K hK => ?_)
                    try go_simp
                    refine (HRX.out _ (HR0.out.below HD.out)).mono ?_
                    rintro e wt26 ⟨m1, m2, mz, mf, rfl, hmf, h8m, hb⟩
                    replace HD := hide (kept_trans HD.out hb)
                    replace HI := hide (HI.out.below hb HI.out.lt)
                    replace HC := hide (HC.out.kept hb)
                    have HMF := hide hmf
                    have H8M := hide h8m
                    clear hb hmf h8m
                    refine hK.out _ _ (fun _ _ => HD.out) ?_
                    clear hK K
                    try simp only [Act.put, List.setIfInBounds_toArray, List.set_cons_zero, List.set_cons_succ]
                    refine anyU_take2 (i := 14) (v := .tuple #[.agg #[.int .i64 m1, .int .i64 m2], .agg (clC mz), .int .i64 mf]) (by simp only [List.getElem?_toArray, List.getElem?_cons_succ, List.getElem?_cons_zero]; exact rfl) (by kernel_rfl) 12 (by kernel_rfl) (by kernel_rfl) (fun _ _ _ h => h) (by kernel_rfl) (by kernel_rfl) (by kernel_rfl) (by kernel_rfl) (Or.inl ⟨by rfl, fun w hSw => (by go_simp; try with_reducible rfl)⟩) (by with_reducible exact HD.out) ?_
                    try simp only [Act.put, List.setIfInBounds_toArray, List.set_cons_zero, List.set_cons_succ]
                    refine anyU_take2 (i := 15) (v := .agg #[.int .i64 m1, .int .i64 m2]) (by simp only [List.getElem?_toArray, List.getElem?_cons_succ, List.getElem?_cons_zero]; exact rfl) (by kernel_rfl) 12 (by kernel_rfl) (by kernel_rfl) (fun _ _ _ h => h) (by kernel_rfl) (by kernel_rfl) (by kernel_rfl) (by kernel_rfl) (Or.inl ⟨by rfl, fun w hSw => (by go_simp; try with_reducible rfl)⟩) (by with_reducible exact HD.out) ?_
                    try simp only [Act.put, List.setIfInBounds_toArray, List.set_cons_zero, List.set_cons_succ]
                    refine anyU_take2 (i := 16) (v := .agg (clC mz)) (by simp only [List.getElem?_toArray, List.getElem?_cons_succ, List.getElem?_cons_zero]; exact rfl) (by kernel_rfl) 12 (by kernel_rfl) (by kernel_rfl) (fun _ _ _ h => h) (by kernel_rfl) (by kernel_rfl) (by kernel_rfl) (by kernel_rfl) (Or.inl ⟨by rfl, fun w hSw => (by go_simp; try with_reducible rfl)⟩) (by with_reducible exact HD.out) ?_
                    try simp only [Act.put, List.setIfInBounds_toArray, List.set_cons_zero, List.set_cons_succ]
                    refine anyU_take2 (i := 17) (v := .int .i64 mf) (by simp only [List.getElem?_toArray, List.getElem?_cons_succ, List.getElem?_cons_zero]; exact rfl) (by kernel_rfl) 12 (by kernel_rfl) (by kernel_rfl) (fun _ _ _ h => h) (by kernel_rfl) (by kernel_rfl) (by kernel_rfl) (by kernel_rfl) (Or.inl ⟨by rfl, fun w hSw => (by go_simp; try with_reducible rfl)⟩) (by with_reducible exact HD.out) ?_
                    try simp only [Act.put, List.setIfInBounds_toArray, List.set_cons_zero, List.set_cons_succ]
                    have hne := rows_ne HI.out HC.out.r (by decide)
                    refine anyU_one (i := 20) (by kernel_rfl) (by simp only [List.getElem?_toArray, List.getElem?_cons_succ, List.getElem?_cons_zero]; exact rfl) (fun K hK => ?_)
                    rw [if_pos (by rfl)]
                    refine wp_store_in rfl rfl rfl HI.out ?_
                    intro wt27 hn hg
                    replace HC := hide (HC.out.other hg (fun e => hne e.symm))
                    replace HD := hide (below_own HD.out hg HQI.out)
                    clear hn hg hne
                    refine hK.out _ _ (fun _ _ => HD.out) ?_
                    clear hK K
                    try simp only [Act.put]
                    refine anyU_one (i := 21) (by kernel_rfl) (by simp only [List.getElem?_toArray, List.getElem?_cons_succ, List.getElem?_cons_zero]; exact rfl) (fun K hK => ?_)
                    rw [if_pos (by rfl)]
                    refine wp_store_xw rfl H8M.out rfl rfl HC.out ?_
                    intro wt28 hn hg
                    replace HD := hide (below_own HD.out hg HQC.out)
                    clear hn hg
                    refine hK.out _ _ (fun _ _ => HD.out) ?_
                    clear hK K
                    try simp only [Act.put]
                    refine anyU_one (i := 22) (by kernel_rfl) (by simp only [List.getElem?_toArray, List.getElem?_cons_succ, List.getElem?_cons_zero]; exact rfl) (fun K hK => ?_)
                    try go_simp
                    refine hK.out _ _ (fun e _ => absurd rfl e) ?_
                    clear hK K
                    try simp only [Act.put]
                    refine anyU_done (by kernel_rfl) ?_
                    refine NoPanic.normal ?_
                    try simp only [Act.put]
                    replace HR := hide (HR0.out.below HD.out)
                    replace HP1 := hide (HP1.out.kept HD.out)
                    clear HI HC HQI HQC HR0 HWI HRX H8M HD
                    generalize wt28 = we at HR HP1 ⊢
                    go_wp2
                    go_meet
                    exact ⟨mf, rfl, HMF, HR, HP1⟩
              · skip
                try go_simp
                have HI := hide (Row.new wd 30 #[.int .i64 0, .int .i64 0])
                have HQI := hide HD.out.size
                replace HD := hide (kept_trans HD.out (kept_alloc (kept_refl wd) (.cells #[.int .i64 0, .int .i64 0] 30)))
                generalize wd.alloc (.cells #[.int .i64 0, .int .i64 0] 30) = wt29 at HI HD ⊢
                generalize wd.heap.size = qi at HI HQI ⊢
                refine hK.out _ _ (fun _ _ => HD.out) ?_
                clear hK K
                try simp only [Act.put, List.setIfInBounds_toArray, List.set_cons_zero, List.set_cons_succ]
                refine anyU_two (i := 11) (j := 19) (by kernel_rfl) (by simp only [List.getElem?_toArray, List.getElem?_cons_succ, List.getElem?_cons_zero]; exact rfl) (by simp only [List.getElem?_toArray, List.getElem?_cons_succ, List.getElem?_cons_zero]; exact rfl) (fun K hK => ?_) (fun K hK => ?_)
                · skip
                  try go_simp
                  refine (HWI.out _ _ (by omega)).mono ?_
                  rintro e wt30 ⟨rfl, hb⟩
                  replace HD := hide (kept_trans HD.out hb)
                  replace HI := hide (HI.out.below hb HI.out.lt)
                  clear hb
                  refine hK.out _ _ (fun _ _ => HD.out) ?_
                  clear hK K
                  try simp only [Act.put, List.setIfInBounds_toArray, List.set_cons_zero, List.set_cons_succ]
                  refine anyU_take2 (i := 12) (v := .slice Au q cu) (by simp only [List.getElem?_toArray, List.getElem?_cons_succ, List.getElem?_cons_zero]; exact rfl) (by kernel_rfl) 12 (by kernel_rfl) (by kernel_rfl) (fun _ _ _ h => h) (by kernel_rfl) (by kernel_rfl) (by kernel_rfl) (by kernel_rfl) (Or.inl ⟨by rfl, fun w hSw => (by go_simp; try with_reducible rfl)⟩) (by with_reducible exact HD.out) ?_
                  try simp only [Act.put, List.setIfInBounds_toArray, List.set_cons_zero, List.set_cons_succ]
                  refine anyU_two (i := 13) (j := 19) (by kernel_rfl) (by simp only [List.getElem?_toArray, List.getElem?_cons_succ, List.getElem?_cons_zero]; exact rfl) (by simp only [List.getElem?_toArray, List.getElem?_cons_succ, List.getElem?_cons_zero]; exact rfl) (fun K hK => ?_) (fun K hK => ?_)
                  · skip
                    try go_simp
                    refine (HRX.out _ (HR0.out.below HD.out)).mono ?_
                    rintro e wt31 ⟨m1, m2, mz, mf, rfl, hmf, h8m, hb⟩
                    replace HD := hide (kept_trans HD.out hb)
                    replace HI := hide (HI.out.below hb HI.out.lt)
                    have HMF := hide hmf
                    have H8M := hide h8m
                    clear hb hmf h8m
                    refine hK.out _ _ (fun _ _ => HD.out) ?_
                    clear hK K
                    try simp only [Act.put, List.setIfInBounds_toArray, List.set_cons_zero, List.set_cons_succ]
                    refine anyU_take2 (i := 14) (v := .tuple #[.agg #[.int .i64 m1, .int .i64 m2], .agg (clC mz), .int .i64 mf]) (by simp only [List.getElem?_toArray, List.getElem?_cons_succ, List.getElem?_cons_zero]; exact rfl) (by kernel_rfl) 12 (by kernel_rfl) (by kernel_rfl) (fun _ _ _ h => h) (by kernel_rfl) (by kernel_rfl) (by kernel_rfl) (by kernel_rfl) (Or.inl ⟨by rfl, fun w hSw => (by go_simp; try with_reducible rfl)⟩) (by with_reducible exact HD.out) ?_
                    try simp only [Act.put, List.setIfInBounds_toArray, List.set_cons_zero, List.set_cons_succ]
                    refine anyU_take2 (i := 15) (v := .agg #[.int .i64 m1, .int .i64 m2]) (by simp only [List.getElem?_toArray, List.getElem?_cons_succ, List.getElem?_cons_zero]; exact rfl) (by kernel_rfl) 12 (by kernel_rfl) (by kernel_rfl) (fun _ _ _ h => h) (by kernel_rfl) (by kernel_rfl) (by kernel_rfl) (by kernel_rfl) (Or.inl ⟨by rfl, fun w hSw => (by go_simp; try with_reducible rfl)⟩) (by with_reducible exact HD.out) ?_
                    try simp only [Act.put, List.setIfInBounds_toArray, List.set_cons_zero, List.set_cons_succ]
                    refine anyU_take2 (i := 16) (v := .agg (clC mz)) (by simp only [List.getElem?_toArray, List.getElem?_cons_succ, List.getElem?_cons_zero]; exact rfl) (by kernel_rfl) 12 (by kernel_rfl) (by kernel_rfl) (fun _ _ _ h => h) (by kernel_rfl) (by kernel_rfl) (by kernel_rfl) (by kernel_rfl) (Or.inl ⟨by rfl, fun w hSw => (by go_simp; try with_reducible rfl)⟩) (by with_reducible exact HD.out) ?_
                    try simp only [Act.put, List.setIfInBounds_toArray, List.set_cons_zero, List.set_cons_succ]
                    refine anyU_take2 (i := 17) (v := .int .i64 mf) (by simp only [List.getElem?_toArray, List.getElem?_cons_succ, List.getElem?_cons_zero]; exact rfl) (by kernel_rfl) 12 (by kernel_rfl) (by kernel_rfl) (fun _ _ _ h => h) (by kernel_rfl) (by kernel_rfl) (by kernel_rfl) (by kernel_rfl) (Or.inl ⟨by rfl, fun w hSw => (by go_simp; try with_reducible rfl)⟩) (by with_reducible exact HD.out) ?_
                    try simp only [Act.put, List.setIfInBounds_toArray, List.set_cons_zero, List.set_cons_succ]
                    refine anyU_one (i := 19) (by kernel_rfl) (by simp only [List.getElem?_toArray, List.getElem?_cons_succ, List.getElem?_cons_zero]; exact rfl) (fun K hK => ?_)
                    try go_simp
                    have HC := hide (cell_new wt31)
                    replace HI := hide (HI.out.below (kept_alloc (kept_refl wt31) (.cells #[.int .i64 0, .int .i64 0, .int .i64 0, .int .i64 0, .int .i64 0, .int .i64 0, .int .i64 0, .int .i64 0, .string ⟨#[]⟩, .string ⟨#[]⟩, .string ⟨#[]⟩, .string ⟨#[]⟩, .int .i64 0, .int .i64 0, .int .i64 0, .int .i64 0, .int .i64 0, .int .i64 0, .int .i64 0, .int .i64 0, .bool false] 38)) HI.out.lt)
                    have HQC := hide HD.out.size
                    replace HD := hide (kept_trans HD.out (kept_alloc (kept_refl wt31) (.cells #[.int .i64 0, .int .i64 0, .int .i64 0, .int .i64 0, .int .i64 0, .int .i64 0, .int .i64 0, .int .i64 0, .string ⟨#[]⟩, .string ⟨#[]⟩, .string ⟨#[]⟩, .string ⟨#[]⟩, .int .i64 0, .int .i64 0, .int .i64 0, .int .i64 0, .int .i64 0, .int .i64 0, .int .i64 0, .int .i64 0, .bool false] 38)))
                    generalize wt31.alloc (.cells #[.int .i64 0, .int .i64 0, .int .i64 0, .int .i64 0, .int .i64 0, .int .i64 0, .int .i64 0, .int .i64 0, .string ⟨#[]⟩, .string ⟨#[]⟩, .string ⟨#[]⟩, .string ⟨#[]⟩, .int .i64 0, .int .i64 0, .int .i64 0, .int .i64 0, .int .i64 0, .int .i64 0, .int .i64 0, .int .i64 0, .bool false] 38) = wt32 at HC HD HI ⊢
                    generalize wt31.heap.size = qc at HC HQC ⊢
                    refine hK.out _ _ (fun _ _ => HD.out) ?_
                    clear hK K
                    try simp only [Act.put, List.setIfInBounds_toArray, List.set_cons_zero, List.set_cons_succ]
                    have hne := rows_ne HI.out HC.out.r (by decide)
                    refine anyU_one (i := 20) (by kernel_rfl) (by simp only [List.getElem?_toArray, List.getElem?_cons_succ, List.getElem?_cons_zero]; exact rfl) (fun K hK => ?_)
                    rw [if_pos (by rfl)]
                    refine wp_store_in rfl rfl rfl HI.out ?_
                    intro wt33 hn hg
                    replace HC := hide (HC.out.other hg (fun e => hne e.symm))
                    replace HD := hide (below_own HD.out hg HQI.out)
                    clear hn hg hne
                    refine hK.out _ _ (fun _ _ => HD.out) ?_
                    clear hK K
                    try simp only [Act.put]
                    refine anyU_one (i := 21) (by kernel_rfl) (by simp only [List.getElem?_toArray, List.getElem?_cons_succ, List.getElem?_cons_zero]; exact rfl) (fun K hK => ?_)
                    rw [if_pos (by rfl)]
                    refine wp_store_xw rfl H8M.out rfl rfl HC.out ?_
                    intro wt34 hn hg
                    replace HD := hide (below_own HD.out hg HQC.out)
                    clear hn hg
                    refine hK.out _ _ (fun _ _ => HD.out) ?_
                    clear hK K
                    try simp only [Act.put]
                    refine anyU_one (i := 22) (by kernel_rfl) (by simp only [List.getElem?_toArray, List.getElem?_cons_succ, List.getElem?_cons_zero]; exact rfl) (fun K hK => ?_)
                    try go_simp
                    refine hK.out _ _ (fun e _ => absurd rfl e) ?_
                    clear hK K
                    try simp only [Act.put]
                    refine anyU_done (by kernel_rfl) ?_
                    refine NoPanic.normal ?_
                    try simp only [Act.put]
                    replace HR := hide (HR0.out.below HD.out)
                    replace HP1 := hide (HP1.out.kept HD.out)
                    clear HI HC HQI HQC HR0 HWI HRX H8M HD
                    generalize wt34 = we at HR HP1 ⊢
                    go_wp2
                    go_meet
                    exact ⟨mf, rfl, HMF, HR, HP1⟩
                  · skip
                    try go_simp
                    have HC := hide (cell_new wt30)
                    replace HI := hide (HI.out.below (kept_alloc (kept_refl wt30) (.cells #[.int .i64 0, .int .i64 0, .int .i64 0, .int .i64 0, .int .i64 0, .int .i64 0, .int .i64 0, .int .i64 0, .string ⟨#[]⟩, .string ⟨#[]⟩, .string ⟨#[]⟩, .string ⟨#[]⟩, .int .i64 0, .int .i64 0, .int .i64 0, .int .i64 0, .int .i64 0, .int .i64 0, .int .i64 0, .int .i64 0, .bool false] 38)) HI.out.lt)
                    have HQC := hide HD.out.size
                    replace HD := hide (kept_trans HD.out (kept_alloc (kept_refl wt30) (.cells #[.int .i64 0, .int .i64 0, .int .i64 0, .int .i64 0, .int .i64 0, .int .i64 0, .int .i64 0, .int .i64 0, .string ⟨#[]⟩, .string ⟨#[]⟩, .string ⟨#[]⟩, .string ⟨#[]⟩, .int .i64 0, .int .i64 0, .int .i64 0, .int .i64 0, .int .i64 0, .int .i64 0, .int .i64 0, .int .i64 0, .bool false] 38)))
                    generalize wt30.alloc (.cells #[.int .i64 0, .int .i64 0, .int .i64 0, .int .i64 0, .int .i64 0, .int .i64 0, .int .i64 0, .int .i64 0, .string ⟨#[]⟩, .string ⟨#[]⟩, .string ⟨#[]⟩, .string ⟨#[]⟩, .int .i64 0, .int .i64 0, .int .i64 0, .int .i64 0, .int .i64 0, .int .i64 0, .int .i64 0, .int .i64 0, .bool false] 38) = wt35 at HC HD HI ⊢
                    generalize wt30.heap.size = qc at HC HQC ⊢
                    refine hK.out _ _ (fun _ _ => HD.out) ?_
                    clear hK K
                    try simp only [Act.put, List.setIfInBounds_toArray, List.set_cons_zero, List.set_cons_succ]
                    refine anyU_one (i := 13) (by kernel_rfl) (by simp only [List.getElem?_toArray, List.getElem?_cons_succ, List.getElem?_cons_zero]; exact rfl) (fun K hK => ?_)
                    try go_simp
                    refine (HRX.out _ (HR0.out.below HD.out)).mono ?_
                    rintro e wt36 ⟨m1, m2, mz, mf, rfl, hmf, h8m, hb⟩
                    replace HD := hide (kept_trans HD.out hb)
                    replace HI := hide (HI.out.below hb HI.out.lt)
                    replace HC := hide (HC.out.kept hb)
                    have HMF := hide hmf
                    have H8M := hide h8m
                    clear hb hmf h8m
                    refine hK.out _ _ (fun _ _ => HD.out) ?_
                    clear hK K
                    try simp only [Act.put, List.setIfInBounds_toArray, List.set_cons_zero, List.set_cons_succ]
                    refine anyU_take2 (i := 14) (v := .tuple #[.agg #[.int .i64 m1, .int .i64 m2], .agg (clC mz), .int .i64 mf]) (by simp only [List.getElem?_toArray, List.getElem?_cons_succ, List.getElem?_cons_zero]; exact rfl) (by kernel_rfl) 12 (by kernel_rfl) (by kernel_rfl) (fun _ _ _ h => h) (by kernel_rfl) (by kernel_rfl) (by kernel_rfl) (by kernel_rfl) (Or.inl ⟨by rfl, fun w hSw => (by go_simp; try with_reducible rfl)⟩) (by with_reducible exact HD.out) ?_
                    try simp only [Act.put, List.setIfInBounds_toArray, List.set_cons_zero, List.set_cons_succ]
                    refine anyU_take2 (i := 15) (v := .agg #[.int .i64 m1, .int .i64 m2]) (by simp only [List.getElem?_toArray, List.getElem?_cons_succ, List.getElem?_cons_zero]; exact rfl) (by kernel_rfl) 12 (by kernel_rfl) (by kernel_rfl) (fun _ _ _ h => h) (by kernel_rfl) (by kernel_rfl) (by kernel_rfl) (by kernel_rfl) (Or.inl ⟨by rfl, fun w hSw => (by go_simp; try with_reducible rfl)⟩) (by with_reducible exact HD.out) ?_
                    try simp only [Act.put, List.setIfInBounds_toArray, List.set_cons_zero, List.set_cons_succ]
                    refine anyU_take2 (i := 16) (v := .agg (clC mz)) (by simp only [List.getElem?_toArray, List.getElem?_cons_succ, List.getElem?_cons_zero]; exact rfl) (by kernel_rfl) 12 (by kernel_rfl) (by kernel_rfl) (fun _ _ _ h => h) (by kernel_rfl) (by kernel_rfl) (by kernel_rfl) (by kernel_rfl) (Or.inl ⟨by rfl, fun w hSw => (by go_simp; try with_reducible rfl)⟩) (by with_reducible exact HD.out) ?_
                    try simp only [Act.put, List.setIfInBounds_toArray, List.set_cons_zero, List.set_cons_succ]
                    refine anyU_take2 (i := 17) (v := .int .i64 mf) (by simp only [List.getElem?_toArray, List.getElem?_cons_succ, List.getElem?_cons_zero]; exact rfl) (by kernel_rfl) 12 (by kernel_rfl) (by kernel_rfl) (fun _ _ _ h => h) (by kernel_rfl) (by kernel_rfl) (by kernel_rfl) (by kernel_rfl) (Or.inl ⟨by rfl, fun w hSw => (by go_simp; try with_reducible rfl)⟩) (by with_reducible exact HD.out) ?_
                    try simp only [Act.put, List.setIfInBounds_toArray, List.set_cons_zero, List.set_cons_succ]
                    have hne := rows_ne HI.out HC.out.r (by decide)
                    refine anyU_one (i := 20) (by kernel_rfl) (by simp only [List.getElem?_toArray, List.getElem?_cons_succ, List.getElem?_cons_zero]; exact rfl) (fun K hK => ?_)
                    rw [if_pos (by rfl)]
                    refine wp_store_in rfl rfl rfl HI.out ?_
                    intro wt37 hn hg
                    replace HC := hide (HC.out.other hg (fun e => hne e.symm))
                    replace HD := hide (below_own HD.out hg HQI.out)
                    clear hn hg hne
                    refine hK.out _ _ (fun _ _ => HD.out) ?_
                    clear hK K
                    try simp only [Act.put]
                    refine anyU_one (i := 21) (by kernel_rfl) (by simp only [List.getElem?_toArray, List.getElem?_cons_succ, List.getElem?_cons_zero]; exact rfl) (fun K hK => ?_)
                    rw [if_pos (by rfl)]
                    refine wp_store_xw rfl H8M.out rfl rfl HC.out ?_
                    intro wt38 hn hg
                    replace HD := hide (below_own HD.out hg HQC.out)
                    clear hn hg
                    refine hK.out _ _ (fun _ _ => HD.out) ?_
                    clear hK K
                    try simp only [Act.put]
                    refine anyU_one (i := 22) (by kernel_rfl) (by simp only [List.getElem?_toArray, List.getElem?_cons_succ, List.getElem?_cons_zero]; exact rfl) (fun K hK => ?_)
                    try go_simp
                    refine hK.out _ _ (fun e _ => absurd rfl e) ?_
                    clear hK K
                    try simp only [Act.put]
                    refine anyU_done (by kernel_rfl) ?_
                    refine NoPanic.normal ?_
                    try simp only [Act.put]
                    replace HR := hide (HR0.out.below HD.out)
                    replace HP1 := hide (HP1.out.kept HD.out)
                    clear HI HC HQI HQC HR0 HWI HRX H8M HD
                    generalize wt38 = we at HR HP1 ⊢
                    go_wp2
                    go_meet
                    exact ⟨mf, rfl, HMF, HR, HP1⟩
                · skip
                  try go_simp
                  have HC := hide (cell_new wt29)
                  replace HI := hide (HI.out.below (kept_alloc (kept_refl wt29) (.cells #[.int .i64 0, .int .i64 0, .int .i64 0, .int .i64 0, .int .i64 0, .int .i64 0, .int .i64 0, .int .i64 0, .string ⟨#[]⟩, .string ⟨#[]⟩, .string ⟨#[]⟩, .string ⟨#[]⟩, .int .i64 0, .int .i64 0, .int .i64 0, .int .i64 0, .int .i64 0, .int .i64 0, .int .i64 0, .int .i64 0, .bool false] 38)) HI.out.lt)
                  have HQC := hide HD.out.size
                  replace HD := hide (kept_trans HD.out (kept_alloc (kept_refl wt29) (.cells #[.int .i64 0, .int .i64 0, .int .i64 0, .int .i64 0, .int .i64 0, .int .i64 0, .int .i64 0, .int .i64 0, .string ⟨#[]⟩, .string ⟨#[]⟩, .string ⟨#[]⟩, .string ⟨#[]⟩, .int .i64 0, .int .i64 0, .int .i64 0, .int .i64 0, .int .i64 0, .int .i64 0, .int .i64 0, .int .i64 0, .bool false] 38)))
                  generalize wt29.alloc (.cells #[.int .i64 0, .int .i64 0, .int .i64 0, .int .i64 0, .int .i64 0, .int .i64 0, .int .i64 0, .int .i64 0, .string ⟨#[]⟩, .string ⟨#[]⟩, .string ⟨#[]⟩, .string ⟨#[]⟩, .int .i64 0, .int .i64 0, .int .i64 0, .int .i64 0, .int .i64 0, .int .i64 0, .int .i64 0, .int .i64 0, .bool false] 38) = wt39 at HC HD HI ⊢
                  generalize wt29.heap.size = qc at HC HQC ⊢
                  refine hK.out _ _ (fun _ _ => HD.out) ?_
                  clear hK K
                  try simp only [Act.put, List.setIfInBounds_toArray, List.set_cons_zero, List.set_cons_succ]
                  refine anyU_one (i := 11) (by kernel_rfl) (by simp only [List.getElem?_toArray, List.getElem?_cons_succ, List.getElem?_cons_zero]; exact rfl) (fun K hK => ?_)
                  try go_simp
                  refine (HWI.out _ _ (by omega)).mono ?_
                  rintro e wt40 ⟨rfl, hb⟩
                  replace HD := hide (kept_trans HD.out hb)
                  replace HI := hide (HI.out.below hb HI.out.lt)
                  replace HC := hide (HC.out.kept hb)
                  clear hb
                  refine hK.out _ _ (fun _ _ => HD.out) ?_
                  clear hK K
                  try simp only [Act.put, List.setIfInBounds_toArray, List.set_cons_zero, List.set_cons_succ]
                  refine anyU_take2 (i := 12) (v := .slice Au q cu) (by simp only [List.getElem?_toArray, List.getElem?_cons_succ, List.getElem?_cons_zero]; exact rfl) (by kernel_rfl) 12 (by kernel_rfl) (by kernel_rfl) (fun _ _ _ h => h) (by kernel_rfl) (by kernel_rfl) (by kernel_rfl) (by kernel_rfl) (Or.inl ⟨by rfl, fun w hSw => (by go_simp; try with_reducible rfl)⟩) (by with_reducible exact HD.out) ?_
                  try simp only [Act.put, List.setIfInBounds_toArray, List.set_cons_zero, List.set_cons_succ]
                  refine anyU_one (i := 13) (by kernel_rfl) (by simp only [List.getElem?_toArray, List.getElem?_cons_succ, List.getElem?_cons_zero]; exact rfl) (fun K hK => ?_)
                  try go_simp
                  refine (HRX.out _ (HR0.out.below HD.out)).mono ?_
                  rintro e wt41 ⟨m1, m2, mz, mf, rfl, hmf, h8m, hb⟩
                  replace HD := hide (kept_trans HD.out hb)
                  replace HI := hide (HI.out.below hb HI.out.lt)
                  replace HC := hide (HC.out.kept hb)
                  have HMF := hide hmf
                  have H8M := hide h8m
                  clear hb hmf h8m
                  refine hK.out _ _ (fun _ _ => HD.out) ?_
                  clear hK K
                  try simp only [Act.put, List.setIfInBounds_toArray, List.set_cons_zero, List.set_cons_succ]
                  refine anyU_take2 (i := 14) (v := .tuple #[.agg #[.int .i64 m1, .int .i64 m2], .agg (clC mz), .int .i64 mf]) (by simp only [List.getElem?_toArray, List.getElem?_cons_succ, List.getElem?_cons_zero]; exact rfl) (by kernel_rfl) 12 (by kernel_rfl) (by kernel_rfl) (fun _ _ _ h => h) (by kernel_rfl) (by kernel_rfl) (by kernel_rfl) (by kernel_rfl) (Or.inl ⟨by rfl, fun w hSw => (by go_simp; try with_reducible rfl)⟩) (by with_reducible exact HD.out) ?_
                  try simp only [Act.put, List.setIfInBounds_toArray, List.set_cons_zero, List.set_cons_succ]
                  refine anyU_take2 (i := 15) (v := .agg #[.int .i64 m1, .int .i64 m2]) (by simp only [List.getElem?_toArray, List.getElem?_cons_succ, List.getElem?_cons_zero]; exact rfl) (by kernel_rfl) 12 (by kernel_rfl) (by kernel_rfl) (fun _ _ _ h => h) (by kernel_rfl) (by kernel_rfl) (by kernel_rfl) (by kernel_rfl) (Or.inl ⟨by rfl, fun w hSw => (by go_simp; try with_reducible rfl)⟩) (by with_reducible exact HD.out) ?_
                  try simp only [Act.put, List.setIfInBounds_toArray, List.set_cons_zero, List.set_cons_succ]
                  refine anyU_take2 (i := 16) (v := .agg (clC mz)) (by simp only [List.getElem?_toArray, List.getElem?_cons_succ, List.getElem?_cons_zero]; exact rfl) (by kernel_rfl) 12 (by kernel_rfl) (by kernel_rfl) (fun _ _ _ h => h) (by kernel_rfl) (by kernel_rfl) (by kernel_rfl) (by kernel_rfl) (Or.inl ⟨by rfl, fun w hSw => (by go_simp; try with_reducible rfl)⟩) (by with_reducible exact HD.out) ?_
                  try simp only [Act.put, List.setIfInBounds_toArray, List.set_cons_zero, List.set_cons_succ]
                  refine anyU_take2 (i := 17) (v := .int .i64 mf) (by simp only [List.getElem?_toArray, List.getElem?_cons_succ, List.getElem?_cons_zero]; exact rfl) (by kernel_rfl) 12 (by kernel_rfl) (by kernel_rfl) (fun _ _ _ h => h) (by kernel_rfl) (by kernel_rfl) (by kernel_rfl) (by kernel_rfl) (Or.inl ⟨by rfl, fun w hSw => (by go_simp; try with_reducible rfl)⟩) (by with_reducible exact HD.out) ?_
                  try simp only [Act.put, List.setIfInBounds_toArray, List.set_cons_zero, List.set_cons_succ]
                  have hne := rows_ne HI.out HC.out.r (by decide)
                  refine anyU_one (i := 20) (by kernel_rfl) (by simp only [List.getElem?_toArray, List.getElem?_cons_succ, List.getElem?_cons_zero]; exact rfl) (fun K hK => ?_)
                  rw [if_pos (by rfl)]
                  refine wp_store_in rfl rfl rfl HI.out ?_
                  intro wt42 hn hg
                  replace HC := hide (HC.out.other hg (fun e => hne e.symm))
                  replace HD := hide (below_own HD.out hg HQI.out)
                  clear hn hg hne
                  refine hK.out _ _ (fun _ _ => HD.out) ?_
                  clear hK K
                  try simp only [Act.put]
                  refine anyU_one (i := 21) (by kernel_rfl) (by simp only [List.getElem?_toArray, List.getElem?_cons_succ, List.getElem?_cons_zero]; exact rfl) (fun K hK => ?_)
                  rw [if_pos (by rfl)]
                  refine wp_store_xw rfl H8M.out rfl rfl HC.out ?_
                  intro wt43 hn hg
                  replace HD := hide (below_own HD.out hg HQC.out)
                  clear hn hg
                  refine hK.out _ _ (fun _ _ => HD.out) ?_
                  clear hK K
                  try simp only [Act.put]
                  refine anyU_one (i := 22) (by kernel_rfl) (by simp only [List.getElem?_toArray, List.getElem?_cons_succ, List.getElem?_cons_zero]; exact rfl) (fun K hK => ?_)
                  try go_simp
                  refine hK.out _ _ (fun e _ => absurd rfl e) ?_
                  clear hK K
                  try simp only [Act.put]
                  refine anyU_done (by kernel_rfl) ?_
                  refine NoPanic.normal ?_
                  try simp only [Act.put]
                  replace HR := hide (HR0.out.below HD.out)
                  replace HP1 := hide (HP1.out.kept HD.out)
                  clear HI HC HQI HQC HR0 HWI HRX H8M HD
                  generalize wt43 = we at HR HP1 ⊢
                  go_wp2
                  go_meet
                  exact ⟨mf, rfl, HMF, HR, HP1⟩
              · skip
                try go_simp
                have HC := hide (cell_new wd)
                have HQC := hide HD.out.size
                replace HD := hide (kept_trans HD.out (kept_alloc (kept_refl wd) (.cells #[.int .i64 0, .int .i64 0, .int .i64 0, .int .i64 0, .int .i64 0, .int .i64 0, .int .i64 0, .int .i64 0, .string ⟨#[]⟩, .string ⟨#[]⟩, .string ⟨#[]⟩, .string ⟨#[]⟩, .int .i64 0, .int .i64 0, .int .i64 0, .int .i64 0, .int .i64 0, .int .i64 0, .int .i64 0, .int .i64 0, .bool false] 38)))
                generalize wd.alloc (.cells #[.int .i64 0, .int .i64 0, .int .i64 0, .int .i64 0, .int .i64 0, .int .i64 0, .int .i64 0, .int .i64 0, .string ⟨#[]⟩, .string ⟨#[]⟩, .string ⟨#[]⟩, .string ⟨#[]⟩, .int .i64 0, .int .i64 0, .int .i64 0, .int .i64 0, .int .i64 0, .int .i64 0, .int .i64 0, .int .i64 0, .bool false] 38) = wt44 at HC HD ⊢
                generalize wd.heap.size = qc at HC HQC ⊢
                refine hK.out _ _ (fun _ _ => HD.out) ?_
                clear hK K
                try simp only [Act.put, List.setIfInBounds_toArray, List.set_cons_zero, List.set_cons_succ]
                refine anyU_two (i := 11) (j := 18) (by kernel_rfl) (by simp only [List.getElem?_toArray, List.getElem?_cons_succ, List.getElem?_cons_zero]; exact rfl) (by simp only [List.getElem?_toArray, List.getElem?_cons_succ, List.getElem?_cons_zero]; exact rfl) (fun K hK => ?_) (fun K hK => ?_)
                · skip
                  try go_simp
                  refine (HWI.out _ _ (by omega)).mono ?_
                  rintro e wt45 ⟨rfl, hb⟩
                  replace HD := hide (kept_trans HD.out hb)
                  replace HC := hide (HC.out.kept hb)
                  clear hb
                  refine hK.out _ _ (fun _ _ => HD.out) ?_
                  clear hK K
                  try simp only [Act.put, List.setIfInBounds_toArray, List.set_cons_zero, List.set_cons_succ]
                  refine anyU_take2 (i := 12) (v := .slice Au q cu) (by simp only [List.getElem?_toArray, List.getElem?_cons_succ, List.getElem?_cons_zero]; exact rfl) (by kernel_rfl) 12 (by kernel_rfl) (by kernel_rfl) (fun _ _ _ h => h) (by kernel_rfl) (by kernel_rfl) (by kernel_rfl) (by kernel_rfl) (Or.inl ⟨by rfl, fun w hSw => (by go_simp; try with_reducible rfl)⟩) (by with_reducible exact HD.out) ?_
                  try simp only [Act.put, List.setIfInBounds_toArray, List.set_cons_zero, List.set_cons_succ]
                  refine anyU_two (i := 13) (j := 18) (by kernel_rfl) (by simp only [List.getElem?_toArray, List.getElem?_cons_succ, List.getElem?_cons_zero]; exact rfl) (by simp only [List.getElem?_toArray, List.getElem?_cons_succ, List.getElem?_cons_zero]; exact rfl) (fun K hK => ?_) (fun K hK => ?_)
                  · skip
                    try go_simp
                    refine (HRX.out _ (HR0.out.below HD.out)).mono ?_
                    rintro e wt46 ⟨m1, m2, mz, mf, rfl, hmf, h8m, hb⟩
                    replace HD := hide (kept_trans HD.out hb)
                    replace HC := hide (HC.out.kept hb)
                    have HMF := hide hmf
                    have H8M := hide h8m
                    clear hb hmf h8m
                    refine hK.out _ _ (fun _ _ => HD.out) ?_
                    clear hK K
                    try simp only [Act.put, List.setIfInBounds_toArray, List.set_cons_zero, List.set_cons_succ]
                    refine anyU_take2 (i := 14) (v := .tuple #[.agg #[.int .i64 m1, .int .i64 m2], .agg (clC mz), .int .i64 mf]) (by simp only [List.getElem?_toArray, List.getElem?_cons_succ, List.getElem?_cons_zero]; exact rfl) (by kernel_rfl) 12 (by kernel_rfl) (by kernel_rfl) (fun _ _ _ h => h) (by kernel_rfl) (by kernel_rfl) (by kernel_rfl) (by kernel_rfl) (Or.inl ⟨by rfl, fun w hSw => (by go_simp; try with_reducible rfl)⟩) (by with_reducible exact HD.out) ?_
                    try simp only [Act.put, List.setIfInBounds_toArray, List.set_cons_zero, List.set_cons_succ]
                    refine anyU_take2 (i := 15) (v := .agg #[.int .i64 m1, .int .i64 m2]) (by simp only [List.getElem?_toArray, List.getElem?_cons_succ, List.getElem?_cons_zero]; exact rfl) (by kernel_rfl) 12 (by kernel_rfl) (by kernel_rfl) (fun _ _ _ h => h) (by kernel_rfl) (by kernel_rfl) (by kernel_rfl) (by kernel_rfl) (Or.inl ⟨by rfl, fun w hSw => (by go_simp; try with_reducible rfl)⟩) (by with_reducible exact HD.out) ?_
                    try simp only [Act.put, List.setIfInBounds_toArray, List.set_cons_zero, List.set_cons_succ]
                    refine anyU_take2 (i := 16) (v := .agg (clC mz)) (by simp only [List.getElem?_toArray, List.getElem?_cons_succ, List.getElem?_cons_zero]; exact rfl) (by kernel_rfl) 12 (by kernel_rfl) (by kernel_rfl) (fun _ _ _ h => h) (by kernel_rfl) (by kernel_rfl) (by kernel_rfl) (by kernel_rfl) (Or.inl ⟨by rfl, fun w hSw => (by go_simp; try with_reducible rfl)⟩) (by with_reducible exact HD.out) ?_
                    try simp only [Act.put, List.setIfInBounds_toArray, List.set_cons_zero, List.set_cons_succ]
                    refine anyU_take2 (i := 17) (v := .int .i64 mf) (by simp only [List.getElem?_toArray, List.getElem?_cons_succ, List.getElem?_cons_zero]; exact rfl) (by kernel_rfl) 12 (by kernel_rfl) (by kernel_rfl) (fun _ _ _ h => h) (by kernel_rfl) (by kernel_rfl) (by kernel_rfl) (by kernel_rfl) (Or.inl ⟨by rfl, fun w hSw => (by go_simp; try with_reducible rfl)⟩) (by with_reducible exact HD.out) ?_
                    try simp only [Act.put, List.setIfInBounds_toArray, List.set_cons_zero, List.set_cons_succ]
                    refine anyU_one (i := 18) (by kernel_rfl) (by simp only [List.getElem?_toArray, List.getElem?_cons_succ, List.getElem?_cons_zero]; exact rfl) (fun K hK => ?_)
                    try go_simp
                    have HI := hide (Row.new wt46 30 #[.int .i64 0, .int .i64 0])
                    replace HC := hide (HC.out.kept (kept_alloc (kept_refl wt46) (.cells #[.int .i64 0, .int .i64 0] 30)))
                    have HQI := hide HD.out.size
                    replace HD := hide (kept_trans HD.out (kept_alloc (kept_refl wt46) (.cells #[.int .i64 0, .int .i64 0] 30)))
                    generalize wt46.alloc (.cells #[.int .i64 0, .int .i64 0] 30) = wt47 at HI HD HC ⊢
                    generalize wt46.heap.size = qi at HI HQI ⊢
                    refine hK.out _ _ (fun _ _ => HD.out) ?_
                    clear hK K
                    try simp only [Act.put, List.setIfInBounds_toArray, List.set_cons_zero, List.set_cons_succ]
                    have hne := rows_ne HI.out HC.out.r (by decide)
                    refine anyU_one (i := 20) (by kernel_rfl) (by simp only [List.getElem?_toArray, List.getElem?_cons_succ, List.getElem?_cons_zero]; exact rfl) (fun K hK => ?_)
                    rw [if_pos (by rfl)]
                    refine wp_store_in rfl rfl rfl HI.out ?_
                    intro wt48 hn hg
                    replace HC := hide (HC.out.other hg (fun e => hne e.symm))
                    replace HD := hide (below_own HD.out hg HQI.out)
                    clear hn hg hne
                    refine hK.out _ _ (fun _ _ => HD.out) ?_
                    clear hK K
                    try simp only [Act.put]
                    refine anyU_one (i := 21) (by kernel_rfl) (by simp only [List.getElem?_toArray, List.getElem?_cons_succ, List.getElem?_cons_zero]; exact rfl) (fun K hK => ?_)
                    rw [if_pos (by rfl)]
                    refine wp_store_xw rfl H8M.out rfl rfl HC.out ?_
                    intro wt49 hn hg
                    replace HD := hide (below_own HD.out hg HQC.out)
                    clear hn hg
                    refine hK.out _ _ (fun _ _ => HD.out) ?_
                    clear hK K
                    try simp only [Act.put]
                    refine anyU_one (i := 22) (by kernel_rfl) (by simp only [List.getElem?_toArray, List.getElem?_cons_succ, List.getElem?_cons_zero]; exact rfl) (fun K hK => ?_)
                    try go_simp
                    refine hK.out _ _ (fun e _ => absurd rfl e) ?_
                    clear hK K
                    try simp only [Act.put]
                    refine anyU_done (by kernel_rfl) ?_
                    refine NoPanic.normal ?_
                    try simp only [Act.put]
                    replace HR := hide (HR0.out.below HD.out)
                    replace HP1 := hide (HP1.out.kept HD.out)
                    clear HI HC HQI HQC HR0 HWI HRX H8M HD
                    generalize wt49 = we at HR HP1 ⊢
                    go_wp2
                    go_meet
                    exact ⟨mf, rfl, HMF, HR, HP1⟩
                  · skip
                    try go_simp
                    have HI := hide (Row.new wt45 30 #[.int .i64 0, .int .i64 0])
                    replace HC := hide (HC.out.kept (kept_alloc (kept_refl wt45) (.cells #[.int .i64 0, .int .i64 0] 30)))
                    have HQI := hide HD.out.size
                    replace HD := hide (kept_trans HD.out (kept_alloc (kept_refl wt45) (.cells #[.int .i64 0, .int .i64 0] 30)))
                    generalize wt45.alloc (.cells #[.int .i64 0, .int .i64 0] 30) = wt50 at HI HD HC ⊢
                    generalize wt45.heap.size = qi at HI HQI ⊢
                    refine hK.out _ _ (fun _ _ => HD.out) ?_
                    clear hK K
                    try simp only [Act.put, List.setIfInBounds_toArray, List.set_cons_zero, List.set_cons_succ]
                    refine anyU_one (i := 13) (by kernel_rfl) (by simp only [List.getElem?_toArray, List.getElem?_cons_succ, List.getElem?_cons_zero]; exact rfl) (fun K hK => ?_)
                    try go_simp
                    refine (HRX.out _ (HR0.out.below HD.out)).mono ?_
                    rintro e wt51 ⟨m1, m2, mz, mf, rfl, hmf, h8m, hb⟩
                    replace HD := hide (kept_trans HD.out hb)
                    replace HI := hide (HI.out.below hb HI.out.lt)
                    replace HC := hide (HC.out.kept hb)
                    have HMF := hide hmf
                    have H8M := hide h8m
                    clear hb hmf h8m
                    refine hK.out _ _ (fun _ _ => HD.out) ?_
                    clear hK K
                    try simp only [Act.put, List.setIfInBounds_toArray, List.set_cons_zero, List.set_cons_succ]
                    refine anyU_take2 (i := 14) (v := .tuple #[.agg #[.int .i64 m1, .int .i64 m2], .agg (clC mz), .int .i64 mf]) (by simp only [List.getElem?_toArray, List.getElem?_cons_succ, List.getElem?_cons_zero]; exact rfl) (by kernel_rfl) 12 (by kernel_rfl) (by kernel_rfl) (fun _ _ _ h => h) (by kernel_rfl) (by kernel_rfl) (by kernel_rfl) (by kernel_rfl) (Or.inl ⟨by rfl, fun w hSw => (by go_simp; try with_reducible rfl)⟩) (by with_reducible exact HD.out) ?_
                    try simp only [Act.put, List.setIfInBounds_toArray, List.set_cons_zero, List.set_cons_succ]
                    refine anyU_take2 (i := 15) (v := .agg #[.int .i64 m1, .int .i64 m2]) (by simp only [List.getElem?_toArray, List.getElem?_cons_succ, List.getElem?_cons_zero]; exact rfl) (by kernel_rfl) 12 (by kernel_rfl) (by kernel_rfl) (fun _ _ _ h => h) (by kernel_rfl) (by kernel_rfl) (by kernel_rfl) (by kernel_rfl) (Or.inl ⟨by rfl, fun w hSw => (by go_simp; try with_reducible rfl)⟩) (by with_reducible exact HD.out) ?_
                    try simp only [Act.put, List.setIfInBounds_toArray, List.set_cons_zero, List.set_cons_succ]
                    refine anyU_take2 (i := 16) (v := .agg (clC mz)) (by simp only [List.getElem?_toArray, List.getElem?_cons_succ, List.getElem?_cons_zero]; exact rfl) (by kernel_rfl) 12 (by kernel_rfl) (by kernel_rfl) (fun _ _ _ h => h) (by kernel_rfl) (by kernel_rfl) (by kernel_rfl) (by kernel_rfl) (Or.inl ⟨by rfl, fun w hSw => (by go_simp; try with_reducible rfl)⟩) (by with_reducible exact HD.out) ?_
                    try simp only [Act.put, List.setIfInBounds_toArray, List.set_cons_zero, List.set_cons_succ]
                    refine anyU_take2 (i := 17) (v := .int .i64 mf) (by simp only [List.getElem?_toArray, List.getElem?_cons_succ, List.getElem?_cons_zero]; exact rfl) (by kernel_rfl) 12 (by kernel_rfl) (by kernel_rfl) (fun _ _ _ h => h) (by kernel_rfl) (by kernel_rfl) (by kernel_rfl) (by kernel_rfl) (Or.inl ⟨by rfl, fun w hSw => (by go_simp; try with_reducible rfl)⟩) (by with_reducible exact HD.out) ?_
                    try simp only [Act.put, List.setIfInBounds_toArray, List.set_cons_zero, List.set_cons_succ]
                    have hne := rows_ne HI.out HC.out.r (by decide)
                    refine anyU_one (i := 20) (by kernel_rfl) (by simp only [List.getElem?_toArray, List.getElem?_cons_succ, List.getElem?_cons_zero]; exact rfl) (fun K hK => ?_)
                    rw [if_pos (by rfl)]
                    refine wp_store_in rfl rfl rfl HI.out ?_
                    intro wt52 hn hg
                    replace HC := hide (HC.out.other hg (fun e => hne e.symm))
                    replace HD := hide (below_own HD.out hg HQI.out)
                    clear hn hg hne
                    refine hK.out _ _ (fun _ _ => HD.out) ?_
                    clear hK K
                    try simp only [Act.put]
                    refine anyU_one (i := 21) (by kernel_rfl) (by simp only [List.getElem?_toArray, List.getElem?_cons_succ, List.getElem?_cons_zero]; exact rfl) (fun K hK => ?_)
                    rw [if_pos (by rfl)]
                    refine wp_store_xw rfl H8M.out rfl rfl HC.out ?_
                    intro wt53 hn hg
                    replace HD := hide (below_own HD.out hg HQC.out)
                    clear hn hg
                    refine hK.out _ _ (fun _ _ => HD.out) ?_
                    clear hK K
                    try simp only [Act.put]
                    refine anyU_one (i := 22) (by kernel_rfl) (by simp only [List.getElem?_toArray, List.getElem?_cons_succ, List.getElem?_cons_zero]; exact rfl) (fun K hK => ?_)
                    try go_simp
                    refine hK.out _ _ (fun e _ => absurd rfl e) ?_
                    clear hK K
                    try simp only [Act.put]
                    refine anyU_done (by kernel_rfl) ?_
                    refine NoPanic.normal ?_
                    try simp only [Act.put]
                    replace HR := hide (HR0.out.below HD.out)
                    replace HP1 := hide (HP1.out.kept HD.out)
                    clear HI HC HQI HQC HR0 HWI HRX H8M HD
                    generalize wt53 = we at HR HP1 ⊢
                    go_wp2
                    go_meet
                    exact ⟨mf, rfl, HMF, HR, HP1⟩
                · skip
                  try go_simp
                  have HI := hide (Row.new wt44 30 #[.int .i64 0, .int .i64 0])
                  replace HC := hide (HC.out.kept (kept_alloc (kept_refl wt44) (.cells #[.int .i64 0, .int .i64 0] 30)))
                  have HQI := hide HD.out.size
                  replace HD := hide (kept_trans HD.out (kept_alloc (kept_refl wt44) (.cells #[.int .i64 0, .int .i64 0] 30)))
                  generalize wt44.alloc (.cells #[.int .i64 0, .int .i64 0] 30) = wt54 at HI HD HC ⊢
                  generalize wt44.heap.size = qi at HI HQI ⊢
                  refine hK.out _ _ (fun _ _ => HD.out) ?_
                  clear hK K
                  try simp only [Act.put, List.setIfInBounds_toArray, List.set_cons_zero, List.set_cons_succ]
                  refine anyU_one (i := 11) (by kernel_rfl) (by simp only [List.getElem?_toArray, List.getElem?_cons_succ, List.getElem?_cons_zero]; exact rfl) (fun K hK => ?_)
                  try go_simp
                  refine (HWI.out _ _ (by omega)).mono ?_
                  rintro e wt55 ⟨rfl, hb⟩
                  replace HD := hide (kept_trans HD.out hb)
                  replace HI := hide (HI.out.below hb HI.out.lt)
                  replace HC := hide (HC.out.kept hb)
                  clear hb
                  refine hK.out _ _ (fun _ _ => HD.out) ?_
                  clear hK K
                  try simp only [Act.put, List.setIfInBounds_toArray, List.set_cons_zero, List.set_cons_succ]
                  refine anyU_take2 (i := 12) (v := .slice Au q cu) (by simp only [List.getElem?_toArray, List.getElem?_cons_succ, List.getElem?_cons_zero]; exact rfl) (by kernel_rfl) 12 (by kernel_rfl) (by kernel_rfl) (fun _ _ _ h => h) (by kernel_rfl) (by kernel_rfl) (by kernel_rfl) (by kernel_rfl) (Or.inl ⟨by rfl, fun w hSw => (by go_simp; try with_reducible rfl)⟩) (by with_reducible exact HD.out) ?_
                  try simp only [Act.put, List.setIfInBounds_toArray, List.set_cons_zero, List.set_cons_succ]
                  refine anyU_one (i := 13) (by kernel_rfl) (by simp only [List.getElem?_toArray, List.getElem?_cons_succ, List.getElem?_cons_zero]; exact rfl) (fun K hK => ?_)
                  try go_simp
                  refine (HRX.out _ (HR0.out.below HD.out)).mono ?_
                  rintro e wt56 ⟨m1, m2, mz, mf, rfl, hmf, h8m, hb⟩
                  replace HD := hide (kept_trans HD.out hb)
                  replace HI := hide (HI.out.below hb HI.out.lt)
                  replace HC := hide (HC.out.kept hb)
                  have HMF := hide hmf
                  have H8M := hide h8m
                  clear hb hmf h8m
                  refine hK.out _ _ (fun _ _ => HD.out) ?_
                  clear hK K
                  try simp only [Act.put, List.setIfInBounds_toArray, List.set_cons_zero, List.set_cons_succ]
                  refine anyU_take2 (i := 14) (v := .tuple #[.agg #[.int .i64 m1, .int .i64 m2], .agg (clC mz), .int .i64 mf]) (by simp only [List.getElem?_toArray, List.getElem?_cons_succ, List.getElem?_cons_zero]; exact rfl) (by kernel_rfl) 12 (by kernel_rfl) (by kernel_rfl) (fun _ _ _ h => h) (by kernel_rfl) (by kernel_rfl) (by kernel_rfl) (by kernel_rfl) (Or.inl ⟨by rfl, fun w hSw => (by go_simp; try with_reducible rfl)⟩) (by with_reducible exact HD.out) ?_
                  try simp only [Act.put, List.setIfInBounds_toArray, List.set_cons_zero, List.set_cons_succ]
                  refine anyU_take2 (i := 15) (v := .agg #[.int .i64 m1, .int .i64 m2]) (by simp only [List.getElem?_toArray, List.getElem?_cons_succ, List.getElem?_cons_zero]; exact rfl) (by kernel_rfl) 12 (by kernel_rfl) (by kernel_rfl) (fun _ _ _ h => h) (by kernel_rfl) (by kernel_rfl) (by kernel_rfl) (by kernel_rfl) (Or.inl ⟨by rfl, fun w hSw => (by go_simp; try with_reducible rfl)⟩) (by with_reducible exact HD.out) ?_
                  try simp only [Act.put, List.setIfInBounds_toArray, List.set_cons_zero, List.set_cons_succ]
                  refine anyU_take2 (i := 16) (v := .agg (clC mz)) (by simp only [List.getElem?_toArray, List.getElem?_cons_succ, List.getElem?_cons_zero]; exact rfl) (by kernel_rfl) 12 (by kernel_rfl) (by kernel_rfl) (fun _ _ _ h => h) (by kernel_rfl) (by kernel_rfl) (by kernel_rfl) (by kernel_rfl) (Or.inl ⟨by rfl, fun w hSw => (by go_simp; try with_reducible rfl)⟩) (by with_reducible exact HD.out) ?_
                  try simp only [Act.put, List.setIfInBounds_toArray, List.set_cons_zero, List.set_cons_succ]
                  refine anyU_take2 (i := 17) (v := .int .i64 mf) (by simp only [List.getElem?_toArray, List.getElem?_cons_succ, List.getElem?_cons_zero]; exact rfl) (by kernel_rfl) 12 (by kernel_rfl) (by kernel_rfl) (fun _ _ _ h => h) (by kernel_rfl) (by kernel_rfl) (by kernel_rfl) (by kernel_rfl) (Or.inl ⟨by rfl, fun w hSw => (by go_simp; try with_reducible rfl)⟩) (by with_reducible exact HD.out) ?_
                  try simp only [Act.put, List.setIfInBounds_toArray, List.set_cons_zero, List.set_cons_succ]
                  have hne := rows_ne HI.out HC.out.r (by decide)
                  refine anyU_one (i := 20) (by kernel_rfl) (by simp only [List.getElem?_toArray, List.getElem?_cons_succ, List.getElem?_cons_zero]; exact rfl) (fun K hK => ?_)
                  rw [if_pos (by rfl)]
                  refine wp_store_in rfl rfl rfl HI.out ?_
                  intro wt57 hn hg
                  replace HC := hide (HC.out.other hg (fun e => hne e.symm))
                  replace HD := hide (below_own HD.out hg HQI.out)
                  clear hn hg hne
                  refine hK.out _ _ (fun _ _ => HD.out) ?_
                  clear hK K
                  try simp only [Act.put]
                  refine anyU_one (i := 21) (by kernel_rfl) (by simp only [List.getElem?_toArray, List.getElem?_cons_succ, List.getElem?_cons_zero]; exact rfl) (fun K hK => ?_)
                  rw [if_pos (by rfl)]
                  refine wp_store_xw rfl H8M.out rfl rfl HC.out ?_
                  intro wt58 hn hg
                  replace HD := hide (below_own HD.out hg HQC.out)
                  clear hn hg
                  refine hK.out _ _ (fun _ _ => HD.out) ?_
                  clear hK K
                  try simp only [Act.put]
                  refine anyU_one (i := 22) (by kernel_rfl) (by simp only [List.getElem?_toArray, List.getElem?_cons_succ, List.getElem?_cons_zero]; exact rfl) (fun K hK => ?_)
                  try go_simp
                  refine hK.out _ _ (fun e _ => absurd rfl e) ?_
                  clear hK K
                  try simp only [Act.put]
                  refine anyU_done (by kernel_rfl) ?_
                  refine NoPanic.normal ?_
                  try simp only [Act.put]
                  replace HR := hide (HR0.out.below HD.out)
                  replace HP1 := hide (HP1.out.kept HD.out)
                  clear HI HC HQI HQC HR0 HWI HRX H8M HD
                  generalize wt58 = we at HR HP1 ⊢
                  go_wp2
                  go_meet
                  exact ⟨mf, rfl, HMF, HR, HP1⟩
            case rest =>
            clear HR HP1 hu HU hqn hqi hwr hq HWI HRX
            obtain ⟨mf, hs16, HMF, HR, HP1⟩ := hcut
            subst hs16
            have hmf := HMF.out
            have hmfb : (mf == (0 : Int)) = false := by simpa using hmf
            have z0 : wc.cell? ⟨q1, 0, none⟩ = some (.int .i64 j1) := HP1.out.r.cell 0
            have z1 : wc.cell? ⟨q1, 1, none⟩ = some (.int .i64 j2) := HP1.out.r.cell 1
            by_cases hr0 : r = 0
            · have hmy := HMY.out hr0
              subst hr0
              rw [hmy] at HST
              clear hmy HMY hmf
              go_wp2_with (first
                | ((with_reducible refine wpList_load_ce p3 ?_ ?_ HP1.out.c.all ?_); rfl; rfl)
                | (go_at_call 7; (with_reducible refine (HST.out _ HR.out.c.pg).mono ?_); rintro e wf ⟨rfl, hp, hk⟩; replace HR := hide (HR.out.set2 hp hk); clear hp hk z0 z1))
              go_roundw
              case rel =>
                (repeat apply Exists.intro)
                refine ⟨?_, rfl⟩
                exact ⟨k + 1, by omega, by go_num, hide (by rw [HNX.out]; exact HR.out)⟩
              case measure => simp [intOf]; omega
            · have hr1 : r = 1 := by omega
              subst hr1
              clear HMY hmf
              generalize maySet Y (j1, j2) cc = M at HST
              go_wp2_with (first
                | ((with_reducible refine wpList_load_ce p3 ?_ ?_ HP1.out.c.all ?_); rfl; rfl)
                | (go_at_call 7; (with_reducible refine (HST.out _ HR.out.c.pg).mono ?_); rintro e wf ⟨rfl, hp, hk⟩; replace HR := hide (HR.out.set2 hp hk); clear hp hk z0 z1))
              go_roundw
              case rel =>
                (repeat apply Exists.intro)
                refine ⟨?_, rfl⟩
                exact ⟨k + 1, by omega, by go_num, hide (by rw [HNX.out]; exact HR.out)⟩
              case measure => simp [intOf]; omega
          · have hlt3i : ¬ (k : Int) < (L.length : Int) := by omega
            have hkL : k = L.length := by omega
            have HE := hide (show R2 W wr g b x g2 b2 (atRound x (r + 1)) (.slice Av L.length cv) vs L from by
              have h := HR.out
              rw [hkL, List.take_length, round_end HP.out r] at h
              exact h)
            clear HR hkL
            go_wp2
            go_roundw
            case rel => exact ⟨r + 1, by omega, by go_num, HE⟩
            case measure => simp [intOf]; omega
      · have hlti : ¬ (r : Int) < 2 := by omega
        have hr : r = 2 := by omega
        subst hr
        go_wp2
        go_meet
        exact hide HR.out
  case rest =>
  clear HR
  have HR := hcut
  clear hcut
  have hxl : x.k.length ≤ 1000000000 := by have := x_len HP.out hl40; omega
  have HXL := hide (x_len HP.out hl40)
  have HKL := hide HR.out.a.pg.kl
  have HLS1 := hide (fun w (h : Pg w g b x) => plist_all h hxl)
  have HLS2 := hide (fun w (h : Pg w g2 b2 x) => plist_all h hxl)
  have HLN := hide (show (x.k.map Lc.i).length = x.k.length from List.length_map _)
  obtain ⟨l, hl⟩ : ∃ l, x.k.map Lc.i = l := ⟨_, rfl⟩
  rw [hl] at HLS1 HLS2 HLN
  have HLL := hide hl
  clear hl hxl hl40
  unfold LsI at HLS1 HLS2
  obtain ⟨n3, hn3⟩ : ∃ n, l.length = n := ⟨_, rfl⟩
  rw [hn3] at HLS1 HLS2 HLN
  have HN3 := hide hn3
  clear hn3
  go_upto_block 6 with (first
    | (go_at_call 11; (with_reducible refine (HLS1.out _ HR.out.a.pg).mono ?_); rintro e w3 ⟨v1, rfl, ⟨A1, c1, rfl, hi⟩, hb⟩; replace HR := hide (HR.out.below hb); have HA := hide hi; clear hb hi)
    | (go_at_call 11; (with_reducible refine (HLS2.out _ HR.out.c.pg).mono ?_); rintro e w4 ⟨v2, rfl, ⟨A2, c2, rfl, hi⟩, hb⟩; replace HR := hide (HR.out.below hb); replace HA := hide (HA.out.below hb); have HB := hide hi; clear hb hi))
  clear HLS1 HLS2
  go_cut [19] from 142 to 168 (fun _ wx => Hid (R2 W wx g b x g2 b2 x (.slice Av L.length cv) vs L) ∧ Hid (Its 2 wx A1 (prs l)) ∧ Hid (Its 2 wx A2 (prs l)))
  case first =>
    go_wp2
    go_loopw [19] (fun i wr => ∃ k : Nat, k ≤ n3 ∧ i = .int .i64 k ∧ Hid (R2 W wr g b x g2 b2 x (.slice Av L.length cv) vs L) ∧ Hid (Its 2 wr A1 (prs l)) ∧ Hid (Its 2 wr A2 (prs l))) (fun i _ => n3 - (intOf i).toNat)
    case atStart => exact ⟨0, Nat.zero_le _, rfl, HR, HA, HB⟩
    case round =>
      clear HR HA HB
      obtain ⟨k, hk, rfl, HR, HA, HB⟩ := hrel
      by_cases hlt : k < n3
      · have hlti : (k : Int) < (n3 : Int) := by omega
        have hk100 : k < 100 := by have := HLN.out; have := HXL.out; omega
        obtain ⟨e, he⟩ : ∃ e, x.k[k]? = some e := ⟨_, List.getElem?_eq_getElem (by have := HLN.out; omega)⟩
        obtain ⟨⟨i1, i2⟩, ec⟩ := e
        obtain ⟨q, off, hA, _, hcl⟩ := HA.out.at_ (k := k) (x := [i1, i2]) (by unfold prs; rw [← HLL.out, List.getElem?_map, List.getElem?_map, he]; rfl)
        subst hA
        have hl0 : wr.cell? ⟨q, off + k * 2, none⟩ = some (.int .i64 i1) := hcl 0 (by omega)
        have hl1 : wr.cell? ⟨q, off + k * 2 + 1, none⟩ = some (.int .i64 i2) := hcl 1 (by omega)
        have HCE := hide (fun wz (h : Below wr.heap.size wr wz) => (show wz.cell? ⟨q, off + k * 2, none⟩ = some (.int .i64 i1) ∧ wz.cell? ⟨q, off + k * 2 + 1, none⟩ = some (.int .i64 i2) from ⟨below_some h hl0, below_some h hl1⟩))
        have HD := hide (show Below wr.heap.size wr wr from kept_refl wr)
        have hok := right_ok ((HKL.out.ok _ (List.mem_of_getElem? he)).1)
        have hy8 := opt_a8 HKL.out (i1, i2)
        have HCP1 := hide (fun w (h : Pg w g b x) => pcell_any h i1 i2 hok)
        have HCP2 := hide (fun w (h : Pg w g2 b2 x) => pcell_any h i1 i2 hok)
        unfold cellV at HCP1 HCP2
        generalize cellL x.k (i1, i2) = oc at HCP1 HCP2 hy8
        generalize oc.getD zeroCl = y at HCP1 HCP2 hy8
        generalize oc.isSome = Q at HCP1 HCP2
        clear hcl he hok
        go_upto_region 27 with (first
          | (go_at_call 12; (with_reducible refine (HCP1.out _ HR.out.a.pg).mono ?_); rintro e w6 ⟨rfl, hb⟩; replace HR := hide (HR.out.below hb); replace HD := hide (kept_trans HD.out hb); clear hb hl0 hl1)
          | ((with_reducible refine wpList_store_new (vs := clC y) ?_ ?_ (cl_all _) ?_ ?_ ?_); exact ce_size hy8; (rw [clC_size hy8]; rfl); (first | rfl | (simp; done)); rfl))
        try dsimp only [Act.put]
        have HN1 := hide (CeAt.new hy8 w6 38)
        replace HR := hide (HR.out.below (kept_alloc (kept_refl w6) (.cells (clC y) 38)))
        replace HD := hide (kept_trans HD.out (kept_alloc (kept_refl w6) (.cells (clC y) 38)))
        generalize w6.alloc (.cells (clC y) 38) = w7 at HN1 HR HD ⊢
        generalize w6.heap.size = b7 at HN1 ⊢
        obtain ⟨hl0, hl1⟩ := HCE.out _ HD.out
        go_upto_region 28 with (first
          | (go_at_call 12; (with_reducible refine (HCP2.out _ HR.out.c.pg).mono ?_); rintro e w8 ⟨rfl, hb⟩; replace HR := hide (HR.out.below hb); replace HD := hide (kept_trans HD.out hb); replace HN1 := hide (HN1.out.kept hb); clear hb hl0 hl1)
          | ((with_reducible refine wpList_store_new (vs := clC y) ?_ ?_ (cl_all _) ?_ ?_ ?_); exact ce_size hy8; (rw [clC_size hy8]; rfl); (first | rfl | (simp; done)); rfl))
        try dsimp only [Act.put]
        have HN2 := hide (CeAt.new hy8 w8 38)
        replace HR := hide (HR.out.below (kept_alloc (kept_refl w8) (.cells (clC y) 38)))
        replace HD := hide (kept_trans HD.out (kept_alloc (kept_refl w8) (.cells (clC y) 38)))
        replace HN1 := hide (HN1.out.kept (kept_alloc (kept_refl w8) (.cells (clC y) 38)))
        generalize w8.alloc (.cells (clC y) 38) = w9 at HN1 HN2 HR HD ⊢
        generalize w8.heap.size = b9 at HN2 ⊢
        have hne := fun w => neq_cell (x := y) (y := y) hy8 hy8 w
        rw [show sameCl y y = true from sameCl_iff.2 rfl] at hne
        simp only [Bool.not_true] at hne
        clear HCP1 HCP2
        go_wp2_with (first
          | ((with_reducible refine wpList_load_ce hy8 ?_ ?_ HN1.out.all ?_); rfl; rfl)
          | ((with_reducible refine wpList_load_ce hy8 ?_ ?_ HN2.out.all ?_); rfl; rfl))
        go_roundw
        case rel => exact ⟨k + 1, by omega, by go_num, HR, hide (HA.out.below HD.out), hide (HB.out.below HD.out)⟩
        case measure => simp [intOf]; omega
      · have hlti : ¬ (k : Int) < (n3 : Int) := by omega
        go_wp2
        go_meet
        exact ⟨HR, HA, HB⟩
  case rest =>
  clear HR HA HB
  obtain ⟨HR, HA, HB⟩ := hcut
  obtain ⟨t0, t1, t2, t3, t4, t5, t6, ht⟩ := seven (topL_len HKL.out)
  have HTP1 := hide (show ∀ w, Pg w g b x → Calls Tryz.prog 14 #[.pointer (some ⟨g, 0, none⟩)] w fun e w' => e = .returned (.agg #[.int .i64 t0, .int .i64 t1, .int .i64 t2, .int .i64 t3, .int .i64 t4, .int .i64 t5, .int .i64 t6]) ∧ Below w.heap.size w w' from fun w h => by
    have h1 := ptop_any h
    rw [ht] at h1
    exact h1)
  have HTP2 := hide (show ∀ w, Pg w g2 b2 x → Calls Tryz.prog 14 #[.pointer (some ⟨g2, 0, none⟩)] w fun e w' => e = .returned (.agg #[.int .i64 t0, .int .i64 t1, .int .i64 t2, .int .i64 t3, .int .i64 t4, .int .i64 t5, .int .i64 t6]) ∧ Below w.heap.size w w' from fun w h => by
    have h1 := ptop_any h
    rw [ht] at h1
    exact h1)
  have HSA := hide (show ∀ w, Its 2 w A1 (prs l) → Its 2 w A2 (prs l) → Calls Tryz.prog 13 #[.slice A1 n3 c1, .slice A2 n3 c2] w fun e w' => e = .returned (.bool true) ∧ Below w.heap.size w w' from fun w h1 h2 => by
    have hn := HN3.out
    have h := same_ls (l := l) (m := l) ⟨A1, c1, rfl, h1⟩ ⟨A2, c2, rfl, h2⟩ (by have := HLN.out; have := HXL.out; omega) (by have := HLN.out; have := HXL.out; omega)
    rw [hn] at h
    simp only [decide_true] at h
    exact h)
  have hde := fun w => eql_deps t0 t1 t2 t3 t4 t5 t6 t0 t1 t2 t3 t4 t5 t6 w
  simp only [decide_true] at hde
  clear ht
  go_wp2_with (first
    | (go_at_call 13; (with_reducible refine (HSA.out _ HA.out HB.out).mono ?_); rintro e w6 ⟨rfl, hb⟩; replace HR := hide (HR.out.below hb); clear hb)
    | (go_at_call 14; (with_reducible refine (HTP1.out _ HR.out.a.pg).mono ?_); rintro e w7 ⟨rfl, hb⟩; replace HR := hide (HR.out.below hb); clear hb)
    | (go_at_call 14; (with_reducible refine (HTP2.out _ HR.out.c.pg).mono ?_); rintro e w8 ⟨rfl, hb⟩; replace HR := hide (HR.out.below hb); clear hb)
    | (go_at_call 15; (with_reducible refine (runs_any _).mono ?_); rintro e w9 ⟨rfl, hb⟩; replace HR := hide (HR.out.below hb); clear hb))
  go_ret
  exact ⟨rfl, HR.out.a.low⟩
set_option maxRecDepth 100000 in
theorem lifted (os : Os) (started : os.Started) (H : Type) (enc : TypeId × Value → H) :
    ReturnsInHanded {} Tryz.checked os 3 .any (Rows.logReplaysSpec.pre6 enc Tryz.prog Tryz.f3 Rows.logReplaysRow.domain false) (Rows.logReplaysSpec.post enc Tryz.prog Tryz.f3 false true false false) := by
  refine returnsInHanded_of_change_sized (C := Tryz.checked) own started (by kernel_rfl) Tryz.func3
    (ChangeSpec.witness6 (enc := enc) (C := Tryz.checked) false ⟨#[], #[.slice none 0 0, .int .i64 0], []⟩ 8 (by kernel_rfl) (by kernel_rfl) (by kernel_rfl) (by kernel_rfl)) ?_
  intro W base args ds gs before hval0 hW _ hsz0 _
  have hval : ∀ (j : Nat) t v, Tryz.f3.params[j]? = some t → args[j]? = some v → Value.okWide Tryz.prog W .any base t v := hval0
  have hW' := hW
  obtain ⟨p, q, hA0, hV, rfl, _, _⟩ := hW
  have hA : DataW.TrodAll enc Tryz.prog W 0 (fun _ => true) true Tryz.f3.params.toList args.toList ds p := hA0
  have hsz : (DataW.weightsEach Tryz.prog (Tryz.f3.params.toList ++ Rows.logReplaysSpec.plain.varTypes Tryz.prog) (ds ++ gs)).all (· ≤ reachBytes) = true := hsz0
  rw [Tryz.params3] at hA hval hsz
  obtain ⟨v0, vs0, d0, ds0, p0, q0, hargs, rfl, rfl, h0, r0⟩ := trodAll_cons hA
  obtain ⟨v1, vs1, d1, ds1, p1, q1, rfl, rfl, rfl, h1, r1⟩ := trodAll_cons r0
  obtain ⟨rfl, rfl, rfl⟩ := trodAll_nil r1
  obtain rfl : args = #[v0, v1] := by cases args; simp_all
  obtain ⟨rfl, rfl⟩ := trodVars_none hV
  have k0 := h0
  have lt0 : ∀ x ∈ p0, x.block < W.heap.size := by obtain ⟨m, hm⟩ := k0; exact DataW.trod_lt m _ _ _ hm
  obtain ⟨A0, n0, c0, rfl⟩ := okWide_slice Tryz.underlying22 (hval 0 22 v0 rfl rfl)
  obtain ⟨z0, s0⟩ := gasks_in (j := 0) h0 hsz rfl rfl
  obtain ⟨a1, rfl, rfl, rfl, w1⟩ := open_int Tryz.underlying3 (hval 1 3 v1 rfl rfl) h1
  clear hA0 hval0
  refine (walk A0 n0 c0 z0 a1 W s0 (bounds_i64 w1)).mono fun e W' ⟨he, bel⟩ => ?_
  subst he
  exact ⟨_, rfl, _, _, _, [], _, [], hW', trodAll_mk1 (shut_bool Tryz.underlying4 _), (trodAll_cons_mk (Below.trod laidOut (by kernel_rfl) (of_decide_eq_true (by kernel_rfl)) k0 bel lt0) (trodAll_cons_mk (shut_int Tryz.underlying3 w1) trodAll_mk0)), rfl, bel.frame _, fun h => by cases h⟩
theorem over : Rows.logReplaysRow.holds Tryz.pinned (OpenSpec.ofChange Rows.logReplaysSpec) :=
  OpenClaim.holds_of_wide 3 Tryz.f3 rfl rfl rfl rfl rfl rfl rfl ⟨rfl, rfl, rfl, rfl, rfl⟩ rfl rfl rfl rfl rfl (by kernel_rfl) Tryz.func3 (by kernel_rfl)
    (of_decide_eq_true (by kernel_rfl)) (by unfold Func.isWrapper; first | (rw [if_pos (by decide +kernel)]; kernel_rfl) | (rw [if_neg (by decide +kernel)]; exact ⟨rfl, rfl⟩))
    (fun os started H enc _ => lifted os started H enc)
theorem proved : Rows.LogReplaysSaid := over
end Go.Proofs.YtiaegloipnhhdaaGreat.logReplays
