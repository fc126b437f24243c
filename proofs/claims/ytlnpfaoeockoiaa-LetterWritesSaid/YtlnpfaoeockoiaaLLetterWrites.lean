/- Proved: the law LetterWrites returns true for any letter and bytes. No condition. -/
import Derived.Test.YtlnpfaoeockoiaaWa
import Derived.Test.YtlnpfaoeockoiaaWk
import Derived.Test.YtlnpfaoeockoiaaWrx
namespace Go.Proofs.Ytlnpfaoeockoiaa.letterWrites
open Go.ChangeShapes Go.WideShapes Go.ChangeAt Go.RowKit
theorem alloc_le (w : World) (o : Obj) : w.heap.size ≤ (w.alloc o).heap.size := by simp
theorem own_len' {w : World} {b n : Nat} {v : Value} {zs : List Int} (hn : zs.length = n) (h : w.ownsRow b 5 1 v n (cellsOf zs)) : By b w v zs := by subst hn; exact h
set_option maxHeartbeats 16000000 in
theorem walk (m : Lt) (A : Option Addr) (n c : Nat) (zs : List Int) (W : World) (hm : LtIn m) (hs : SliceIn W A n c zs) :
    Calls Try.prog 4 #[.agg (ltC m), .slice A n c] W fun e w' => e = .returned (.bool true) ∧ Below W.heap.size W w' := by
  have wf := hm.wf
  have HD := hide (show Bk W (W.alloc (.cells (ltC m) 37)) m A zs from ⟨LAt.new wf W _, hs.lies.alloc _, (Below.refl _ _).alloc (Nat.le_refl _) _⟩)
  have HL := hide (fun w => light_any m hm w)
  obtain ⟨len, hle, room, ho, _, nil⟩ := hs
  have HN := hide len
  have HA := hide nil
  have hc1 : c ≤ 140737488351232 := room
  have hn1 : n ≤ 140737488351232 := by omega
  clear len ho nil
  cases hq : lightB m
  · simp only [hq] at HL
    clear hq hm
    go_enter Try.func4, Try.ntmps4
    go_upto_region 1 with (fail)
    generalize W.alloc (.cells (ltC m) 37) = w1 at HD ⊢
    go_wp2_with (first
      | ((with_reducible refine wpList_load_lt wf ?_ ?_ HD.out.m.all ?_); rfl; rfl)
      | (go_at_call 12; (with_reducible refine (HL.out _).mono ?_); rintro e w2 ⟨rfl, hb⟩; have HD := hide (HD.out.kept hb); clear hb)
      | (go_at_call 3; (with_reducible refine (runs_any _).mono ?_); rintro e w2 ⟨rfl, hb⟩; have HD := hide (HD.out.kept hb); clear hb))
    go_ret
    exact ⟨rfl, HD.out.old⟩
  · simp only [hq] at HL
    have hlz : m.z.size < 5000 := by unfold lightB lightN at hq; have := of_decide_eq_true hq; omega
    have hlen := encLt_len wf
    clear hq hm
    have HX := hide (fun w => rrightcell_any m.x wf.x w)
    have HXP := hide (fun w => prightcell_any m.x wf.x w)
    have HR := hide (fun w => rrightletter_any m wf w)
    have HRP := hide (fun w => pright_letter m wf w)
    have HP := hide (fun w => rputletter_any m wf w)
    have HPP := hide (fun w => pputlt_any m wf w)
    have hoC : ∀ w v, Sl w v zs → Calls Try.prog 19 #[v, .agg (clC m.x)] w (MadeB w (zs ++ encCl m.x)) := fun w v h => pputcell_any h (by have := HN.out; omega) m.x wf.x
    have HPC := hide hoC
    clear hoC
    have hcl : (encCl m.x).length ≤ 431 := by
      unfold encCl
      split
      · exact (encX_len wf.x).2
      · simp
    have hzl : (zs ++ encCl m.x).length ≤ 140737488352000 := by rw [List.length_append]; have := HN.out; omega
    obtain ⟨zx, hzx⟩ : ∃ l, zs ++ encCl m.x = l := ⟨_, rfl⟩
    rw [hzx] at HPC hzl
    generalize rightLt m = rl at HR HRP
    generalize hxs : encLt m = xs at hlen HP HPP
    clear hxs
    cases hr : rightCl m.x
    · simp only [hr] at HX HXP
      have EC := hide (show zx = zs from by rw [← hzx]; unfold encCl; rw [hr]; exact List.append_nil _)
      clear hr hzx
      go_enter Try.func4, Try.ntmps4
      go_upto_region 1 with (fail)
      generalize W.alloc (.cells (ltC m) 37) = w1 at HD ⊢
      go_upto_region 3 with (first
        | ((with_reducible refine wpList_load_lt wf ?_ ?_ HD.out.m.all ?_); rfl; rfl)
        | (go_at_call 12; (with_reducible refine (HL.out _).mono ?_); rintro e w2 ⟨rfl, hb⟩; have HD := hide (HD.out.kept hb); clear hb))
      have hown0 := World.ownsRow_lit (base := w2.heap.size) (e := 5) (size := 1) w2 #[] 0 (Nat.le_refl _) (by unfold maxLen; omega) rfl
      have HZ := hide (HD.out.z.alloc (.cells #[] 5))
      have hn0 : 0 + n ≤ 200000000000000 := by omega
      obtain ⟨i0, hi, hz0, hz1, hz2⟩ := info_parts Try.info5
      go_upto_region 4 with (at_builtin; refine wpList_append_lies rfl (.tmp 10) (.tmp 11) 22 rfl w2.heap.size 5 i0 _ Try.underlying22 hi hz0 hz1 hz2 rfl _ 0 [] rfl hown0 A n c zs rfl HN.out HA.out HZ.out hn0 (alloc_le _ _) ?_; intro v4 w4 hown1 hb1; simp only [Nat.zero_add, List.nil_append] at hown1; have HD := hide (show Bk W w4 m A zs from HD.out.kept ((kept_alloc (kept_refl w2) _).trans hb1)); have HY := hide (own_len' HN.out hown1); clear hb1 hown1 hown0)
      clear hi hz0 hz1 hz2 hn0
      obtain ⟨A4, c4, rfl, _, _, _, _⟩ := HY.out.form
      rw [HN.out] at HY ⊢
      go_upto_region 6 with (first
        | ((with_reducible refine wpList_load_ce wf.x ?_ ?_ HD.out.m.x ?_); rfl; rfl)
        | (go_at_call 13; (with_reducible refine (HX.out _).mono ?_); rintro e w5 ⟨rfl, hb⟩; have HD := hide (HD.out.kept hb); have HY := hide (HY.out.below hb); clear hb))
      have HY := hide (show By w2.heap.size w5 (.slice A4 n c4) zx from by rw [EC.out]; exact HY.out)
      have HLW := hide (show zx.length = n from by rw [EC.out]; exact HN.out)
      clear EC
      refine wp_region_noPanic ?_
      refine wp_region_U 32 (fun w' => Bk W w' m A zs) (by kernel_rfl) ?_
      have HD := hide (show Bk W w5.drew m A zs from HD.out.kept (Below.refl _ _).drew)
      have HY := hide (HY.out.below (Below.refl _ _).drew)
      generalize w5.drew = w6 at HD HY ⊢
      refine anyU_take (i := 0) (v := .pointer (some ⟨W.heap.size, 22, none⟩)) (by simp only [List.getElem?_toArray, List.getElem?_cons_zero]; exact rfl) (by kernel_rfl) (by kernel_rfl) (by kernel_rfl) (fun _ _ _ h => h) (by kernel_rfl) (by kernel_rfl) (by kernel_rfl) (Or.inl ⟨by rfl, fun w hSw => (by go_simp; try with_reducible rfl)⟩) (by with_reducible exact HD.out) ?_
      try simp only [Act.put, List.setIfInBounds_toArray, List.set_cons_zero, List.set_cons_succ]
      refine anyU_take (i := 1) (v := .agg (clC m.x)) (by simp only [List.getElem?_toArray, List.getElem?_cons_succ, List.getElem?_cons_zero]; exact rfl) (by kernel_rfl) (by kernel_rfl) (by kernel_rfl) (fun _ _ _ h => h) (by kernel_rfl) (by kernel_rfl) (by kernel_rfl) (Or.inl ⟨by rfl, fun w hSw => exec_load_gp rfl rfl hSw.m.x ce_under rfl (by rw [Cl.len wf.x]; exact ce_info)⟩) (by with_reducible exact HD.out) ?_
      try simp only [Act.put, List.setIfInBounds_toArray, List.set_cons_zero, List.set_cons_succ]
      refine anyU_take (i := 3) (v := .pointer (some ⟨W.heap.size, 22, none⟩)) (by simp only [List.getElem?_toArray, List.getElem?_cons_succ, List.getElem?_cons_zero]; exact rfl) (by kernel_rfl) (by kernel_rfl) (by kernel_rfl) (fun _ _ _ h => h) (by kernel_rfl) (by kernel_rfl) (by kernel_rfl) (Or.inl ⟨by rfl, fun w hSw => (by go_simp; try with_reducible rfl)⟩) (by with_reducible exact HD.out) ?_
      try simp only [Act.put, List.setIfInBounds_toArray, List.set_cons_zero, List.set_cons_succ]
      refine anyU_take (i := 4) (v := .agg (clC m.x)) (by simp only [List.getElem?_toArray, List.getElem?_cons_succ, List.getElem?_cons_zero]; exact rfl) (by kernel_rfl) (by kernel_rfl) (by kernel_rfl) (fun _ _ _ h => h) (by kernel_rfl) (by kernel_rfl) (by kernel_rfl) (Or.inl ⟨by rfl, fun w hSw => exec_load_gp rfl rfl hSw.m.x ce_under rfl (by rw [Cl.len wf.x]; exact ce_info)⟩) (by with_reducible exact HD.out) ?_
      try simp only [Act.put, List.setIfInBounds_toArray, List.set_cons_zero, List.set_cons_succ]
      refine anyU_one (i := 2) (by kernel_rfl) (by simp only [List.getElem?_toArray, List.getElem?_cons_succ, List.getElem?_cons_zero]; exact rfl) (fun K hK => ?_)
      try go_simp
      refine (HXP.out _).mono ?_
      rintro e w7 ⟨rfl, hb⟩
      have HD := hide (HD.out.kept hb)
      have HY := hide (HY.out.below hb)
      clear hb
      refine hK.out _ _ (fun _ _ => HD.out) ?_
      clear hK K
      try simp only [Act.put, List.setIfInBounds_toArray, List.set_cons_zero, List.set_cons_succ]
      refine anyU_one (i := 5) (by kernel_rfl) (by simp only [List.getElem?_toArray, List.getElem?_cons_succ, List.getElem?_cons_zero]; exact rfl) (fun K hK => ?_)
      try go_simp
      refine (HX.out _).mono ?_
      rintro e w8 ⟨rfl, hb⟩
      have HD := hide (HD.out.kept hb)
      have HY := hide (HY.out.below hb)
      clear hb
      refine hK.out _ _ (fun _ _ => HD.out) ?_
      clear hK K
      try simp only [Act.put, List.setIfInBounds_toArray, List.set_cons_zero, List.set_cons_succ]
      refine anyU_take (i := 6) (v := .bool true) (by simp only [List.getElem?_toArray, List.getElem?_cons_succ, List.getElem?_cons_zero]; exact rfl) (by kernel_rfl) (by kernel_rfl) (by kernel_rfl) (fun _ _ _ h => h) (by kernel_rfl) (by kernel_rfl) (by kernel_rfl) (Or.inl ⟨by rfl, fun w hSw => (by go_simp; try with_reducible rfl)⟩) (by with_reducible exact HD.out) ?_
      try simp only [Act.put, List.setIfInBounds_toArray, List.set_cons_zero, List.set_cons_succ]
      refine anyU_take (i := 7) (v := .bool true) (by simp only [List.getElem?_toArray, List.getElem?_cons_succ, List.getElem?_cons_zero]; exact rfl) (by kernel_rfl) (by kernel_rfl) (by kernel_rfl) (fun _ _ _ h => h) (by kernel_rfl) (by kernel_rfl) (by kernel_rfl) (Or.inl ⟨by rfl, fun w hSw => (by go_simp; try with_reducible rfl)⟩) (by with_reducible exact HD.out) ?_
      try simp only [Act.put, List.setIfInBounds_toArray, List.set_cons_zero, List.set_cons_succ]
      refine anyU_take (i := 8) (v := .agg (ltC m)) (by simp only [List.getElem?_toArray, List.getElem?_cons_succ, List.getElem?_cons_zero]; exact rfl) (by kernel_rfl) (by kernel_rfl) (by kernel_rfl) (fun _ _ _ h => h) (by kernel_rfl) (by kernel_rfl) (by kernel_rfl) (Or.inl ⟨by rfl, fun w hSw => exec_load_gp rfl rfl hSw.m.all lt_under rfl (by rw [Lt.len wf]; exact lt_info)⟩) (by with_reducible exact HD.out) ?_
      try simp only [Act.put, List.setIfInBounds_toArray, List.set_cons_zero, List.set_cons_succ]
      refine anyU_take (i := 10) (v := .agg (ltC m)) (by simp only [List.getElem?_toArray, List.getElem?_cons_succ, List.getElem?_cons_zero]; exact rfl) (by kernel_rfl) (by kernel_rfl) (by kernel_rfl) (fun _ _ _ h => h) (by kernel_rfl) (by kernel_rfl) (by kernel_rfl) (Or.inl ⟨by rfl, fun w hSw => exec_load_gp rfl rfl hSw.m.all lt_under rfl (by rw [Lt.len wf]; exact lt_info)⟩) (by with_reducible exact HD.out) ?_
      try simp only [Act.put, List.setIfInBounds_toArray, List.set_cons_zero, List.set_cons_succ]
      refine anyU_one (i := 9) (by kernel_rfl) (by simp only [List.getElem?_toArray, List.getElem?_cons_succ, List.getElem?_cons_zero]; exact rfl) (fun K hK => ?_)
      try go_simp
      refine (HRP.out _).mono ?_
      rintro e w9 ⟨rfl, hb⟩
      have HD := hide (HD.out.kept hb)
      have HY := hide (HY.out.below hb)
      clear hb
      refine hK.out _ _ (fun _ _ => HD.out) ?_
      clear hK K
      try simp only [Act.put, List.setIfInBounds_toArray, List.set_cons_zero, List.set_cons_succ]
      refine anyU_one (i := 11) (by kernel_rfl) (by simp only [List.getElem?_toArray, List.getElem?_cons_succ, List.getElem?_cons_zero]; exact rfl) (fun K hK => ?_)
      try go_simp
      refine (HR.out _).mono ?_
      rintro e w10 ⟨rfl, hb⟩
      have HD := hide (HD.out.kept hb)
      have HY := hide (HY.out.below hb)
      clear hb
      refine hK.out _ _ (fun _ _ => HD.out) ?_
      clear hK K
      try simp only [Act.put, List.setIfInBounds_toArray, List.set_cons_zero, List.set_cons_succ]
      refine anyU_take (i := 12) (v := .bool true) (by simp only [List.getElem?_toArray, List.getElem?_cons_succ, List.getElem?_cons_zero]; exact rfl) (by kernel_rfl) (by kernel_rfl) (by kernel_rfl) (fun _ _ _ h => h) (by kernel_rfl) (by kernel_rfl) (by kernel_rfl) (Or.inl ⟨by rfl, fun w hSw => (by go_simp; try with_reducible rfl)⟩) (by with_reducible exact HD.out) ?_
      try simp only [Act.put, List.setIfInBounds_toArray, List.set_cons_zero, List.set_cons_succ]
      refine anyU_take (i := 13) (v := .bool true) (by simp only [List.getElem?_toArray, List.getElem?_cons_succ, List.getElem?_cons_zero]; exact rfl) (by kernel_rfl) (by kernel_rfl) (by kernel_rfl) (fun _ _ _ h => h) (by kernel_rfl) (by kernel_rfl) (by kernel_rfl) (Or.inl ⟨by rfl, fun w hSw => (by go_simp; try with_reducible rfl)⟩) (by with_reducible exact HD.out) ?_
      try simp only [Act.put, List.setIfInBounds_toArray, List.set_cons_zero, List.set_cons_succ]
      refine anyU_take (i := 14) (v := .bool true) (by simp only [List.getElem?_toArray, List.getElem?_cons_succ, List.getElem?_cons_zero]; exact rfl) (by kernel_rfl) (by kernel_rfl) (by kernel_rfl) (fun _ _ _ h => h) (by kernel_rfl) (by kernel_rfl) (by kernel_rfl) (Or.inl ⟨by rfl, fun w hSw => (by go_simp; try with_reducible rfl)⟩) (by with_reducible exact HD.out) ?_
      try simp only [Act.put, List.setIfInBounds_toArray, List.set_cons_zero, List.set_cons_succ]
      refine anyU_take (i := 15) (v := .agg (ltC m)) (by simp only [List.getElem?_toArray, List.getElem?_cons_succ, List.getElem?_cons_zero]; exact rfl) (by kernel_rfl) (by kernel_rfl) (by kernel_rfl) (fun _ _ _ h => h) (by kernel_rfl) (by kernel_rfl) (by kernel_rfl) (Or.inl ⟨by rfl, fun w hSw => exec_load_gp rfl rfl hSw.m.all lt_under rfl (by rw [Lt.len wf]; exact lt_info)⟩) (by with_reducible exact HD.out) ?_
      try simp only [Act.put, List.setIfInBounds_toArray, List.set_cons_zero, List.set_cons_succ]
      refine anyU_take (i := 17) (v := .agg (ltC m)) (by simp only [List.getElem?_toArray, List.getElem?_cons_succ, List.getElem?_cons_zero]; exact rfl) (by kernel_rfl) (by kernel_rfl) (by kernel_rfl) (fun _ _ _ h => h) (by kernel_rfl) (by kernel_rfl) (by kernel_rfl) (Or.inl ⟨by rfl, fun w hSw => exec_load_gp rfl rfl hSw.m.all lt_under rfl (by rw [Lt.len wf]; exact lt_info)⟩) (by with_reducible exact HD.out) ?_
      try simp only [Act.put, List.setIfInBounds_toArray, List.set_cons_zero, List.set_cons_succ]
      refine anyU_one (i := 16) (by kernel_rfl) (by simp only [List.getElem?_toArray, List.getElem?_cons_succ, List.getElem?_cons_zero]; exact rfl) (fun K hK => ?_)
      try go_simp
      refine (HPP.out _).mono ?_
      rintro e w11 ⟨u1, rfl, hy, hb⟩
      have HD := hide (HD.out.kept hb)
      have HY := hide (HY.out.below hb)
      have Y1 := hide hy
      obtain ⟨B1, d1, rfl, _, _, _, _⟩ := hy.form
      clear hy hb
      refine hK.out _ _ (fun _ _ => HD.out) ?_
      clear hK K
      try simp only [Act.put, List.setIfInBounds_toArray, List.set_cons_zero, List.set_cons_succ]
      refine anyU_one (i := 18) (by kernel_rfl) (by simp only [List.getElem?_toArray, List.getElem?_cons_succ, List.getElem?_cons_zero]; exact rfl) (fun K hK => ?_)
      try go_simp
      refine (HP.out _).mono ?_
      rintro e w12 ⟨u2, rfl, hy, hb⟩
      have HD := hide (HD.out.kept hb)
      have HY := hide (HY.out.below hb)
      have Y1 := hide (Y1.out.below hb)
      have Y2 := hide hy
      obtain ⟨B2, d2, rfl, _, _, _, _⟩ := hy.form
      have HSM := hide (same_self B1 B2 xs.length xs.length d1 d2 xs w12 rfl rfl (Lies.of_own Y1.out) (Lies.of_own Y2.out) (by omega))
      clear hy hb
      refine hK.out _ _ (fun _ _ => HD.out) ?_
      clear hK K
      try simp only [Act.put, List.setIfInBounds_toArray, List.set_cons_zero, List.set_cons_succ]
      refine anyU_one (i := 19) (by kernel_rfl) (by simp only [List.getElem?_toArray, List.getElem?_cons_succ, List.getElem?_cons_zero]; exact rfl) (fun K hK => ?_)
      try go_simp
      refine (HSM.out).mono ?_
      rintro e w13 ⟨rfl, hb⟩
      have HD := hide (HD.out.kept hb)
      have HY := hide (HY.out.below hb)
      clear hb
      refine hK.out _ _ (fun _ _ => HD.out) ?_
      clear hK K
      try simp only [Act.put, List.setIfInBounds_toArray, List.set_cons_zero, List.set_cons_succ]
      refine anyU_take (i := 20) (v := .bool true) (by simp only [List.getElem?_toArray, List.getElem?_cons_succ, List.getElem?_cons_zero]; exact rfl) (by kernel_rfl) (by kernel_rfl) (by kernel_rfl) (fun _ _ _ h => h) (by kernel_rfl) (by kernel_rfl) (by kernel_rfl) (Or.inl ⟨by rfl, fun w hSw => (by go_simp; try with_reducible rfl)⟩) (by with_reducible exact HD.out) ?_
      try simp only [Act.put, List.setIfInBounds_toArray, List.set_cons_zero, List.set_cons_succ]
      refine anyU_take (i := 21) (v := .bool true) (by simp only [List.getElem?_toArray, List.getElem?_cons_succ, List.getElem?_cons_zero]; exact rfl) (by kernel_rfl) (by kernel_rfl) (by kernel_rfl) (fun _ _ _ h => h) (by kernel_rfl) (by kernel_rfl) (by kernel_rfl) (Or.inl ⟨by rfl, fun w hSw => (by go_simp; try with_reducible rfl)⟩) (by with_reducible exact HD.out) ?_
      try simp only [Act.put, List.setIfInBounds_toArray, List.set_cons_zero, List.set_cons_succ]
      refine anyU_take (i := 22) (v := .slice A n c) (by simp only [List.getElem?_toArray, List.getElem?_cons_succ, List.getElem?_cons_zero]; exact rfl) (by kernel_rfl) (by kernel_rfl) (by kernel_rfl) (fun _ _ _ h => h) (by kernel_rfl) (by kernel_rfl) (by kernel_rfl) (Or.inl ⟨by rfl, fun w hSw => (by go_simp; try with_reducible rfl)⟩) (by with_reducible exact HD.out) ?_
      try simp only [Act.put, List.setIfInBounds_toArray, List.set_cons_zero, List.set_cons_succ]
      refine anyU_take (i := 23) (v := .pointer (some ⟨W.heap.size, 22, none⟩)) (by simp only [List.getElem?_toArray, List.getElem?_cons_succ, List.getElem?_cons_zero]; exact rfl) (by kernel_rfl) (by kernel_rfl) (by kernel_rfl) (fun _ _ _ h => h) (by kernel_rfl) (by kernel_rfl) (by kernel_rfl) (Or.inl ⟨by rfl, fun w hSw => (by go_simp; try with_reducible rfl)⟩) (by with_reducible exact HD.out) ?_
      try simp only [Act.put, List.setIfInBounds_toArray, List.set_cons_zero, List.set_cons_succ]
      refine anyU_take (i := 24) (v := .agg (clC m.x)) (by simp only [List.getElem?_toArray, List.getElem?_cons_succ, List.getElem?_cons_zero]; exact rfl) (by kernel_rfl) (by kernel_rfl) (by kernel_rfl) (fun _ _ _ h => h) (by kernel_rfl) (by kernel_rfl) (by kernel_rfl) (Or.inl ⟨by rfl, fun w hSw => exec_load_gp rfl rfl hSw.m.x ce_under rfl (by rw [Cl.len wf.x]; exact ce_info)⟩) (by with_reducible exact HD.out) ?_
      try simp only [Act.put, List.setIfInBounds_toArray, List.set_cons_zero, List.set_cons_succ]
      refine anyU_take (i := 26) (v := .slice A4 n c4) (by simp only [List.getElem?_toArray, List.getElem?_cons_succ, List.getElem?_cons_zero]; exact rfl) (by kernel_rfl) (by kernel_rfl) (by kernel_rfl) (fun _ _ _ h => h) (by kernel_rfl) (by kernel_rfl) (by kernel_rfl) (Or.inl ⟨by rfl, fun w hSw => (by go_simp; try with_reducible rfl)⟩) (by with_reducible exact HD.out) ?_
      try simp only [Act.put, List.setIfInBounds_toArray, List.set_cons_zero, List.set_cons_succ]
      refine anyU_one (i := 25) (by kernel_rfl) (by simp only [List.getElem?_toArray, List.getElem?_cons_succ, List.getElem?_cons_zero]; exact rfl) (fun K hK => ?_)
      try go_simp
      refine (HPC.out _ _ ⟨A, c, by rw [HN.out], HD.out.z, HA.out⟩).mono ?_
      rintro e w14 ⟨u3, rfl, hy, hb⟩
      have HD := hide (HD.out.kept hb)
      have HY := hide (HY.out.below hb)
      have Y3 := hide hy
      obtain ⟨B3, d3, rfl, _, _, _, _⟩ := hy.form
      have HSM2 := hide (same_self B3 A4 zx.length n d3 c4 zx w14 rfl HLW.out (Lies.of_own Y3.out) (Lies.of_own (n := n) (by have h := HY.out; unfold By at h; rw [HLW.out] at h; exact h)) (by omega))
      clear hy hb
      refine hK.out _ _ (fun _ _ => HD.out) ?_
      clear hK K
      try simp only [Act.put, List.setIfInBounds_toArray, List.set_cons_zero, List.set_cons_succ]
      refine anyU_one (i := 27) (by kernel_rfl) (by simp only [List.getElem?_toArray, List.getElem?_cons_succ, List.getElem?_cons_zero]; exact rfl) (fun K hK => ?_)
      try go_simp
      refine (HSM2.out).mono ?_
      rintro e w15 ⟨rfl, hb⟩
      have HD := hide (HD.out.kept hb)
      clear hb
      refine hK.out _ _ (fun _ _ => HD.out) ?_
      clear hK K
      try simp only [Act.put, List.setIfInBounds_toArray, List.set_cons_zero, List.set_cons_succ]
      refine anyU_take (i := 28) (v := .bool true) (by simp only [List.getElem?_toArray, List.getElem?_cons_succ, List.getElem?_cons_zero]; exact rfl) (by kernel_rfl) (by kernel_rfl) (by kernel_rfl) (fun _ _ _ h => h) (by kernel_rfl) (by kernel_rfl) (by kernel_rfl) (Or.inl ⟨by rfl, fun w hSw => (by go_simp; try with_reducible rfl)⟩) (by with_reducible exact HD.out) ?_
      try simp only [Act.put, List.setIfInBounds_toArray, List.set_cons_zero, List.set_cons_succ]
      refine anyU_take (i := 29) (v := .bool true) (by simp only [List.getElem?_toArray, List.getElem?_cons_succ, List.getElem?_cons_zero]; exact rfl) (by kernel_rfl) (by kernel_rfl) (by kernel_rfl) (fun _ _ _ h => h) (by kernel_rfl) (by kernel_rfl) (by kernel_rfl) (Or.inl ⟨by rfl, fun w hSw => (by go_simp; try with_reducible rfl)⟩) (by with_reducible exact HD.out) ?_
      try simp only [Act.put, List.setIfInBounds_toArray, List.set_cons_zero, List.set_cons_succ]
      refine anyU_one (i := 30) (by kernel_rfl) (by simp only [List.getElem?_toArray, List.getElem?_cons_succ, List.getElem?_cons_zero]; exact rfl) (fun K hK => ?_)
      try go_simp
      refine (runs_any _).mono ?_
      rintro e w16 ⟨rfl, hb⟩
      have HD := hide (HD.out.kept hb)
      clear hb
      refine hK.out _ _ (fun _ _ => HD.out) ?_
      clear hK K
      try simp only [Act.put, List.setIfInBounds_toArray, List.set_cons_zero, List.set_cons_succ]
      refine anyU_take (i := 31) (v := .bool true) (by simp only [List.getElem?_toArray, List.getElem?_cons_succ, List.getElem?_cons_zero]; exact rfl) (by kernel_rfl) (by kernel_rfl) (by kernel_rfl) (fun _ _ _ h => h) (by kernel_rfl) (by kernel_rfl) (by kernel_rfl) (Or.inl ⟨by rfl, fun w hSw => (by go_simp; try with_reducible rfl)⟩) (by with_reducible exact HD.out) ?_
      try simp only [Act.put, List.setIfInBounds_toArray, List.set_cons_zero, List.set_cons_succ]
      refine anyU_one (i := 32) (by kernel_rfl) (by simp only [List.getElem?_toArray, List.getElem?_cons_succ, List.getElem?_cons_zero]; exact rfl) (fun K hK => ?_)
      try go_simp
      refine hK.out _ _ (fun e _ => absurd rfl e) ?_
      clear hK K
      try simp only [Act.put, List.setIfInBounds_toArray, List.set_cons_zero, List.set_cons_succ]
      refine anyU_done (by kernel_rfl) ?_
      refine NoPanic.normal ?_
      try simp only [Act.put]
      go_wp2
      go_ret
      exact ⟨rfl, HD.out.old⟩
    · simp only [hr] at HX HXP
      have EC := hide (show encCl m.x = encX m.x from by unfold encCl; rw [hr]; rfl)
      have HRC := hide (fun w v (h : Sl w v zs) => rputcell_any h (by have := HN.out; omega) m.x wf.x hr)
      rw [← EC.out, hzx] at HRC
      clear hr EC hzx
      go_enter Try.func4, Try.ntmps4
      go_upto_region 1 with (fail)
      generalize W.alloc (.cells (ltC m) 37) = w1 at HD ⊢
      go_upto_region 3 with (first
        | ((with_reducible refine wpList_load_lt wf ?_ ?_ HD.out.m.all ?_); rfl; rfl)
        | (go_at_call 12; (with_reducible refine (HL.out _).mono ?_); rintro e w2 ⟨rfl, hb⟩; have HD := hide (HD.out.kept hb); clear hb))
      have hown0 := World.ownsRow_lit (base := w2.heap.size) (e := 5) (size := 1) w2 #[] 0 (Nat.le_refl _) (by unfold maxLen; omega) rfl
      have HZ := hide (HD.out.z.alloc (.cells #[] 5))
      have hn0 : 0 + n ≤ 200000000000000 := by omega
      obtain ⟨i0, hi, hz0, hz1, hz2⟩ := info_parts Try.info5
      go_upto_region 4 with (at_builtin; refine wpList_append_lies rfl (.tmp 10) (.tmp 11) 22 rfl w2.heap.size 5 i0 _ Try.underlying22 hi hz0 hz1 hz2 rfl _ 0 [] rfl hown0 A n c zs rfl HN.out HA.out HZ.out hn0 (alloc_le _ _) ?_; intro v4 w4 hown1 hb1; simp only [Nat.zero_add, List.nil_append] at hown1; have HD := hide (show Bk W w4 m A zs from HD.out.kept ((kept_alloc (kept_refl w2) _).trans hb1)); have HY := hide (own_len' HN.out hown1); clear hb1 hown1 hown0)
      clear hi hz0 hz1 hz2 hn0
      obtain ⟨A4, c4, rfl, _, _, _, _⟩ := HY.out.form
      rw [HN.out] at HY ⊢
      clear HY
      go_upto_region 6 with (first
        | ((with_reducible refine wpList_load_ce wf.x ?_ ?_ HD.out.m.x ?_); rfl; rfl)
        | (go_at_call 13; (with_reducible refine (HX.out _).mono ?_); rintro e w4 ⟨rfl, hb⟩; have HD := hide (HD.out.kept hb); clear hb; have HRD := hide (HRC.out w4 (.slice A n c) ⟨A, c, by rw [HN.out], HD.out.z, HA.out⟩))
        | (go_at_call 14; (with_reducible refine HRD.out.mono ?_); rintro e w5 ⟨u5, rfl, hy, hb⟩; have HD := hide (HD.out.kept hb); have HY5 := hide hy; obtain ⟨A4, c4, rfl, _, _, _, _⟩ := hy.form; clear hb hy))
      have HY := hide (show By w4.heap.size w5 (.slice A4 zx.length c4) zx from HY5.out)
      clear HY5
      obtain ⟨lw, hlw⟩ : ∃ l, zx.length = l := ⟨_, rfl⟩
      rw [hlw] at HY ⊢
      have HLW := hide hlw
      clear hlw
      refine wp_region_noPanic ?_
      refine wp_region_U 32 (fun w' => Bk W w' m A zs) (by kernel_rfl) ?_
      have HD := hide (show Bk W w5.drew m A zs from HD.out.kept (Below.refl _ _).drew)
      have HY := hide (HY.out.below (Below.refl _ _).drew)
      generalize w5.drew = w6 at HD HY ⊢
      refine anyU_take (i := 0) (v := .pointer (some ⟨W.heap.size, 22, none⟩)) (by simp only [List.getElem?_toArray, List.getElem?_cons_zero]; exact rfl) (by kernel_rfl) (by kernel_rfl) (by kernel_rfl) (fun _ _ _ h => h) (by kernel_rfl) (by kernel_rfl) (by kernel_rfl) (Or.inl ⟨by rfl, fun w hSw => (by go_simp; try with_reducible rfl)⟩) (by with_reducible exact HD.out) ?_
      try simp only [Act.put, List.setIfInBounds_toArray, List.set_cons_zero, List.set_cons_succ]
      refine anyU_take (i := 1) (v := .agg (clC m.x)) (by simp only [List.getElem?_toArray, List.getElem?_cons_succ, List.getElem?_cons_zero]; exact rfl) (by kernel_rfl) (by kernel_rfl) (by kernel_rfl) (fun _ _ _ h => h) (by kernel_rfl) (by kernel_rfl) (by kernel_rfl) (Or.inl ⟨by rfl, fun w hSw => exec_load_gp rfl rfl hSw.m.x ce_under rfl (by rw [Cl.len wf.x]; exact ce_info)⟩) (by with_reducible exact HD.out) ?_
      try simp only [Act.put, List.setIfInBounds_toArray, List.set_cons_zero, List.set_cons_succ]
      refine anyU_take (i := 3) (v := .pointer (some ⟨W.heap.size, 22, none⟩)) (by simp only [List.getElem?_toArray, List.getElem?_cons_succ, List.getElem?_cons_zero]; exact rfl) (by kernel_rfl) (by kernel_rfl) (by kernel_rfl) (fun _ _ _ h => h) (by kernel_rfl) (by kernel_rfl) (by kernel_rfl) (Or.inl ⟨by rfl, fun w hSw => (by go_simp; try with_reducible rfl)⟩) (by with_reducible exact HD.out) ?_
      try simp only [Act.put, List.setIfInBounds_toArray, List.set_cons_zero, List.set_cons_succ]
      refine anyU_take (i := 4) (v := .agg (clC m.x)) (by simp only [List.getElem?_toArray, List.getElem?_cons_succ, List.getElem?_cons_zero]; exact rfl) (by kernel_rfl) (by kernel_rfl) (by kernel_rfl) (fun _ _ _ h => h) (by kernel_rfl) (by kernel_rfl) (by kernel_rfl) (Or.inl ⟨by rfl, fun w hSw => exec_load_gp rfl rfl hSw.m.x ce_under rfl (by rw [Cl.len wf.x]; exact ce_info)⟩) (by with_reducible exact HD.out) ?_
      try simp only [Act.put, List.setIfInBounds_toArray, List.set_cons_zero, List.set_cons_succ]
      refine anyU_one (i := 2) (by kernel_rfl) (by simp only [List.getElem?_toArray, List.getElem?_cons_succ, List.getElem?_cons_zero]; exact rfl) (fun K hK => ?_)
      try go_simp
      refine (HXP.out _).mono ?_
      rintro e w7 ⟨rfl, hb⟩
      have HD := hide (HD.out.kept hb)
      have HY := hide (HY.out.below hb)
      clear hb
      refine hK.out _ _ (fun _ _ => HD.out) ?_
      clear hK K
      try simp only [Act.put, List.setIfInBounds_toArray, List.set_cons_zero, List.set_cons_succ]
      refine anyU_one (i := 5) (by kernel_rfl) (by simp only [List.getElem?_toArray, List.getElem?_cons_succ, List.getElem?_cons_zero]; exact rfl) (fun K hK => ?_)
      try go_simp
      refine (HX.out _).mono ?_
      rintro e w8 ⟨rfl, hb⟩
      have HD := hide (HD.out.kept hb)
      have HY := hide (HY.out.below hb)
      clear hb
      refine hK.out _ _ (fun _ _ => HD.out) ?_
      clear hK K
      try simp only [Act.put, List.setIfInBounds_toArray, List.set_cons_zero, List.set_cons_succ]
      refine anyU_take (i := 6) (v := .bool true) (by simp only [List.getElem?_toArray, List.getElem?_cons_succ, List.getElem?_cons_zero]; exact rfl) (by kernel_rfl) (by kernel_rfl) (by kernel_rfl) (fun _ _ _ h => h) (by kernel_rfl) (by kernel_rfl) (by kernel_rfl) (Or.inl ⟨by rfl, fun w hSw => (by go_simp; try with_reducible rfl)⟩) (by with_reducible exact HD.out) ?_
      try simp only [Act.put, List.setIfInBounds_toArray, List.set_cons_zero, List.set_cons_succ]
      refine anyU_take (i := 7) (v := .bool true) (by simp only [List.getElem?_toArray, List.getElem?_cons_succ, List.getElem?_cons_zero]; exact rfl) (by kernel_rfl) (by kernel_rfl) (by kernel_rfl) (fun _ _ _ h => h) (by kernel_rfl) (by kernel_rfl) (by kernel_rfl) (Or.inl ⟨by rfl, fun w hSw => (by go_simp; try with_reducible rfl)⟩) (by with_reducible exact HD.out) ?_
      try simp only [Act.put, List.setIfInBounds_toArray, List.set_cons_zero, List.set_cons_succ]
      refine anyU_take (i := 8) (v := .agg (ltC m)) (by simp only [List.getElem?_toArray, List.getElem?_cons_succ, List.getElem?_cons_zero]; exact rfl) (by kernel_rfl) (by kernel_rfl) (by kernel_rfl) (fun _ _ _ h => h) (by kernel_rfl) (by kernel_rfl) (by kernel_rfl) (Or.inl ⟨by rfl, fun w hSw => exec_load_gp rfl rfl hSw.m.all lt_under rfl (by rw [Lt.len wf]; exact lt_info)⟩) (by with_reducible exact HD.out) ?_
      try simp only [Act.put, List.setIfInBounds_toArray, List.set_cons_zero, List.set_cons_succ]
      refine anyU_take (i := 10) (v := .agg (ltC m)) (by simp only [List.getElem?_toArray, List.getElem?_cons_succ, List.getElem?_cons_zero]; exact rfl) (by kernel_rfl) (by kernel_rfl) (by kernel_rfl) (fun _ _ _ h => h) (by kernel_rfl) (by kernel_rfl) (by kernel_rfl) (Or.inl ⟨by rfl, fun w hSw => exec_load_gp rfl rfl hSw.m.all lt_under rfl (by rw [Lt.len wf]; exact lt_info)⟩) (by with_reducible exact HD.out) ?_
      try simp only [Act.put, List.setIfInBounds_toArray, List.set_cons_zero, List.set_cons_succ]
      refine anyU_one (i := 9) (by kernel_rfl) (by simp only [List.getElem?_toArray, List.getElem?_cons_succ, List.getElem?_cons_zero]; exact rfl) (fun K hK => ?_)
      try go_simp
      refine (HRP.out _).mono ?_
      rintro e w9 ⟨rfl, hb⟩
      have HD := hide (HD.out.kept hb)
      have HY := hide (HY.out.below hb)
      clear hb
      refine hK.out _ _ (fun _ _ => HD.out) ?_
      clear hK K
      try simp only [Act.put, List.setIfInBounds_toArray, List.set_cons_zero, List.set_cons_succ]
      refine anyU_one (i := 11) (by kernel_rfl) (by simp only [List.getElem?_toArray, List.getElem?_cons_succ, List.getElem?_cons_zero]; exact rfl) (fun K hK => ?_)
      try go_simp
      refine (HR.out _).mono ?_
      rintro e w10 ⟨rfl, hb⟩
      have HD := hide (HD.out.kept hb)
      have HY := hide (HY.out.below hb)
      clear hb
      refine hK.out _ _ (fun _ _ => HD.out) ?_
      clear hK K
      try simp only [Act.put, List.setIfInBounds_toArray, List.set_cons_zero, List.set_cons_succ]
      refine anyU_take (i := 12) (v := .bool true) (by simp only [List.getElem?_toArray, List.getElem?_cons_succ, List.getElem?_cons_zero]; exact rfl) (by kernel_rfl) (by kernel_rfl) (by kernel_rfl) (fun _ _ _ h => h) (by kernel_rfl) (by kernel_rfl) (by kernel_rfl) (Or.inl ⟨by rfl, fun w hSw => (by go_simp; try with_reducible rfl)⟩) (by with_reducible exact HD.out) ?_
      try simp only [Act.put, List.setIfInBounds_toArray, List.set_cons_zero, List.set_cons_succ]
      refine anyU_take (i := 13) (v := .bool true) (by simp only [List.getElem?_toArray, List.getElem?_cons_succ, List.getElem?_cons_zero]; exact rfl) (by kernel_rfl) (by kernel_rfl) (by kernel_rfl) (fun _ _ _ h => h) (by kernel_rfl) (by kernel_rfl) (by kernel_rfl) (Or.inl ⟨by rfl, fun w hSw => (by go_simp; try with_reducible rfl)⟩) (by with_reducible exact HD.out) ?_
      try simp only [Act.put, List.setIfInBounds_toArray, List.set_cons_zero, List.set_cons_succ]
      refine anyU_take (i := 14) (v := .bool true) (by simp only [List.getElem?_toArray, List.getElem?_cons_succ, List.getElem?_cons_zero]; exact rfl) (by kernel_rfl) (by kernel_rfl) (by kernel_rfl) (fun _ _ _ h => h) (by kernel_rfl) (by kernel_rfl) (by kernel_rfl) (Or.inl ⟨by rfl, fun w hSw => (by go_simp; try with_reducible rfl)⟩) (by with_reducible exact HD.out) ?_
      try simp only [Act.put, List.setIfInBounds_toArray, List.set_cons_zero, List.set_cons_succ]
      refine anyU_take (i := 15) (v := .agg (ltC m)) (by simp only [List.getElem?_toArray, List.getElem?_cons_succ, List.getElem?_cons_zero]; exact rfl) (by kernel_rfl) (by kernel_rfl) (by kernel_rfl) (fun _ _ _ h => h) (by kernel_rfl) (by kernel_rfl) (by kernel_rfl) (Or.inl ⟨by rfl, fun w hSw => exec_load_gp rfl rfl hSw.m.all lt_under rfl (by rw [Lt.len wf]; exact lt_info)⟩) (by with_reducible exact HD.out) ?_
      try simp only [Act.put, List.setIfInBounds_toArray, List.set_cons_zero, List.set_cons_succ]
      refine anyU_take (i := 17) (v := .agg (ltC m)) (by simp only [List.getElem?_toArray, List.getElem?_cons_succ, List.getElem?_cons_zero]; exact rfl) (by kernel_rfl) (by kernel_rfl) (by kernel_rfl) (fun _ _ _ h => h) (by kernel_rfl) (by kernel_rfl) (by kernel_rfl) (Or.inl ⟨by rfl, fun w hSw => exec_load_gp rfl rfl hSw.m.all lt_under rfl (by rw [Lt.len wf]; exact lt_info)⟩) (by with_reducible exact HD.out) ?_
      try simp only [Act.put, List.setIfInBounds_toArray, List.set_cons_zero, List.set_cons_succ]
      refine anyU_one (i := 16) (by kernel_rfl) (by simp only [List.getElem?_toArray, List.getElem?_cons_succ, List.getElem?_cons_zero]; exact rfl) (fun K hK => ?_)
      try go_simp
      refine (HPP.out _).mono ?_
      rintro e w11 ⟨u1, rfl, hy, hb⟩
      have HD := hide (HD.out.kept hb)
      have HY := hide (HY.out.below hb)
      have Y1 := hide hy
      obtain ⟨B1, d1, rfl, _, _, _, _⟩ := hy.form
      clear hy hb
      refine hK.out _ _ (fun _ _ => HD.out) ?_
      clear hK K
      try simp only [Act.put, List.setIfInBounds_toArray, List.set_cons_zero, List.set_cons_succ]
      refine anyU_one (i := 18) (by kernel_rfl) (by simp only [List.getElem?_toArray, List.getElem?_cons_succ, List.getElem?_cons_zero]; exact rfl) (fun K hK => ?_)
      try go_simp
      refine (HP.out _).mono ?_
      rintro e w12 ⟨u2, rfl, hy, hb⟩
      have HD := hide (HD.out.kept hb)
      have HY := hide (HY.out.below hb)
      have Y1 := hide (Y1.out.below hb)
      have Y2 := hide hy
      obtain ⟨B2, d2, rfl, _, _, _, _⟩ := hy.form
      have HSM := hide (same_self B1 B2 xs.length xs.length d1 d2 xs w12 rfl rfl (Lies.of_own Y1.out) (Lies.of_own Y2.out) (by omega))
      clear hy hb
      refine hK.out _ _ (fun _ _ => HD.out) ?_
      clear hK K
      try simp only [Act.put, List.setIfInBounds_toArray, List.set_cons_zero, List.set_cons_succ]
      refine anyU_one (i := 19) (by kernel_rfl) (by simp only [List.getElem?_toArray, List.getElem?_cons_succ, List.getElem?_cons_zero]; exact rfl) (fun K hK => ?_)
      try go_simp
      refine (HSM.out).mono ?_
      rintro e w13 ⟨rfl, hb⟩
      have HD := hide (HD.out.kept hb)
      have HY := hide (HY.out.below hb)
      clear hb
      refine hK.out _ _ (fun _ _ => HD.out) ?_
      clear hK K
      try simp only [Act.put, List.setIfInBounds_toArray, List.set_cons_zero, List.set_cons_succ]
      refine anyU_take (i := 20) (v := .bool true) (by simp only [List.getElem?_toArray, List.getElem?_cons_succ, List.getElem?_cons_zero]; exact rfl) (by kernel_rfl) (by kernel_rfl) (by kernel_rfl) (fun _ _ _ h => h) (by kernel_rfl) (by kernel_rfl) (by kernel_rfl) (Or.inl ⟨by rfl, fun w hSw => (by go_simp; try with_reducible rfl)⟩) (by with_reducible exact HD.out) ?_
      try simp only [Act.put, List.setIfInBounds_toArray, List.set_cons_zero, List.set_cons_succ]
      refine anyU_take (i := 21) (v := .bool true) (by simp only [List.getElem?_toArray, List.getElem?_cons_succ, List.getElem?_cons_zero]; exact rfl) (by kernel_rfl) (by kernel_rfl) (by kernel_rfl) (fun _ _ _ h => h) (by kernel_rfl) (by kernel_rfl) (by kernel_rfl) (Or.inl ⟨by rfl, fun w hSw => (by go_simp; try with_reducible rfl)⟩) (by with_reducible exact HD.out) ?_
      try simp only [Act.put, List.setIfInBounds_toArray, List.set_cons_zero, List.set_cons_succ]
      refine anyU_take (i := 22) (v := .slice A n c) (by simp only [List.getElem?_toArray, List.getElem?_cons_succ, List.getElem?_cons_zero]; exact rfl) (by kernel_rfl) (by kernel_rfl) (by kernel_rfl) (fun _ _ _ h => h) (by kernel_rfl) (by kernel_rfl) (by kernel_rfl) (Or.inl ⟨by rfl, fun w hSw => (by go_simp; try with_reducible rfl)⟩) (by with_reducible exact HD.out) ?_
      try simp only [Act.put, List.setIfInBounds_toArray, List.set_cons_zero, List.set_cons_succ]
      refine anyU_take (i := 23) (v := .pointer (some ⟨W.heap.size, 22, none⟩)) (by simp only [List.getElem?_toArray, List.getElem?_cons_succ, List.getElem?_cons_zero]; exact rfl) (by kernel_rfl) (by kernel_rfl) (by kernel_rfl) (fun _ _ _ h => h) (by kernel_rfl) (by kernel_rfl) (by kernel_rfl) (Or.inl ⟨by rfl, fun w hSw => (by go_simp; try with_reducible rfl)⟩) (by with_reducible exact HD.out) ?_
      try simp only [Act.put, List.setIfInBounds_toArray, List.set_cons_zero, List.set_cons_succ]
      refine anyU_take (i := 24) (v := .agg (clC m.x)) (by simp only [List.getElem?_toArray, List.getElem?_cons_succ, List.getElem?_cons_zero]; exact rfl) (by kernel_rfl) (by kernel_rfl) (by kernel_rfl) (fun _ _ _ h => h) (by kernel_rfl) (by kernel_rfl) (by kernel_rfl) (Or.inl ⟨by rfl, fun w hSw => exec_load_gp rfl rfl hSw.m.x ce_under rfl (by rw [Cl.len wf.x]; exact ce_info)⟩) (by with_reducible exact HD.out) ?_
      try simp only [Act.put, List.setIfInBounds_toArray, List.set_cons_zero, List.set_cons_succ]
      refine anyU_take (i := 26) (v := .slice A4 lw c4) (by simp only [List.getElem?_toArray, List.getElem?_cons_succ, List.getElem?_cons_zero]; exact rfl) (by kernel_rfl) (by kernel_rfl) (by kernel_rfl) (fun _ _ _ h => h) (by kernel_rfl) (by kernel_rfl) (by kernel_rfl) (Or.inl ⟨by rfl, fun w hSw => (by go_simp; try with_reducible rfl)⟩) (by with_reducible exact HD.out) ?_
      try simp only [Act.put, List.setIfInBounds_toArray, List.set_cons_zero, List.set_cons_succ]
      refine anyU_one (i := 25) (by kernel_rfl) (by simp only [List.getElem?_toArray, List.getElem?_cons_succ, List.getElem?_cons_zero]; exact rfl) (fun K hK => ?_)
      try go_simp
      refine (HPC.out _ _ ⟨A, c, by rw [HN.out], HD.out.z, HA.out⟩).mono ?_
      rintro e w14 ⟨u3, rfl, hy, hb⟩
      have HD := hide (HD.out.kept hb)
      have HY := hide (HY.out.below hb)
      have Y3 := hide hy
      obtain ⟨B3, d3, rfl, _, _, _, _⟩ := hy.form
      have HSM2 := hide (same_self B3 A4 zx.length lw d3 c4 zx w14 rfl HLW.out (Lies.of_own Y3.out) (Lies.of_own (n := lw) (by have h := HY.out; unfold By at h; rw [HLW.out] at h; exact h)) (by omega))
      clear hy hb
      refine hK.out _ _ (fun _ _ => HD.out) ?_
      clear hK K
      try simp only [Act.put, List.setIfInBounds_toArray, List.set_cons_zero, List.set_cons_succ]
      refine anyU_one (i := 27) (by kernel_rfl) (by simp only [List.getElem?_toArray, List.getElem?_cons_succ, List.getElem?_cons_zero]; exact rfl) (fun K hK => ?_)
      try go_simp
      refine (HSM2.out).mono ?_
      rintro e w15 ⟨rfl, hb⟩
      have HD := hide (HD.out.kept hb)
      clear hb
      refine hK.out _ _ (fun _ _ => HD.out) ?_
      clear hK K
      try simp only [Act.put, List.setIfInBounds_toArray, List.set_cons_zero, List.set_cons_succ]
      refine anyU_take (i := 28) (v := .bool true) (by simp only [List.getElem?_toArray, List.getElem?_cons_succ, List.getElem?_cons_zero]; exact rfl) (by kernel_rfl) (by kernel_rfl) (by kernel_rfl) (fun _ _ _ h => h) (by kernel_rfl) (by kernel_rfl) (by kernel_rfl) (Or.inl ⟨by rfl, fun w hSw => (by go_simp; try with_reducible rfl)⟩) (by with_reducible exact HD.out) ?_
      try simp only [Act.put, List.setIfInBounds_toArray, List.set_cons_zero, List.set_cons_succ]
      refine anyU_take (i := 29) (v := .bool true) (by simp only [List.getElem?_toArray, List.getElem?_cons_succ, List.getElem?_cons_zero]; exact rfl) (by kernel_rfl) (by kernel_rfl) (by kernel_rfl) (fun _ _ _ h => h) (by kernel_rfl) (by kernel_rfl) (by kernel_rfl) (Or.inl ⟨by rfl, fun w hSw => (by go_simp; try with_reducible rfl)⟩) (by with_reducible exact HD.out) ?_
      try simp only [Act.put, List.setIfInBounds_toArray, List.set_cons_zero, List.set_cons_succ]
      refine anyU_one (i := 30) (by kernel_rfl) (by simp only [List.getElem?_toArray, List.getElem?_cons_succ, List.getElem?_cons_zero]; exact rfl) (fun K hK => ?_)
      try go_simp
      refine (runs_any _).mono ?_
      rintro e w16 ⟨rfl, hb⟩
      have HD := hide (HD.out.kept hb)
      clear hb
      refine hK.out _ _ (fun _ _ => HD.out) ?_
      clear hK K
      try simp only [Act.put, List.setIfInBounds_toArray, List.set_cons_zero, List.set_cons_succ]
      refine anyU_take (i := 31) (v := .bool true) (by simp only [List.getElem?_toArray, List.getElem?_cons_succ, List.getElem?_cons_zero]; exact rfl) (by kernel_rfl) (by kernel_rfl) (by kernel_rfl) (fun _ _ _ h => h) (by kernel_rfl) (by kernel_rfl) (by kernel_rfl) (Or.inl ⟨by rfl, fun w hSw => (by go_simp; try with_reducible rfl)⟩) (by with_reducible exact HD.out) ?_
      try simp only [Act.put, List.setIfInBounds_toArray, List.set_cons_zero, List.set_cons_succ]
      refine anyU_one (i := 32) (by kernel_rfl) (by simp only [List.getElem?_toArray, List.getElem?_cons_succ, List.getElem?_cons_zero]; exact rfl) (fun K hK => ?_)
      try go_simp
      refine hK.out _ _ (fun e _ => absurd rfl e) ?_
      clear hK K
      try simp only [Act.put, List.setIfInBounds_toArray, List.set_cons_zero, List.set_cons_succ]
      refine anyU_done (by kernel_rfl) ?_
      refine NoPanic.normal ?_
      try simp only [Act.put]
      go_wp2
      go_ret
      exact ⟨rfl, HD.out.old⟩
set_option maxRecDepth 100000 in
theorem lifted (os : Os) (started : os.Started) (H : Type) (enc : TypeId × Value → H) :
    ReturnsInHanded {} Try.checked os 4 .any (Rows.letterWritesSpec.pre6 enc Try.prog Try.f4 Rows.letterWritesRow.domain false) (Rows.letterWritesSpec.post enc Try.prog Try.f4 false true false false) := by
  refine returnsInHanded_of_change_sized (C := Try.checked) own started (by kernel_rfl) Try.func4
    (ChangeSpec.witness6 (enc := enc) (C := Try.checked) false ⟨#[], #[.agg #[.int .i64 0, .int .i64 0, .int .i64 0, .int .i64 0, .int .i64 0, .int .i64 0, .int .i64 0, .int .i64 0, .int .i64 0, .int .i64 0, .string ⟨#[]⟩, .string ⟨#[]⟩, .string ⟨#[]⟩, .string ⟨#[]⟩, .int .i64 0, .int .i64 0, .int .i64 0, .int .i64 0, .int .i64 0, .int .i64 0, .int .i64 0, .int .i64 0, .int .i64 0, .int .i64 0, .int .i64 0, .int .i64 0, .int .i64 0, .int .i64 0, .int .i64 0, .int .i64 0, .string ⟨#[]⟩, .string ⟨#[]⟩, .string ⟨#[]⟩, .string ⟨#[]⟩, .int .i64 0, .int .i64 0, .int .i64 0, .int .i64 0, .int .i64 0, .int .i64 0, .int .i64 0, .int .i64 0, .bool false, .int .i64 0, .int .i64 0, .int .i64 0, .int .i64 0, .int .i64 0, .int .i64 0, .int .i64 0, .string ⟨#[]⟩], .slice none 0 0], []⟩ 8 (by kernel_rfl) (by kernel_rfl) (by kernel_rfl) (by kernel_rfl)) ?_
  intro W base args ds gs before hval0 hW _ hsz0 _
  have hval : ∀ (j : Nat) t v, Try.f4.params[j]? = some t → args[j]? = some v → Value.okWide Try.prog W .any base t v := hval0
  have hW' := hW
  obtain ⟨p, q, hA0, hV, rfl, _, _⟩ := hW
  have hA : DataW.TrodAll enc Try.prog W 0 (fun _ => true) true Try.f4.params.toList args.toList ds p := hA0
  have hsz : (DataW.weightsEach Try.prog (Try.f4.params.toList ++ Rows.letterWritesSpec.plain.varTypes Try.prog) (ds ++ gs)).all (· ≤ reachBytes) = true := hsz0
  rw [Try.params4] at hA hval hsz
  obtain ⟨v0, vs0, d0, ds0, p0, q0, hargs, rfl, rfl, h0, r0⟩ := trodAll_cons hA
  obtain ⟨v1, vs1, d1, ds1, p1, q1, rfl, rfl, rfl, h1, r1⟩ := trodAll_cons r0
  obtain ⟨rfl, rfl, rfl⟩ := trodAll_nil r1
  obtain rfl : args = #[v0, v1] := by cases args; simp_all
  obtain ⟨rfl, rfl⟩ := trodVars_none hV
  have k0 := h0
  have lt0 : ∀ x ∈ p0, x.block < W.heap.size := by obtain ⟨m, hm⟩ := k0; exact DataW.trod_lt m _ _ _ hm
  obtain ⟨x0, rfl, s0⟩ := letter_in (j := 0) (hval 0 37 v0 rfl rfl) h0 hsz rfl rfl
  have k1 := h1
  have lt1 : ∀ x ∈ p1, x.block < W.heap.size := by obtain ⟨m, hm⟩ := k1; exact DataW.trod_lt m _ _ _ hm
  obtain ⟨A1, n1, c1, rfl⟩ := okWide_slice Try.underlying22 (hval 1 22 v1 rfl rfl)
  obtain ⟨z1, s1⟩ := slice_in (j := 1) h1 hsz rfl rfl
  clear hA0 hval0
  refine (walk x0 A1 n1 c1 z1 W s0 s1).mono fun e W' ⟨he, bel⟩ => ?_
  subst he
  exact ⟨_, rfl, _, _, _, [], _, [], hW', trodAll_mk1 (shut_bool Try.underlying4 _), (trodAll_cons_mk (Below.trod laidOut (by kernel_rfl) (of_decide_eq_true (by kernel_rfl)) k0 bel lt0) (trodAll_cons_mk (Below.trod laidOut (by kernel_rfl) (of_decide_eq_true (by kernel_rfl)) k1 bel lt1) trodAll_mk0)), rfl, bel.frame _, fun h => by cases h⟩
theorem over : Rows.letterWritesRow.holds Try.pinned (OpenSpec.ofChange Rows.letterWritesSpec) :=
  OpenClaim.holds_of_wide 4 Try.f4 rfl rfl rfl rfl rfl rfl rfl ⟨rfl, rfl, rfl, rfl, rfl⟩ rfl rfl rfl rfl rfl (by kernel_rfl) Try.func4 (by kernel_rfl)
    (of_decide_eq_true (by kernel_rfl)) (by unfold Func.isWrapper; first | (rw [if_pos (by decide +kernel)]; kernel_rfl) | (rw [if_neg (by decide +kernel)]; exact ⟨rfl, rfl⟩))
    (fun os started H enc _ => lifted os started H enc)
theorem proved : Rows.LetterWritesSaid := over
end Go.Proofs.Ytlnpfaoeockoiaa.letterWrites
