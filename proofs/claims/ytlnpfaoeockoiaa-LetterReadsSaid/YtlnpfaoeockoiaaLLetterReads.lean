/- Proved: the law LetterReads returns true for any bytes, letter, place, byte and way. No condition. -/
import Derived.Test.YtlnpfaoeockoiaaWa
import Derived.Test.YtlnpfaoeockoiaaWzx
import Derived.Deep.DeepCutAuto
namespace Go.Proofs.Ytlnpfaoeockoiaa.letterReads
open Go.ChangeShapes Go.WideShapes Go.ChangeAt Go.RowKit
theorem alloc_le2 (w : World) (o : Obj) : w.heap.size ≤ (w.alloc o).heap.size := by simp
set_option maxRecDepth 100000 in
set_option maxHeartbeats 16000000 in
theorem walk (A : Option Addr) (n c : Nat) (zs : List Int) (m : Lt) (pl : Int) (tb : Int) (how : Int) (W : World) (hs : SliceIn W A n c zs) (hm : LtIn m) (_ : -9223372036854775808 ≤ pl ∧ pl ≤ 9223372036854775807) (hto : 0 ≤ tb ∧ tb ≤ 255) (_ : -9223372036854775808 ≤ how ∧ how ≤ 9223372036854775807) :
    Calls Try.prog 5 #[.slice A n c, .agg (ltC m), .int .i64 pl, .int .u8 tb, .int .i64 how] W fun e w' => e = .returned (.bool true) ∧ Below W.heap.size W w' := by
  have wf := hm.wf
  have BK := hide (show Bk W (W.alloc (.cells (ltC m) 37)) m A zs from ⟨LAt.new wf W _, hs.lies.alloc _, (Below.refl _ _).alloc (Nat.le_refl _) _⟩)
  have HS := hide hs
  have hle := hs.le
  have hroom := hs.room
  have HL := hide (fun w => light_any m hm w)
  have HZL := hide (show lightB m = true → m.z.size < 5000 from fun h => by unfold lightB lightN at h; have := of_decide_eq_true h; omega)
  have HTO := hide hto
  have HR := hide (fun w => rrightletter_any m wf w)
  have HP := hide (fun w => rputletter_any m wf w)
  clear hs hm hto
  go_enter Try.func5, Try.ntmps5
  go_upto_region 1 with (fail)
  generalize W.alloc (.cells (ltC m) 37) = w1 at BK ⊢
  go_upto_if 22 with (fail)
  go_cut [0] (fun s0 wx => ∃ k, k = min n 300 ∧ s0 = .slice A k c ∧ wx = w1)
  case first =>
    by_cases hn : 300 < n
    · have h1 : (300 : Int) < n := by omega
      have h2 : (300 : Int) ≤ c := by omega
      go_wp2
      go_meet
      exact ⟨300, by omega, rfl, rfl⟩
    · have h1 : ¬ (300 : Int) < n := by omega
      go_wp2
      go_meet
      exact ⟨n, by omega, rfl, rfl⟩
  case rest =>
  obtain ⟨k, hk, rfl, hwc⟩ := hcut
  have e := hwc.symm
  subst e
  have hkc : k ≤ c := by omega
  have hk300 : k ≤ 300 := by omega
  have O0 := hide (show Ow W w1 A k c (zs.take k) from ⟨BK.out.old, BK.out.z.take k, by rw [List.length_take, HS.out.len]; omega, hkc, by omega, HS.out.nil, octets_take HS.out.oct k, by omega⟩)
  have LZ := hide (show Lies W A (zs.take k) from HS.out.lies.take k)
  clear hk hle HS
  generalize zs.take k = ys at O0 LZ
  have YL := hide O0.out.len
  have YO := hide O0.out.oct
  have YN := hide O0.out.nil
  clear hroom
  go_upto_region 4 with (fail)
  go_cut [31] (fun s31 wx => s31 = .bool (lightB m && rightLt m) ∧ Bk W wx m A zs ∧ Ow W wx A k c ys)
  case first =>
    cases hq : lightB m
    · simp only [hq] at HL
      have HQ0 := hide hq
      clear hq
      go_wp2_with (first
        | ((with_reducible refine wpList_load_lt wf ?_ ?_ BK.out.m.all ?_); rfl; rfl)
        | (go_at_call 12; (with_reducible refine (HL.out _).mono ?_); rintro e w2 ⟨rfl, hb⟩; have BK := hide (BK.out.kept hb); have O0 := hide (O0.out.kept hb); clear hb))
      go_meet
      exact ⟨by rw [HQ0.out]; rfl, BK.out, O0.out⟩
    · simp only [hq] at HL
      have HQ0 := hide hq
      clear hq
      go_wp2_with (first
        | ((with_reducible refine wpList_load_lt wf ?_ ?_ BK.out.m.all ?_); rfl; rfl)
        | (go_at_call 12; (with_reducible refine (HL.out _).mono ?_); rintro e w2 ⟨rfl, hb⟩; have BK := hide (BK.out.kept hb); have O0 := hide (O0.out.kept hb); clear hb)
        | (go_at_call 17; (with_reducible refine (HR.out _).mono ?_); rintro e w2 ⟨rfl, hb⟩; have BK := hide (BK.out.kept hb); have O0 := hide (O0.out.kept hb); clear hb))
      go_meet
      exact ⟨by rw [HQ0.out]; rfl, BK.out, O0.out⟩
  case rest =>
  obtain ⟨rfl, hbk, ho0⟩ := hcut
  replace BK := hide hbk
  replace O0 := hide ho0
  clear hbk ho0 HL HR
  obtain ⟨q, hq⟩ : ∃ q, (lightB m && rightLt m) = q := ⟨_, rfl⟩
  rw [hq]
  have HQ := hide (show q = true → m.z.size < 5000 ∧ rightLt m = true from fun h => by rw [h] at hq; simp only [Bool.and_eq_true] at hq; exact ⟨HZL.out hq.1, hq.2⟩)
  clear hq HZL
  go_upto_if 31 with (fail)
  go_cut [11] (fun s11 wx => ∃ Ao no co os, s11 = .slice Ao no co ∧ Ow W wx Ao no co os)
  case first =>
    cases q
    · go_wp2
      go_meet
      exact ⟨A, k, c, ys, rfl, O0.out⟩
    · obtain ⟨hz, hr⟩ := HQ.out rfl
      have hlen := encLt_len wf
      obtain ⟨l1, hl1⟩ : ∃ l1, (encLt m).length = l1 + 1 := ⟨(encLt m).length - 1, by have := encLt_pos hr; omega⟩
      have OC := hide (octets_encLt m)
      generalize encLt m = xs at HP OC hlen hl1
      obtain ⟨K, hK, hW⟩ := within_to pl l1 (by omega)
      obtain ⟨H, hH, hW2⟩ := within_to how 3 (by omega)
      have HW := hide hW
      have HW2 := hide hW2
      have H1 := hide hl1
      rw [hl1] at hlen
      clear hW hW2 hl1 HQ hr
      go_upto_region 6 with (first
        | ((with_reducible refine wpList_load_lt wf ?_ ?_ BK.out.m.all ?_); rfl; rfl)
        | (go_at_call 18; (with_reducible refine (HP.out _).mono ?_); rintro e w3 ⟨u3, rfl, hy, hb⟩; have HY := hide (hy.mono BK.out.old.size); have BK := hide (BK.out.kept hb); clear hy hb))
      obtain ⟨A5, c5, rfl, hA5, hc5, hm5, hl5⟩ := HY.out.form
      obtain ⟨g5, rfl⟩ : ∃ g5, A5 = some ⟨g5, 0, none⟩ := by
        rcases HY.out.2 with ⟨e, h0⟩ | ⟨g, cap, cur, e, _⟩
        · rw [H1.out] at h0; omega
        · injection e with e1; exact ⟨g, e1⟩
      have HGE : Hid (W.heap.size ≤ g5) := hide (HY.out.blk g5 rfl).1
      have HT := hide (fun (z : Int) => HY.out.turned K (by rw [H1.out]; omega) z)
      have HLA := hide hA5
      have L5 := hide hl5
      clear hA5 hl5
      rw [H1.out] at hc5 HY HT ⊢
      have hKl : K < l1 + 1 := by omega
      have hKi : (K : Int) < ((l1 + 1 : Nat) : Int) := by omega
      have hKi2 : (K : Int) < (l1 : Int) + 1 := by omega
      have hKc : K ≤ c5 := by omega
      have hKci : (K : Int) ≤ (c5 : Int) := by omega
      go_upto_region 8 with (first
        | (go_at_call 20; (with_reducible refine (HW.out _ _ ?_).mono ?_); (push_cast; omega); rintro e w4 ⟨rfl, rfl⟩)
        | (go_at_call 20; (with_reducible refine (HW2.out _ _ ?_).mono ?_); rfl; rintro e w4 ⟨rfl, rfl⟩))
      have HM5 := hide hm5
      have HLN : Hid (l1 + 2 ≤ 10000) := hide (by omega)
      clear HP HW HW2 hm5 hz hlen
      have hHi : (H : Int) = 0 ∨ (H : Int) = 1 ∨ (H : Int) = 2 ∨ (H : Int) = 3 := by omega
      clear hH
      rcases hHi with e | e | e | e
      · rw [e]
        clear e
        obtain ⟨⟨u, hcu⟩, hfz, hby⟩ := HT.out tb
        have HBY := hide hby
        clear hby HT
        go_wp2
        go_meet
        exact ⟨_, _, _, _, rfl, ow_of (below_own BK.out.old (grown_put (grown_refl _ _) _ _) HGE.out) HBY.out (by rw [List.length_set]; exact H1.out) (octets_set OC.out HTO.out K) (by have := HLN.out; omega)⟩
      · rw [e]
        clear e HT
        go_wp2
        go_meet
        exact ⟨_, _, _, _, rfl, BK.out.old, L5.out.take K, by rw [List.length_take, H1.out]; omega, hKc, HM5.out, fun h => (by cases h), octets_take OC.out K, by have := HLN.out; omega⟩
      · rw [e]
        clear e HT
        obtain ⟨i0, hi, hz0, hz1, hz2⟩ := info_parts Try.info5
        go_wp2_with (first
          | (at_builtin; refine wpList_append_lies rfl (.tmp 54) (.tmp 56) 22 rfl W.heap.size 5 i0 _ Try.underlying22 hi hz0 hz1 hz2 rfl _ xs.length xs rfl ((show w3.ownsRow W.heap.size 5 1 (.slice (some ⟨g5, 0, none⟩) (l1 + 1) c5) xs.length (cellsOf xs) from HY.out).alloc _) (some ⟨w3.heap.size, 0, none⟩) 1 1 [tb] rfl rfl (by intro h; cases h) (lies_one _ _ _) (by have := H1.out; have := HLN.out; omega) (by have := BK.out.old.size; simp only [World.alloc, Array.size_push]; omega) ?_; intro v7 w7 hown7 hb7; have HOW := hide hown7; have HBB := hide hb7; clear hown7 hb7))
        have HBW : By W.heap.size w7 v7 (xs ++ [tb]) := by unfold By; rw [List.length_append]; exact HOW.out
        have HBW := hide HBW
        obtain ⟨A7, c7, rfl, _⟩ := HBW.out.form
        go_meet
        exact ⟨_, _, _, _, rfl, ow_of ((kept_alloc BK.out.old _).trans HBB.out) HBW.out rfl (octets_snoc OC.out HTO.out) (by rw [List.length_append, H1.out]; exact HLN.out)⟩
      · rw [e]
        clear e HT
        go_wp2
        go_meet
        exact ⟨_, _, _, _, rfl, ow_of BK.out.old HY.out H1.out OC.out (by have := HLN.out; omega)⟩
  case rest =>
  obtain ⟨Ao, no, co, os, rfl, OW⟩ := hcut
  replace OW := hide OW
  clear BK O0 HQ HP HTO
  have hsm := OW.out.small
  have hleo := OW.out.le
  have HRM := hide (roomy_own Ao no co os 8 _ OW.out.len OW.out.z (by omega))
  go_upto_region 15 with (go_at_call 21; (with_reducible refine HRM.out.mono ?_); rintro e w5 ⟨gf, rfl, hfb, hb⟩; have OW := hide (OW.out.kept hb); have FB := hide hfb; clear hfb hb HRM)
  have HG := hide (fun w (h : Lies w (some ⟨gf, 0, none⟩) (os ++ pad 80 8)) => pgetlt_any (some ⟨gf, 0, none⟩) no (no + 80) os w OW.out.len (by have h1 := h.take no; rw [List.take_left' OW.out.len] at h1; exact h1) OW.out.oct (fun h => by cases h) (by omega))
  have hno : (no : Int) ≤ (no : Int) + 80 := by omega
  have hno2 : no ≤ no + 80 := by omega
  go_upto_region 16 with (first
    | (go_at_call 11; (with_reducible refine (HG.out _ FB.out).mono ?_); rintro e w6 ⟨x, e0, rfl, hx, hw, hb⟩; have OW := hide (OW.out.kept hb); have FB := hide (FB.out.below hb); have HX := hide hx; have WX := hide hw; clear hb hx hw HG)
    | ((with_reducible refine wpList_store_new (vs := ltC x) ?_ ?_ (lt_allc _) ?_ ?_ ?_); exact lt_info2 WX.out; exact lt_size2 WX.out; rfl; rfl))
  try simp only [Act.put]
  have XB := hide (LAt.new WX.out w6 37)
  have OW := hide (OW.out.kept ((Below.refl _ _).alloc (Nat.le_refl _) (.cells (ltC x) 37)))
  have FB := hide (FB.out.alloc (.cells (ltC x) 37))
  generalize w6.alloc (.cells (ltC x) 37) = w7 at XB OW FB ⊢
  generalize w6.heap.size = gx at XB ⊢
  have HG := hide (rgetlt_any Ao no co os w7 OW.out.len OW.out.z OW.out.oct hleo (by omega))
  go_upto_region 17 with (first
    | (go_at_call 22; (with_reducible refine HG.out.mono ?_); rintro e w8 ⟨y, f0, rfl, hx, hw, hb⟩; have OW := hide (OW.out.kept hb); have FB := hide (FB.out.below hb); have XB := hide (XB.out.kept hb); have HY2 := hide hx; have WY := hide hw; clear hb hx hw HG)
    | ((with_reducible refine wpList_store_new (vs := ltC y) ?_ ?_ (lt_allc _) ?_ ?_ ?_); exact lt_info2 WY.out; exact lt_size2 WY.out; rfl; rfl))
  try simp only [Act.put]
  obtain ⟨rfl, rfl⟩ : x = y ∧ e0 = f0 := by have := HX.out.symm.trans HY2.out; injection this with h1 h2; exact ⟨h1, h2⟩
  have YB := hide (LAt.new WX.out w8 37)
  have XB := hide (XB.out.kept ((Below.refl _ _).alloc (Nat.le_refl _) (.cells (ltC x) 37)))
  have OW := hide (OW.out.kept ((Below.refl _ _).alloc (Nat.le_refl _) (.cells (ltC x) 37)))
  have FB := hide (FB.out.alloc (.cells (ltC x) 37))
  generalize w8.alloc (.cells (ltC x) 37) = wq at XB YB OW FB ⊢
  generalize w8.heap.size = gy at YB ⊢
  clear HX HY2
  have HB := hide (Below.refl wq.heap.size wq)
  have HP1 := hide (pread_any A k c ys wq YL.out (LZ.out.below OW.out.old) YO.out YN.out (by omega))
  have HP2 := hide (fun w (h : Below W.heap.size W w) => rread_any A k c W.heap.size ys w YL.out (LZ.out.deep.keep h.block) h.size YO.out hkc (by omega))
  go_upto_region 18 with (first
    | (go_at_call 23; (with_reducible refine HP1.out.mono ?_); rintro e w9 ⟨g1, rfl, hg1, hr1, hb⟩; have R1 := hide hr1; have HB := hide hb; clear hr1 hb HP1)
    | (go_at_call 24; (with_reducible refine (HP2.out _ (kept_trans OW.out.old HB.out)).mono ?_); rintro e w10 ⟨g2, rfl, hg2, hr2, hb⟩; have R2 := hide hr2; have HL2 := hide (Nat.lt_of_lt_of_le R1.out.lt hg2); have R1 := hide (R1.out.below hb); have HB := hide (kept_trans HB.out hb); clear hr2 hb HP2 hg2))
  have HL1 := hide hg1
  clear hg1
  refine wp_region_noPanic ?_
  refine wp_region_U 17 (fun _ : World => True) (by kernel_rfl) ?_
  have HD := hide True.intro
  have HR1 := hide (R1.out.drewN 1)
  have HR2 := hide (R2.out.drewN 1)
  have HBB := hide (kept_drewN HB.out 1)
  have hdr : w10.drewN 1 = w10.drew := rfl
  rw [hdr] at HR1 HR2 HBB
  clear hdr R1 R2 HB
  generalize w10.drew = w11 at HR1 HR2 HBB ⊢
  have HC1 := hide (pgetcell_g HR1.out)
  refine anyU_take2 (i := 0) (v := .pointer (some ⟨g1, 0, none⟩)) (by simp only [List.getElem?_toArray, List.getElem?_cons_zero]; exact rfl) (by kernel_rfl) 12 (by kernel_rfl) (by kernel_rfl) (fun _ _ _ h => h) (by kernel_rfl) (by kernel_rfl) (by kernel_rfl) (by kernel_rfl) (Or.inl ⟨by rfl, fun w hSw => (by go_simp; try with_reducible rfl)⟩) (by with_reducible exact HD.out) ?_
  try simp only [Act.put, List.setIfInBounds_toArray, List.set_cons_zero, List.set_cons_succ]
  refine anyU_take2 (i := 1) (v := .bool false) (by simp only [List.getElem?_toArray, List.getElem?_cons_succ, List.getElem?_cons_zero]; exact rfl) (by kernel_rfl) 12 (by kernel_rfl) (by kernel_rfl) (fun _ _ _ h => h) (by kernel_rfl) (by kernel_rfl) (by kernel_rfl) (by kernel_rfl) (Or.inl ⟨by rfl, fun w hSw => (by go_simp; try with_reducible rfl)⟩) (by with_reducible exact HD.out) ?_
  try simp only [Act.put, List.setIfInBounds_toArray, List.set_cons_zero, List.set_cons_succ]
  refine anyU_take2 (i := 2) (v := .bool false) (by simp only [List.getElem?_toArray, List.getElem?_cons_succ, List.getElem?_cons_zero]; exact rfl) (by kernel_rfl) 12 (by kernel_rfl) (by kernel_rfl) (fun _ _ _ h => h) (by kernel_rfl) (by kernel_rfl) (by kernel_rfl) (by kernel_rfl) (Or.inl ⟨by rfl, fun w hSw => (by go_simp; try with_reducible rfl)⟩) (by with_reducible exact HD.out) ?_
  try simp only [Act.put, List.setIfInBounds_toArray, List.set_cons_zero, List.set_cons_succ]
  refine anyU_take2 (i := 3) (v := .pointer (some ⟨g1, 0, none⟩)) (by simp only [List.getElem?_toArray, List.getElem?_cons_succ, List.getElem?_cons_zero]; exact rfl) (by kernel_rfl) 12 (by kernel_rfl) (by kernel_rfl) (fun _ _ _ h => h) (by kernel_rfl) (by kernel_rfl) (by kernel_rfl) (by kernel_rfl) (Or.inl ⟨by rfl, fun w hSw => (by go_simp; try with_reducible rfl)⟩) (by with_reducible exact HD.out) ?_
  try simp only [Act.put, List.setIfInBounds_toArray, List.set_cons_zero, List.set_cons_succ]
  refine anyU_take2 (i := 5) (v := .pointer (some ⟨g2, 0, none⟩)) (by simp only [List.getElem?_toArray, List.getElem?_cons_succ, List.getElem?_cons_zero]; exact rfl) (by kernel_rfl) 12 (by kernel_rfl) (by kernel_rfl) (fun _ _ _ h => h) (by kernel_rfl) (by kernel_rfl) (by kernel_rfl) (by kernel_rfl) (Or.inl ⟨by rfl, fun w hSw => (by go_simp; try with_reducible rfl)⟩) (by with_reducible exact HD.out) ?_
  try simp only [Act.put, List.setIfInBounds_toArray, List.set_cons_zero, List.set_cons_succ]
  refine anyU_one (i := 4) (by kernel_rfl) (by simp only [List.getElem?_toArray, List.getElem?_cons_succ, List.getElem?_cons_zero]; exact rfl) (fun K hK => ?_)
  try go_simp
  refine HC1.out.mono ?_
  rintro e w12 ⟨v1, i1, e1, rfl, hr, hg, hgt, hzd⟩
  have HR1 := hide hr
  have HR2 := hide (HR2.out.far hg (by have := HL2.out; omega) (Nat.le_trans OW.out.old.size HL1.out))
  have HBB := hide (below_own HBB.out hg HL1.out)
  have HT1 := hide hgt
  have HZ1 := hide hzd
  clear hr hg hgt hzd HC1
  have HC2 := hide (rgetcell_g HR2.out)
  refine hK.out _ _ (fun _ _ => HD.out) ?_
  clear hK K
  skip
  refine anyU_one (i := 6) (by kernel_rfl) (by simp only [List.getElem?_toArray, List.getElem?_cons_succ, List.getElem?_cons_zero]; exact rfl) (fun K hK => ?_)
  try go_simp
  refine HC2.out.mono ?_
  rintro e w13 ⟨v2, i2, e2, rfl, hr, hg, hgt, hzd⟩
  have HR2 := hide hr
  have HR1 := hide (HR1.out.far hg (by have := HL2.out; omega) (by have := HL2.out; omega))
  have HBB := hide (below_own HBB.out hg (by have := HL1.out; have := HL2.out; omega))
  have HV := hide (got_both HT1.out hgt HZ1.out hzd)
  clear hr hg hgt hzd HC2 HT1
  obtain rfl := HV.out.1
  obtain rfl := HV.out.2
  clear HV
  have HNE := hide (fun w => (by have h := neq_cell (x := v1) (y := v1) HZ1.out.1 HZ1.out.1 w; rw [sameCl_iff.2 rfl] at h; exact h : (binOp .neq 35 (.agg (clC v1)) (.agg (clC v1))).run Try.prog w = .ok (.bool false) w))
  have hne := HNE.out
  refine hK.out _ _ (fun _ _ => HD.out) ?_
  clear hK K
  skip
  refine anyU_take2 (i := 7) (v := .bool false) (by simp only [List.getElem?_toArray, List.getElem?_cons_succ, List.getElem?_cons_zero]; exact rfl) (by kernel_rfl) 12 (by kernel_rfl) (by kernel_rfl) (fun _ _ _ h => h) (by kernel_rfl) (by kernel_rfl) (by kernel_rfl) (by kernel_rfl) (Or.inl ⟨by rfl, fun w hSw => (by go_simp; try with_reducible rfl)⟩) (by with_reducible exact HD.out) ?_
  try simp only [Act.put, List.setIfInBounds_toArray, List.set_cons_zero, List.set_cons_succ]
  refine anyU_take2 (i := 8) (v := .bool false) (by simp only [List.getElem?_toArray, List.getElem?_cons_succ, List.getElem?_cons_zero]; exact rfl) (by kernel_rfl) 12 (by kernel_rfl) (by kernel_rfl) (fun _ _ _ h => h) (by kernel_rfl) (by kernel_rfl) (by kernel_rfl) (by kernel_rfl) (Or.inl ⟨by rfl, fun w hSw => (by go_simp; try with_reducible rfl)⟩) (by with_reducible exact HD.out) ?_
  try simp only [Act.put, List.setIfInBounds_toArray, List.set_cons_zero, List.set_cons_succ]
  refine anyU_take2 (i := 9) (v := .bool false) (by simp only [List.getElem?_toArray, List.getElem?_cons_succ, List.getElem?_cons_zero]; exact rfl) (by kernel_rfl) 12 (by kernel_rfl) (by kernel_rfl) (fun _ _ _ h => h) (by kernel_rfl) (by kernel_rfl) (by kernel_rfl) (by kernel_rfl) (Or.inl ⟨by rfl, fun w hSw => (by go_simp; try with_reducible rfl)⟩) (by with_reducible exact HD.out) ?_
  try simp only [Act.put, List.setIfInBounds_toArray, List.set_cons_zero, List.set_cons_succ]
  refine anyU_take2 (i := 10) (v := .pointer (some ⟨g1, 0, none⟩)) (by simp only [List.getElem?_toArray, List.getElem?_cons_succ, List.getElem?_cons_zero]; exact rfl) (by kernel_rfl) 12 (by kernel_rfl) (by kernel_rfl) (fun _ _ _ h => h) (by kernel_rfl) (by kernel_rfl) (by kernel_rfl) (by kernel_rfl) (Or.inl ⟨by rfl, fun w hSw => (by go_simp; try with_reducible rfl)⟩) (by with_reducible exact HD.out) ?_
  try simp only [Act.put, List.setIfInBounds_toArray, List.set_cons_zero, List.set_cons_succ]
  refine anyU_take2 (i := 12) (v := .pointer (some ⟨g2, 0, none⟩)) (by simp only [List.getElem?_toArray, List.getElem?_cons_succ, List.getElem?_cons_zero]; exact rfl) (by kernel_rfl) 12 (by kernel_rfl) (by kernel_rfl) (fun _ _ _ h => h) (by kernel_rfl) (by kernel_rfl) (by kernel_rfl) (by kernel_rfl) (Or.inl ⟨by rfl, fun w hSw => (by go_simp; try with_reducible rfl)⟩) (by with_reducible exact HD.out) ?_
  try simp only [Act.put, List.setIfInBounds_toArray, List.set_cons_zero, List.set_cons_succ]
  refine anyU_take2 (i := 13) (v := .pointer (some ⟨g2, 0, none⟩)) (by simp only [List.getElem?_toArray, List.getElem?_cons_succ, List.getElem?_cons_zero]; exact rfl) (by kernel_rfl) 12 (by kernel_rfl) (by kernel_rfl) (fun _ _ _ h => h) (by kernel_rfl) (by kernel_rfl) (by kernel_rfl) (by kernel_rfl) (Or.inl ⟨by rfl, fun w hSw => (by go_simp; try with_reducible rfl)⟩) (by with_reducible exact HD.out) ?_
  try simp only [Act.put, List.setIfInBounds_toArray, List.set_cons_zero, List.set_cons_succ]
  refine anyU_take2 (i := 14) (v := .pointer (some ⟨g2, 2, none⟩)) (by simp only [List.getElem?_toArray, List.getElem?_cons_succ, List.getElem?_cons_zero]; exact rfl) (by kernel_rfl) 12 (by kernel_rfl) (by kernel_rfl) (fun _ _ _ h => h) (by kernel_rfl) (by kernel_rfl) (by kernel_rfl) (by kernel_rfl) (Or.inl ⟨by rfl, fun w hSw => (by go_simp; try with_reducible rfl)⟩) (by with_reducible exact HD.out) ?_
  try simp only [Act.put, List.setIfInBounds_toArray, List.set_cons_zero, List.set_cons_succ]
  clear hne HNE
  have HW1 := hide (pwrong_any HR1.out)
  obtain ⟨hc2, _⟩ := HR2.out.err2
  refine anyU_two (i := 11) (j := 15) (by kernel_rfl) (by simp only [List.getElem?_toArray, List.getElem?_cons_succ, List.getElem?_cons_zero]; exact rfl) (by simp only [List.getElem?_toArray, List.getElem?_cons_succ, List.getElem?_cons_zero]; exact rfl) (fun K hK => ?_) (fun K hK => ?_)
  · try go_simp
    refine HW1.out.mono ?_
    rintro e w14 ⟨rfl, rfl⟩
    refine hK.out _ _ (fun _ _ => True.intro) ?_
    clear hK K
    try simp only [Act.put, List.setIfInBounds_toArray, List.set_cons_zero, List.set_cons_succ]
    refine anyU_one (i := 15) (by kernel_rfl) (by simp only [List.getElem?_toArray, List.getElem?_cons_succ, List.getElem?_cons_zero]; exact rfl) (fun K hK => ?_)
    try go_simp
    refine hK.out _ _ (fun _ _ => True.intro) ?_
    clear hK K
    try simp only [Act.put, List.setIfInBounds_toArray, List.set_cons_zero, List.set_cons_succ]
    refine anyU_take2 (i := 16) (v := .bool false) (by simp only [List.getElem?_toArray, List.getElem?_cons_succ, List.getElem?_cons_zero]; exact rfl) (by kernel_rfl) 12 (by kernel_rfl) (by kernel_rfl) (fun _ _ _ h => h) (by kernel_rfl) (by kernel_rfl) (by kernel_rfl) (by kernel_rfl) (Or.inl ⟨by rfl, fun w hSw => (by go_simp; try with_reducible rfl)⟩) (by with_reducible exact HD.out) ?_
    try simp only [Act.put, List.setIfInBounds_toArray, List.set_cons_zero, List.set_cons_succ]
    refine anyU_one (i := 17) (by kernel_rfl) (by simp only [List.getElem?_toArray, List.getElem?_cons_succ, List.getElem?_cons_zero]; exact rfl) (fun K hK => ?_)
    try go_simp
    refine hK.out _ _ (fun e _ => absurd rfl e) ?_
    clear hK K
    try simp only [Act.put]
    refine anyU_done (by kernel_rfl) ?_
    refine NoPanic.normal ?_
    try simp only [Act.put]
    clear HW1 hc2 HR1 HR2
    have OWz := hide (OW.out.kept HBB.out)
    have FBz := hide (FB.out.below HBB.out)
    have XBz := hide (XB.out.kept HBB.out)
    have YBz := hide (YB.out.kept HBB.out)
    clear OW FB XB YB HBB
    have heq : ∀ w : World, (binOp .eql 37 (.agg (ltC x)) (.agg (ltC x))).run Try.prog w = .ok (.bool true) w := fun w => by rw [eql_letter WX.out WX.out w, sameLt_iff.2 rfl]
    have HI := hide (fun w (h1 : Lies w (some ⟨gf, 0, none⟩) (os ++ pad 80 8)) (h2 : Lies w Ao os) => intact_any (some ⟨gf, 0, none⟩) Ao (no + 80) no (no + 80) co (os ++ pad 80 8) os 8 w (by rw [List.length_append, length_pad, OWz.out.len]) OWz.out.len h1 h2 (Nat.le_refl _) (by omega) (by omega) rfl)
    go_wp2_with (first
      | ((with_reducible refine wpList_load_lt WX.out ?_ ?_ XBz.out.all ?_); rfl; rfl)
      | ((with_reducible refine wpList_load_lt WX.out ?_ ?_ YBz.out.all ?_); rfl; rfl)
      | (go_at_call 28; (with_reducible refine (HI.out _ FBz.out OWz.out.z).mono ?_); rintro e w15 ⟨rfl, q15, rfl⟩; have HOLD := hide (kept_drewN OWz.out.old q15); clear HI)
      | (go_at_call 3; (with_reducible refine (runs_any _).mono ?_); rintro e w16 ⟨rfl, hb⟩; have HOLD := hide (kept_trans HOLD.out hb); clear hb))
    go_ret
    exact ⟨rfl, HOLD.out⟩
  · try go_simp
    refine hK.out _ _ (fun _ _ => True.intro) ?_
    clear hK K
    try simp only [Act.put, List.setIfInBounds_toArray, List.set_cons_zero, List.set_cons_succ]
    refine anyU_one (i := 11) (by kernel_rfl) (by simp only [List.getElem?_toArray, List.getElem?_cons_succ, List.getElem?_cons_zero]; exact rfl) (fun K hK => ?_)
    try go_simp
    refine HW1.out.mono ?_
    rintro e w14 ⟨rfl, rfl⟩
    refine hK.out _ _ (fun _ _ => True.intro) ?_
    clear hK K
    try simp only [Act.put, List.setIfInBounds_toArray, List.set_cons_zero, List.set_cons_succ]
    refine anyU_take2 (i := 16) (v := .bool false) (by simp only [List.getElem?_toArray, List.getElem?_cons_succ, List.getElem?_cons_zero]; exact rfl) (by kernel_rfl) 12 (by kernel_rfl) (by kernel_rfl) (fun _ _ _ h => h) (by kernel_rfl) (by kernel_rfl) (by kernel_rfl) (by kernel_rfl) (Or.inl ⟨by rfl, fun w hSw => (by go_simp; try with_reducible rfl)⟩) (by with_reducible exact HD.out) ?_
    try simp only [Act.put, List.setIfInBounds_toArray, List.set_cons_zero, List.set_cons_succ]
    refine anyU_one (i := 17) (by kernel_rfl) (by simp only [List.getElem?_toArray, List.getElem?_cons_succ, List.getElem?_cons_zero]; exact rfl) (fun K hK => ?_)
    try go_simp
    refine hK.out _ _ (fun e _ => absurd rfl e) ?_
    clear hK K
    try simp only [Act.put]
    refine anyU_done (by kernel_rfl) ?_
    refine NoPanic.normal ?_
    try simp only [Act.put]
    clear HW1 hc2 HR1 HR2
    have OWz := hide (OW.out.kept HBB.out)
    have FBz := hide (FB.out.below HBB.out)
    have XBz := hide (XB.out.kept HBB.out)
    have YBz := hide (YB.out.kept HBB.out)
    clear OW FB XB YB HBB
    have heq : ∀ w : World, (binOp .eql 37 (.agg (ltC x)) (.agg (ltC x))).run Try.prog w = .ok (.bool true) w := fun w => by rw [eql_letter WX.out WX.out w, sameLt_iff.2 rfl]
    have HI := hide (fun w (h1 : Lies w (some ⟨gf, 0, none⟩) (os ++ pad 80 8)) (h2 : Lies w Ao os) => intact_any (some ⟨gf, 0, none⟩) Ao (no + 80) no (no + 80) co (os ++ pad 80 8) os 8 w (by rw [List.length_append, length_pad, OWz.out.len]) OWz.out.len h1 h2 (Nat.le_refl _) (by omega) (by omega) rfl)
    go_wp2_with (first
      | ((with_reducible refine wpList_load_lt WX.out ?_ ?_ XBz.out.all ?_); rfl; rfl)
      | ((with_reducible refine wpList_load_lt WX.out ?_ ?_ YBz.out.all ?_); rfl; rfl)
      | (go_at_call 28; (with_reducible refine (HI.out _ FBz.out OWz.out.z).mono ?_); rintro e w15 ⟨rfl, q15, rfl⟩; have HOLD := hide (kept_drewN OWz.out.old q15); clear HI)
      | (go_at_call 3; (with_reducible refine (runs_any _).mono ?_); rintro e w16 ⟨rfl, hb⟩; have HOLD := hide (kept_trans HOLD.out hb); clear hb))
    go_ret
    exact ⟨rfl, HOLD.out⟩
set_option maxRecDepth 100000 in
theorem lifted (os : Os) (started : os.Started) (H : Type) (enc : TypeId × Value → H) :
    ReturnsInHanded {} Try.checked os 5 .any (Rows.letterReadsSpec.pre6 enc Try.prog Try.f5 Rows.letterReadsRow.domain false) (Rows.letterReadsSpec.post enc Try.prog Try.f5 false true false false) := by
  refine returnsInHanded_of_change_sized (C := Try.checked) own started (by kernel_rfl) Try.func5
    (ChangeSpec.witness6 (enc := enc) (C := Try.checked) false ⟨#[], #[.slice none 0 0, .agg #[.int .i64 0, .int .i64 0, .int .i64 0, .int .i64 0, .int .i64 0, .int .i64 0, .int .i64 0, .int .i64 0, .int .i64 0, .int .i64 0, .string ⟨#[]⟩, .string ⟨#[]⟩, .string ⟨#[]⟩, .string ⟨#[]⟩, .int .i64 0, .int .i64 0, .int .i64 0, .int .i64 0, .int .i64 0, .int .i64 0, .int .i64 0, .int .i64 0, .int .i64 0, .int .i64 0, .int .i64 0, .int .i64 0, .int .i64 0, .int .i64 0, .int .i64 0, .int .i64 0, .string ⟨#[]⟩, .string ⟨#[]⟩, .string ⟨#[]⟩, .string ⟨#[]⟩, .int .i64 0, .int .i64 0, .int .i64 0, .int .i64 0, .int .i64 0, .int .i64 0, .int .i64 0, .int .i64 0, .bool false, .int .i64 0, .int .i64 0, .int .i64 0, .int .i64 0, .int .i64 0, .int .i64 0, .int .i64 0, .string ⟨#[]⟩], .int .i64 0, .int .u8 0, .int .i64 0], []⟩ 8 (by kernel_rfl) (by kernel_rfl) (by kernel_rfl) (by kernel_rfl)) ?_
  intro W base args ds gs before hval0 hW _ hsz0 _
  have hval : ∀ (j : Nat) t v, Try.f5.params[j]? = some t → args[j]? = some v → Value.okWide Try.prog W .any base t v := hval0
  have hW' := hW
  obtain ⟨p, q, hA0, hV, rfl, _, _⟩ := hW
  have hA : DataW.TrodAll enc Try.prog W 0 (fun _ => true) true Try.f5.params.toList args.toList ds p := hA0
  have hsz : (DataW.weightsEach Try.prog (Try.f5.params.toList ++ Rows.letterReadsSpec.plain.varTypes Try.prog) (ds ++ gs)).all (· ≤ reachBytes) = true := hsz0
  rw [Try.params5] at hA hval hsz
  obtain ⟨v0, vs0, d0, ds0, p0, q0, hargs, rfl, rfl, h0, r0⟩ := trodAll_cons hA
  obtain ⟨v1, vs1, d1, ds1, p1, q1, rfl, rfl, rfl, h1, r1⟩ := trodAll_cons r0
  obtain ⟨v2, vs2, d2, ds2, p2, q2, rfl, rfl, rfl, h2, r2⟩ := trodAll_cons r1
  obtain ⟨v3, vs3, d3, ds3, p3, q3, rfl, rfl, rfl, h3, r3⟩ := trodAll_cons r2
  obtain ⟨v4, vs4, d4, ds4, p4, q4, rfl, rfl, rfl, h4, r4⟩ := trodAll_cons r3
  obtain ⟨rfl, rfl, rfl⟩ := trodAll_nil r4
  obtain rfl : args = #[v0, v1, v2, v3, v4] := by cases args; simp_all
  obtain ⟨rfl, rfl⟩ := trodVars_none hV
  have k0 := h0
  have lt0 : ∀ x ∈ p0, x.block < W.heap.size := by obtain ⟨m, hm⟩ := k0; exact DataW.trod_lt m _ _ _ hm
  obtain ⟨A0, n0, c0, rfl⟩ := okWide_slice Try.underlying22 (hval 0 22 v0 rfl rfl)
  obtain ⟨z0, s0⟩ := slice_in (j := 0) h0 hsz rfl rfl
  have k1 := h1
  have lt1 : ∀ x ∈ p1, x.block < W.heap.size := by obtain ⟨m, hm⟩ := k1; exact DataW.trod_lt m _ _ _ hm
  obtain ⟨x1, rfl, s1⟩ := letter_in (j := 1) (hval 1 37 v1 rfl rfl) h1 hsz rfl rfl
  obtain ⟨a2, rfl, rfl, rfl, w2⟩ := open_int Try.underlying3 (hval 2 3 v2 rfl rfl) h2
  obtain ⟨a3, rfl, rfl, rfl, w3⟩ := open_int Try.underlying5 (hval 3 5 v3 rfl rfl) h3
  obtain ⟨a4, rfl, rfl, rfl, w4⟩ := open_int Try.underlying3 (hval 4 3 v4 rfl rfl) h4
  clear hA0 hval0
  refine (walk A0 n0 c0 z0 x1 a2 a3 a4 W s0 s1 (bounds_i64 w2) (bounds_u8 w3) (bounds_i64 w4)).mono fun e W' ⟨he, bel⟩ => ?_
  subst he
  exact ⟨_, rfl, _, _, _, [], _, [], hW', trodAll_mk1 (shut_bool Try.underlying4 _), (trodAll_cons_mk (Below.trod laidOut (by kernel_rfl) (of_decide_eq_true (by kernel_rfl)) k0 bel lt0) (trodAll_cons_mk (Below.trod laidOut (by kernel_rfl) (of_decide_eq_true (by kernel_rfl)) k1 bel lt1) (trodAll_cons_mk (shut_int Try.underlying3 w2) (trodAll_cons_mk (shut_int Try.underlying5 w3) (trodAll_cons_mk (shut_int Try.underlying3 w4) trodAll_mk0))))), rfl, bel.frame _, fun h => by cases h⟩
theorem over : Rows.letterReadsRow.holds Try.pinned (OpenSpec.ofChange Rows.letterReadsSpec) :=
  OpenClaim.holds_of_wide 5 Try.f5 rfl rfl rfl rfl rfl rfl rfl ⟨rfl, rfl, rfl, rfl, rfl⟩ rfl rfl rfl rfl rfl (by kernel_rfl) Try.func5 (by kernel_rfl)
    (of_decide_eq_true (by kernel_rfl)) (by unfold Func.isWrapper; first | (rw [if_pos (by decide +kernel)]; kernel_rfl) | (rw [if_neg (by decide +kernel)]; exact ⟨rfl, rfl⟩))
    (fun os started H enc _ => lifted os started H enc)
theorem proved : Rows.LetterReadsSaid := over
end Go.Proofs.Ytlnpfaoeockoiaa.letterReads
