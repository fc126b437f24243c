/- QuorumFast walked. Conditions: attributes are eight numbers. -/
import Derived.Test.YtjkdccokiaejhaaQo
import Derived.Test.YtjkdccokiaejhaaWk
import Derived.Deep.CutBlock
import Derived.Deep.DeepCutAuto
namespace Go.Proofs.Ytjkdccokiaejhaa
set_option maxRecDepth 100000
open Go.RowKit
/-- The arguments' blocks. -/
structure Qf (W w : World) (ot : List Int) (cm : Cm) (a : List Int) : Prop where
  low : Below W.heap.size W w
  ot : Row w W.heap.size 26 (cA ot)
  c : Row w (W.heap.size + 1) 32 (rowC cm)
  a : Row w (W.heap.size + 1 + 1) 26 (cA a)
section
variable {W w w' : World} {ot : List Int} {cm : Cm} {a : List Int}
theorem Qf.kept (h : Qf W w ot cm a) (hb : Below w.heap.size w w') : Qf W w' ot cm a := ⟨kept_trans h.low hb, h.ot.below hb h.ot.lt, h.c.below hb h.c.lt, h.a.below hb h.a.lt⟩
theorem Qf.far (h : Qf W w ot cm a) {g : Nat} (hg : w.grownBy w' (some g)) (l : W.heap.size + 1 + 1 < g) : Qf W w' ot cm a :=
  ⟨below_own h.low hg (by omega), h.ot.grown hg (by simp; omega), h.c.grown hg (by simp; omega), h.a.grown hg (by simp; omega)⟩
theorem Qf.opt (h : Qf W w ot cm a) {o : Option Nat} (hg : w.grownBy w' o) (l : ∀ j, o = some j → W.heap.size + 1 + 1 < j) : Qf W w' ot cm a :=
  ⟨below_opt h.low hg (fun j e => by have := l j e; omega), h.ot.grown hg (fun e => by have := l _ e.symm; omega), h.c.grown hg (fun e => by have := l _ e.symm; omega), h.a.grown hg (fun e => by have := l _ e.symm; omega)⟩
theorem Qf.start (W : World) (ot : List Int) (cm : Cm) (a : List Int) : Qf W (((W.alloc (.cells (cA ot) 26)).alloc (.cells (rowC cm) 32)).alloc (.cells (cA a) 26)) ot cm a := by
  have s1 : (W.alloc (.cells (cA ot) 26)).heap.size = W.heap.size + 1 := by simp
  have s2 : ((W.alloc (.cells (cA ot) 26)).alloc (.cells (rowC cm) 32)).heap.size = W.heap.size + 1 + 1 := by simp
  refine ⟨kept_alloc (kept_alloc (kept_alloc (kept_refl W) _) _) _, ((Row.new W _ _).alloc _).alloc _, ?_, ?_⟩
  · rw [← s1]; exact (Row.new _ _ _).alloc _
  · rw [← s2]; exact Row.new _ _ _
end
theorem neq_cmq (x y : Cm) (w : World) : (binOp .neq 32 (.agg #[.int .i64 x.k, .int .i64 x.c, .int .i64 x.q, .string x.key, .string x.en, .string x.old, .string x.val]) (.agg #[.int .i64 y.k, .int .i64 y.c, .int .i64 y.q, .string y.key, .string y.en, .string y.old, .string y.val])).run Try.prog w = .ok (.bool (!sameC x y)) w := by
  rw [run_neq_struct, show (10000 : Nat) = 9998 + 2 from rfl, eqd_cmd]
  rfl
set_option maxHeartbeats 16000000 in
theorem fast_walk {n ow out turn : Int} {ot : List Int} {nothing : Bool} {cm : Cm} {a : List Int} (W : World) (ho8 : ot.length = 8) (h8 : a.length = 8) :
    Calls Try.prog 7 #[.int .i64 n, .int .i64 ow, .int .i64 out, .agg (cA ot), .bool nothing, .agg (rowC cm), .agg (cA a), .int .i64 turn] W fun e w' => e = .returned (.bool true) ∧ Below W.heap.size W w' := by
  obtain ⟨k, hk, hF⟩ := fit_any n
  have HF := hide hF
  have HP0 := hide (Qf.start W ot cm a)
  have HKK := hide hk
  have hk7 : k ≤ 7 := by omega
  have hk3 : 3 ≤ k := by omega
  have hb1 := withinI_bounds ow 0 ((k : Int) - 1) (by omega)
  have hb2 := withinI_bounds out 1 ((k : Int) - 1) (by omega)
  have hb3 := withinI_bounds turn 0 (k : Int) (by omega)
  have HW1 := hide (fun w => within_any ow 0 ((k : Int) - 1) w (by omega) (by omega) (by omega))
  have HW2 := hide (fun w => within_any out 1 ((k : Int) - 1) w (by omega) (by omega) (by omega))
  have HW3 := hide (fun w => within_any turn 0 (k : Int) w (by omega) (by omega) (by omega))
  obtain ⟨o, ho⟩ : ∃ o : Nat, withinI ow 0 ((k : Int) - 1) = (o : Int) := ⟨(withinI ow 0 ((k : Int) - 1)).toNat, by omega⟩
  obtain ⟨lf, hlf⟩ : ∃ lf : Nat, withinI out 1 ((k : Int) - 1) = (lf : Int) := ⟨(withinI out 1 ((k : Int) - 1)).toNat, by omega⟩
  obtain ⟨tn, htn⟩ : ∃ tn : Nat, withinI turn 0 (k : Int) = (tn : Int) := ⟨(withinI turn 0 (k : Int)).toNat, by omega⟩
  rw [ho] at hb1 HW1
  rw [hlf] at hb2 HW2
  rw [htn] at hb3 HW3
  have hok : o < k := by omega
  have hl0 : 0 < lf := by omega
  have hlk : lf < k := by omega
  have htk : tn ≤ k := by omega
  have HSAY := hide (fun x => fast_says (nothing := nothing) (c := cm) (a := a) (other := ot) hk hok h8 ho8 hl0 hlk x)
  obtain ⟨S, hS⟩ : ∃ S, k / 2 + 1 = S := ⟨_, rfl⟩
  rw [hS] at HSAY
  have HS := hide (fun w => pslow_any k (by omega) w)
  rw [hS] at HS
  have hS2 : S ≤ 4 := by omega
  have hS1 : 1 ≤ S := by omega
  have HRR : Hid (∀ w : World, Calls Try.prog 3 #[] w fun e w' => e = .returned (.bool true) ∧ Below w.heap.size w w') := hide runs_ok
  have hk0 : ¬ (k : Int) = 0 := by omega
  have hk1 : ¬ (k : Int) - 1 = 0 := by omega
  clear hF hk hS ho hlf htn hb1 hb2 hb3
  go_enter Try.func7, Try.ntmps7
  go_upto_region 1 with (fail)
  generalize ((W.alloc (.cells (cA ot) 26)).alloc (.cells (rowC cm) 32)).alloc (.cells (cA a) 26) = w1 at HP0 ⊢
  have HP := HP0
  clear HP0
  go_upto_region 3 with (first
    | (go_at_call 24; (with_reducible refine (HF.out _).mono ?_); rintro e w2 ⟨rfl, hb⟩; replace HP := hide (HP.out.kept hb); clear hb)
    | (go_at_call 32; (with_reducible refine (HW1.out _).mono ?_); rintro e w6 ⟨rfl, hw⟩; subst hw))
  have hz7 := fun w => zero_seven w
  go_upto_region 4 with (fail)
  clear hz7
  have HG := hide (Row.new w2 61 (arrC zero7C))
  have HGL := hide (show W.heap.size + 1 + 1 < w2.heap.size from HP.out.a.lt)
  replace HP := hide (HP.out.kept (kept_alloc (kept_refl w2) (.cells (arrC zero7C) 61)))
  have HGT := hide (show w2.heap.size < (w2.alloc (.cells (arrC zero7C) 61)).heap.size from by simp)
  generalize w2.alloc (.cells (arrC zero7C) 61) = w3 at HP HG HGT ⊢
  generalize w2.heap.size = g at HG HGL HGT ⊢
  clear HF
  have HR := hide (Rat.nil_ w3.heap.size w3)
  have HBE := hide (Nat.le_refl w3.heap.size)
  obtain ⟨bs, hbs⟩ : ∃ bs, w3.heap.size = bs := ⟨_, rfl⟩
  rw [hbs] at HR HGT
  replace HBE := hide (show bs ≤ w3.heap.size from Nat.le_of_eq hbs.symm)
  clear hbs
  go_upto_region 6 with (first
    | (go_at_call 32; (with_reducible refine (HW2.out _).mono ?_); rintro e w6 ⟨rfl, hw⟩; subst hw))
  go_upto_block 0 with (fail)
  go_cut [20, 22, 23] from 43 to 73 (fun s20 _ _ wx => Hid (Rat bs wx s20 (List.replicate (k - 2) a)) ∧ Hid (Qf W wx ot cm a) ∧ Hid (Row wx g 61 (arrC (fmL k o lf nothing cm a ot (k - 1)))) ∧ Hid (bs ≤ wx.heap.size))
  case first =>
    go_wp2
    go_loopw [20, 22] (fun v ii wr => ∃ i j : Nat, Hid (i = j + 1) ∧ i ≤ k ∧ ii = .int .i64 i ∧ Hid (Qf W wr ot cm a) ∧ Hid (Row wr g 61 (arrC (fmL k o lf nothing cm a ot j))) ∧ Hid (Rat bs wr v (List.replicate (cntF lf j) a)) ∧ Hid (bs ≤ wr.heap.size)) (fun _ ii _ => k - (intOf ii).toNat)
    case atStart => exact ⟨1, 0, hide rfl, by omega, rfl, HP, HG, hide (by unfold cntF; rw [if_pos hl0]; exact HR.out), HBE⟩
    case round =>
      clear HP HG HR HBE
      obtain ⟨i, j, HIJ, hi, rfl, HP, HG, HR, HBE⟩ := hrel
      by_cases hik : i < k
      · have hiki : (i : Int) < (k : Int) := by omega
        have hrk : (o + i) % k < k := Nat.mod_lt _ (by omega)
        have HFM := hide (show fmL k o lf nothing cm a ot (j + 1) = (fmL k o lf nothing cm a ot j).set ((o + i) % k) (fcL lf nothing cm a ot i) from by rw [HIJ.out]; rfl)
        obtain ⟨r, hr⟩ : ∃ r, (o + i) % k = r := ⟨_, rfl⟩
        rw [hr] at HFM hrk
        have hrm : ((o : Int) + (i : Int)).tmod (k : Int) = (r : Int) := by rw [← hr, Int.tmod_eq_emod_of_nonneg (by omega), ← Int.natCast_add]; rfl
        have hr7 : r < 7 := by omega
        have hr7i : (r : Int) < 7 := by omega
        have hr0i : (0 : Int) ≤ (r : Int) := by omega
        have HMC := hide (fm_ces (k := k) (o := o) (left := lf) (nothing := nothing) (c := cm) h8 ho8 j)
        have HQ := hide (show fcL lf nothing cm a ot i = if i = lf then (if nothing then zeroCl else ⟨1, (0, 0), (0, 0), cm, ot, false⟩) else ⟨1, (0, 0), (0, 0), cm, a, true⟩ from rfl)
        have HCC := hide (show cntF lf (j + 1) = cntF lf j + if j + 1 ≠ lf then 1 else 0 from by unfold cntF; split <;> split <;> split <;> omega)
        have hj7 : j ≤ 7 := by have := HIJ.out; omega
        have hcn : cntF lf j ≤ 7 := by unfold cntF; split <;> omega
        generalize fmL k o lf nothing cm a ot j = M at HFM HG HMC
        generalize cntF lf j = cn at HCC hcn HR
        have hll : (List.replicate cn a).length ≤ 1000 := by rw [List.length_replicate]; omega
        clear hr
        by_cases hil : i = lf
        · have hilb : ((i : Int) == (lf : Int)) = true := by simp; omega
          cases nothing
          · skip
            replace HQ := hide (show fcL lf false cm a ot i = ⟨1, (0, 0), (0, 0), cm, ot, false⟩ from by rw [HQ.out, if_pos hil]; rfl)
            have HCS := hide (show cntF lf (j + 1) = cn from by rw [HCC.out, if_neg (by have := HIJ.out; omega), Nat.add_zero])
            clear hil
            go_wp2_with (first
              | ((with_reducible refine wpList_load_cm ?_ ?_ HP.out.c.cm_at ?_); rfl; rfl)
              | ((with_reducible refine wpList_load_at h8 ?_ ?_ HP.out.a.at8 ?_); rfl; rfl)
              | ((with_reducible refine wpList_load_at ho8 ?_ ?_ HP.out.ot.at8 ?_); rfl; rfl)
              | ((with_reducible refine fill_4 (v := .agg (clC ⟨1, (0, 0), (0, 0), cm, a, true⟩)) rfl rfl rfl rfl ?_ ?_); exact fill_same h8 _)
              | ((with_reducible refine fill_3 (v := .agg (clC ⟨1, (0, 0), (0, 0), cm, ot, false⟩)) rfl rfl rfl ?_ ?_); exact fill_oth ho8 _)
              | ((with_reducible refine wpList_build_no ?_ (fill_cl _) ?_); rfl)
              | ((with_reducible refine wpList_store_7 (y := ⟨1, (0, 0), (0, 0), cm, a, true⟩) h8 ?_ ?_ HG.out HMC.out hr7 ?_); rfl; rfl; intro w7 hn hg; replace HP := hide (HP.out.far hg HGL.out); replace HG := hide hn; replace HMC := hide (HMC.out.set (x := ⟨1, (0, 0), (0, 0), cm, a, true⟩) h8 r); replace HR := hide (HR.out.far hg HGT.out); replace HBE := hide (show bs ≤ w7.heap.size from Nat.le_trans HBE.out (grown_size hg)); clear hn hg)
              | ((with_reducible refine wpList_store_7 (y := ⟨1, (0, 0), (0, 0), cm, ot, false⟩) ho8 ?_ ?_ HG.out HMC.out hr7 ?_); rfl; rfl; intro w7 hn hg; replace HP := hide (HP.out.far hg HGL.out); replace HG := hide hn; replace HMC := hide (HMC.out.set (x := ⟨1, (0, 0), (0, 0), cm, ot, false⟩) ho8 r); replace HR := hide (HR.out.far hg HGT.out); replace HBE := hide (show bs ≤ w7.heap.size from Nat.le_trans HBE.out (grown_size hg)); clear hn hg)
              | ((with_reducible refine wpList_store_7 (y := zeroCl) rfl ?_ ?_ HG.out HMC.out hr7 ?_); rfl; rfl; intro w7 hn hg; replace HP := hide (HP.out.far hg HGL.out); replace HG := hide hn; replace HMC := hide (HMC.out.set (x := zeroCl) rfl r); replace HR := hide (HR.out.far hg HGT.out); replace HBE := hide (show bs ≤ w7.heap.size from Nat.le_trans HBE.out (grown_size hg)); clear hn hg)
              | ((with_reducible refine wpList_lit_at h8 ?_ ?_); rfl; have HE := hide (Row.new w7 26 (cA a)); replace HP := hide (HP.out.kept (kept_alloc (kept_refl w7) (.cells (cA a) 26))); replace HG := hide (HG.out.alloc (.cells (cA a) 26)); replace HR := hide (HR.out.below (kept_alloc (kept_refl w7) (.cells (cA a) 26))); replace HBE := hide (show bs ≤ (w7.alloc (.cells (cA a) 26)).heap.size from by simp; have := HBE.out; omega); generalize w7.alloc (.cells (cA a) 26) = w8 at HE HP HG HR HBE ⊢; generalize w7.heap.size = ge at HE ⊢)
              | ((with_reducible refine wpList_append_at h8 ?_ ?_ HR.out HE.out hll HBE.out ?_); rfl; rfl; intro v9 w9 hv9 hg9; replace HP := hide (HP.out.opt hg9 (fun j e => by have h1 := (HR.out.lt j e).1; have h2 := HGL.out; have h3 := HGT.out; omega)); replace HG := hide (HG.out.grown hg9 (fun e => by have h1 := (HR.out.lt g e.symm).1; have h2 := HGT.out; omega)); replace HBE := hide (show bs ≤ w9.heap.size from Nat.le_trans HBE.out (grown_size hg9)); replace HR := hide hv9; clear hv9 hg9))
            go_roundw
            case rel => exact ⟨i + 1, j + 1, hide (by rw [HIJ.out]), by omega, by go_num, HP, hide (by have h := HG.out; (try simp only [List.set_set] at h); rw [HFM.out, HQ.out]; exact h), hide (by rw [HCS.out]; exact HR.out), HBE⟩
            case measure => simp [intOf]; omega
          · skip
            replace HQ := hide (show fcL lf true cm a ot i = zeroCl from by rw [HQ.out, if_pos hil]; rfl)
            have HCS := hide (show cntF lf (j + 1) = cn from by rw [HCC.out, if_neg (by have := HIJ.out; omega), Nat.add_zero])
            clear hil
            go_wp2_with (first
              | ((with_reducible refine wpList_load_cm ?_ ?_ HP.out.c.cm_at ?_); rfl; rfl)
              | ((with_reducible refine wpList_load_at h8 ?_ ?_ HP.out.a.at8 ?_); rfl; rfl)
              | ((with_reducible refine wpList_load_at ho8 ?_ ?_ HP.out.ot.at8 ?_); rfl; rfl)
              | ((with_reducible refine fill_4 (v := .agg (clC ⟨1, (0, 0), (0, 0), cm, a, true⟩)) rfl rfl rfl rfl ?_ ?_); exact fill_same h8 _)
              | ((with_reducible refine fill_3 (v := .agg (clC ⟨1, (0, 0), (0, 0), cm, ot, false⟩)) rfl rfl rfl ?_ ?_); exact fill_oth ho8 _)
              | ((with_reducible refine wpList_build_no ?_ (fill_cl _) ?_); rfl)
              | ((with_reducible refine wpList_store_7 (y := ⟨1, (0, 0), (0, 0), cm, a, true⟩) h8 ?_ ?_ HG.out HMC.out hr7 ?_); rfl; rfl; intro w7 hn hg; replace HP := hide (HP.out.far hg HGL.out); replace HG := hide hn; replace HMC := hide (HMC.out.set (x := ⟨1, (0, 0), (0, 0), cm, a, true⟩) h8 r); replace HR := hide (HR.out.far hg HGT.out); replace HBE := hide (show bs ≤ w7.heap.size from Nat.le_trans HBE.out (grown_size hg)); clear hn hg)
              | ((with_reducible refine wpList_store_7 (y := ⟨1, (0, 0), (0, 0), cm, ot, false⟩) ho8 ?_ ?_ HG.out HMC.out hr7 ?_); rfl; rfl; intro w7 hn hg; replace HP := hide (HP.out.far hg HGL.out); replace HG := hide hn; replace HMC := hide (HMC.out.set (x := ⟨1, (0, 0), (0, 0), cm, ot, false⟩) ho8 r); replace HR := hide (HR.out.far hg HGT.out); replace HBE := hide (show bs ≤ w7.heap.size from Nat.le_trans HBE.out (grown_size hg)); clear hn hg)
              | ((with_reducible refine wpList_store_7 (y := zeroCl) rfl ?_ ?_ HG.out HMC.out hr7 ?_); rfl; rfl; intro w7 hn hg; replace HP := hide (HP.out.far hg HGL.out); replace HG := hide hn; replace HMC := hide (HMC.out.set (x := zeroCl) rfl r); replace HR := hide (HR.out.far hg HGT.out); replace HBE := hide (show bs ≤ w7.heap.size from Nat.le_trans HBE.out (grown_size hg)); clear hn hg)
              | ((with_reducible refine wpList_lit_at h8 ?_ ?_); rfl; have HE := hide (Row.new w7 26 (cA a)); replace HP := hide (HP.out.kept (kept_alloc (kept_refl w7) (.cells (cA a) 26))); replace HG := hide (HG.out.alloc (.cells (cA a) 26)); replace HR := hide (HR.out.below (kept_alloc (kept_refl w7) (.cells (cA a) 26))); replace HBE := hide (show bs ≤ (w7.alloc (.cells (cA a) 26)).heap.size from by simp; have := HBE.out; omega); generalize w7.alloc (.cells (cA a) 26) = w8 at HE HP HG HR HBE ⊢; generalize w7.heap.size = ge at HE ⊢)
              | ((with_reducible refine wpList_append_at h8 ?_ ?_ HR.out HE.out hll HBE.out ?_); rfl; rfl; intro v9 w9 hv9 hg9; replace HP := hide (HP.out.opt hg9 (fun j e => by have h1 := (HR.out.lt j e).1; have h2 := HGL.out; have h3 := HGT.out; omega)); replace HG := hide (HG.out.grown hg9 (fun e => by have h1 := (HR.out.lt g e.symm).1; have h2 := HGT.out; omega)); replace HBE := hide (show bs ≤ w9.heap.size from Nat.le_trans HBE.out (grown_size hg9)); replace HR := hide hv9; clear hv9 hg9))
            go_roundw
            case rel => exact ⟨i + 1, j + 1, hide (by rw [HIJ.out]), by omega, by go_num, HP, hide (by have h := HG.out; (try simp only [List.set_set] at h); rw [HFM.out, HQ.out]; exact h), hide (by rw [HCS.out]; exact HR.out), HBE⟩
            case measure => simp [intOf]; omega
        · have hilb : ((i : Int) == (lf : Int)) = false := by simp; omega
          replace HQ := hide (show fcL lf nothing cm a ot i = ⟨1, (0, 0), (0, 0), cm, a, true⟩ from by rw [HQ.out, if_neg hil])
          have HCS := hide (show cntF lf (j + 1) = cn + 1 from by rw [HCC.out, if_pos (by have := HIJ.out; omega)])
          clear hil
          go_wp2_with (first
            | ((with_reducible refine wpList_load_cm ?_ ?_ HP.out.c.cm_at ?_); rfl; rfl)
            | ((with_reducible refine wpList_load_at h8 ?_ ?_ HP.out.a.at8 ?_); rfl; rfl)
            | ((with_reducible refine wpList_load_at ho8 ?_ ?_ HP.out.ot.at8 ?_); rfl; rfl)
            | ((with_reducible refine fill_4 (v := .agg (clC ⟨1, (0, 0), (0, 0), cm, a, true⟩)) rfl rfl rfl rfl ?_ ?_); exact fill_same h8 _)
            | ((with_reducible refine fill_3 (v := .agg (clC ⟨1, (0, 0), (0, 0), cm, ot, false⟩)) rfl rfl rfl ?_ ?_); exact fill_oth ho8 _)
            | ((with_reducible refine wpList_build_no ?_ (fill_cl _) ?_); rfl)
            | ((with_reducible refine wpList_store_7 (y := ⟨1, (0, 0), (0, 0), cm, a, true⟩) h8 ?_ ?_ HG.out HMC.out hr7 ?_); rfl; rfl; intro w7 hn hg; replace HP := hide (HP.out.far hg HGL.out); replace HG := hide hn; replace HMC := hide (HMC.out.set (x := ⟨1, (0, 0), (0, 0), cm, a, true⟩) h8 r); replace HR := hide (HR.out.far hg HGT.out); replace HBE := hide (show bs ≤ w7.heap.size from Nat.le_trans HBE.out (grown_size hg)); clear hn hg)
            | ((with_reducible refine wpList_store_7 (y := ⟨1, (0, 0), (0, 0), cm, ot, false⟩) ho8 ?_ ?_ HG.out HMC.out hr7 ?_); rfl; rfl; intro w7 hn hg; replace HP := hide (HP.out.far hg HGL.out); replace HG := hide hn; replace HMC := hide (HMC.out.set (x := ⟨1, (0, 0), (0, 0), cm, ot, false⟩) ho8 r); replace HR := hide (HR.out.far hg HGT.out); replace HBE := hide (show bs ≤ w7.heap.size from Nat.le_trans HBE.out (grown_size hg)); clear hn hg)
            | ((with_reducible refine wpList_store_7 (y := zeroCl) rfl ?_ ?_ HG.out HMC.out hr7 ?_); rfl; rfl; intro w7 hn hg; replace HP := hide (HP.out.far hg HGL.out); replace HG := hide hn; replace HMC := hide (HMC.out.set (x := zeroCl) rfl r); replace HR := hide (HR.out.far hg HGT.out); replace HBE := hide (show bs ≤ w7.heap.size from Nat.le_trans HBE.out (grown_size hg)); clear hn hg)
            | ((with_reducible refine wpList_lit_at h8 ?_ ?_); rfl; have HE := hide (Row.new w7 26 (cA a)); replace HP := hide (HP.out.kept (kept_alloc (kept_refl w7) (.cells (cA a) 26))); replace HG := hide (HG.out.alloc (.cells (cA a) 26)); replace HR := hide (HR.out.below (kept_alloc (kept_refl w7) (.cells (cA a) 26))); replace HBE := hide (show bs ≤ (w7.alloc (.cells (cA a) 26)).heap.size from by simp; have := HBE.out; omega); generalize w7.alloc (.cells (cA a) 26) = w8 at HE HP HG HR HBE ⊢; generalize w7.heap.size = ge at HE ⊢)
            | ((with_reducible refine wpList_append_at h8 ?_ ?_ HR.out HE.out hll HBE.out ?_); rfl; rfl; intro v9 w9 hv9 hg9; replace HP := hide (HP.out.opt hg9 (fun j e => by have h1 := (HR.out.lt j e).1; have h2 := HGL.out; have h3 := HGT.out; omega)); replace HG := hide (HG.out.grown hg9 (fun e => by have h1 := (HR.out.lt g e.symm).1; have h2 := HGT.out; omega)); replace HBE := hide (show bs ≤ w9.heap.size from Nat.le_trans HBE.out (grown_size hg9)); replace HR := hide hv9; clear hv9 hg9))
          go_roundw
          case rel => exact ⟨i + 1, j + 1, hide (by rw [HIJ.out]), by omega, by go_num, HP, hide (by have h := HG.out; (try simp only [List.set_set] at h); rw [HFM.out, HQ.out]; exact h), hide (by rw [HCS.out, List.replicate_succ']; exact HR.out), HBE⟩
          case measure => simp [intOf]; omega
      · have hiki : ¬ (i : Int) < (k : Int) := by omega
        have hjk : j = k - 1 := by have := HIJ.out; omega
        subst hjk
        have hcf : cntF lf (k - 1) = k - 2 := by unfold cntF; rw [if_neg (by omega)]; omega
        rw [hcf] at HR
        go_wp2
        go_meet
        exact ⟨HR, HP, HG, HBE⟩
  case rest =>
  clear HP HG HR HBE
  obtain ⟨HR, HP, HG, HBE⟩ := hcut
  have hrl : (List.replicate (k - 2) a).length = k - 2 := List.length_replicate
  have ha8 : All 8 (List.replicate (k - 2) a) := fun x hx => by rw [List.eq_of_mem_replicate hx]; exact h8
  obtain ⟨A, m, hv, hits, hnil, hle⟩ := HR.out.its ha8
  rw [hrl] at hv hle
  subst hv
  have HPE := hide (pre_ok k true false a A (k - 2) m (List.replicate (k - 2) a) wc (by omega) h8 hrl ha8 hits (by omega) hle hnil)
  rw [pre_fast (by omega)] at HPE
  replace HPE := hide (show Calls Try.prog 23 #[.int .i64 (k : Nat), .bool true, .agg (cA a), .slice A (k - 2) m, .bool false] wc fun e w' => e = .returned (.tuple #[.int .i64 1, .agg (cA a)]) ∧ Below wc.heap.size wc w' from HPE.out)
  clear hrl ha8 hits hnil hle HR
  go_upto_region 17 with (first
    | ((with_reducible refine wpList_load_at h8 ?_ ?_ HP.out.a.at8 ?_); rfl; rfl)
    | (go_at_call 23; go_loud ((with_reducible refine HPE.out.mono ?_); rintro e w4 ⟨rfl, hb⟩; replace HP := hide (HP.out.kept hb); replace HG := hide (HG.out.below hb HG.out.lt); replace HBE := hide (show bs ≤ w4.heap.size from Nat.le_trans HBE.out hb.size); clear hb))
    | ((with_reducible refine wpList_store_new (vs := cA a) ?_ ?_ (cA_all _) ?_ ?_ ?_); (rw [cA_size h8]; exact at_info); (rw [cA_size h8]; rfl); (first | rfl | (simp; done)); rfl))
  try dsimp only [Act.put]
  have HA := hide (Row.new w4 26 (cA a))
  replace HP := hide (HP.out.kept (kept_alloc (kept_refl w4) (.cells (cA a) 26)))
  replace HG := hide (HG.out.alloc (.cells (cA a) 26))
  replace HBE := hide (show bs ≤ (w4.alloc (.cells (cA a) 26)).heap.size from by simp; have := HBE.out; omega)
  generalize w4.alloc (.cells (cA a) 26) = w5 at HA HP HG HBE ⊢
  generalize w4.heap.size = ga at HA ⊢
  clear HPE
  have hea := fun w => neq_at h8 h8 w
  rw [decide_eq_true rfl] at hea
  go_upto_region 19 with (first
    | ((with_reducible refine wpList_load_at h8 ?_ ?_ HA.out.at8 ?_); rfl; rfl)
    | ((with_reducible refine wpList_load_at h8 ?_ ?_ HP.out.a.at8 ?_); rfl; rfl))
  have HEA := hide hea
  clear hea HA
  obtain ⟨M, hM⟩ : ∃ M, fmL k o lf nothing cm a ot (k - 1) = M := ⟨_, rfl⟩
  have HMC := hide (fm_ces (k := k) (o := o) (left := lf) (nothing := nothing) (c := cm) h8 ho8 (k - 1))
  rw [hM] at HMC HG HSAY
  clear hM
  go_wp2
  go_loopw [26] (fun ii wr => ∃ f : Nat, f + 1 ≤ k ∧ ii = .int .i64 f ∧ Hid (Qf W wr ot cm a) ∧ Hid (Row wr g 61 (arrC M)) ∧ Hid (bs ≤ wr.heap.size)) (fun ii _ => k - (intOf ii).toNat)
  case atStart => exact ⟨0, by omega, rfl, HP, HG, HBE⟩
  case round =>
    clear HP HG HBE
    obtain ⟨f, hf, rfl, HP, HG, HBE⟩ := hrel
    by_cases hfk : f + 1 < k
    · have hfki : (f : Int) < (k : Int) - 1 := by omega
      go_upto_region 24 with (fail)
      have HR := hide (Rsd.nil_ bs wr)
      go_wp2
      go_loopw [27, 28] (fun v ii wr => ∃ i : Nat, i ≤ S ∧ ii = .int .i64 i ∧ Hid (Rsd bs wr v (flsL M k o (f + tn) i)) ∧ Hid (Qf W wr ot cm a) ∧ Hid (Row wr g 61 (arrC M)) ∧ Hid (bs ≤ wr.heap.size)) (fun _ ii _ => S - (intOf ii).toNat)
      case atStart => exact ⟨0, Nat.zero_le _, rfl, HR, HP, HG, HBE⟩
      case round =>
        clear HR HP HG HBE
        obtain ⟨i, hi, rfl, HR, HP, HG, HBE⟩ := hrel
        obtain ⟨A2, cc, hv, _, _, _⟩ := HR.out.sds (fls_8 HMC.out k o (f + tn) i)
        rw [fls_len] at hv
        subst hv
        by_cases his : i < S
        · have hisi : (i : Int) < (S : Int) := by omega
          have hrk : (o + 1 + (f + tn + i) % (k - 1)) % k < k := Nat.mod_lt _ (by omega)
          have hqk : (f + tn + i) % (k - 1) < k - 1 := Nat.mod_lt _ (by omega)
          have HLS := hide (fls_succ M k o (f + tn) i)
          have HL8 := hide (fls_len M k o (f + tn) i)
          obtain ⟨q, hq⟩ : ∃ q, (f + tn + i) % (k - 1) = q := ⟨_, rfl⟩
          rw [hq] at HLS hrk hqk
          obtain ⟨r, hr⟩ : ∃ r, (o + 1 + q) % k = r := ⟨_, rfl⟩
          rw [hr] at HLS hrk
          have hqm : ((f : Int) + (i : Int) + (tn : Int)).tmod ((k : Int) - 1) = (q : Int) := by
            rw [← hq, Int.tmod_eq_emod_of_nonneg (by omega), show (f : Int) + (i : Int) + (tn : Int) = ((f + tn + i : Nat) : Int) by omega, show (k : Int) - 1 = ((k - 1 : Nat) : Int) by omega]
            rfl
          have hrm : ((o : Int) + 1 + (q : Int)).tmod (k : Int) = (r : Int) := by
            rw [← hr, Int.tmod_eq_emod_of_nonneg (by omega), show (o : Int) + 1 + (q : Int) = ((o + 1 + q : Nat) : Int) by omega]
            rfl
          have hr7 : r < 7 := by omega
          have hr7i : (r : Int) < 7 := by omega
          have hr0i : (0 : Int) ≤ (r : Int) := by omega
          obtain ⟨y, hy⟩ : ∃ y, M[r]? = some y := ⟨_, List.getElem?_eq_getElem (by rw [HMC.out.len]; exact hr7)⟩
          have hy8 := HMC.out.a8 y (List.mem_of_getElem? hy)
          have hgd : M.getD r zeroCl = y := by rw [List.getD_eq_getElem?_getD, hy]; rfl
          rw [hgd] at HLS
          have hcy := HG.out.ce_at HMC.out hy
          have hll : (flsL M k o (f + tn) i).length ≤ 1000 := by rw [HL8.out]; omega
          clear hr hq hy hgd
          go_wp2_with (first
            | (go_at_call 18; (with_reducible refine (HS.out _).mono ?_); rintro e w5 ⟨rfl, hb⟩; subst hb)
            | (go_at_call 32; (with_reducible refine (HW3.out _).mono ?_); rintro e w6 ⟨rfl, hw⟩; subst hw)
            | ((with_reducible refine wpList_load_ce (y := y) hy8 ?_ ?_ hcy ?_); rfl; rfl)
            | ((with_reducible refine build_2 (v := .agg (sdl ((r : Int), y)).toArray) rfl rfl ?_ ?_); exact fill_sd hy8 _)
            | ((with_reducible refine wpList_lit_sd (e := ((r : Int), y)) hy8 ?_ ?_); rfl; have HE := hide (Row.new wr 36 (sdl ((r : Int), y)).toArray); replace HP := hide (HP.out.kept (kept_alloc (kept_refl wr) (.cells (sdl ((r : Int), y)).toArray 36))); replace HG := hide (HG.out.alloc (.cells (sdl ((r : Int), y)).toArray 36)); replace HR := hide (HR.out.below (kept_alloc (kept_refl wr) (.cells (sdl ((r : Int), y)).toArray 36))); replace HBE := hide (show bs ≤ (wr.alloc (.cells (sdl ((r : Int), y)).toArray 36)).heap.size from by simp; have := HBE.out; omega); clear hcy; generalize wr.alloc (.cells (sdl ((r : Int), y)).toArray 36) = w6 at HE HP HG HR HBE ⊢; generalize wr.heap.size = ge at HE ⊢)
            | ((with_reducible refine wpList_append_sd (e := ((r : Int), y)) hy8 ?_ ?_ HR.out HE.out hll HBE.out ?_); rfl; rfl; intro v7 w7 hv7 hg7; replace HP := hide (HP.out.opt hg7 (fun j e => by have h1 := (HR.out.lt j e).1; have h2 := HGL.out; have h3 := HGT.out; omega)); replace HG := hide (HG.out.grown hg7 (fun e => by have h1 := (HR.out.lt g e.symm).1; have h2 := HGT.out; omega)); replace HBE := hide (show bs ≤ w7.heap.size from Nat.le_trans HBE.out (grown_size hg7)); replace HR := hide hv7; clear hv7 hg7))
          go_roundw
          case rel => exact ⟨i + 1, by omega, by go_num, hide (by rw [HLS.out]; exact HR.out), HP, HG, HBE⟩
          case measure => simp [intOf]; omega
        · have hisi : ¬ (i : Int) < (S : Int) := by omega
          have hiS : i = S := by omega
          subst hiS
          have hM8 := fls_8 HMC.out k o (f + tn) i
          obtain ⟨A', cc', hv, hsd, hnn, hcc⟩ := HR.out.sds hM8
          rw [fls_len] at hv hcc
          injection hv with h1 _ h3
          subst h1 h3
          have HPC := hide (prep_ok k o A2 i cc (flsL M k o (f + tn) i) wr (by omega) (by omega) (fls_len _ _ _ _ _) hsd (by omega) hcc hnn)
          rw [HSAY.out (f + tn)] at HPC
          have hec := fun w => neq_cmq cm cm w
          rw [sameC_iff.2 rfl] at hec
          have HEC := hide hec
          clear hec hsd HR
          go_upto_region 29 with (first
            | (go_at_call 18; (with_reducible refine (HS.out _).mono ?_); rintro e w5 ⟨rfl, hb⟩; subst hb)
            | (go_at_call 28; go_loud ((with_reducible refine HPC.out.mono ?_); rintro e w7 ⟨rfl, hb⟩; replace HP := hide (HP.out.kept hb); replace HG := hide (HG.out.below hb HG.out.lt); replace HBE := hide (show bs ≤ w7.heap.size from Nat.le_trans HBE.out hb.size); have HN := hide (show Pq w7 ((w7.alloc (.cells #[.int .i64 0, .int .i64 0, .int .i64 0, .string ⟨#[]⟩, .string ⟨#[]⟩, .string ⟨#[]⟩, .string ⟨#[]⟩] 32)).alloc (.cells #[.int .i64 0, .int .i64 0, .int .i64 0, .int .i64 0, .int .i64 0, .int .i64 0, .int .i64 0, .int .i64 0] 26)) zeroC zero8 from Pq.start w7); clear hb))
            | ((with_reducible refine wpList_store_cm (y := cm) (z := zeroC) ?_ ?_ HN.out.c ?_); rfl; rfl; intro w8 hn hg; replace HN := hide (HN.out.putc hn hg); clear hn hg)
            | ((with_reducible refine wpList_store_at (y := a) (z := zero8) h8 ?_ ?_ HN.out.a rfl ?_); rfl; rfl; intro w9 hn hg; replace HN := hide (HN.out.puta hn hg); clear hn hg))
          replace HP := hide (HP.out.kept HN.out.low)
          replace HG := hide (HG.out.below HN.out.low HG.out.lt)
          replace HBE := hide (show bs ≤ w9.heap.size from Nat.le_trans HBE.out HN.out.low.size)
          have hec := HEC.out
          have hea := HEA.out
          go_wp2_with (first
            | ((with_reducible refine wpList_load_cm ?_ ?_ HN.out.c.cm_at ?_); rfl; rfl)
            | ((with_reducible refine wpList_load_cm ?_ ?_ HP.out.c.cm_at ?_); rfl; rfl)
            | ((with_reducible refine wpList_load_at h8 ?_ ?_ HN.out.a.at8 ?_); rfl; rfl)
            | ((with_reducible refine wpList_load_at h8 ?_ ?_ HP.out.a.at8 ?_); rfl; rfl))
          go_roundw
          case rel => exact ⟨f + 1, by omega, by go_num, HP, HG, HBE⟩
          case measure => simp [intOf]; omega
    · have hfki : ¬ (f : Int) < (k : Int) - 1 := by omega
      go_wp2_with (first
        | (go_at_call 3; (with_reducible refine (HRR.out _).mono ?_); rintro e wz ⟨rfl, hb⟩; replace HP := hide (HP.out.kept hb); clear hb))
      go_ret
      exact ⟨rfl, HP.out.low⟩
end Go.Proofs.Ytjkdccokiaejhaa
