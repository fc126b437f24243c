/- Proved: the law StateBack returns true. Conditions: none beyond the row's own. -/
import Derived.Test.YtahfpncfkcfogaaGa
import Derived.Test.YtahfpncfkcfogaaGbk
import Derived.Test.YtahfpncfkcfogaaGq
import Derived.Deep.DeepCutAuto
namespace Go.Proofs.Ytahfpncfkcfogaa.stateBack
open Go.ChangeShapes Go.WideShapes Go.ChangeAt Go.RowKit
set_option maxRecDepth 100000 in
set_option maxHeartbeats 16000000 in
theorem walk (A : Option Addr) (n cc : Nat) (it : Nat → Cm) (A' : Option Addr) (n' cc' : Nat) (it' : Nat → Cm) (Ab : Option Addr) (nb cb : Nat) (zb : List Int) (W : World) (h : CmsIn W A n cc it) (h' : CmsIn W A' n' cc' it') (hb : SliceIn W Ab nb cb zb) :
    Calls Try.prog 8 #[.slice A n cc, .slice A' n' cc', .slice Ab nb cb] W fun e w' => e = .returned (.bool true) ∧ Below W.heap.size W w' := by
  have RUN := hide (fun w => runs_any w)
  have hm60 : min n 60 ≤ 60 := Nat.min_le_right _ _
  have hm60' : min n' 60 ≤ 60 := Nat.min_le_right _ _
  have HC := hide (h.cml (min n 60) (Nat.min_le_left _ _))
  have HCL := hide (cmsL_len it (min n 60))
  have HSH := hide (fun w => short_any A n cc w h.le h.room)
  have HC' := hide (h'.cml (min n' 60) (Nat.min_le_left _ _))
  have HCL' := hide (cmsL_len it' (min n' 60))
  have HSH' := hide (fun w => short_any A' n' cc' w h'.le h'.room)
  have HGB := hide (fun w (hw : Below W.heap.size W w) => getS_any Ab nb cb zb w hb.len (hb.lies.below hw) hb.oct hb.nil (by have := hb.le; have := hb.room; omega))
  have HSB := hide hb
  clear h h' hb
  generalize cmsL it (min n 60) = cs at HC HCL
  generalize min n 60 = m at HCL HSH hm60
  generalize cmsL it' (min n' 60) = ds at HC' HCL'
  generalize min n' 60 = m' at HCL' HSH' hm60'
  have HP := hide (play0 A cc m cs W HC.out HCL.out hm60)
  go_enter Try.func8, Try.ntmps8
  go_upto_region 2 with (first
    | (go_at_call 14; (with_reducible refine (HSH.out _).mono ?_); rintro e w2 ⟨rfl, rfl⟩)
    | (go_at_call 11; (with_reducible refine HP.out.mono ?_); rintro e w2 ⟨p, M, v, R, rfl, hn, hr, hi, hb⟩; have H8 := hide hn.eight; have H1 := hide hn.one)
    | ((with_reducible refine wpList_store49n ?_ ?_ H1.out H8.out ?_); rfl; rfl))
  have HU := hide (play0_up cs)
  have HRs := hide (play0_right cs (by rw [HCL.out]; omega))
  have HBD := hide (HRs.out.bd (play_bo cs Rs.zero Bo.zero (by omega) (by rw [HCL.out]; omega) |> fun h => by simpa using h) (by rw [HCL.out]; omega))
  have HDE := hide (play_there cs (by rw [HCL.out]; omega))
  obtain ⟨S, hS⟩ : ∃ S, playP zeroS cs = S := ⟨_, rfl⟩
  rw [hS] at hn HU HRs HBD HDE
  clear hS
  obtain ⟨s, rs⟩ := S
  dsimp only at hn HU HRs HBD HDE
  have ka := kept_alloc (kept_refl w2) (.cells (stc p M) 30)
  have K2 := hide (kept_trans hb ka)
  have RT := hide (Row.new w2 30 (stc p M))
  have NS := hide (hn.below ka).isS
  clear hn hr hi hb ka HP HSH H1
  generalize w2.alloc (.cells (stc p M) 30) = w3 at K2 RT NS ⊢
  generalize w2.heap.size = g9 at RT ⊢
  obtain ⟨Ap, cp, hp, _⟩ := NS.out.pin
  subst hp
  have HPU := hide (putS_any _ M s w3 NS.out HBD.out)
  go_upto_region 3 with (first
    | ((with_reducible refine wpList_load49 ?_ RT.out H8.out ?_); rfl)
    | (go_at_call 22; (with_reducible refine HPU.out.mono ?_); rintro e w4 ⟨u4, rfl, hu4, hb4⟩; obtain ⟨A4, c4, e4, hj⟩ := hu4.form; subst e4; clear hj))
  have HGE := hide (getS_by hu4 HDE.out HRs.out.eight)
  have RT4 := hide (RT.out.below hb4 RT.out.lt)
  have NS4 := hide (NS.out.below hb4)
  have K4 := hide (kept_trans K2.out hb4)
  clear hu4 hb4 RT NS K2 HPU
  go_upto_region 4 with (first
    | (go_at_call 30; (with_reducible refine HGE.out.mono ?_); rintro e w5 ⟨p5, M5, rfl, hn5, hb5⟩; have H85 := hide hn5.eight; have H15 := hide hn5.one)
    | ((with_reducible refine wpList_store49n ?_ ?_ H15.out H85.out ?_); rfl; rfl))
  have ka := kept_alloc (kept_refl w5) (.cells (stc p5 M5) 30)
  have kb := kept_trans hb5 ka
  have K6 := hide (kept_trans K4.out kb)
  have RT6 := hide (RT4.out.below kb RT4.out.lt)
  have NS6 := hide (NS4.out.below kb)
  have R56 := hide (Row.new w5 30 (stc p5 M5))
  have N56 := hide (hn5.below ka).isS
  clear hn5 hb5 ka kb HGE RT4 NS4 K4 H15
  generalize w5.alloc (.cells (stc p5 M5) 30) = w6 at K6 RT6 NS6 R56 N56 ⊢
  generalize w5.heap.size = g5 at R56 ⊢
  have LMX : Hid (s.l.length + m' ≤ 1000) := hide (by have := HRs.out.len; omega)
  go_cut [12, 13] from 32 to 38 (fun s12 s13 wx => ∃ (gz : Nat) (p7 : Value) (M7 : List Co) (v7 : Value), s12 = .pointer (some ⟨gz, 0, none⟩) ∧ s13 = v7 ∧ Hid (Row wx gz 30 (stc p7 M7)) ∧ Hid (NewS w6.heap.size wx p7 M7 (playP s ds).1) ∧ Hid (Below w6.heap.size w6 wx))
  case first =>
    refine wp_region_noPanic ?_
    refine wp_region_T 9 (fun w' => Row w' g9 30 (stc (.slice Ap s.l.length cp) M)) (by kernel_rfl) ?_
    have HD := hide (show Row (World.drew w6) g9 30 (stc (.slice Ap s.l.length cp) M) ∧ Below w6.heap.size w6 (World.drew w6) from ⟨RT6.out.drewN 1, kept_drewN (kept_refl w6) 1⟩)
    generalize World.drew _ = wd at HD ⊢
    refine anyT_take (i := 0) (v := .agg (stc (.slice Ap s.l.length cp) M)) (by simp only [List.getElem?_toArray, List.getElem?_cons_zero]; exact rfl) (by kernel_rfl) (by kernel_rfl) (fun _ _ _ h => h) (by kernel_rfl) (by kernel_rfl) (yields_load49 (x := .tmp 7) (by rfl) (by rfl) (by rfl) H8.out (fun _ h => h)) (by with_reducible exact HD.out.1) ?_
    try simp only [Act.put, List.setIfInBounds_toArray, List.set_cons_zero, List.set_cons_succ]
    refine anyT_take (i := 1) (v := ?ov1ra) (by simp only [List.getElem?_toArray, List.getElem?_cons_succ, List.getElem?_cons_zero]; exact rfl) (by kernel_rfl) (by kernel_rfl) (fun _ _ _ h => h) (by kernel_rfl) (by kernel_rfl) (Or.inl ⟨by rfl, ?oy1ra⟩) (by with_reducible exact HD.out.1) ?or1ra
    case oy1ra => (intro w hSw; skip; go_simp; try with_reducible rfl)
    try simp only [Act.put, List.setIfInBounds_toArray, List.set_cons_zero, List.set_cons_succ]
    have HLTr := hide RT6.out.lt
    refine anyT_two (i := 2) (j := 7) (by kernel_rfl) (by simp only [List.getElem?_toArray, List.getElem?_cons_succ, List.getElem?_cons_zero]; exact rfl) (by simp only [List.getElem?_toArray, List.getElem?_cons_succ, List.getElem?_cons_zero]; exact rfl) (fun K hK => ?_) (fun K hK => ?_)
    · skip
      try go_simp
      refine (HSH'.out _).mono ?_
      rintro e x2 ⟨rfl, rfl⟩
      refine hK.out _ _ (fun e => HD.out.1) ?_
      clear hK K
      try simp only [Act.put, List.setIfInBounds_toArray, List.set_cons_zero, List.set_cons_succ]
      refine anyT_two (i := 3) (j := 7) (by kernel_rfl) (by simp only [List.getElem?_toArray, List.getElem?_cons_succ, List.getElem?_cons_zero]; exact rfl) (by simp only [List.getElem?_toArray, List.getElem?_cons_succ, List.getElem?_cons_zero]; exact rfl) (fun K hK => ?_) (fun K hK => ?_)
      · skip
        try go_simp
        refine (play_any (.slice Ap s.l.length cp) M s A' m' cc' ds wd (NS6.out.below HD.out.2) (HC'.out.below (kept_trans K6.out HD.out.2)) HCL'.out HU.out.1 LMX.out).mono ?_
        rintro e w7 ⟨p7, M7, v7, R7, rfl, hn7, hr7, hi7, hb7⟩
        have H87 := hide hn7.eight
        have H17 := hide hn7.one
        have HD3 := hide (show Row w7 g9 30 (stc (.slice Ap s.l.length cp) M) ∧ Below w6.heap.size w6 w7 from ⟨HD.out.1.below hb7 HD.out.1.lt, kept_trans HD.out.2 hb7⟩)
        have N7 := hide (hn7.mono HD.out.2.size)
        clear hn7 hr7 hi7 hb7
        refine hK.out _ _ (fun e => HD3.out.1) ?_
        clear hK K
        try simp only [Act.put, List.setIfInBounds_toArray, List.set_cons_zero, List.set_cons_succ]
        refine anyT_take (i := 4) (v := ?ov4rc) (by simp only [List.getElem?_toArray, List.getElem?_cons_succ, List.getElem?_cons_zero]; exact rfl) (by kernel_rfl) (by kernel_rfl) (fun _ _ _ h => h) (by kernel_rfl) (by kernel_rfl) (Or.inl ⟨by rfl, ?oy4rc⟩) (by with_reducible exact HD3.out.1) ?or4rc
        case oy4rc => (intro w hSw; skip; go_simp; try with_reducible rfl)
        try simp only [Act.put, List.setIfInBounds_toArray, List.set_cons_zero, List.set_cons_succ]
        refine anyT_take (i := 5) (v := ?ov5rc) (by simp only [List.getElem?_toArray, List.getElem?_cons_succ, List.getElem?_cons_zero]; exact rfl) (by kernel_rfl) (by kernel_rfl) (fun _ _ _ h => h) (by kernel_rfl) (by kernel_rfl) (Or.inl ⟨by rfl, ?oy5rc⟩) (by with_reducible exact HD3.out.1) ?or5rc
        case oy5rc => (intro w hSw; skip; go_simp; try with_reducible rfl)
        try simp only [Act.put, List.setIfInBounds_toArray, List.set_cons_zero, List.set_cons_succ]
        refine anyT_take (i := 6) (v := ?ov6rc) (by simp only [List.getElem?_toArray, List.getElem?_cons_succ, List.getElem?_cons_zero]; exact rfl) (by kernel_rfl) (by kernel_rfl) (fun _ _ _ h => h) (by kernel_rfl) (by kernel_rfl) (Or.inl ⟨by rfl, ?oy6rc⟩) (by with_reducible exact HD3.out.1) ?or6rc
        case oy6rc => (intro w hSw; skip; go_simp; try with_reducible rfl)
        try simp only [Act.put, List.setIfInBounds_toArray, List.set_cons_zero, List.set_cons_succ]
        refine anyT_one (i := 7) (by kernel_rfl) (by simp only [List.getElem?_toArray, List.getElem?_cons_succ, List.getElem?_cons_zero]; exact rfl) (fun K hK => ?_)
        try go_simp
        rw [zero_state]
        have ka := kept_alloc (kept_refl w7) (.cells (stc (.slice none 0 0) zeroL) 30)
        have HD8 := hide (show Row (w7.alloc (.cells (stc (.slice none 0 0) zeroL) 30)) g9 30 (stc (.slice Ap s.l.length cp) M) ∧ Below w6.heap.size w6 (w7.alloc (.cells (stc (.slice none 0 0) zeroL) 30)) from ⟨HD3.out.1.below ka HD3.out.1.lt, kept_trans HD3.out.2 ka⟩)
        have RZ := hide (Row.new w7 30 (stc (.slice none 0 0) zeroL))
        have OZ := hide (N7.out.offOld (Nat.le_refl _))
        have N8 := hide (N7.out.below ka)
        clear N7
        generalize (w7.alloc (.cells (stc (.slice none 0 0) zeroL) 30)) = w8 at HD8 RZ N8 ⊢
        clear ka
        refine hK.out _ _ (fun e => HD8.out.1) ?_
        clear hK K
        try simp only [Act.put, List.setIfInBounds_toArray, List.set_cons_zero, List.set_cons_succ]
        have HGZ := hide HD3.out.2.size
        refine anyT_one (i := 8) (by kernel_rfl) (by simp only [List.getElem?_toArray, List.getElem?_cons_succ, List.getElem?_cons_zero]; exact rfl) (fun K hK => ?_)
        refine step_store49 (x := .tmp 12) (y := .tmp 37) rfl rfl H17.out RZ.out rfl H87.out ?_
        refine hK.out _ _ (fun e => HD8.out.1.setRow_other (by have := HGZ.out; have := HLTr.out; omega) _) ?_
        clear hK K
        try simp only [Act.put]
        refine anyT_one (i := 9) (by kernel_rfl) (by simp only [List.getElem?_toArray, List.getElem?_cons_succ, List.getElem?_cons_zero]; exact rfl) (fun K hK => ?_)
        try go_simp
        refine hK.out _ _ (fun e => absurd rfl e) ?_
        clear hK K
        refine anyT_done (by kernel_rfl) ?_
        refine NoPanic.normal ?_
        try simp only [Act.put]
        go_wp2
        go_meet
        exact ⟨_, p7, M7, v7, rfl, rfl, hide (RZ.out.setRow _), hide (N8.out.grownOff (setRow_grown _ _ _) OZ.out), hide (below_setRow HD8.out.2 HGZ.out _)⟩
      · skip
        try go_simp
        rw [zero_state]
        have ka := kept_alloc (kept_refl wd) (.cells (stc (.slice none 0 0) zeroL) 30)
        have HD8 := hide (show Row (wd.alloc (.cells (stc (.slice none 0 0) zeroL) 30)) g9 30 (stc (.slice Ap s.l.length cp) M) ∧ Below w6.heap.size w6 (wd.alloc (.cells (stc (.slice none 0 0) zeroL) 30)) from ⟨HD.out.1.below ka HD.out.1.lt, kept_trans HD.out.2 ka⟩)
        have RZ0 := hide (Row.new wd 30 (stc (.slice none 0 0) zeroL))
        generalize (wd.alloc (.cells (stc (.slice none 0 0) zeroL) 30)) = w8 at HD8 RZ0 ⊢
        clear ka
        refine hK.out _ _ (fun e => HD8.out.1) ?_
        clear hK K
        try simp only [Act.put, List.setIfInBounds_toArray, List.set_cons_zero, List.set_cons_succ]
        have HGZ := hide HD.out.2.size
        refine anyT_one (i := 3) (by kernel_rfl) (by simp only [List.getElem?_toArray, List.getElem?_cons_succ, List.getElem?_cons_zero]; exact rfl) (fun K hK => ?_)
        try go_simp
        refine (play_any (.slice Ap s.l.length cp) M s A' m' cc' ds w8 (NS6.out.below HD8.out.2) (HC'.out.below (kept_trans K6.out HD8.out.2)) HCL'.out HU.out.1 LMX.out).mono ?_
        rintro e w7 ⟨p7, M7, v7, R7, rfl, hn7, hr7, hi7, hb7⟩
        have H87 := hide hn7.eight
        have H17 := hide hn7.one
        have HD3 := hide (show Row w7 g9 30 (stc (.slice Ap s.l.length cp) M) ∧ Below w6.heap.size w6 w7 from ⟨HD8.out.1.below hb7 HD8.out.1.lt, kept_trans HD8.out.2 hb7⟩)
        have RZ := hide (RZ0.out.below hb7 RZ0.out.lt)
        have OZ := hide (hn7.offNew RZ0.out.lt)
        have N7 := hide (hn7.mono HD8.out.2.size)
        clear hn7 hr7 hi7 hb7
        refine hK.out _ _ (fun e => HD3.out.1) ?_
        clear hK K
        try simp only [Act.put, List.setIfInBounds_toArray, List.set_cons_zero, List.set_cons_succ]
        refine anyT_take (i := 4) (v := ?ov4rd) (by simp only [List.getElem?_toArray, List.getElem?_cons_succ, List.getElem?_cons_zero]; exact rfl) (by kernel_rfl) (by kernel_rfl) (fun _ _ _ h => h) (by kernel_rfl) (by kernel_rfl) (Or.inl ⟨by rfl, ?oy4rd⟩) (by with_reducible exact HD3.out.1) ?or4rd
        case oy4rd => (intro w hSw; skip; go_simp; try with_reducible rfl)
        try simp only [Act.put, List.setIfInBounds_toArray, List.set_cons_zero, List.set_cons_succ]
        refine anyT_take (i := 5) (v := ?ov5rd) (by simp only [List.getElem?_toArray, List.getElem?_cons_succ, List.getElem?_cons_zero]; exact rfl) (by kernel_rfl) (by kernel_rfl) (fun _ _ _ h => h) (by kernel_rfl) (by kernel_rfl) (Or.inl ⟨by rfl, ?oy5rd⟩) (by with_reducible exact HD3.out.1) ?or5rd
        case oy5rd => (intro w hSw; skip; go_simp; try with_reducible rfl)
        try simp only [Act.put, List.setIfInBounds_toArray, List.set_cons_zero, List.set_cons_succ]
        refine anyT_take (i := 6) (v := ?ov6rd) (by simp only [List.getElem?_toArray, List.getElem?_cons_succ, List.getElem?_cons_zero]; exact rfl) (by kernel_rfl) (by kernel_rfl) (fun _ _ _ h => h) (by kernel_rfl) (by kernel_rfl) (Or.inl ⟨by rfl, ?oy6rd⟩) (by with_reducible exact HD3.out.1) ?or6rd
        case oy6rd => (intro w hSw; skip; go_simp; try with_reducible rfl)
        try simp only [Act.put, List.setIfInBounds_toArray, List.set_cons_zero, List.set_cons_succ]
        refine anyT_one (i := 8) (by kernel_rfl) (by simp only [List.getElem?_toArray, List.getElem?_cons_succ, List.getElem?_cons_zero]; exact rfl) (fun K hK => ?_)
        refine step_store49 (x := .tmp 12) (y := .tmp 37) rfl rfl H17.out RZ.out rfl H87.out ?_
        refine hK.out _ _ (fun e => HD3.out.1.setRow_other (by have := HGZ.out; have := HLTr.out; omega) _) ?_
        clear hK K
        try simp only [Act.put]
        refine anyT_one (i := 9) (by kernel_rfl) (by simp only [List.getElem?_toArray, List.getElem?_cons_succ, List.getElem?_cons_zero]; exact rfl) (fun K hK => ?_)
        try go_simp
        refine hK.out _ _ (fun e => absurd rfl e) ?_
        clear hK K
        refine anyT_done (by kernel_rfl) ?_
        refine NoPanic.normal ?_
        try simp only [Act.put]
        go_wp2
        go_meet
        exact ⟨_, p7, M7, v7, rfl, rfl, hide (RZ.out.setRow _), hide (N7.out.grownOff (setRow_grown _ _ _) OZ.out), hide (below_setRow HD3.out.2 HGZ.out _)⟩
    · skip
      try go_simp
      rw [zero_state]
      have ka := kept_alloc (kept_refl wd) (.cells (stc (.slice none 0 0) zeroL) 30)
      have HD8 := hide (show Row (wd.alloc (.cells (stc (.slice none 0 0) zeroL) 30)) g9 30 (stc (.slice Ap s.l.length cp) M) ∧ Below w6.heap.size w6 (wd.alloc (.cells (stc (.slice none 0 0) zeroL) 30)) from ⟨HD.out.1.below ka HD.out.1.lt, kept_trans HD.out.2 ka⟩)
      have RZ0 := hide (Row.new wd 30 (stc (.slice none 0 0) zeroL))
      generalize (wd.alloc (.cells (stc (.slice none 0 0) zeroL) 30)) = w8 at HD8 RZ0 ⊢
      clear ka
      refine hK.out _ _ (fun e => HD8.out.1) ?_
      clear hK K
      try simp only [Act.put, List.setIfInBounds_toArray, List.set_cons_zero, List.set_cons_succ]
      have HGZ := hide HD.out.2.size
      refine anyT_one (i := 2) (by kernel_rfl) (by simp only [List.getElem?_toArray, List.getElem?_cons_succ, List.getElem?_cons_zero]; exact rfl) (fun K hK => ?_)
      try go_simp
      refine (HSH'.out _).mono ?_
      rintro e x2 ⟨rfl, rfl⟩
      refine hK.out _ _ (fun e => HD8.out.1) ?_
      clear hK K
      try simp only [Act.put, List.setIfInBounds_toArray, List.set_cons_zero, List.set_cons_succ]
      refine anyT_one (i := 3) (by kernel_rfl) (by simp only [List.getElem?_toArray, List.getElem?_cons_succ, List.getElem?_cons_zero]; exact rfl) (fun K hK => ?_)
      try go_simp
      refine (play_any (.slice Ap s.l.length cp) M s A' m' cc' ds w8 (NS6.out.below HD8.out.2) (HC'.out.below (kept_trans K6.out HD8.out.2)) HCL'.out HU.out.1 LMX.out).mono ?_
      rintro e w7 ⟨p7, M7, v7, R7, rfl, hn7, hr7, hi7, hb7⟩
      have H87 := hide hn7.eight
      have H17 := hide hn7.one
      have HD3 := hide (show Row w7 g9 30 (stc (.slice Ap s.l.length cp) M) ∧ Below w6.heap.size w6 w7 from ⟨HD8.out.1.below hb7 HD8.out.1.lt, kept_trans HD8.out.2 hb7⟩)
      have RZ := hide (RZ0.out.below hb7 RZ0.out.lt)
      have OZ := hide (hn7.offNew RZ0.out.lt)
      have N7 := hide (hn7.mono HD8.out.2.size)
      clear hn7 hr7 hi7 hb7
      refine hK.out _ _ (fun e => HD3.out.1) ?_
      clear hK K
      try simp only [Act.put, List.setIfInBounds_toArray, List.set_cons_zero, List.set_cons_succ]
      refine anyT_take (i := 4) (v := ?ov4re) (by simp only [List.getElem?_toArray, List.getElem?_cons_succ, List.getElem?_cons_zero]; exact rfl) (by kernel_rfl) (by kernel_rfl) (fun _ _ _ h => h) (by kernel_rfl) (by kernel_rfl) (Or.inl ⟨by rfl, ?oy4re⟩) (by with_reducible exact HD3.out.1) ?or4re
      case oy4re => (intro w hSw; skip; go_simp; try with_reducible rfl)
      try simp only [Act.put, List.setIfInBounds_toArray, List.set_cons_zero, List.set_cons_succ]
      refine anyT_take (i := 5) (v := ?ov5re) (by simp only [List.getElem?_toArray, List.getElem?_cons_succ, List.getElem?_cons_zero]; exact rfl) (by kernel_rfl) (by kernel_rfl) (fun _ _ _ h => h) (by kernel_rfl) (by kernel_rfl) (Or.inl ⟨by rfl, ?oy5re⟩) (by with_reducible exact HD3.out.1) ?or5re
      case oy5re => (intro w hSw; skip; go_simp; try with_reducible rfl)
      try simp only [Act.put, List.setIfInBounds_toArray, List.set_cons_zero, List.set_cons_succ]
      refine anyT_take (i := 6) (v := ?ov6re) (by simp only [List.getElem?_toArray, List.getElem?_cons_succ, List.getElem?_cons_zero]; exact rfl) (by kernel_rfl) (by kernel_rfl) (fun _ _ _ h => h) (by kernel_rfl) (by kernel_rfl) (Or.inl ⟨by rfl, ?oy6re⟩) (by with_reducible exact HD3.out.1) ?or6re
      case oy6re => (intro w hSw; skip; go_simp; try with_reducible rfl)
      try simp only [Act.put, List.setIfInBounds_toArray, List.set_cons_zero, List.set_cons_succ]
      refine anyT_one (i := 8) (by kernel_rfl) (by simp only [List.getElem?_toArray, List.getElem?_cons_succ, List.getElem?_cons_zero]; exact rfl) (fun K hK => ?_)
      refine step_store49 (x := .tmp 12) (y := .tmp 37) rfl rfl H17.out RZ.out rfl H87.out ?_
      refine hK.out _ _ (fun e => HD3.out.1.setRow_other (by have := HGZ.out; have := HLTr.out; omega) _) ?_
      clear hK K
      try simp only [Act.put]
      refine anyT_one (i := 9) (by kernel_rfl) (by simp only [List.getElem?_toArray, List.getElem?_cons_succ, List.getElem?_cons_zero]; exact rfl) (fun K hK => ?_)
      try go_simp
      refine hK.out _ _ (fun e => absurd rfl e) ?_
      clear hK K
      refine anyT_done (by kernel_rfl) ?_
      refine NoPanic.normal ?_
      try simp only [Act.put]
      go_wp2
      go_meet
      exact ⟨_, p7, M7, v7, rfl, rfl, hide (RZ.out.setRow _), hide (N7.out.grownOff (setRow_grown _ _ _) OZ.out), hide (below_setRow HD3.out.2 HGZ.out _)⟩
  case rest =>
    obtain ⟨gz, p7, M7, v7, rfl, rfl, HR7, HN7, HB7⟩ := hcut
    obtain ⟨wA, hwA⟩ : ∃ x, x = wc := ⟨_, rfl⟩
    subst hwA
    have KA := hide (kept_trans K6.out HB7.out)
    have RTA := hide (RT6.out.below HB7.out RT6.out.lt)
    have NSA := hide (NS6.out.below HB7.out)
    have R5A := hide (R56.out.below HB7.out R56.out.lt)
    have N5A := hide (N56.out.below HB7.out)
    have N7A := hide HN7.out.isS
    have H87 := hide HN7.out.eight
    clear K6 RT6 NS6 R56 N56 HN7 HB7
    go_upto_region 5 with (fail)
    go_cut [14, 15] from 39 to 45 (fun s14 s15 wx => ∃ (gy : Nat) (p7 : Value) (M7 : List Co) (v7 : Value), s14 = .pointer (some ⟨gy, 0, none⟩) ∧ s15 = v7 ∧ Hid (Row wx gy 30 (stc p7 M7)) ∧ Hid (NewS wA.heap.size wx p7 M7 (playP s ds).1) ∧ Hid (Below wA.heap.size wA wx))
    case first =>
      clear H87
      refine wp_region_noPanic ?_
      refine wp_region_T 9 (fun w' => Row w' g5 30 (stc p5 M5)) (by kernel_rfl) ?_
      have HD := hide (show Row (World.drew wA) g5 30 (stc p5 M5) ∧ Below wA.heap.size wA (World.drew wA) from ⟨R5A.out.drewN 1, kept_drewN (kept_refl wA) 1⟩)
      generalize World.drew _ = wd at HD ⊢
      refine anyT_take (i := 0) (v := .agg (stc p5 M5)) (by simp only [List.getElem?_toArray, List.getElem?_cons_zero]; exact rfl) (by kernel_rfl) (by kernel_rfl) (fun _ _ _ h => h) (by kernel_rfl) (by kernel_rfl) (yields_load49 (x := .tmp 10) (by rfl) (by rfl) (by rfl) H85.out (fun _ h => h)) (by with_reducible exact HD.out.1) ?_
      try simp only [Act.put, List.setIfInBounds_toArray, List.set_cons_zero, List.set_cons_succ]
      refine anyT_take (i := 1) (v := ?ov1qa) (by simp only [List.getElem?_toArray, List.getElem?_cons_succ, List.getElem?_cons_zero]; exact rfl) (by kernel_rfl) (by kernel_rfl) (fun _ _ _ h => h) (by kernel_rfl) (by kernel_rfl) (Or.inl ⟨by rfl, ?oy1qa⟩) (by with_reducible exact HD.out.1) ?or1qa
      case oy1qa => (intro w hSw; skip; go_simp; try with_reducible rfl)
      try simp only [Act.put, List.setIfInBounds_toArray, List.set_cons_zero, List.set_cons_succ]
      have HLTq := hide R5A.out.lt
      refine anyT_two (i := 2) (j := 7) (by kernel_rfl) (by simp only [List.getElem?_toArray, List.getElem?_cons_succ, List.getElem?_cons_zero]; exact rfl) (by simp only [List.getElem?_toArray, List.getElem?_cons_succ, List.getElem?_cons_zero]; exact rfl) (fun K hK => ?_) (fun K hK => ?_)
      · skip
        try go_simp
        refine (HSH'.out _).mono ?_
        rintro e x2 ⟨rfl, rfl⟩
        refine hK.out _ _ (fun e => HD.out.1) ?_
        clear hK K
        try simp only [Act.put, List.setIfInBounds_toArray, List.set_cons_zero, List.set_cons_succ]
        refine anyT_two (i := 3) (j := 7) (by kernel_rfl) (by simp only [List.getElem?_toArray, List.getElem?_cons_succ, List.getElem?_cons_zero]; exact rfl) (by simp only [List.getElem?_toArray, List.getElem?_cons_succ, List.getElem?_cons_zero]; exact rfl) (fun K hK => ?_) (fun K hK => ?_)
        · skip
          try go_simp
          refine (play_any p5 M5 s A' m' cc' ds wd (N5A.out.below HD.out.2) (HC'.out.below (kept_trans KA.out HD.out.2)) HCL'.out HU.out.1 LMX.out).mono ?_
          rintro e w7 ⟨p7, M7, v7, R7, rfl, hn7, hr7, hi7, hb7⟩
          have H87 := hide hn7.eight
          have H17 := hide hn7.one
          have HD3 := hide (show Row w7 g5 30 (stc p5 M5) ∧ Below wA.heap.size wA w7 from ⟨HD.out.1.below hb7 HD.out.1.lt, kept_trans HD.out.2 hb7⟩)
          have N7 := hide (hn7.mono HD.out.2.size)
          clear hn7 hr7 hi7 hb7
          refine hK.out _ _ (fun e => HD3.out.1) ?_
          clear hK K
          try simp only [Act.put, List.setIfInBounds_toArray, List.set_cons_zero, List.set_cons_succ]
          refine anyT_take (i := 4) (v := ?ov4qc) (by simp only [List.getElem?_toArray, List.getElem?_cons_succ, List.getElem?_cons_zero]; exact rfl) (by kernel_rfl) (by kernel_rfl) (fun _ _ _ h => h) (by kernel_rfl) (by kernel_rfl) (Or.inl ⟨by rfl, ?oy4qc⟩) (by with_reducible exact HD3.out.1) ?or4qc
          case oy4qc => (intro w hSw; skip; go_simp; try with_reducible rfl)
          try simp only [Act.put, List.setIfInBounds_toArray, List.set_cons_zero, List.set_cons_succ]
          refine anyT_take (i := 5) (v := ?ov5qc) (by simp only [List.getElem?_toArray, List.getElem?_cons_succ, List.getElem?_cons_zero]; exact rfl) (by kernel_rfl) (by kernel_rfl) (fun _ _ _ h => h) (by kernel_rfl) (by kernel_rfl) (Or.inl ⟨by rfl, ?oy5qc⟩) (by with_reducible exact HD3.out.1) ?or5qc
          case oy5qc => (intro w hSw; skip; go_simp; try with_reducible rfl)
          try simp only [Act.put, List.setIfInBounds_toArray, List.set_cons_zero, List.set_cons_succ]
          refine anyT_take (i := 6) (v := ?ov6qc) (by simp only [List.getElem?_toArray, List.getElem?_cons_succ, List.getElem?_cons_zero]; exact rfl) (by kernel_rfl) (by kernel_rfl) (fun _ _ _ h => h) (by kernel_rfl) (by kernel_rfl) (Or.inl ⟨by rfl, ?oy6qc⟩) (by with_reducible exact HD3.out.1) ?or6qc
          case oy6qc => (intro w hSw; skip; go_simp; try with_reducible rfl)
          try simp only [Act.put, List.setIfInBounds_toArray, List.set_cons_zero, List.set_cons_succ]
          refine anyT_one (i := 7) (by kernel_rfl) (by simp only [List.getElem?_toArray, List.getElem?_cons_succ, List.getElem?_cons_zero]; exact rfl) (fun K hK => ?_)
          try go_simp
          rw [zero_state]
          have ka := kept_alloc (kept_refl w7) (.cells (stc (.slice none 0 0) zeroL) 30)
          have HD8 := hide (show Row (w7.alloc (.cells (stc (.slice none 0 0) zeroL) 30)) g5 30 (stc p5 M5) ∧ Below wA.heap.size wA (w7.alloc (.cells (stc (.slice none 0 0) zeroL) 30)) from ⟨HD3.out.1.below ka HD3.out.1.lt, kept_trans HD3.out.2 ka⟩)
          have RZ := hide (Row.new w7 30 (stc (.slice none 0 0) zeroL))
          have OZ := hide (N7.out.offOld (Nat.le_refl _))
          have N8 := hide (N7.out.below ka)
          clear N7
          generalize (w7.alloc (.cells (stc (.slice none 0 0) zeroL) 30)) = w8 at HD8 RZ N8 ⊢
          clear ka
          refine hK.out _ _ (fun e => HD8.out.1) ?_
          clear hK K
          try simp only [Act.put, List.setIfInBounds_toArray, List.set_cons_zero, List.set_cons_succ]
          have HGZ := hide HD3.out.2.size
          refine anyT_one (i := 8) (by kernel_rfl) (by simp only [List.getElem?_toArray, List.getElem?_cons_succ, List.getElem?_cons_zero]; exact rfl) (fun K hK => ?_)
          refine step_store49 (x := .tmp 14) (y := .tmp 44) rfl rfl H17.out RZ.out rfl H87.out ?_
          refine hK.out _ _ (fun e => HD8.out.1.setRow_other (by have := HGZ.out; have := HLTq.out; omega) _) ?_
          clear hK K
          try simp only [Act.put]
          refine anyT_one (i := 9) (by kernel_rfl) (by simp only [List.getElem?_toArray, List.getElem?_cons_succ, List.getElem?_cons_zero]; exact rfl) (fun K hK => ?_)
          try go_simp
          refine hK.out _ _ (fun e => absurd rfl e) ?_
          clear hK K
          refine anyT_done (by kernel_rfl) ?_
          refine NoPanic.normal ?_
          try simp only [Act.put]
          go_wp2
          go_meet
          exact ⟨_, p7, M7, v7, rfl, rfl, hide (RZ.out.setRow _), hide (N8.out.grownOff (setRow_grown _ _ _) OZ.out), hide (below_setRow HD8.out.2 HGZ.out _)⟩
        · skip
          try go_simp
          rw [zero_state]
          have ka := kept_alloc (kept_refl wd) (.cells (stc (.slice none 0 0) zeroL) 30)
          have HD8 := hide (show Row (wd.alloc (.cells (stc (.slice none 0 0) zeroL) 30)) g5 30 (stc p5 M5) ∧ Below wA.heap.size wA (wd.alloc (.cells (stc (.slice none 0 0) zeroL) 30)) from ⟨HD.out.1.below ka HD.out.1.lt, kept_trans HD.out.2 ka⟩)
          have RZ0 := hide (Row.new wd 30 (stc (.slice none 0 0) zeroL))
          generalize (wd.alloc (.cells (stc (.slice none 0 0) zeroL) 30)) = w8 at HD8 RZ0 ⊢
          clear ka
          refine hK.out _ _ (fun e => HD8.out.1) ?_
          clear hK K
          try simp only [Act.put, List.setIfInBounds_toArray, List.set_cons_zero, List.set_cons_succ]
          have HGZ := hide HD.out.2.size
          refine anyT_one (i := 3) (by kernel_rfl) (by simp only [List.getElem?_toArray, List.getElem?_cons_succ, List.getElem?_cons_zero]; exact rfl) (fun K hK => ?_)
          try go_simp
          refine (play_any p5 M5 s A' m' cc' ds w8 (N5A.out.below HD8.out.2) (HC'.out.below (kept_trans KA.out HD8.out.2)) HCL'.out HU.out.1 LMX.out).mono ?_
          rintro e w7 ⟨p7, M7, v7, R7, rfl, hn7, hr7, hi7, hb7⟩
          have H87 := hide hn7.eight
          have H17 := hide hn7.one
          have HD3 := hide (show Row w7 g5 30 (stc p5 M5) ∧ Below wA.heap.size wA w7 from ⟨HD8.out.1.below hb7 HD8.out.1.lt, kept_trans HD8.out.2 hb7⟩)
          have RZ := hide (RZ0.out.below hb7 RZ0.out.lt)
          have OZ := hide (hn7.offNew RZ0.out.lt)
          have N7 := hide (hn7.mono HD8.out.2.size)
          clear hn7 hr7 hi7 hb7
          refine hK.out _ _ (fun e => HD3.out.1) ?_
          clear hK K
          try simp only [Act.put, List.setIfInBounds_toArray, List.set_cons_zero, List.set_cons_succ]
          refine anyT_take (i := 4) (v := ?ov4qd) (by simp only [List.getElem?_toArray, List.getElem?_cons_succ, List.getElem?_cons_zero]; exact rfl) (by kernel_rfl) (by kernel_rfl) (fun _ _ _ h => h) (by kernel_rfl) (by kernel_rfl) (Or.inl ⟨by rfl, ?oy4qd⟩) (by with_reducible exact HD3.out.1) ?or4qd
          case oy4qd => (intro w hSw; skip; go_simp; try with_reducible rfl)
          try simp only [Act.put, List.setIfInBounds_toArray, List.set_cons_zero, List.set_cons_succ]
          refine anyT_take (i := 5) (v := ?ov5qd) (by simp only [List.getElem?_toArray, List.getElem?_cons_succ, List.getElem?_cons_zero]; exact rfl) (by kernel_rfl) (by kernel_rfl) (fun _ _ _ h => h) (by kernel_rfl) (by kernel_rfl) (Or.inl ⟨by rfl, ?oy5qd⟩) (by with_reducible exact HD3.out.1) ?or5qd
          case oy5qd => (intro w hSw; skip; go_simp; try with_reducible rfl)
          try simp only [Act.put, List.setIfInBounds_toArray, List.set_cons_zero, List.set_cons_succ]
          refine anyT_take (i := 6) (v := ?ov6qd) (by simp only [List.getElem?_toArray, List.getElem?_cons_succ, List.getElem?_cons_zero]; exact rfl) (by kernel_rfl) (by kernel_rfl) (fun _ _ _ h => h) (by kernel_rfl) (by kernel_rfl) (Or.inl ⟨by rfl, ?oy6qd⟩) (by with_reducible exact HD3.out.1) ?or6qd
          case oy6qd => (intro w hSw; skip; go_simp; try with_reducible rfl)
          try simp only [Act.put, List.setIfInBounds_toArray, List.set_cons_zero, List.set_cons_succ]
          refine anyT_one (i := 8) (by kernel_rfl) (by simp only [List.getElem?_toArray, List.getElem?_cons_succ, List.getElem?_cons_zero]; exact rfl) (fun K hK => ?_)
          refine step_store49 (x := .tmp 14) (y := .tmp 44) rfl rfl H17.out RZ.out rfl H87.out ?_
          refine hK.out _ _ (fun e => HD3.out.1.setRow_other (by have := HGZ.out; have := HLTq.out; omega) _) ?_
          clear hK K
          try simp only [Act.put]
          refine anyT_one (i := 9) (by kernel_rfl) (by simp only [List.getElem?_toArray, List.getElem?_cons_succ, List.getElem?_cons_zero]; exact rfl) (fun K hK => ?_)
          try go_simp
          refine hK.out _ _ (fun e => absurd rfl e) ?_
          clear hK K
          refine anyT_done (by kernel_rfl) ?_
          refine NoPanic.normal ?_
          try simp only [Act.put]
          go_wp2
          go_meet
          exact ⟨_, p7, M7, v7, rfl, rfl, hide (RZ.out.setRow _), hide (N7.out.grownOff (setRow_grown _ _ _) OZ.out), hide (below_setRow HD3.out.2 HGZ.out _)⟩
      · skip
        try go_simp
        rw [zero_state]
        have ka := kept_alloc (kept_refl wd) (.cells (stc (.slice none 0 0) zeroL) 30)
        have HD8 := hide (show Row (wd.alloc (.cells (stc (.slice none 0 0) zeroL) 30)) g5 30 (stc p5 M5) ∧ Below wA.heap.size wA (wd.alloc (.cells (stc (.slice none 0 0) zeroL) 30)) from ⟨HD.out.1.below ka HD.out.1.lt, kept_trans HD.out.2 ka⟩)
        have RZ0 := hide (Row.new wd 30 (stc (.slice none 0 0) zeroL))
        generalize (wd.alloc (.cells (stc (.slice none 0 0) zeroL) 30)) = w8 at HD8 RZ0 ⊢
        clear ka
        refine hK.out _ _ (fun e => HD8.out.1) ?_
        clear hK K
        try simp only [Act.put, List.setIfInBounds_toArray, List.set_cons_zero, List.set_cons_succ]
        have HGZ := hide HD.out.2.size
        refine anyT_one (i := 2) (by kernel_rfl) (by simp only [List.getElem?_toArray, List.getElem?_cons_succ, List.getElem?_cons_zero]; exact rfl) (fun K hK => ?_)
        try go_simp
        refine (HSH'.out _).mono ?_
        rintro e x2 ⟨rfl, rfl⟩
        refine hK.out _ _ (fun e => HD8.out.1) ?_
        clear hK K
        try simp only [Act.put, List.setIfInBounds_toArray, List.set_cons_zero, List.set_cons_succ]
        refine anyT_one (i := 3) (by kernel_rfl) (by simp only [List.getElem?_toArray, List.getElem?_cons_succ, List.getElem?_cons_zero]; exact rfl) (fun K hK => ?_)
        try go_simp
        refine (play_any p5 M5 s A' m' cc' ds w8 (N5A.out.below HD8.out.2) (HC'.out.below (kept_trans KA.out HD8.out.2)) HCL'.out HU.out.1 LMX.out).mono ?_
        rintro e w7 ⟨p7, M7, v7, R7, rfl, hn7, hr7, hi7, hb7⟩
        have H87 := hide hn7.eight
        have H17 := hide hn7.one
        have HD3 := hide (show Row w7 g5 30 (stc p5 M5) ∧ Below wA.heap.size wA w7 from ⟨HD8.out.1.below hb7 HD8.out.1.lt, kept_trans HD8.out.2 hb7⟩)
        have RZ := hide (RZ0.out.below hb7 RZ0.out.lt)
        have OZ := hide (hn7.offNew RZ0.out.lt)
        have N7 := hide (hn7.mono HD8.out.2.size)
        clear hn7 hr7 hi7 hb7
        refine hK.out _ _ (fun e => HD3.out.1) ?_
        clear hK K
        try simp only [Act.put, List.setIfInBounds_toArray, List.set_cons_zero, List.set_cons_succ]
        refine anyT_take (i := 4) (v := ?ov4qe) (by simp only [List.getElem?_toArray, List.getElem?_cons_succ, List.getElem?_cons_zero]; exact rfl) (by kernel_rfl) (by kernel_rfl) (fun _ _ _ h => h) (by kernel_rfl) (by kernel_rfl) (Or.inl ⟨by rfl, ?oy4qe⟩) (by with_reducible exact HD3.out.1) ?or4qe
        case oy4qe => (intro w hSw; skip; go_simp; try with_reducible rfl)
        try simp only [Act.put, List.setIfInBounds_toArray, List.set_cons_zero, List.set_cons_succ]
        refine anyT_take (i := 5) (v := ?ov5qe) (by simp only [List.getElem?_toArray, List.getElem?_cons_succ, List.getElem?_cons_zero]; exact rfl) (by kernel_rfl) (by kernel_rfl) (fun _ _ _ h => h) (by kernel_rfl) (by kernel_rfl) (Or.inl ⟨by rfl, ?oy5qe⟩) (by with_reducible exact HD3.out.1) ?or5qe
        case oy5qe => (intro w hSw; skip; go_simp; try with_reducible rfl)
        try simp only [Act.put, List.setIfInBounds_toArray, List.set_cons_zero, List.set_cons_succ]
        refine anyT_take (i := 6) (v := ?ov6qe) (by simp only [List.getElem?_toArray, List.getElem?_cons_succ, List.getElem?_cons_zero]; exact rfl) (by kernel_rfl) (by kernel_rfl) (fun _ _ _ h => h) (by kernel_rfl) (by kernel_rfl) (Or.inl ⟨by rfl, ?oy6qe⟩) (by with_reducible exact HD3.out.1) ?or6qe
        case oy6qe => (intro w hSw; skip; go_simp; try with_reducible rfl)
        try simp only [Act.put, List.setIfInBounds_toArray, List.set_cons_zero, List.set_cons_succ]
        refine anyT_one (i := 8) (by kernel_rfl) (by simp only [List.getElem?_toArray, List.getElem?_cons_succ, List.getElem?_cons_zero]; exact rfl) (fun K hK => ?_)
        refine step_store49 (x := .tmp 14) (y := .tmp 44) rfl rfl H17.out RZ.out rfl H87.out ?_
        refine hK.out _ _ (fun e => HD3.out.1.setRow_other (by have := HGZ.out; have := HLTq.out; omega) _) ?_
        clear hK K
        try simp only [Act.put]
        refine anyT_one (i := 9) (by kernel_rfl) (by simp only [List.getElem?_toArray, List.getElem?_cons_succ, List.getElem?_cons_zero]; exact rfl) (fun K hK => ?_)
        try go_simp
        refine hK.out _ _ (fun e => absurd rfl e) ?_
        clear hK K
        refine anyT_done (by kernel_rfl) ?_
        refine NoPanic.normal ?_
        try simp only [Act.put]
        go_wp2
        go_meet
        exact ⟨_, p7, M7, v7, rfl, rfl, hide (RZ.out.setRow _), hide (N7.out.grownOff (setRow_grown _ _ _) OZ.out), hide (below_setRow HD3.out.2 HGZ.out _)⟩
    case rest =>
      obtain ⟨gy, p9, M9, v9, rfl, rfl, HR9, HN9, HB9⟩ := hcut
      obtain ⟨wB, hwB⟩ : ∃ x, x = wc := ⟨_, rfl⟩
      subst hwB
      have KB := hide (kept_trans KA.out HB9.out)
      have RTB := hide (RTA.out.below HB9.out RTA.out.lt)
      have NSB := hide (NSA.out.below HB9.out)
      have R5B := hide (R5A.out.below HB9.out R5A.out.lt)
      have N5B := hide (N5A.out.below HB9.out)
      have R7B := hide (HR7.out.below HB9.out HR7.out.lt)
      have N7B := hide (N7A.out.below HB9.out)
      have N9B := hide HN9.out.isS
      have H89 := hide HN9.out.eight
      clear KA RTA NSA R5A N5A N7A HR7 HN9 HB9
      have HGC := hide (HGB.out wB KB.out)
      obtain ⟨D, hD⟩ : ∃ D, decS zb = D := ⟨_, rfl⟩
      unfold AnsG at HGC
      rw [hD] at HGC
      obtain ⟨z, f⟩ := D
      dsimp only at HGC
      have HDZ := hide hD
      clear hD HGB
      go_upto_region 7 with (first
        | (go_at_call 30; (with_reducible refine HGC.out.mono ?_); rintro e wg ⟨pz, Mz, rfl, hnz, hbz⟩; have H8z := hide hnz.eight; have H1z := hide hnz.one)
        | ((with_reducible refine wpList_store49n ?_ ?_ H1z.out H8z.out ?_); rfl; rfl))
      have ka := kept_alloc (kept_refl wg) (.cells (stc pz Mz) 30)
      have kb := kept_trans hbz ka
      have KC := hide (kept_trans KB.out kb)
      have RTC := hide (RTB.out.below kb RTB.out.lt)
      have NSC := hide (NSB.out.below kb)
      have R5C := hide (R5B.out.below kb R5B.out.lt)
      have N5C := hide (N5B.out.below kb)
      have R7C := hide (R7B.out.below kb R7B.out.lt)
      have N7C := hide (N7B.out.below kb)
      have R9C := hide (HR9.out.below kb HR9.out.lt)
      have N9C := hide (N9B.out.below kb)
      have RZC := hide (Row.new wg 30 (stc pz Mz))
      have NZC := hide (hnz.below ka).isS
      clear hnz hbz ka kb KB RTB NSB R5B N5B R7B N7B HR9 N9B HGC H1z
      generalize wg.alloc (.cells (stc pz Mz) 30) = wC at KC RTC NSC R5C N5C R7C N7C R9C N9C RZC NZC ⊢
      generalize wg.heap.size = gw at RZC ⊢
      have HS1 := hide (fun wq (hq : Below wC.heap.size wC wq) => show Calls Try.prog 19 #[.agg (stc (.slice Ap s.l.length cp) M), .agg (stc p5 M5)] wq (fun e w' => e = .returned (.bool true) ∧ Below wq.heap.size wq w') from by
        have h := ssame_any (.slice Ap s.l.length cp) p5 M M5 s s wq (NSC.out.below hq) (N5C.out.below hq)
        rw [(eqS_iff _ _).2 rfl] at h
        exact h)
      have HS2 := hide (fun wq (hq : Below wC.heap.size wC wq) => show Calls Try.prog 19 #[.agg (stc p7 M7), .agg (stc p9 M9)] wq (fun e w' => e = .returned (.bool true) ∧ Below wq.heap.size wq w') from by
        have h := ssame_any p7 p9 M7 M9 (playP s ds).1 (playP s ds).1 wq (N7C.out.below hq) (N9C.out.below hq)
        rw [(eqS_iff _ _).2 rfl] at h
        exact h)
      by_cases hf : f = 0
      · subst hf
        have HSBK := hide (state_back HSB.out.oct HDZ.out)
        have HPZ := hide (fun wq (hq : Below wC.heap.size wC wq) => show Calls Try.prog 22 #[.agg (stc pz Mz)] wq (MadeB wq zb) from by
          have h := putS_any pz Mz z wq (NZC.out.below hq) HSBK.out.2.2.1
          rw [HSBK.out.1] at h
          exact h)
        have HSS := hide (fun (Au : Option Addr) (cu : Nat) (wq : World) (hq : Below wC.heap.size wC wq) (hl : Lies wq Au zb) => show Calls Try.prog 23 #[.slice Au zb.length cu, .slice Ab nb cb] wq (fun e w' => e = .returned (.bool true) ∧ Below wq.heap.size wq w') from by
          have h := same_any Au Ab zb.length nb cu cb zb zb wq rfl HSB.out.len hl (HSB.out.lies.below (kept_trans KC.out hq)) (by have := HSB.out.len; have := HSB.out.le; have := HSB.out.room; omega) (by have := HSB.out.le; have := HSB.out.room; omega)
          rw [decide_eq_true rfl] at h
          exact h.mono fun _ _ ⟨he, nd, hd⟩ => ⟨he, by rw [hd]; exact kept_drewN (kept_refl wq) nd⟩)
        go_wp2_with (first
          | ((with_reducible refine wpList_load49g ?_ ?_ RTC.out H8.out ?_); rfl; rfl)
          | ((with_reducible refine wpList_load49g ?_ ?_ R5C.out H85.out ?_); rfl; rfl)
          | ((with_reducible refine wpList_load49g ?_ ?_ R7D.out H87.out ?_); rfl; rfl)
          | ((with_reducible refine wpList_load49g ?_ ?_ R9D.out H89.out ?_); rfl; rfl)
          | ((with_reducible refine wpList_load49g ?_ ?_ RZE.out H8z.out ?_); rfl; rfl)
          | (go_at_call 19; (with_reducible refine (HS1.out _ (kept_refl wC)).mono ?_); rintro e x5 ⟨rfl, hb5⟩; have HB5 := hide hb5; have R7D := hide (R7C.out.below hb5 R7C.out.lt); have R9D := hide (R9C.out.below hb5 R9C.out.lt); have RZD := hide (RZC.out.below hb5 RZC.out.lt); clear hb5)
          | (go_at_call 19; (with_reducible refine (HS2.out _ HB5.out).mono ?_); rintro e x10 ⟨rfl, hb10⟩; have HB10 := hide (kept_trans HB5.out hb10); have RZE := hide (RZD.out.below hb10 RZD.out.lt); clear hb10)
          | (go_at_call 22; (with_reducible refine (HPZ.out _ HB10.out).mono ?_); rintro e x17 ⟨u, rfl, hu, hb17⟩; obtain ⟨Au, cu, eu, _, _, _, hl⟩ := hu.form; subst eu; have HB17 := hide (kept_trans HB10.out hb17); have HSB2 := hide (HSS.out Au cu x17 HB17.out hl); clear hu hl hb17)
          | (go_at_call 23; (with_reducible refine HSB2.out.mono ?_); rintro e x19 ⟨rfl, hb19⟩; have HB19 := hide (kept_trans HB17.out hb19); clear hb19)
          | (go_at_call 3; (with_reducible refine (RUN.out _).mono ?_); rintro e x23 ⟨rfl, hb23⟩))
        go_ret
        exact ⟨rfl, kept_trans KC.out (kept_trans HB19.out hb23)⟩
      · have hne : (f != 0) = true := by simpa using hf
        have hne2 : (f == 0) = false := by simpa using hf
        clear hf
        go_wp2_with (first
          | ((with_reducible refine wpList_load49g ?_ ?_ RTC.out H8.out ?_); rfl; rfl)
          | ((with_reducible refine wpList_load49g ?_ ?_ R5C.out H85.out ?_); rfl; rfl)
          | ((with_reducible refine wpList_load49g ?_ ?_ R7D.out H87.out ?_); rfl; rfl)
          | ((with_reducible refine wpList_load49g ?_ ?_ R9D.out H89.out ?_); rfl; rfl)
          | (go_at_call 19; (with_reducible refine (HS1.out _ (kept_refl wC)).mono ?_); rintro e x5 ⟨rfl, hb5⟩; have HB5 := hide hb5; have R7D := hide (R7C.out.below hb5 R7C.out.lt); have R9D := hide (R9C.out.below hb5 R9C.out.lt); clear hb5)
          | (go_at_call 19; (with_reducible refine (HS2.out _ HB5.out).mono ?_); rintro e x10 ⟨rfl, hb10⟩; have HB10 := hide (kept_trans HB5.out hb10); clear hb10)
          | (go_at_call 3; (with_reducible refine (RUN.out _).mono ?_); rintro e x23 ⟨rfl, hb23⟩))
        go_ret
        exact ⟨rfl, kept_trans KC.out (kept_trans HB10.out hb23)⟩
set_option maxRecDepth 100000 in
theorem lifted (os : Os) (started : os.Started) (H : Type) (enc : TypeId × Value → H) :
    ReturnsInHanded {} Try.checked os 8 .any (Rows.stateBackSpec.pre6 enc Try.prog Try.f8 Rows.stateBackRow.domain false) (Rows.stateBackSpec.post enc Try.prog Try.f8 false true false false) := by
  refine returnsInHanded_of_change_sized (C := Try.checked) own started (by kernel_rfl) Try.func8
    (ChangeSpec.witness6 (enc := enc) (C := Try.checked) false ⟨#[], #[.slice none 0 0, .slice none 0 0, .slice none 0 0], []⟩ 8 (by kernel_rfl) (by kernel_rfl) (by kernel_rfl) (by kernel_rfl)) ?_
  intro W base args ds gs before hval0 hW _ hsz0 _
  have hval : ∀ (j : Nat) t v, Try.f8.params[j]? = some t → args[j]? = some v → Value.okWide Try.prog W .any base t v := hval0
  have hW' := hW
  obtain ⟨p, q, hA0, hV, rfl, _, _⟩ := hW
  have hA : DataW.TrodAll enc Try.prog W 0 (fun _ => true) true Try.f8.params.toList args.toList ds p := hA0
  have hsz : (DataW.weightsEach Try.prog (Try.f8.params.toList ++ Rows.stateBackSpec.plain.varTypes Try.prog) (ds ++ gs)).all (· ≤ reachBytes) = true := hsz0
  rw [Try.params8] at hA hval hsz
  obtain ⟨v0, vs0, d0, ds0, p0, q0, hargs, rfl, rfl, h0, r0⟩ := trodAll_cons hA
  obtain ⟨v1, vs1, d1, ds1, p1, q1, rfl, rfl, rfl, h1, r1⟩ := trodAll_cons r0
  obtain ⟨v2, vs2, d2, ds2, p2, q2, rfl, rfl, rfl, h2, r2⟩ := trodAll_cons r1
  obtain ⟨rfl, rfl, rfl⟩ := trodAll_nil r2
  obtain rfl : args = #[v0, v1, v2] := by cases args; simp_all
  obtain ⟨rfl, rfl⟩ := trodVars_none hV
  have k0 := h0
  have lt0 : ∀ x ∈ p0, x.block < W.heap.size := by obtain ⟨m, hm⟩ := k0; exact DataW.trod_lt m _ _ _ hm
  obtain ⟨A0, n0, c0, rfl⟩ := okWide_slice Try.underlying39 (hval 0 39 v0 rfl rfl)
  obtain ⟨z0, s0⟩ := cmds_in (j := 0) h0 hsz rfl rfl
  have k1 := h1
  have lt1 : ∀ x ∈ p1, x.block < W.heap.size := by obtain ⟨m, hm⟩ := k1; exact DataW.trod_lt m _ _ _ hm
  obtain ⟨A1, n1, c1, rfl⟩ := okWide_slice Try.underlying39 (hval 1 39 v1 rfl rfl)
  obtain ⟨z1, s1⟩ := cmds_in (j := 1) h1 hsz rfl rfl
  have k2 := h2
  have lt2 : ∀ x ∈ p2, x.block < W.heap.size := by obtain ⟨m, hm⟩ := k2; exact DataW.trod_lt m _ _ _ hm
  obtain ⟨A2, n2, c2, rfl⟩ := okWide_slice Try.underlying49 (hval 2 49 v2 rfl rfl)
  obtain ⟨z2, s2⟩ := slice_in (j := 2) h2 hsz rfl rfl
  clear hA0 hval0
  refine (walk A0 n0 c0 z0 A1 n1 c1 z1 A2 n2 c2 z2 W s0 s1 s2).mono fun e W' ⟨he, bel⟩ => ?_
  subst he
  exact ⟨_, rfl, _, _, _, [], _, [], hW', trodAll_mk1 (shut_bool Try.underlying4 _), (trodAll_cons_mk (Below.trod laidOut (by kernel_rfl) (of_decide_eq_true (by kernel_rfl)) k0 bel lt0) (trodAll_cons_mk (Below.trod laidOut (by kernel_rfl) (of_decide_eq_true (by kernel_rfl)) k1 bel lt1) (trodAll_cons_mk (Below.trod laidOut (by kernel_rfl) (of_decide_eq_true (by kernel_rfl)) k2 bel lt2) trodAll_mk0))), rfl, bel.frame _, fun h => by cases h⟩
theorem over : Rows.stateBackRow.holds Try.pinned (OpenSpec.ofChange Rows.stateBackSpec) :=
  OpenClaim.holds_of_wide 8 Try.f8 rfl rfl rfl rfl rfl rfl rfl ⟨rfl, rfl, rfl, rfl, rfl⟩ rfl rfl rfl rfl rfl (by kernel_rfl) Try.func8 (by kernel_rfl)
    (of_decide_eq_true (by kernel_rfl)) (by unfold Func.isWrapper; first | (rw [if_pos (by decide +kernel)]; kernel_rfl) | (rw [if_neg (by decide +kernel)]; exact ⟨rfl, rfl⟩))
    (fun os started H enc _ => lifted os started H enc)
theorem proved : Rows.StateBackSaid := over
end Go.Proofs.Ytahfpncfkcfogaa.stateBack
