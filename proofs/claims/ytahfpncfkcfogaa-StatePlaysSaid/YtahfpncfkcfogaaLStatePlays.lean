/- Proved: the law StatePlays returns true. Conditions: none beyond the row's own. -/
import Derived.Test.YtahfpncfkcfogaaGa
import Derived.Test.YtahfpncfkcfogaaOb
import Derived.Test.YtahfpncfkcfogaaGq
import Derived.Test.YtahfpncfkcfogaaGs
import Derived.Deep.DeepCutAuto
import Derived.Deep.CutBlock
import Derived.BigQuiet
namespace Go.Proofs.Ytahfpncfkcfogaa.statePlays
open Go.ChangeShapes Go.WideShapes Go.ChangeAt Go.RowKit
set_option maxRecDepth 100000 in
set_option maxHeartbeats 32000000 in
theorem walk (A : Option Addr) (n cc : Nat) (it : Nat → Cm) (W : World) (h : CmsIn W A n cc it) :
    Calls Try.prog 4 #[.slice A n cc] W fun e w' => e = .returned (.bool true) ∧ Below W.heap.size W w' := by
  have RUN := hide (fun w => runs_any w)
  have hm60 : min n 60 ≤ 60 := Nat.min_le_right _ _
  have HC := hide (h.cml (min n 60) (Nat.min_le_left _ _))
  have HCL := hide (cmsL_len it (min n 60))
  have HSH := hide (fun w => short_any A n cc w h.le h.room)
  clear h
  generalize cmsL it (min n 60) = cs at HC HCL
  generalize min n 60 = m at HCL HSH hm60
  have Z1 := hide (slice_one none 0 0)
  have Z8 : Hid (zeroL.length = 8) := hide rfl
  have Z49 := hide (two_zero W)
  go_enter Try.func4, Try.ntmps4
  go_upto_region 3 with (first
    | (go_at_call 14; (with_reducible refine (HSH.out _).mono ?_); rintro e w2 ⟨rfl, rfl⟩)
    | (rw [zero_state]; (with_reducible refine wpList_store49 ?_ ?_ Z1.out Z49.out.1 Z8.out Z8.out ?_); rfl; rfl)
    | ((with_reducible refine wpList_store49 ?_ ?_ Z1.out Z49.out.2.1 Z8.out Z8.out ?_); rfl; rfl))
  have HQ := hide (Lp.start W _ W.heap.size Z49.out.2.2.1 Z49.out.2.2.2.1 Z49.out.2.2.2.2 (Nat.le_refl _))
  clear Z49
  generalize (((W.alloc (.cells (stc (.slice none 0 0) zeroL) 30)).alloc (.cells (stc (.slice none 0 0) zeroL) 30)).setRow W.heap.size (stc (.slice none 0 0) zeroL)).setRow (W.heap.size + 1) (stc (.slice none 0 0) zeroL) = w3 at HQ ⊢
  obtain ⟨g, hgW⟩ : ∃ g, W.heap.size = g := ⟨_, rfl⟩
  have HGW := hide hgW
  rw [hgW] at HQ ⊢
  clear hgW
  go_wp2
  go_loopw [6, 5] (fun i d wr => ∃ (k : Nat) (p : Value) (M : List Co) (p' : Value) (M' : List Co) (v : Value) (R : List Cr), k ≤ m ∧ i = .int .i64 k ∧ v = d ∧ Hid (Lp W wr g (playP zeroS (cs.take k)).1 (playP zeroS (cs.take k)).2 p M p' M' v R)) (fun i _ _ => m - (intOf i).toNat)
  case atStart => exact ⟨0, _, _, _, _, _, [], by omega, rfl, rfl, HQ⟩
  case round =>
    obtain ⟨k, p, M, p', M', v, R, hk, rfl, rfl, HM⟩ := hrel
    clear HQ
    by_cases hlt : k < m
    · obtain ⟨x, hx⟩ : ∃ x, cs[k]? = some x := ⟨_, List.getElem?_eq_getElem (by rw [HCL.out]; exact hlt)⟩
      have HNX := hide (play_next zeroS hx)
      have HUK := hide (play0_up (cs.take k))
      have HRS := hide (play0_right (cs.take k) (by rw [List.length_take]; omega))
      have HRL := hide (playP_len (cs.take k) zeroS)
      obtain ⟨y, hy⟩ : ∃ y, playP zeroS (cs.take k) = y := ⟨_, rfl⟩
      rw [hy] at HM HNX HUK HRS HRL
      clear hy
      obtain ⟨sk, rk⟩ := y
      dsimp only at HM HNX HUK HRS HRL
      have HSK : Hid (sk.l.length ≤ 1000) := hide (by have h1 := HUK.out.2; rw [List.length_take] at h1; omega)
      have hRl : R.length ≤ 60 := by
        have h1 := HRL.out
        have h2 := congrArg List.length HM.out.is
        rw [List.length_map] at h2
        rw [List.length_take] at h1
        omega
      have HSR := hide (apply_right HRS.out (by omega) (by rw [List.length_take]; omega) x).right
      obtain ⟨y, hy⟩ : ∃ y, applyP sk x = y := ⟨_, rfl⟩
      rw [hy] at HNX HSR
      have HY := hide hy
      clear hy
      obtain ⟨sn, rn⟩ := y
      dsimp only at HNX HSR
      obtain ⟨Ap, cp, rfl, _, _, _, _⟩ := HM.out.n3.pin.pin
      obtain ⟨bb, off, rfl, hbs, ca⟩ := (HC.out.below HM.out.bel).at_ hx
      have CA := hide ca
      have HBS := hide hbs
      have hlt' : (k : Int) < (m : Int) := by omega
      clear ca hx hbs HRS HRL
      have H84 := hide HM.out.n4.eight
      have R4 := hide HM.out.r4
      have HTW := hide (twin_any p' M' sk wr HM.out.n4.isS)
      go_upto_region 8 with (first
        | ((with_reducible refine wpList_load49 ?_ R4.out H84.out ?_); rfl)
        | (go_at_call 15; (with_reducible refine HTW.out.mono ?_); rintro e w7 ⟨p7, M7, rfl, hn7, hb7⟩; have HN7 := hide hn7; have HB7 := hide hb7; have H87 := hide hn7.eight; have H17 := hide hn7.one; clear hn7 hb7)
        | ((with_reducible refine wpList_store49n ?_ ?_ H17.out H87.out ?_); rfl; rfl))
      have ka := kept_alloc (kept_refl w7) (.cells (stc p7 M7) 30)
      have kb := kept_trans HB7.out ka
      have HP8 := hide (HM.out.below kb)
      have CA8 := hide (CA.out.below kb HBS.out)
      have HB8 := hide (Nat.lt_of_lt_of_le HBS.out kb.size)
      have R7 := hide (Row.new w7 30 (stc p7 M7))
      have I7 := hide (HN7.out.below ka).isS
      clear ka kb HM CA HBS HN7 HB7 H17 HTW R4 H84
      generalize w7.alloc (.cells (stc p7 M7) 30) = w8 at HP8 CA8 HB8 R7 I7 ⊢
      generalize w7.heap.size = g7 at R7 ⊢
      have H83 := hide HP8.out.n3.eight
      have HA8 := hide (fun wz (hz : Below w8.heap.size w8 wz) => apply_is HY.out (HP8.out.n3.isS.below hz) HUK.out.1 HSK.out)
      try simp only [Act.put]
      go_cut [8, 9] (fun s8 s9 wx => ∃ (g8 g9 : Nat) (p8 : Value) (M8 : List Co) (A8 : Option Addr) (c8 : Nat), s8 = .pointer (some ⟨g8, 0, none⟩) ∧ s9 = .pointer (some ⟨g9, 0, none⟩) ∧ Hid (Fn true w8 wx g8 g9 p8 M8 (.slice A8 rn.l.length c8) sn rn))
      case first =>
        refine wp_region_noPanic ?_
        refine wp_region_U 12 (fun w' => Below w8.heap.size w8 w') (by kernel_rfl) ?_
        have HD := hide (Ev.start (T := true) (s := sn) (r := rn) (show Below w8.heap.size w8 (World.drew w8) from kept_drewN (kept_refl w8) 1))
        generalize World.drew _ = wd at HD ⊢
        refine anyU_take (i := 0) (v := .agg (stc (.slice Ap sk.l.length cp) M)) (by simp only [List.getElem?_toArray, List.getElem?_cons_zero]; exact rfl) (by kernel_rfl) (by kernel_rfl) (by kernel_rfl) (fun _ _ _ h => h) (by kernel_rfl) (by kernel_rfl) (by kernel_rfl) (yields_load49 (x := .tmp 3) (by rfl) (by rfl) (by rfl) H83.out (fun _ h => HP8.out.r3.below h HP8.out.r3.lt)) (by with_reducible exact HD.out.bel) ?_
        try simp only [Act.put, List.setIfInBounds_toArray, List.set_cons_zero, List.set_cons_succ]
        refine anyU_take (i := 1) (v := ?ov1a) (by simp only [List.getElem?_toArray, List.getElem?_cons_succ, List.getElem?_cons_zero]; exact rfl) (by kernel_rfl) (by kernel_rfl) (by kernel_rfl) (fun _ _ _ h => h) (by kernel_rfl) (by kernel_rfl) (by kernel_rfl) (Or.inl ⟨by rfl, ?oy1a⟩) (by with_reducible exact HD.out.bel) ?or1a
        case oy1a => (intro w hSw; skip; go_simp; try with_reducible rfl)
        try simp only [Act.put, List.setIfInBounds_toArray, List.set_cons_zero, List.set_cons_succ]
        refine anyU_take (i := 2) (v := ?ov2a) (by simp only [List.getElem?_toArray, List.getElem?_cons_succ, List.getElem?_cons_zero]; exact rfl) (by kernel_rfl) (by kernel_rfl) (by kernel_rfl) (fun _ _ _ h => h) (by kernel_rfl) (by kernel_rfl) (by kernel_rfl) (Or.inl ⟨by rfl, ?oy2a⟩) (by with_reducible exact HD.out.bel) ?or2a
        case oy2a => (intro w hSw; skip; go_simp; try with_reducible rfl)
        try simp only [Act.put, List.setIfInBounds_toArray, List.set_cons_zero, List.set_cons_succ]
        refine anyU_take (i := 3) (v := ?ov3a) (by simp only [List.getElem?_toArray, List.getElem?_cons_succ, List.getElem?_cons_zero]; exact rfl) (by kernel_rfl) (by kernel_rfl) (by kernel_rfl) (fun _ _ _ h => h) (by kernel_rfl) (by kernel_rfl) (by kernel_rfl) (Or.inl ⟨by rfl, ?oy3a⟩) (by with_reducible exact HD.out.bel) ?or3a
        case oy3a => (intro w hSw; skip; go_simp; try with_reducible rfl)
        try simp only [Act.put, List.setIfInBounds_toArray, List.set_cons_zero, List.set_cons_succ]
        refine anyU_take (i := 4) (v := ?ov4a) (by simp only [List.getElem?_toArray, List.getElem?_cons_succ, List.getElem?_cons_zero]; exact rfl) (by kernel_rfl) (by kernel_rfl) (by kernel_rfl) (fun _ _ _ h => h) (by kernel_rfl) (by kernel_rfl) (by kernel_rfl) (Or.inl ⟨by rfl, ?oy4a⟩) (by with_reducible exact HD.out.bel) ?or4a
        case oy4a => (intro w hSw; have hc := CA8.out.below hSw HB8.out; have q0 := hc.c0; have q1 := hc.c1; have q2 := hc.c2; have q3 := hc.c3; have q4 := hc.c4; have q5 := hc.c5; have q6 := hc.c6; clear hc; go_simp; try with_reducible rfl)
        try simp only [Act.put, List.setIfInBounds_toArray, List.set_cons_zero, List.set_cons_succ]
        refine anyU_three (i := 5) (j := 9) (k := 10) (by kernel_rfl) (by simp only [List.getElem?_toArray, List.getElem?_cons_succ, List.getElem?_cons_zero]; exact rfl) (by simp only [List.getElem?_toArray, List.getElem?_cons_succ, List.getElem?_cons_zero]; exact rfl) (by simp only [List.getElem?_toArray, List.getElem?_cons_succ, List.getElem?_cons_zero]; exact rfl) (fun K hK => ?_) (fun K hK => ?_) (fun K hK => ?_)
        · skip
          try go_simp
          refine (HA8.out _ HD.out.bel).mono ?_
          rintro e wCC ⟨p8, M8, q8, rfl, hn, hq, hl, hap, hb⟩
          have HECC := hide (HD.out.call hn hq hl hap hb)
          obtain ⟨A8, c8, rfl, _, _, _, _⟩ := hq.pin
          have H8p := hide hn.eight
          have H1p := hide hn.one
          clear hn hq hl hap hb
          dsimp only at HECC H8p H1p ⊢
          refine hK.out _ _ (fun e _ => HECC.out.bel) ?_
          clear hK K
          try simp only [Act.put, List.setIfInBounds_toArray, List.set_cons_zero, List.set_cons_succ]
          refine anyU_take (i := 6) (v := ?ov6aC) (by simp only [List.getElem?_toArray, List.getElem?_cons_succ, List.getElem?_cons_zero]; exact rfl) (by kernel_rfl) (by kernel_rfl) (by kernel_rfl) (fun _ _ _ h => h) (by kernel_rfl) (by kernel_rfl) (by kernel_rfl) (Or.inl ⟨by rfl, ?oy6aC⟩) (by with_reducible exact HECC.out.bel) ?or6aC
          case oy6aC => (intro w hSw; skip; go_simp; try with_reducible rfl)
          try simp only [Act.put, List.setIfInBounds_toArray, List.set_cons_zero, List.set_cons_succ]
          refine anyU_take (i := 7) (v := ?ov7aC) (by simp only [List.getElem?_toArray, List.getElem?_cons_succ, List.getElem?_cons_zero]; exact rfl) (by kernel_rfl) (by kernel_rfl) (by kernel_rfl) (fun _ _ _ h => h) (by kernel_rfl) (by kernel_rfl) (by kernel_rfl) (Or.inl ⟨by rfl, ?oy7aC⟩) (by with_reducible exact HECC.out.bel) ?or7aC
          case oy7aC => (intro w hSw; skip; go_simp; try with_reducible rfl)
          try simp only [Act.put, List.setIfInBounds_toArray, List.set_cons_zero, List.set_cons_succ]
          refine anyU_take (i := 8) (v := ?ov8aC) (by simp only [List.getElem?_toArray, List.getElem?_cons_succ, List.getElem?_cons_zero]; exact rfl) (by kernel_rfl) (by kernel_rfl) (by kernel_rfl) (fun _ _ _ h => h) (by kernel_rfl) (by kernel_rfl) (by kernel_rfl) (Or.inl ⟨by rfl, ?oy8aC⟩) (by with_reducible exact HECC.out.bel) ?or8aC
          case oy8aC => (intro w hSw; skip; go_simp; try with_reducible rfl)
          try simp only [Act.put, List.setIfInBounds_toArray, List.set_cons_zero, List.set_cons_succ]
          refine anyU_two (i := 9) (j := 10) (by kernel_rfl) (by simp only [List.getElem?_toArray, List.getElem?_cons_succ, List.getElem?_cons_zero]; exact rfl) (by simp only [List.getElem?_toArray, List.getElem?_cons_succ, List.getElem?_cons_zero]; exact rfl) (fun K hK => ?_) (fun K hK => ?_)
          · skip
            try go_simp
            rw [zero_state]
            have HEACA := hide HECC.out.allocA
            generalize wCC.alloc (.cells (stc (.slice none 0 0) zeroL) 30) = wACA at HEACA ⊢
            generalize wCC.heap.size = gA at HEACA ⊢
            refine hK.out _ _ (fun e _ => HEACA.out.bel) ?_
            clear hK K
            try simp only [Act.put, List.setIfInBounds_toArray, List.set_cons_zero, List.set_cons_succ]
            refine anyU_one (i := 10) (by kernel_rfl) (by simp only [List.getElem?_toArray, List.getElem?_cons_succ, List.getElem?_cons_zero]; exact rfl) (fun K hK => ?_)
            try go_simp
            have HEBCAB := hide HEACA.out.allocB
            generalize wACA.alloc (.cells zero5 25) = wBCAB at HEBCAB ⊢
            generalize wACA.heap.size = gB at HEBCAB ⊢
            refine hK.out _ _ (fun e _ => HEBCAB.out.bel) ?_
            clear hK K
            try simp only [Act.put, List.setIfInBounds_toArray, List.set_cons_zero, List.set_cons_succ]
            have HF := hide HEBCAB.out.fin
            refine anyU_one (i := 11) (by kernel_rfl) (by simp only [List.getElem?_toArray, List.getElem?_cons_succ, List.getElem?_cons_zero]; exact rfl) (fun K hK => ?_)
            refine step_store49 (x := .tmp 8) (y := .tmp 36) rfl rfl H1p.out HF.out.1 rfl H8p.out ?_
            refine hK.out _ _ (fun e _ => HF.out.2.2.1) ?_
            clear hK K
            try simp only [Act.put]
            refine anyU_one (i := 12) (by kernel_rfl) (by simp only [List.getElem?_toArray, List.getElem?_cons_succ, List.getElem?_cons_zero]; exact rfl) (fun K hK => ?_)
            refine step_storeR5 (r := rn) (x := .tmp 9) (y := .tmp 37) rfl rfl HF.out.2.1 ?_
            refine hK.out _ _ (fun e _ => absurd rfl e) ?_
            clear hK K
            try simp only [Act.put]
            refine anyU_done (by kernel_rfl) ?_
            refine NoPanic.normal ?_
            try simp only [Act.put]
            go_wp2
            go_meet
            exact ⟨_, _, p8, M8, A8, c8, rfl, rfl, hide HF.out.2.2.2⟩
          · skip
            try go_simp
            have HEBCB := hide HECC.out.allocB
            generalize wCC.alloc (.cells zero5 25) = wBCB at HEBCB ⊢
            generalize wCC.heap.size = gB at HEBCB ⊢
            refine hK.out _ _ (fun e _ => HEBCB.out.bel) ?_
            clear hK K
            try simp only [Act.put, List.setIfInBounds_toArray, List.set_cons_zero, List.set_cons_succ]
            refine anyU_one (i := 9) (by kernel_rfl) (by simp only [List.getElem?_toArray, List.getElem?_cons_succ, List.getElem?_cons_zero]; exact rfl) (fun K hK => ?_)
            try go_simp
            rw [zero_state]
            have HEACBA := hide HEBCB.out.allocA
            generalize wBCB.alloc (.cells (stc (.slice none 0 0) zeroL) 30) = wACBA at HEACBA ⊢
            generalize wBCB.heap.size = gA at HEACBA ⊢
            refine hK.out _ _ (fun e _ => HEACBA.out.bel) ?_
            clear hK K
            try simp only [Act.put, List.setIfInBounds_toArray, List.set_cons_zero, List.set_cons_succ]
            have HF := hide HEACBA.out.fin
            refine anyU_one (i := 11) (by kernel_rfl) (by simp only [List.getElem?_toArray, List.getElem?_cons_succ, List.getElem?_cons_zero]; exact rfl) (fun K hK => ?_)
            refine step_store49 (x := .tmp 8) (y := .tmp 36) rfl rfl H1p.out HF.out.1 rfl H8p.out ?_
            refine hK.out _ _ (fun e _ => HF.out.2.2.1) ?_
            clear hK K
            try simp only [Act.put]
            refine anyU_one (i := 12) (by kernel_rfl) (by simp only [List.getElem?_toArray, List.getElem?_cons_succ, List.getElem?_cons_zero]; exact rfl) (fun K hK => ?_)
            refine step_storeR5 (r := rn) (x := .tmp 9) (y := .tmp 37) rfl rfl HF.out.2.1 ?_
            refine hK.out _ _ (fun e _ => absurd rfl e) ?_
            clear hK K
            try simp only [Act.put]
            refine anyU_done (by kernel_rfl) ?_
            refine NoPanic.normal ?_
            try simp only [Act.put]
            go_wp2
            go_meet
            exact ⟨_, _, p8, M8, A8, c8, rfl, rfl, hide HF.out.2.2.2⟩
        · skip
          try go_simp
          rw [zero_state]
          have HEAA := hide HD.out.allocA
          generalize wd.alloc (.cells (stc (.slice none 0 0) zeroL) 30) = wAA at HEAA ⊢
          generalize wd.heap.size = gA at HEAA ⊢
          refine hK.out _ _ (fun e _ => HEAA.out.bel) ?_
          clear hK K
          try simp only [Act.put, List.setIfInBounds_toArray, List.set_cons_zero, List.set_cons_succ]
          refine anyU_two (i := 5) (j := 10) (by kernel_rfl) (by simp only [List.getElem?_toArray, List.getElem?_cons_succ, List.getElem?_cons_zero]; exact rfl) (by simp only [List.getElem?_toArray, List.getElem?_cons_succ, List.getElem?_cons_zero]; exact rfl) (fun K hK => ?_) (fun K hK => ?_)
          · skip
            try go_simp
            refine (HA8.out _ HEAA.out.bel).mono ?_
            rintro e wCAC ⟨p8, M8, q8, rfl, hn, hq, hl, hap, hb⟩
            have HECAC := hide (HEAA.out.call hn hq hl hap hb)
            obtain ⟨A8, c8, rfl, _, _, _, _⟩ := hq.pin
            have H8p := hide hn.eight
            have H1p := hide hn.one
            clear hn hq hl hap hb
            dsimp only at HECAC H8p H1p ⊢
            refine hK.out _ _ (fun e _ => HECAC.out.bel) ?_
            clear hK K
            try simp only [Act.put, List.setIfInBounds_toArray, List.set_cons_zero, List.set_cons_succ]
            refine anyU_take (i := 6) (v := ?ov6aAC) (by simp only [List.getElem?_toArray, List.getElem?_cons_succ, List.getElem?_cons_zero]; exact rfl) (by kernel_rfl) (by kernel_rfl) (by kernel_rfl) (fun _ _ _ h => h) (by kernel_rfl) (by kernel_rfl) (by kernel_rfl) (Or.inl ⟨by rfl, ?oy6aAC⟩) (by with_reducible exact HECAC.out.bel) ?or6aAC
            case oy6aAC => (intro w hSw; skip; go_simp; try with_reducible rfl)
            try simp only [Act.put, List.setIfInBounds_toArray, List.set_cons_zero, List.set_cons_succ]
            refine anyU_take (i := 7) (v := ?ov7aAC) (by simp only [List.getElem?_toArray, List.getElem?_cons_succ, List.getElem?_cons_zero]; exact rfl) (by kernel_rfl) (by kernel_rfl) (by kernel_rfl) (fun _ _ _ h => h) (by kernel_rfl) (by kernel_rfl) (by kernel_rfl) (Or.inl ⟨by rfl, ?oy7aAC⟩) (by with_reducible exact HECAC.out.bel) ?or7aAC
            case oy7aAC => (intro w hSw; skip; go_simp; try with_reducible rfl)
            try simp only [Act.put, List.setIfInBounds_toArray, List.set_cons_zero, List.set_cons_succ]
            refine anyU_take (i := 8) (v := ?ov8aAC) (by simp only [List.getElem?_toArray, List.getElem?_cons_succ, List.getElem?_cons_zero]; exact rfl) (by kernel_rfl) (by kernel_rfl) (by kernel_rfl) (fun _ _ _ h => h) (by kernel_rfl) (by kernel_rfl) (by kernel_rfl) (Or.inl ⟨by rfl, ?oy8aAC⟩) (by with_reducible exact HECAC.out.bel) ?or8aAC
            case oy8aAC => (intro w hSw; skip; go_simp; try with_reducible rfl)
            try simp only [Act.put, List.setIfInBounds_toArray, List.set_cons_zero, List.set_cons_succ]
            refine anyU_one (i := 10) (by kernel_rfl) (by simp only [List.getElem?_toArray, List.getElem?_cons_succ, List.getElem?_cons_zero]; exact rfl) (fun K hK => ?_)
            try go_simp
            have HEBACB := hide HECAC.out.allocB
            generalize wCAC.alloc (.cells zero5 25) = wBACB at HEBACB ⊢
            generalize wCAC.heap.size = gB at HEBACB ⊢
            refine hK.out _ _ (fun e _ => HEBACB.out.bel) ?_
            clear hK K
            try simp only [Act.put, List.setIfInBounds_toArray, List.set_cons_zero, List.set_cons_succ]
            have HF := hide HEBACB.out.fin
            refine anyU_one (i := 11) (by kernel_rfl) (by simp only [List.getElem?_toArray, List.getElem?_cons_succ, List.getElem?_cons_zero]; exact rfl) (fun K hK => ?_)
            refine step_store49 (x := .tmp 8) (y := .tmp 36) rfl rfl H1p.out HF.out.1 rfl H8p.out ?_
            refine hK.out _ _ (fun e _ => HF.out.2.2.1) ?_
            clear hK K
            try simp only [Act.put]
            refine anyU_one (i := 12) (by kernel_rfl) (by simp only [List.getElem?_toArray, List.getElem?_cons_succ, List.getElem?_cons_zero]; exact rfl) (fun K hK => ?_)
            refine step_storeR5 (r := rn) (x := .tmp 9) (y := .tmp 37) rfl rfl HF.out.2.1 ?_
            refine hK.out _ _ (fun e _ => absurd rfl e) ?_
            clear hK K
            try simp only [Act.put]
            refine anyU_done (by kernel_rfl) ?_
            refine NoPanic.normal ?_
            try simp only [Act.put]
            go_wp2
            go_meet
            exact ⟨_, _, p8, M8, A8, c8, rfl, rfl, hide HF.out.2.2.2⟩
          · skip
            try go_simp
            have HEBAB := hide HEAA.out.allocB
            generalize wAA.alloc (.cells zero5 25) = wBAB at HEBAB ⊢
            generalize wAA.heap.size = gB at HEBAB ⊢
            refine hK.out _ _ (fun e _ => HEBAB.out.bel) ?_
            clear hK K
            try simp only [Act.put, List.setIfInBounds_toArray, List.set_cons_zero, List.set_cons_succ]
            refine anyU_one (i := 5) (by kernel_rfl) (by simp only [List.getElem?_toArray, List.getElem?_cons_succ, List.getElem?_cons_zero]; exact rfl) (fun K hK => ?_)
            try go_simp
            refine (HA8.out _ HEBAB.out.bel).mono ?_
            rintro e wCABC ⟨p8, M8, q8, rfl, hn, hq, hl, hap, hb⟩
            have HECABC := hide (HEBAB.out.call hn hq hl hap hb)
            obtain ⟨A8, c8, rfl, _, _, _, _⟩ := hq.pin
            have H8p := hide hn.eight
            have H1p := hide hn.one
            clear hn hq hl hap hb
            dsimp only at HECABC H8p H1p ⊢
            refine hK.out _ _ (fun e _ => HECABC.out.bel) ?_
            clear hK K
            try simp only [Act.put, List.setIfInBounds_toArray, List.set_cons_zero, List.set_cons_succ]
            refine anyU_take (i := 6) (v := ?ov6aABC) (by simp only [List.getElem?_toArray, List.getElem?_cons_succ, List.getElem?_cons_zero]; exact rfl) (by kernel_rfl) (by kernel_rfl) (by kernel_rfl) (fun _ _ _ h => h) (by kernel_rfl) (by kernel_rfl) (by kernel_rfl) (Or.inl ⟨by rfl, ?oy6aABC⟩) (by with_reducible exact HECABC.out.bel) ?or6aABC
            case oy6aABC => (intro w hSw; skip; go_simp; try with_reducible rfl)
            try simp only [Act.put, List.setIfInBounds_toArray, List.set_cons_zero, List.set_cons_succ]
            refine anyU_take (i := 7) (v := ?ov7aABC) (by simp only [List.getElem?_toArray, List.getElem?_cons_succ, List.getElem?_cons_zero]; exact rfl) (by kernel_rfl) (by kernel_rfl) (by kernel_rfl) (fun _ _ _ h => h) (by kernel_rfl) (by kernel_rfl) (by kernel_rfl) (Or.inl ⟨by rfl, ?oy7aABC⟩) (by with_reducible exact HECABC.out.bel) ?or7aABC
            case oy7aABC => (intro w hSw; skip; go_simp; try with_reducible rfl)
            try simp only [Act.put, List.setIfInBounds_toArray, List.set_cons_zero, List.set_cons_succ]
            refine anyU_take (i := 8) (v := ?ov8aABC) (by simp only [List.getElem?_toArray, List.getElem?_cons_succ, List.getElem?_cons_zero]; exact rfl) (by kernel_rfl) (by kernel_rfl) (by kernel_rfl) (fun _ _ _ h => h) (by kernel_rfl) (by kernel_rfl) (by kernel_rfl) (Or.inl ⟨by rfl, ?oy8aABC⟩) (by with_reducible exact HECABC.out.bel) ?or8aABC
            case oy8aABC => (intro w hSw; skip; go_simp; try with_reducible rfl)
            try simp only [Act.put, List.setIfInBounds_toArray, List.set_cons_zero, List.set_cons_succ]
            have HF := hide HECABC.out.fin
            refine anyU_one (i := 11) (by kernel_rfl) (by simp only [List.getElem?_toArray, List.getElem?_cons_succ, List.getElem?_cons_zero]; exact rfl) (fun K hK => ?_)
            refine step_store49 (x := .tmp 8) (y := .tmp 36) rfl rfl H1p.out HF.out.1 rfl H8p.out ?_
            refine hK.out _ _ (fun e _ => HF.out.2.2.1) ?_
            clear hK K
            try simp only [Act.put]
            refine anyU_one (i := 12) (by kernel_rfl) (by simp only [List.getElem?_toArray, List.getElem?_cons_succ, List.getElem?_cons_zero]; exact rfl) (fun K hK => ?_)
            refine step_storeR5 (r := rn) (x := .tmp 9) (y := .tmp 37) rfl rfl HF.out.2.1 ?_
            refine hK.out _ _ (fun e _ => absurd rfl e) ?_
            clear hK K
            try simp only [Act.put]
            refine anyU_done (by kernel_rfl) ?_
            refine NoPanic.normal ?_
            try simp only [Act.put]
            go_wp2
            go_meet
            exact ⟨_, _, p8, M8, A8, c8, rfl, rfl, hide HF.out.2.2.2⟩
        · skip
          try go_simp
          have HEBB := hide HD.out.allocB
          generalize wd.alloc (.cells zero5 25) = wBB at HEBB ⊢
          generalize wd.heap.size = gB at HEBB ⊢
          refine hK.out _ _ (fun e _ => HEBB.out.bel) ?_
          clear hK K
          try simp only [Act.put, List.setIfInBounds_toArray, List.set_cons_zero, List.set_cons_succ]
          refine anyU_two (i := 5) (j := 9) (by kernel_rfl) (by simp only [List.getElem?_toArray, List.getElem?_cons_succ, List.getElem?_cons_zero]; exact rfl) (by simp only [List.getElem?_toArray, List.getElem?_cons_succ, List.getElem?_cons_zero]; exact rfl) (fun K hK => ?_) (fun K hK => ?_)
          · skip
            try go_simp
            refine (HA8.out _ HEBB.out.bel).mono ?_
            rintro e wCBC ⟨p8, M8, q8, rfl, hn, hq, hl, hap, hb⟩
            have HECBC := hide (HEBB.out.call hn hq hl hap hb)
            obtain ⟨A8, c8, rfl, _, _, _, _⟩ := hq.pin
            have H8p := hide hn.eight
            have H1p := hide hn.one
            clear hn hq hl hap hb
            dsimp only at HECBC H8p H1p ⊢
            refine hK.out _ _ (fun e _ => HECBC.out.bel) ?_
            clear hK K
            try simp only [Act.put, List.setIfInBounds_toArray, List.set_cons_zero, List.set_cons_succ]
            refine anyU_take (i := 6) (v := ?ov6aBC) (by simp only [List.getElem?_toArray, List.getElem?_cons_succ, List.getElem?_cons_zero]; exact rfl) (by kernel_rfl) (by kernel_rfl) (by kernel_rfl) (fun _ _ _ h => h) (by kernel_rfl) (by kernel_rfl) (by kernel_rfl) (Or.inl ⟨by rfl, ?oy6aBC⟩) (by with_reducible exact HECBC.out.bel) ?or6aBC
            case oy6aBC => (intro w hSw; skip; go_simp; try with_reducible rfl)
            try simp only [Act.put, List.setIfInBounds_toArray, List.set_cons_zero, List.set_cons_succ]
            refine anyU_take (i := 7) (v := ?ov7aBC) (by simp only [List.getElem?_toArray, List.getElem?_cons_succ, List.getElem?_cons_zero]; exact rfl) (by kernel_rfl) (by kernel_rfl) (by kernel_rfl) (fun _ _ _ h => h) (by kernel_rfl) (by kernel_rfl) (by kernel_rfl) (Or.inl ⟨by rfl, ?oy7aBC⟩) (by with_reducible exact HECBC.out.bel) ?or7aBC
            case oy7aBC => (intro w hSw; skip; go_simp; try with_reducible rfl)
            try simp only [Act.put, List.setIfInBounds_toArray, List.set_cons_zero, List.set_cons_succ]
            refine anyU_take (i := 8) (v := ?ov8aBC) (by simp only [List.getElem?_toArray, List.getElem?_cons_succ, List.getElem?_cons_zero]; exact rfl) (by kernel_rfl) (by kernel_rfl) (by kernel_rfl) (fun _ _ _ h => h) (by kernel_rfl) (by kernel_rfl) (by kernel_rfl) (Or.inl ⟨by rfl, ?oy8aBC⟩) (by with_reducible exact HECBC.out.bel) ?or8aBC
            case oy8aBC => (intro w hSw; skip; go_simp; try with_reducible rfl)
            try simp only [Act.put, List.setIfInBounds_toArray, List.set_cons_zero, List.set_cons_succ]
            refine anyU_one (i := 9) (by kernel_rfl) (by simp only [List.getElem?_toArray, List.getElem?_cons_succ, List.getElem?_cons_zero]; exact rfl) (fun K hK => ?_)
            try go_simp
            rw [zero_state]
            have HEABCA := hide HECBC.out.allocA
            generalize wCBC.alloc (.cells (stc (.slice none 0 0) zeroL) 30) = wABCA at HEABCA ⊢
            generalize wCBC.heap.size = gA at HEABCA ⊢
            refine hK.out _ _ (fun e _ => HEABCA.out.bel) ?_
            clear hK K
            try simp only [Act.put, List.setIfInBounds_toArray, List.set_cons_zero, List.set_cons_succ]
            have HF := hide HEABCA.out.fin
            refine anyU_one (i := 11) (by kernel_rfl) (by simp only [List.getElem?_toArray, List.getElem?_cons_succ, List.getElem?_cons_zero]; exact rfl) (fun K hK => ?_)
            refine step_store49 (x := .tmp 8) (y := .tmp 36) rfl rfl H1p.out HF.out.1 rfl H8p.out ?_
            refine hK.out _ _ (fun e _ => HF.out.2.2.1) ?_
            clear hK K
            try simp only [Act.put]
            refine anyU_one (i := 12) (by kernel_rfl) (by simp only [List.getElem?_toArray, List.getElem?_cons_succ, List.getElem?_cons_zero]; exact rfl) (fun K hK => ?_)
            refine step_storeR5 (r := rn) (x := .tmp 9) (y := .tmp 37) rfl rfl HF.out.2.1 ?_
            refine hK.out _ _ (fun e _ => absurd rfl e) ?_
            clear hK K
            try simp only [Act.put]
            refine anyU_done (by kernel_rfl) ?_
            refine NoPanic.normal ?_
            try simp only [Act.put]
            go_wp2
            go_meet
            exact ⟨_, _, p8, M8, A8, c8, rfl, rfl, hide HF.out.2.2.2⟩
          · skip
            try go_simp
            rw [zero_state]
            have HEABA := hide HEBB.out.allocA
            generalize wBB.alloc (.cells (stc (.slice none 0 0) zeroL) 30) = wABA at HEABA ⊢
            generalize wBB.heap.size = gA at HEABA ⊢
            refine hK.out _ _ (fun e _ => HEABA.out.bel) ?_
            clear hK K
            try simp only [Act.put, List.setIfInBounds_toArray, List.set_cons_zero, List.set_cons_succ]
            refine anyU_one (i := 5) (by kernel_rfl) (by simp only [List.getElem?_toArray, List.getElem?_cons_succ, List.getElem?_cons_zero]; exact rfl) (fun K hK => ?_)
            try go_simp
            refine (HA8.out _ HEABA.out.bel).mono ?_
            rintro e wCBAC ⟨p8, M8, q8, rfl, hn, hq, hl, hap, hb⟩
            have HECBAC := hide (HEABA.out.call hn hq hl hap hb)
            obtain ⟨A8, c8, rfl, _, _, _, _⟩ := hq.pin
            have H8p := hide hn.eight
            have H1p := hide hn.one
            clear hn hq hl hap hb
            dsimp only at HECBAC H8p H1p ⊢
            refine hK.out _ _ (fun e _ => HECBAC.out.bel) ?_
            clear hK K
            try simp only [Act.put, List.setIfInBounds_toArray, List.set_cons_zero, List.set_cons_succ]
            refine anyU_take (i := 6) (v := ?ov6aBAC) (by simp only [List.getElem?_toArray, List.getElem?_cons_succ, List.getElem?_cons_zero]; exact rfl) (by kernel_rfl) (by kernel_rfl) (by kernel_rfl) (fun _ _ _ h => h) (by kernel_rfl) (by kernel_rfl) (by kernel_rfl) (Or.inl ⟨by rfl, ?oy6aBAC⟩) (by with_reducible exact HECBAC.out.bel) ?or6aBAC
            case oy6aBAC => (intro w hSw; skip; go_simp; try with_reducible rfl)
            try simp only [Act.put, List.setIfInBounds_toArray, List.set_cons_zero, List.set_cons_succ]
            refine anyU_take (i := 7) (v := ?ov7aBAC) (by simp only [List.getElem?_toArray, List.getElem?_cons_succ, List.getElem?_cons_zero]; exact rfl) (by kernel_rfl) (by kernel_rfl) (by kernel_rfl) (fun _ _ _ h => h) (by kernel_rfl) (by kernel_rfl) (by kernel_rfl) (Or.inl ⟨by rfl, ?oy7aBAC⟩) (by with_reducible exact HECBAC.out.bel) ?or7aBAC
            case oy7aBAC => (intro w hSw; skip; go_simp; try with_reducible rfl)
            try simp only [Act.put, List.setIfInBounds_toArray, List.set_cons_zero, List.set_cons_succ]
            refine anyU_take (i := 8) (v := ?ov8aBAC) (by simp only [List.getElem?_toArray, List.getElem?_cons_succ, List.getElem?_cons_zero]; exact rfl) (by kernel_rfl) (by kernel_rfl) (by kernel_rfl) (fun _ _ _ h => h) (by kernel_rfl) (by kernel_rfl) (by kernel_rfl) (Or.inl ⟨by rfl, ?oy8aBAC⟩) (by with_reducible exact HECBAC.out.bel) ?or8aBAC
            case oy8aBAC => (intro w hSw; skip; go_simp; try with_reducible rfl)
            try simp only [Act.put, List.setIfInBounds_toArray, List.set_cons_zero, List.set_cons_succ]
            have HF := hide HECBAC.out.fin
            refine anyU_one (i := 11) (by kernel_rfl) (by simp only [List.getElem?_toArray, List.getElem?_cons_succ, List.getElem?_cons_zero]; exact rfl) (fun K hK => ?_)
            refine step_store49 (x := .tmp 8) (y := .tmp 36) rfl rfl H1p.out HF.out.1 rfl H8p.out ?_
            refine hK.out _ _ (fun e _ => HF.out.2.2.1) ?_
            clear hK K
            try simp only [Act.put]
            refine anyU_one (i := 12) (by kernel_rfl) (by simp only [List.getElem?_toArray, List.getElem?_cons_succ, List.getElem?_cons_zero]; exact rfl) (fun K hK => ?_)
            refine step_storeR5 (r := rn) (x := .tmp 9) (y := .tmp 37) rfl rfl HF.out.2.1 ?_
            refine hK.out _ _ (fun e _ => absurd rfl e) ?_
            clear hK K
            try simp only [Act.put]
            refine anyU_done (by kernel_rfl) ?_
            refine NoPanic.normal ?_
            try simp only [Act.put]
            go_wp2
            go_meet
            exact ⟨_, _, p8, M8, A8, c8, rfl, rfl, hide HF.out.2.2.2⟩
      case rest =>
        obtain ⟨g8, g9, p8, M8, A8, c8, rfl, rfl, HF8⟩ := hcut
        obtain ⟨w9, hw9⟩ : ∃ z, z = wc := ⟨_, rfl⟩
        subst hw9
        have CA9 := hide (CA8.out.below HF8.out.bel HB8.out)
        have HB9 := hide (Nat.lt_of_lt_of_le HB8.out HF8.out.bel.size)
        have HP9 := hide (HP8.out.below HF8.out.bel)
        have R79 := hide (R7.out.below HF8.out.bel R7.out.lt)
        have I79 := hide (I7.out.below HF8.out.bel)
        clear CA8 HB8 R7 I7 HA8
        have H84 := hide HP9.out.n4.eight
        have HA9 := hide (fun wz (hz : Below w9.heap.size w9 wz) => rapply_is HY.out (HP9.out.n4.isS.below hz) HUK.out.1 HSK.out)
        go_upto_region 9 with (fail)
        go_cut [10, 11] (fun s10 s11 wx => ∃ (g10 g11 : Nat) (p10 : Value) (M10 : List Co) (A11 : Option Addr) (c11 : Nat), s10 = .pointer (some ⟨g10, 0, none⟩) ∧ s11 = .pointer (some ⟨g11, 0, none⟩) ∧ Hid (Fn false w9 wx g10 g11 p10 M10 (.slice A11 rn.l.length c11) sn rn))
        case first =>
          refine wp_region_noPanic ?_
          refine wp_region_U 12 (fun w' => Below w9.heap.size w9 w') (by kernel_rfl) ?_
          have HD := hide (Ev.start (T := false) (s := sn) (r := rn) (show Below w9.heap.size w9 (World.drew w9) from kept_drewN (kept_refl w9) 1))
          generalize World.drew _ = wd at HD ⊢
          refine anyU_take (i := 0) (v := .agg (stc p' M')) (by simp only [List.getElem?_toArray, List.getElem?_cons_zero]; exact rfl) (by kernel_rfl) (by kernel_rfl) (by kernel_rfl) (fun _ _ _ h => h) (by kernel_rfl) (by kernel_rfl) (by kernel_rfl) (yields_load49 (x := .tmp 4) (by rfl) (by rfl) (by rfl) H84.out (fun _ h => HP9.out.r4.below h HP9.out.r4.lt)) (by with_reducible exact HD.out.bel) ?_
          try simp only [Act.put, List.setIfInBounds_toArray, List.set_cons_zero, List.set_cons_succ]
          refine anyU_take (i := 1) (v := ?ov1b) (by simp only [List.getElem?_toArray, List.getElem?_cons_succ, List.getElem?_cons_zero]; exact rfl) (by kernel_rfl) (by kernel_rfl) (by kernel_rfl) (fun _ _ _ h => h) (by kernel_rfl) (by kernel_rfl) (by kernel_rfl) (Or.inl ⟨by rfl, ?oy1b⟩) (by with_reducible exact HD.out.bel) ?or1b
          case oy1b => (intro w hSw; skip; go_simp; try with_reducible rfl)
          try simp only [Act.put, List.setIfInBounds_toArray, List.set_cons_zero, List.set_cons_succ]
          refine anyU_take (i := 2) (v := ?ov2b) (by simp only [List.getElem?_toArray, List.getElem?_cons_succ, List.getElem?_cons_zero]; exact rfl) (by kernel_rfl) (by kernel_rfl) (by kernel_rfl) (fun _ _ _ h => h) (by kernel_rfl) (by kernel_rfl) (by kernel_rfl) (Or.inl ⟨by rfl, ?oy2b⟩) (by with_reducible exact HD.out.bel) ?or2b
          case oy2b => (intro w hSw; skip; go_simp; try with_reducible rfl)
          try simp only [Act.put, List.setIfInBounds_toArray, List.set_cons_zero, List.set_cons_succ]
          refine anyU_take (i := 3) (v := ?ov3b) (by simp only [List.getElem?_toArray, List.getElem?_cons_succ, List.getElem?_cons_zero]; exact rfl) (by kernel_rfl) (by kernel_rfl) (by kernel_rfl) (fun _ _ _ h => h) (by kernel_rfl) (by kernel_rfl) (by kernel_rfl) (Or.inl ⟨by rfl, ?oy3b⟩) (by with_reducible exact HD.out.bel) ?or3b
          case oy3b => (intro w hSw; skip; go_simp; try with_reducible rfl)
          try simp only [Act.put, List.setIfInBounds_toArray, List.set_cons_zero, List.set_cons_succ]
          refine anyU_take (i := 4) (v := ?ov4b) (by simp only [List.getElem?_toArray, List.getElem?_cons_succ, List.getElem?_cons_zero]; exact rfl) (by kernel_rfl) (by kernel_rfl) (by kernel_rfl) (fun _ _ _ h => h) (by kernel_rfl) (by kernel_rfl) (by kernel_rfl) (Or.inl ⟨by rfl, ?oy4b⟩) (by with_reducible exact HD.out.bel) ?or4b
          case oy4b => (intro w hSw; have hc := CA9.out.below hSw HB9.out; have q0 := hc.c0; have q1 := hc.c1; have q2 := hc.c2; have q3 := hc.c3; have q4 := hc.c4; have q5 := hc.c5; have q6 := hc.c6; clear hc; go_simp; try with_reducible rfl)
          try simp only [Act.put, List.setIfInBounds_toArray, List.set_cons_zero, List.set_cons_succ]
          refine anyU_three (i := 5) (j := 9) (k := 10) (by kernel_rfl) (by simp only [List.getElem?_toArray, List.getElem?_cons_succ, List.getElem?_cons_zero]; exact rfl) (by simp only [List.getElem?_toArray, List.getElem?_cons_succ, List.getElem?_cons_zero]; exact rfl) (by simp only [List.getElem?_toArray, List.getElem?_cons_succ, List.getElem?_cons_zero]; exact rfl) (fun K hK => ?_) (fun K hK => ?_) (fun K hK => ?_)
          · skip
            try go_simp
            refine (HA9.out _ HD.out.bel).mono ?_
            rintro e wCC ⟨p8, M8, q8, rfl, hn, hq, hl, hap, hb⟩
            have HECC := hide (HD.out.call hn hq hl hap hb)
            obtain ⟨A8, c8, rfl, _, _, _, _⟩ := hq.pin
            have H8p := hide hn.eight
            have H1p := hide hn.one
            clear hn hq hl hap hb
            dsimp only at HECC H8p H1p ⊢
            refine hK.out _ _ (fun e _ => HECC.out.bel) ?_
            clear hK K
            try simp only [Act.put, List.setIfInBounds_toArray, List.set_cons_zero, List.set_cons_succ]
            refine anyU_take (i := 6) (v := ?ov6bC) (by simp only [List.getElem?_toArray, List.getElem?_cons_succ, List.getElem?_cons_zero]; exact rfl) (by kernel_rfl) (by kernel_rfl) (by kernel_rfl) (fun _ _ _ h => h) (by kernel_rfl) (by kernel_rfl) (by kernel_rfl) (Or.inl ⟨by rfl, ?oy6bC⟩) (by with_reducible exact HECC.out.bel) ?or6bC
            case oy6bC => (intro w hSw; skip; go_simp; try with_reducible rfl)
            try simp only [Act.put, List.setIfInBounds_toArray, List.set_cons_zero, List.set_cons_succ]
            refine anyU_take (i := 7) (v := ?ov7bC) (by simp only [List.getElem?_toArray, List.getElem?_cons_succ, List.getElem?_cons_zero]; exact rfl) (by kernel_rfl) (by kernel_rfl) (by kernel_rfl) (fun _ _ _ h => h) (by kernel_rfl) (by kernel_rfl) (by kernel_rfl) (Or.inl ⟨by rfl, ?oy7bC⟩) (by with_reducible exact HECC.out.bel) ?or7bC
            case oy7bC => (intro w hSw; skip; go_simp; try with_reducible rfl)
            try simp only [Act.put, List.setIfInBounds_toArray, List.set_cons_zero, List.set_cons_succ]
            refine anyU_take (i := 8) (v := ?ov8bC) (by simp only [List.getElem?_toArray, List.getElem?_cons_succ, List.getElem?_cons_zero]; exact rfl) (by kernel_rfl) (by kernel_rfl) (by kernel_rfl) (fun _ _ _ h => h) (by kernel_rfl) (by kernel_rfl) (by kernel_rfl) (Or.inl ⟨by rfl, ?oy8bC⟩) (by with_reducible exact HECC.out.bel) ?or8bC
            case oy8bC => (intro w hSw; skip; go_simp; try with_reducible rfl)
            try simp only [Act.put, List.setIfInBounds_toArray, List.set_cons_zero, List.set_cons_succ]
            refine anyU_two (i := 9) (j := 10) (by kernel_rfl) (by simp only [List.getElem?_toArray, List.getElem?_cons_succ, List.getElem?_cons_zero]; exact rfl) (by simp only [List.getElem?_toArray, List.getElem?_cons_succ, List.getElem?_cons_zero]; exact rfl) (fun K hK => ?_) (fun K hK => ?_)
            · skip
              try go_simp
              rw [zero_state]
              have HEACA := hide HECC.out.allocA
              generalize wCC.alloc (.cells (stc (.slice none 0 0) zeroL) 30) = wACA at HEACA ⊢
              generalize wCC.heap.size = gA at HEACA ⊢
              refine hK.out _ _ (fun e _ => HEACA.out.bel) ?_
              clear hK K
              try simp only [Act.put, List.setIfInBounds_toArray, List.set_cons_zero, List.set_cons_succ]
              refine anyU_one (i := 10) (by kernel_rfl) (by simp only [List.getElem?_toArray, List.getElem?_cons_succ, List.getElem?_cons_zero]; exact rfl) (fun K hK => ?_)
              try go_simp
              have HEBCAB := hide HEACA.out.allocB
              generalize wACA.alloc (.cells zero5 25) = wBCAB at HEBCAB ⊢
              generalize wACA.heap.size = gB at HEBCAB ⊢
              refine hK.out _ _ (fun e _ => HEBCAB.out.bel) ?_
              clear hK K
              try simp only [Act.put, List.setIfInBounds_toArray, List.set_cons_zero, List.set_cons_succ]
              have HF := hide HEBCAB.out.fin
              refine anyU_one (i := 11) (by kernel_rfl) (by simp only [List.getElem?_toArray, List.getElem?_cons_succ, List.getElem?_cons_zero]; exact rfl) (fun K hK => ?_)
              refine step_store49 (x := .tmp 10) (y := .tmp 45) rfl rfl H1p.out HF.out.1 rfl H8p.out ?_
              refine hK.out _ _ (fun e _ => HF.out.2.2.1) ?_
              clear hK K
              try simp only [Act.put]
              refine anyU_one (i := 12) (by kernel_rfl) (by simp only [List.getElem?_toArray, List.getElem?_cons_succ, List.getElem?_cons_zero]; exact rfl) (fun K hK => ?_)
              refine step_storeR5 (r := rn) (x := .tmp 11) (y := .tmp 46) rfl rfl HF.out.2.1 ?_
              refine hK.out _ _ (fun e _ => absurd rfl e) ?_
              clear hK K
              try simp only [Act.put]
              refine anyU_done (by kernel_rfl) ?_
              refine NoPanic.normal ?_
              try simp only [Act.put]
              go_wp2
              go_meet
              exact ⟨_, _, p8, M8, A8, c8, rfl, rfl, hide HF.out.2.2.2⟩
            · skip
              try go_simp
              have HEBCB := hide HECC.out.allocB
              generalize wCC.alloc (.cells zero5 25) = wBCB at HEBCB ⊢
              generalize wCC.heap.size = gB at HEBCB ⊢
              refine hK.out _ _ (fun e _ => HEBCB.out.bel) ?_
              clear hK K
              try simp only [Act.put, List.setIfInBounds_toArray, List.set_cons_zero, List.set_cons_succ]
              refine anyU_one (i := 9) (by kernel_rfl) (by simp only [List.getElem?_toArray, List.getElem?_cons_succ, List.getElem?_cons_zero]; exact rfl) (fun K hK => ?_)
              try go_simp
              rw [zero_state]
              have HEACBA := hide HEBCB.out.allocA
              generalize wBCB.alloc (.cells (stc (.slice none 0 0) zeroL) 30) = wACBA at HEACBA ⊢
              generalize wBCB.heap.size = gA at HEACBA ⊢
              refine hK.out _ _ (fun e _ => HEACBA.out.bel) ?_
              clear hK K
              try simp only [Act.put, List.setIfInBounds_toArray, List.set_cons_zero, List.set_cons_succ]
              have HF := hide HEACBA.out.fin
              refine anyU_one (i := 11) (by kernel_rfl) (by simp only [List.getElem?_toArray, List.getElem?_cons_succ, List.getElem?_cons_zero]; exact rfl) (fun K hK => ?_)
              refine step_store49 (x := .tmp 10) (y := .tmp 45) rfl rfl H1p.out HF.out.1 rfl H8p.out ?_
              refine hK.out _ _ (fun e _ => HF.out.2.2.1) ?_
              clear hK K
              try simp only [Act.put]
              refine anyU_one (i := 12) (by kernel_rfl) (by simp only [List.getElem?_toArray, List.getElem?_cons_succ, List.getElem?_cons_zero]; exact rfl) (fun K hK => ?_)
              refine step_storeR5 (r := rn) (x := .tmp 11) (y := .tmp 46) rfl rfl HF.out.2.1 ?_
              refine hK.out _ _ (fun e _ => absurd rfl e) ?_
              clear hK K
              try simp only [Act.put]
              refine anyU_done (by kernel_rfl) ?_
              refine NoPanic.normal ?_
              try simp only [Act.put]
              go_wp2
              go_meet
              exact ⟨_, _, p8, M8, A8, c8, rfl, rfl, hide HF.out.2.2.2⟩
          · skip
            try go_simp
            rw [zero_state]
            have HEAA := hide HD.out.allocA
            generalize wd.alloc (.cells (stc (.slice none 0 0) zeroL) 30) = wAA at HEAA ⊢
            generalize wd.heap.size = gA at HEAA ⊢
            refine hK.out _ _ (fun e _ => HEAA.out.bel) ?_
            clear hK K
            try simp only [Act.put, List.setIfInBounds_toArray, List.set_cons_zero, List.set_cons_succ]
            refine anyU_two (i := 5) (j := 10) (by kernel_rfl) (by simp only [List.getElem?_toArray, List.getElem?_cons_succ, List.getElem?_cons_zero]; exact rfl) (by simp only [List.getElem?_toArray, List.getElem?_cons_succ, List.getElem?_cons_zero]; exact rfl) (fun K hK => ?_) (fun K hK => ?_)
            · skip
              try go_simp
              refine (HA9.out _ HEAA.out.bel).mono ?_
              rintro e wCAC ⟨p8, M8, q8, rfl, hn, hq, hl, hap, hb⟩
              have HECAC := hide (HEAA.out.call hn hq hl hap hb)
              obtain ⟨A8, c8, rfl, _, _, _, _⟩ := hq.pin
              have H8p := hide hn.eight
              have H1p := hide hn.one
              clear hn hq hl hap hb
              dsimp only at HECAC H8p H1p ⊢
              refine hK.out _ _ (fun e _ => HECAC.out.bel) ?_
              clear hK K
              try simp only [Act.put, List.setIfInBounds_toArray, List.set_cons_zero, List.set_cons_succ]
              refine anyU_take (i := 6) (v := ?ov6bAC) (by simp only [List.getElem?_toArray, List.getElem?_cons_succ, List.getElem?_cons_zero]; exact rfl) (by kernel_rfl) (by kernel_rfl) (by kernel_rfl) (fun _ _ _ h => h) (by kernel_rfl) (by kernel_rfl) (by kernel_rfl) (Or.inl ⟨by rfl, ?oy6bAC⟩) (by with_reducible exact HECAC.out.bel) ?or6bAC
              case oy6bAC => (intro w hSw; skip; go_simp; try with_reducible rfl)
              try simp only [Act.put, List.setIfInBounds_toArray, List.set_cons_zero, List.set_cons_succ]
              refine anyU_take (i := 7) (v := ?ov7bAC) (by simp only [List.getElem?_toArray, List.getElem?_cons_succ, List.getElem?_cons_zero]; exact rfl) (by kernel_rfl) (by kernel_rfl) (by kernel_rfl) (fun _ _ _ h => h) (by kernel_rfl) (by kernel_rfl) (by kernel_rfl) (Or.inl ⟨by rfl, ?oy7bAC⟩) (by with_reducible exact HECAC.out.bel) ?or7bAC
              case oy7bAC => (intro w hSw; skip; go_simp; try with_reducible rfl)
              try simp only [Act.put, List.setIfInBounds_toArray, List.set_cons_zero, List.set_cons_succ]
              refine anyU_take (i := 8) (v := ?ov8bAC) (by simp only [List.getElem?_toArray, List.getElem?_cons_succ, List.getElem?_cons_zero]; exact rfl) (by kernel_rfl) (by kernel_rfl) (by kernel_rfl) (fun _ _ _ h => h) (by kernel_rfl) (by kernel_rfl) (by kernel_rfl) (Or.inl ⟨by rfl, ?oy8bAC⟩) (by with_reducible exact HECAC.out.bel) ?or8bAC
              case oy8bAC => (intro w hSw; skip; go_simp; try with_reducible rfl)
              try simp only [Act.put, List.setIfInBounds_toArray, List.set_cons_zero, List.set_cons_succ]
              refine anyU_one (i := 10) (by kernel_rfl) (by simp only [List.getElem?_toArray, List.getElem?_cons_succ, List.getElem?_cons_zero]; exact rfl) (fun K hK => ?_)
              try go_simp
              have HEBACB := hide HECAC.out.allocB
              generalize wCAC.alloc (.cells zero5 25) = wBACB at HEBACB ⊢
              generalize wCAC.heap.size = gB at HEBACB ⊢
              refine hK.out _ _ (fun e _ => HEBACB.out.bel) ?_
              clear hK K
              try simp only [Act.put, List.setIfInBounds_toArray, List.set_cons_zero, List.set_cons_succ]
              have HF := hide HEBACB.out.fin
              refine anyU_one (i := 11) (by kernel_rfl) (by simp only [List.getElem?_toArray, List.getElem?_cons_succ, List.getElem?_cons_zero]; exact rfl) (fun K hK => ?_)
              refine step_store49 (x := .tmp 10) (y := .tmp 45) rfl rfl H1p.out HF.out.1 rfl H8p.out ?_
              refine hK.out _ _ (fun e _ => HF.out.2.2.1) ?_
              clear hK K
              try simp only [Act.put]
              refine anyU_one (i := 12) (by kernel_rfl) (by simp only [List.getElem?_toArray, List.getElem?_cons_succ, List.getElem?_cons_zero]; exact rfl) (fun K hK => ?_)
              refine step_storeR5 (r := rn) (x := .tmp 11) (y := .tmp 46) rfl rfl HF.out.2.1 ?_
              refine hK.out _ _ (fun e _ => absurd rfl e) ?_
              clear hK K
              try simp only [Act.put]
              refine anyU_done (by kernel_rfl) ?_
              refine NoPanic.normal ?_
              try simp only [Act.put]
              go_wp2
              go_meet
              exact ⟨_, _, p8, M8, A8, c8, rfl, rfl, hide HF.out.2.2.2⟩
            · skip
              try go_simp
              have HEBAB := hide HEAA.out.allocB
              generalize wAA.alloc (.cells zero5 25) = wBAB at HEBAB ⊢
              generalize wAA.heap.size = gB at HEBAB ⊢
              refine hK.out _ _ (fun e _ => HEBAB.out.bel) ?_
              clear hK K
              try simp only [Act.put, List.setIfInBounds_toArray, List.set_cons_zero, List.set_cons_succ]
              refine anyU_one (i := 5) (by kernel_rfl) (by simp only [List.getElem?_toArray, List.getElem?_cons_succ, List.getElem?_cons_zero]; exact rfl) (fun K hK => ?_)
              try go_simp
              refine (HA9.out _ HEBAB.out.bel).mono ?_
              rintro e wCABC ⟨p8, M8, q8, rfl, hn, hq, hl, hap, hb⟩
              have HECABC := hide (HEBAB.out.call hn hq hl hap hb)
              obtain ⟨A8, c8, rfl, _, _, _, _⟩ := hq.pin
              have H8p := hide hn.eight
              have H1p := hide hn.one
              clear hn hq hl hap hb
              dsimp only at HECABC H8p H1p ⊢
              refine hK.out _ _ (fun e _ => HECABC.out.bel) ?_
              clear hK K
              try simp only [Act.put, List.setIfInBounds_toArray, List.set_cons_zero, List.set_cons_succ]
              refine anyU_take (i := 6) (v := ?ov6bABC) (by simp only [List.getElem?_toArray, List.getElem?_cons_succ, List.getElem?_cons_zero]; exact rfl) (by kernel_rfl) (by kernel_rfl) (by kernel_rfl) (fun _ _ _ h => h) (by kernel_rfl) (by kernel_rfl) (by kernel_rfl) (Or.inl ⟨by rfl, ?oy6bABC⟩) (by with_reducible exact HECABC.out.bel) ?or6bABC
              case oy6bABC => (intro w hSw; skip; go_simp; try with_reducible rfl)
              try simp only [Act.put, List.setIfInBounds_toArray, List.set_cons_zero, List.set_cons_succ]
              refine anyU_take (i := 7) (v := ?ov7bABC) (by simp only [List.getElem?_toArray, List.getElem?_cons_succ, List.getElem?_cons_zero]; exact rfl) (by kernel_rfl) (by kernel_rfl) (by kernel_rfl) (fun _ _ _ h => h) (by kernel_rfl) (by kernel_rfl) (by kernel_rfl) (Or.inl ⟨by rfl, ?oy7bABC⟩) (by with_reducible exact HECABC.out.bel) ?or7bABC
              case oy7bABC => (intro w hSw; skip; go_simp; try with_reducible rfl)
              try simp only [Act.put, List.setIfInBounds_toArray, List.set_cons_zero, List.set_cons_succ]
              refine anyU_take (i := 8) (v := ?ov8bABC) (by simp only [List.getElem?_toArray, List.getElem?_cons_succ, List.getElem?_cons_zero]; exact rfl) (by kernel_rfl) (by kernel_rfl) (by kernel_rfl) (fun _ _ _ h => h) (by kernel_rfl) (by kernel_rfl) (by kernel_rfl) (Or.inl ⟨by rfl, ?oy8bABC⟩) (by with_reducible exact HECABC.out.bel) ?or8bABC
              case oy8bABC => (intro w hSw; skip; go_simp; try with_reducible rfl)
              try simp only [Act.put, List.setIfInBounds_toArray, List.set_cons_zero, List.set_cons_succ]
              have HF := hide HECABC.out.fin
              refine anyU_one (i := 11) (by kernel_rfl) (by simp only [List.getElem?_toArray, List.getElem?_cons_succ, List.getElem?_cons_zero]; exact rfl) (fun K hK => ?_)
              refine step_store49 (x := .tmp 10) (y := .tmp 45) rfl rfl H1p.out HF.out.1 rfl H8p.out ?_
              refine hK.out _ _ (fun e _ => HF.out.2.2.1) ?_
              clear hK K
              try simp only [Act.put]
              refine anyU_one (i := 12) (by kernel_rfl) (by simp only [List.getElem?_toArray, List.getElem?_cons_succ, List.getElem?_cons_zero]; exact rfl) (fun K hK => ?_)
              refine step_storeR5 (r := rn) (x := .tmp 11) (y := .tmp 46) rfl rfl HF.out.2.1 ?_
              refine hK.out _ _ (fun e _ => absurd rfl e) ?_
              clear hK K
              try simp only [Act.put]
              refine anyU_done (by kernel_rfl) ?_
              refine NoPanic.normal ?_
              try simp only [Act.put]
              go_wp2
              go_meet
              exact ⟨_, _, p8, M8, A8, c8, rfl, rfl, hide HF.out.2.2.2⟩
          · skip
            try go_simp
            have HEBB := hide HD.out.allocB
            generalize wd.alloc (.cells zero5 25) = wBB at HEBB ⊢
            generalize wd.heap.size = gB at HEBB ⊢
            refine hK.out _ _ (fun e _ => HEBB.out.bel) ?_
            clear hK K
            try simp only [Act.put, List.setIfInBounds_toArray, List.set_cons_zero, List.set_cons_succ]
            refine anyU_two (i := 5) (j := 9) (by kernel_rfl) (by simp only [List.getElem?_toArray, List.getElem?_cons_succ, List.getElem?_cons_zero]; exact rfl) (by simp only [List.getElem?_toArray, List.getElem?_cons_succ, List.getElem?_cons_zero]; exact rfl) (fun K hK => ?_) (fun K hK => ?_)
            · skip
              try go_simp
              refine (HA9.out _ HEBB.out.bel).mono ?_
              rintro e wCBC ⟨p8, M8, q8, rfl, hn, hq, hl, hap, hb⟩
              have HECBC := hide (HEBB.out.call hn hq hl hap hb)
              obtain ⟨A8, c8, rfl, _, _, _, _⟩ := hq.pin
              have H8p := hide hn.eight
              have H1p := hide hn.one
              clear hn hq hl hap hb
              dsimp only at HECBC H8p H1p ⊢
              refine hK.out _ _ (fun e _ => HECBC.out.bel) ?_
              clear hK K
              try simp only [Act.put, List.setIfInBounds_toArray, List.set_cons_zero, List.set_cons_succ]
              refine anyU_take (i := 6) (v := ?ov6bBC) (by simp only [List.getElem?_toArray, List.getElem?_cons_succ, List.getElem?_cons_zero]; exact rfl) (by kernel_rfl) (by kernel_rfl) (by kernel_rfl) (fun _ _ _ h => h) (by kernel_rfl) (by kernel_rfl) (by kernel_rfl) (Or.inl ⟨by rfl, ?oy6bBC⟩) (by with_reducible exact HECBC.out.bel) ?or6bBC
              case oy6bBC => (intro w hSw; skip; go_simp; try with_reducible rfl)
              try simp only [Act.put, List.setIfInBounds_toArray, List.set_cons_zero, List.set_cons_succ]
              refine anyU_take (i := 7) (v := ?ov7bBC) (by simp only [List.getElem?_toArray, List.getElem?_cons_succ, List.getElem?_cons_zero]; exact rfl) (by kernel_rfl) (by kernel_rfl) (by kernel_rfl) (fun _ _ _ h => h) (by kernel_rfl) (by kernel_rfl) (by kernel_rfl) (Or.inl ⟨by rfl, ?oy7bBC⟩) (by with_reducible exact HECBC.out.bel) ?or7bBC
              case oy7bBC => (intro w hSw; skip; go_simp; try with_reducible rfl)
              try simp only [Act.put, List.setIfInBounds_toArray, List.set_cons_zero, List.set_cons_succ]
              refine anyU_take (i := 8) (v := ?ov8bBC) (by simp only [List.getElem?_toArray, List.getElem?_cons_succ, List.getElem?_cons_zero]; exact rfl) (by kernel_rfl) (by kernel_rfl) (by kernel_rfl) (fun _ _ _ h => h) (by kernel_rfl) (by kernel_rfl) (by kernel_rfl) (Or.inl ⟨by rfl, ?oy8bBC⟩) (by with_reducible exact HECBC.out.bel) ?or8bBC
              case oy8bBC => (intro w hSw; skip; go_simp; try with_reducible rfl)
              try simp only [Act.put, List.setIfInBounds_toArray, List.set_cons_zero, List.set_cons_succ]
              refine anyU_one (i := 9) (by kernel_rfl) (by simp only [List.getElem?_toArray, List.getElem?_cons_succ, List.getElem?_cons_zero]; exact rfl) (fun K hK => ?_)
              try go_simp
              rw [zero_state]
              have HEABCA := hide HECBC.out.allocA
              generalize wCBC.alloc (.cells (stc (.slice none 0 0) zeroL) 30) = wABCA at HEABCA ⊢
              generalize wCBC.heap.size = gA at HEABCA ⊢
              refine hK.out _ _ (fun e _ => HEABCA.out.bel) ?_
              clear hK K
              try simp only [Act.put, List.setIfInBounds_toArray, List.set_cons_zero, List.set_cons_succ]
              have HF := hide HEABCA.out.fin
              refine anyU_one (i := 11) (by kernel_rfl) (by simp only [List.getElem?_toArray, List.getElem?_cons_succ, List.getElem?_cons_zero]; exact rfl) (fun K hK => ?_)
              refine step_store49 (x := .tmp 10) (y := .tmp 45) rfl rfl H1p.out HF.out.1 rfl H8p.out ?_
              refine hK.out _ _ (fun e _ => HF.out.2.2.1) ?_
              clear hK K
              try simp only [Act.put]
              refine anyU_one (i := 12) (by kernel_rfl) (by simp only [List.getElem?_toArray, List.getElem?_cons_succ, List.getElem?_cons_zero]; exact rfl) (fun K hK => ?_)
              refine step_storeR5 (r := rn) (x := .tmp 11) (y := .tmp 46) rfl rfl HF.out.2.1 ?_
              refine hK.out _ _ (fun e _ => absurd rfl e) ?_
              clear hK K
              try simp only [Act.put]
              refine anyU_done (by kernel_rfl) ?_
              refine NoPanic.normal ?_
              try simp only [Act.put]
              go_wp2
              go_meet
              exact ⟨_, _, p8, M8, A8, c8, rfl, rfl, hide HF.out.2.2.2⟩
            · skip
              try go_simp
              rw [zero_state]
              have HEABA := hide HEBB.out.allocA
              generalize wBB.alloc (.cells (stc (.slice none 0 0) zeroL) 30) = wABA at HEABA ⊢
              generalize wBB.heap.size = gA at HEABA ⊢
              refine hK.out _ _ (fun e _ => HEABA.out.bel) ?_
              clear hK K
              try simp only [Act.put, List.setIfInBounds_toArray, List.set_cons_zero, List.set_cons_succ]
              refine anyU_one (i := 5) (by kernel_rfl) (by simp only [List.getElem?_toArray, List.getElem?_cons_succ, List.getElem?_cons_zero]; exact rfl) (fun K hK => ?_)
              try go_simp
              refine (HA9.out _ HEABA.out.bel).mono ?_
              rintro e wCBAC ⟨p8, M8, q8, rfl, hn, hq, hl, hap, hb⟩
              have HECBAC := hide (HEABA.out.call hn hq hl hap hb)
              obtain ⟨A8, c8, rfl, _, _, _, _⟩ := hq.pin
              have H8p := hide hn.eight
              have H1p := hide hn.one
              clear hn hq hl hap hb
              dsimp only at HECBAC H8p H1p ⊢
              refine hK.out _ _ (fun e _ => HECBAC.out.bel) ?_
              clear hK K
              try simp only [Act.put, List.setIfInBounds_toArray, List.set_cons_zero, List.set_cons_succ]
              refine anyU_take (i := 6) (v := ?ov6bBAC) (by simp only [List.getElem?_toArray, List.getElem?_cons_succ, List.getElem?_cons_zero]; exact rfl) (by kernel_rfl) (by kernel_rfl) (by kernel_rfl) (fun _ _ _ h => h) (by kernel_rfl) (by kernel_rfl) (by kernel_rfl) (Or.inl ⟨by rfl, ?oy6bBAC⟩) (by with_reducible exact HECBAC.out.bel) ?or6bBAC
              case oy6bBAC => (intro w hSw; skip; go_simp; try with_reducible rfl)
              try simp only [Act.put, List.setIfInBounds_toArray, List.set_cons_zero, List.set_cons_succ]
              refine anyU_take (i := 7) (v := ?ov7bBAC) (by simp only [List.getElem?_toArray, List.getElem?_cons_succ, List.getElem?_cons_zero]; exact rfl) (by kernel_rfl) (by kernel_rfl) (by kernel_rfl) (fun _ _ _ h => h) (by kernel_rfl) (by kernel_rfl) (by kernel_rfl) (Or.inl ⟨by rfl, ?oy7bBAC⟩) (by with_reducible exact HECBAC.out.bel) ?or7bBAC
              case oy7bBAC => (intro w hSw; skip; go_simp; try with_reducible rfl)
              try simp only [Act.put, List.setIfInBounds_toArray, List.set_cons_zero, List.set_cons_succ]
              refine anyU_take (i := 8) (v := ?ov8bBAC) (by simp only [List.getElem?_toArray, List.getElem?_cons_succ, List.getElem?_cons_zero]; exact rfl) (by kernel_rfl) (by kernel_rfl) (by kernel_rfl) (fun _ _ _ h => h) (by kernel_rfl) (by kernel_rfl) (by kernel_rfl) (Or.inl ⟨by rfl, ?oy8bBAC⟩) (by with_reducible exact HECBAC.out.bel) ?or8bBAC
              case oy8bBAC => (intro w hSw; skip; go_simp; try with_reducible rfl)
              try simp only [Act.put, List.setIfInBounds_toArray, List.set_cons_zero, List.set_cons_succ]
              have HF := hide HECBAC.out.fin
              refine anyU_one (i := 11) (by kernel_rfl) (by simp only [List.getElem?_toArray, List.getElem?_cons_succ, List.getElem?_cons_zero]; exact rfl) (fun K hK => ?_)
              refine step_store49 (x := .tmp 10) (y := .tmp 45) rfl rfl H1p.out HF.out.1 rfl H8p.out ?_
              refine hK.out _ _ (fun e _ => HF.out.2.2.1) ?_
              clear hK K
              try simp only [Act.put]
              refine anyU_one (i := 12) (by kernel_rfl) (by simp only [List.getElem?_toArray, List.getElem?_cons_succ, List.getElem?_cons_zero]; exact rfl) (fun K hK => ?_)
              refine step_storeR5 (r := rn) (x := .tmp 11) (y := .tmp 46) rfl rfl HF.out.2.1 ?_
              refine hK.out _ _ (fun e _ => absurd rfl e) ?_
              clear hK K
              try simp only [Act.put]
              refine anyU_done (by kernel_rfl) ?_
              refine NoPanic.normal ?_
              try simp only [Act.put]
              go_wp2
              go_meet
              exact ⟨_, _, p8, M8, A8, c8, rfl, rfl, hide HF.out.2.2.2⟩
        case rest =>
          obtain ⟨g10, g11, p10, M10, A11, c11, rfl, rfl, HF10⟩ := hcut
          obtain ⟨w10, hw10⟩ : ∃ z, z = wc := ⟨_, rfl⟩
          subst hw10
          have HL := hide (HP8.out.ln HF8.out HF10.out)
          have HP10 := hide (HP9.out.below HF10.out.bel)
          have R710 := hide (R79.out.below HF10.out.bel R79.out.lt)
          have I710 := hide (I79.out.below HF10.out.bel)
          have HX9 := hide (HF8.out.below HF10.out.bel)
          have HLV := hide (show ∀ k, v.ownBlock = some k → k < g9 ∧ k < g11 from fun k e => by have h1 := (HP8.out.rp.blk k e).2; have h2 := HF8.out.lb; have h3 := HF10.out.lb; have h4 := HF8.out.bel.size; omega)
          clear CA9 HB9 HP9 R79 I79 HA9 HP8 HF8 H83 H84
          have H88 := hide HX9.out.n.eight
          have H80 := hide HF10.out.n.eight
          have H83 := hide HP10.out.n3.eight
          go_upto_region 10 with (fail)
          go_cut [82] (fun s82 wx => s82 = .bool false ∧ Hid (Below w10.heap.size w10 wx))
          case first =>
            obtain ⟨tb, htb⟩ : ∃ t, eqS sn sk = t := ⟨_, rfl⟩
            have HTB := hide htb
            clear htb
            have HB0 : Below w10.heap.size w10 w10 := kept_refl w10
            refine wp_region_sp (fun w' => Below w10.heap.size w10 w') (by kernel_rfl) (by kernel_rfl) (show Below w10.heap.size w10 w10.drew from kept_drewN HB0 1) ?_
            generalize hS : (fun w' => Below w10.heap.size w10 w') = S
            have l0 : ∀ z : Sp S, z.w.cell? ⟨g9, 0, none⟩ = some (.int .i64 rn.why) := by subst hS; exact fun z => (HX9.out.rb.below z.ok HX9.out.rb.lt).five.1
            have l1 : ∀ z : Sp S, z.w.cell? ⟨g9, 1, none⟩ = some (.bool rn.fnd) := by subst hS; exact fun z => (HX9.out.rb.below z.ok HX9.out.rb.lt).five.2.1
            have l2 : ∀ z : Sp S, z.w.cell? ⟨g9, 2, none⟩ = some (.string rn.val) := by subst hS; exact fun z => (HX9.out.rb.below z.ok HX9.out.rb.lt).five.2.2.1
            have l3 : ∀ z : Sp S, z.w.cell? ⟨g9, 3, none⟩ = some (.int .i64 rn.ver) := by subst hS; exact fun z => (HX9.out.rb.below z.ok HX9.out.rb.lt).five.2.2.2.1
            have l4 : ∀ z : Sp S, z.w.cell? ⟨g9, 4, none⟩ = some (.slice A8 rn.l.length c8) := by subst hS; exact fun z => (HX9.out.rb.below z.ok HX9.out.rb.lt).five.2.2.2.2
            have l5 : ∀ z : Sp S, z.w.cell? ⟨g11, 0, none⟩ = some (.int .i64 rn.why) := by subst hS; exact fun z => (HF10.out.rb.below z.ok HF10.out.rb.lt).five.1
            have l6 : ∀ z : Sp S, z.w.cell? ⟨g11, 1, none⟩ = some (.bool rn.fnd) := by subst hS; exact fun z => (HF10.out.rb.below z.ok HF10.out.rb.lt).five.2.1
            have l7 : ∀ z : Sp S, z.w.cell? ⟨g11, 2, none⟩ = some (.string rn.val) := by subst hS; exact fun z => (HF10.out.rb.below z.ok HF10.out.rb.lt).five.2.2.1
            have l8 : ∀ z : Sp S, z.w.cell? ⟨g11, 3, none⟩ = some (.int .i64 rn.ver) := by subst hS; exact fun z => (HF10.out.rb.below z.ok HF10.out.rb.lt).five.2.2.2.1
            have l9 : ∀ z : Sp S, z.w.cell? ⟨g11, 4, none⟩ = some (.slice A11 rn.l.length c11) := by subst hS; exact fun z => (HF10.out.rb.below z.ok HF10.out.rb.lt).five.2.2.2.2
            have ne : Nonempty (Sp S) := by subst hS; exact ⟨⟨_, HB0⟩⟩
            have STEP := hide (show ∀ w w', S w → Below w.heap.size w w' → S w' by subst hS; exact fun _ _ h hb => kept_trans h hb)
            have OLD := hide (show ∀ z : Sp S, Below w10.heap.size w10 z.w by subst hS; exact fun z => z.ok)
            have L3 := hide (show ∀ z : Sp S, Row z.w g 30 (stc (.slice Ap sk.l.length cp) M) by subst hS; exact fun z => HP10.out.r3.below z.ok HP10.out.r3.lt)
            have L7 := hide (show ∀ z : Sp S, Row z.w g7 30 (stc p7 M7) by subst hS; exact fun z => R710.out.below z.ok R710.out.lt)
            have L8 := hide (show ∀ z : Sp S, Row z.w g8 30 (stc p8 M8) by subst hS; exact fun z => HX9.out.ra.below z.ok HX9.out.ra.lt)
            have L10 := hide (show ∀ z : Sp S, Row z.w g10 30 (stc p10 M10) by subst hS; exact fun z => HF10.out.ra.below z.ok HF10.out.ra.lt)
            have C13 := hide (fun wz (hz : Below w10.heap.size w10 wz) => replies_yes (a := rn) (b := rn) rfl (HX9.out.m.pin.below hz) (HF10.out.m.pin.below hz) HX9.out.ln HF10.out.ln)
            have C18a := hide (fun wz (hz : Below w10.heap.size w10 wz) => states_is (eqS_self sn) (HX9.out.n.isS.below hz) (HF10.out.n.isS.below hz))
            have C18b := hide (fun wz (hz : Below w10.heap.size w10 wz) => states_is (eqS_self sk) (HP10.out.n3.isS.below hz) (I710.out.below hz))
            have C19a := hide (fun wz (hz : Below w10.heap.size w10 wz) => same_is (eqS_self sn) (HX9.out.n.isS.below hz) (HX9.out.n.isS.below hz))
            have C19b := hide (fun wz (hz : Below w10.heap.size w10 wz) => same_is HTB.out (HX9.out.n.isS.below hz) (HP10.out.n3.isS.below hz))
            have C18c := hide (fun wz (hz : Below w10.heap.size w10 wz) => states_is HTB.out (HF10.out.n.isS.below hz) (I710.out.below hz))
            have C20 := hide (fun wz (hz : Below w10.heap.size w10 wz) => sright_yes (HX9.out.n.isS.below hz) HSR.out)
            clear HB0 hS
            repeat (first | ((with_reducible refine wpQuiet_load49 ?_ ?_ L3.out H83.out ?_); rfl; rfl; simp only [Act.put, List.setIfInBounds_toArray, List.set_cons_zero, List.set_cons_succ]) | ((with_reducible refine wpQuiet_load49 ?_ ?_ L7.out H87.out ?_); rfl; rfl; simp only [Act.put, List.setIfInBounds_toArray, List.set_cons_zero, List.set_cons_succ]) | ((with_reducible refine wpQuiet_load49 ?_ ?_ L8.out H88.out ?_); rfl; rfl; simp only [Act.put, List.setIfInBounds_toArray, List.set_cons_zero, List.set_cons_succ]) | ((with_reducible refine wpQuiet_load49 ?_ ?_ L10.out H80.out ?_); rfl; rfl; simp only [Act.put, List.setIfInBounds_toArray, List.set_cons_zero, List.set_cons_succ]) | go_big_quiet_step ((first | (go_at_call 13; with_reducible exact sp_call STEP.out _ (C13.out _ (OLD.out _))) | (go_at_call 18; with_reducible exact sp_call STEP.out _ (C18a.out _ (OLD.out _))) | (go_at_call 18; with_reducible exact sp_call STEP.out _ (C18b.out _ (OLD.out _))) | (go_at_call 19; with_reducible exact sp_call STEP.out _ (C19a.out _ (OLD.out _))) | (go_at_call 19; with_reducible exact sp_call STEP.out _ (C19b.out _ (OLD.out _))) | (go_at_call 18; with_reducible exact sp_call STEP.out _ (C18c.out _ (OLD.out _))) | (go_at_call 20; with_reducible exact sp_call STEP.out _ (C20.out _ (OLD.out _))))))
            refine wpQuiet_nil ?_
            intro kk
            have OK := hide (OLD.out kk)
            generalize kk.w = wk at OK ⊢
            clear l0 l1 l2 l3 l4 l5 l6 l7 l8 l9 ne OLD STEP
            go_wp2
            go_meet
            exact ⟨by cases tb <;> rfl, OK⟩
          case rest =>
            obtain ⟨rfl, HBC⟩ := hcut
            obtain ⟨w12, hw12⟩ : ∃ z, z = wc := ⟨_, rfl⟩
            subst hw12
            have HL2 := hide (HL.out.below HBC.out)
            clear HL HP10 R710 I710 HX9 HF10 H88 H80 H83 H87 HBC
            obtain ⟨i0, i1, i2, i3, i4⟩ := HL2.out.r11.five
            try dsimp only at i0 i1 i2 i3 i4
            have kb := kept_alloc (kept_refl w12) (.cells #[.int .i64 rn.why, .bool rn.fnd, .string rn.val, .int .i64 rn.ver, .slice A11 rn.l.length c11] 25)
            have RB := hide (Row.new w12 25 #[.int .i64 rn.why, .bool rn.fnd, .string rn.val, .int .i64 rn.ver, .slice A11 rn.l.length c11])
            have HL3 := hide (HL2.out.below kb)
            have HBZ := hide (Nat.le_trans HL3.out.r4.lt (Nat.le_refl _))
            have HRB : Hid (R.length ≤ 100000) := hide (by omega)
            clear kb
            go_upto_region 13 with (first
              | ((with_reducible refine wpList_append_reply (r := rn) ?_ (.tmp 83) (.tmp 85) ?_ ?_ HL3.out.rp ?_ RB.out HL3.out.m11 HL3.out.ln HRB.out HBZ.out ?_); rfl; rfl; rfl; rfl; intro v9 wv hv9 hg9; have HL4 := hide (HL3.out.more hv9 hg9 (fun e => by have := (HLV.out _ e.symm).1; omega) (fun e => by have := (HLV.out _ e.symm).2; omega)); clear hv9 hg9))
            clear i0 i1 i2 i3 i4 RB HL3 HL2 HBZ HRB HLV
            obtain ⟨y3, hy3⟩ : ∃ y, cellsV (prV sk.l) = y := ⟨_, rfl⟩
            obtain ⟨y9, hy9⟩ : ∃ y, cellsV (prV rn.l) = y := ⟨_, rfl⟩
            rw [hy3, hy9] at HL4
            clear hy3 hy9
            go_wp2
            go_loopw [12] (fun i wx => ∃ (j : Nat) (z9 : List Value), j ≤ rn.l.length ∧ i = .int .i64 j ∧ Hid (Ln W wx g g8 g9 g10 g11 sn rn (rk ++ [rn]) (.slice Ap sk.l.length cp) M p' M' p8 M8 (.slice A8 rn.l.length c8) p10 M10 (.slice A11 rn.l.length c11) v9 (R ++ [⟨rn, A11, c11⟩]) sk.l.length y3 z9)) (fun i _ => rn.l.length - (intOf i).toNat)
            case atStart => exact ⟨0, _, by omega, rfl, HL4⟩
            case round =>
              obtain ⟨j, z9, hj, rfl, HB⟩ := hrel
              clear HL4
              have hrl : rn.l.length ≤ 3518437208780 := HB.out.ln
              by_cases hjl : j < rn.l.length
              · obtain ⟨kq, rfl, hqc⟩ := own_some HB.out.o9 (by omega)
                obtain ⟨⟨x0, x1, x2, c0, c1, c2⟩, ⟨f0, f1, f2⟩, ys, ho, hg⟩ := own_three HB.out.o9 hjl (.string { data := #[] }) (.string { data := #[] }) (.int .i64 (-1))
                have HZ := hide (HB.out.w9 hg ho)
                clear ho hg
                obtain ⟨_, _, _, _, c4⟩ := HB.out.r9.five
                have hjl' : (j : Int) < (rn.l.length : Int) := by omega
                go_wp2
                go_roundw
                case rel => exact ⟨j + 1, ys, by omega, by go_num, HZ⟩
                case measure => simp [intOf]; omega
              · obtain rfl : j = rn.l.length := by omega
                obtain ⟨_, _, _, _, c4⟩ := HB.out.r9.five
                have hnl : ¬ ((rn.l.length : Int) < (rn.l.length : Int)) := by omega
                go_upto_region 17 with (fail)
                clear c4 hnl
                go_wp2
                go_loopw [13] (fun i wx => ∃ (j : Nat) (z3 : List Value), j ≤ sk.l.length ∧ i = .int .i64 j ∧ Hid (Ln W wx g g8 g9 g10 g11 sn rn (rk ++ [rn]) (.slice Ap sk.l.length cp) M p' M' p8 M8 (.slice A8 rn.l.length c8) p10 M10 (.slice A11 rn.l.length c11) v9 (R ++ [⟨rn, A11, c11⟩]) sk.l.length z3 z9)) (fun i _ => sk.l.length - (intOf i).toNat)
                case atStart => exact ⟨0, _, by omega, rfl, HB⟩
                case round =>
                  obtain ⟨j, z3, hj3, rfl, HB3⟩ := hrel
                  clear HB
                  have hsl : sk.l.length ≤ 1000 := HSK.out
                  by_cases hjl : j < sk.l.length
                  · obtain ⟨kq, rfl, hqc⟩ := own_some HB3.out.o3 (by omega)
                    obtain ⟨⟨x0, x1, x2, c0, c1, c2⟩, ⟨f0, f1, f2⟩, ys, ho, hg⟩ := own_three HB3.out.o3 hjl (.string { data := #[] }) (.string { data := #[] }) (.int .i64 (-2))
                    have HZ := hide (HB3.out.w3 hg ho)
                    clear ho hg
                    have c4 := HB3.out.r3.pairs49
                    have hjl' : (j : Int) < (sk.l.length : Int) := by omega
                    go_wp2
                    go_roundw
                    case rel => exact ⟨j + 1, ys, by omega, by go_num, HZ⟩
                    case measure => simp [intOf]; omega
                  · obtain rfl : j = sk.l.length := by omega
                    have c4 := HB3.out.r3.pairs49
                    have hnl : ¬ ((sk.l.length : Int) < (sk.l.length : Int)) := by omega
                    go_upto_region 21 with (fail)
                    clear c4 hnl
                    have H88 := hide HB3.out.n8.eight
                    have H80 := hide HB3.out.n10.eight
                    have H18 := hide HB3.out.n8.one
                    have H10 := hide HB3.out.n10.one
                    have G8 := hide HB3.out.g8
                    have G10 := hide HB3.out.g10
                    refine wp_region_noPanic ?_
                    refine wp_region_U 3 (fun w' => Row w' g8 30 (stc p8 M8) ∧ Row w' g10 30 (stc p10 M10)) (by kernel_rfl) ?_
                    have HD := hide (show Ln W (World.drew wr) g g8 g9 g10 g11 sn rn (rk ++ [rn]) (.slice Ap sk.l.length cp) M p' M' p8 M8 (.slice A8 rn.l.length c8) p10 M10 (.slice A11 rn.l.length c11) v9 (R ++ [⟨rn, A11, c11⟩]) sk.l.length z3 z9 from HB3.out.below (kept_drewN (kept_refl wr) 1))
                    clear HB3
                    generalize World.drew _ = wd at HD ⊢
                    refine anyU_take (i := 0) (v := .agg (stc p8 M8)) (by simp only [List.getElem?_toArray, List.getElem?_cons_zero]; exact rfl) (by kernel_rfl) (by kernel_rfl) (by kernel_rfl) (fun _ _ _ h => h) (by kernel_rfl) (by kernel_rfl) (by kernel_rfl) (yields_load49 (x := .tmp 8) (by rfl) (by rfl) (by rfl) H88.out (fun _ h => h.1)) (by with_reducible exact ⟨HD.out.r8, HD.out.r10⟩) ?_
                    try simp only [Act.put, List.setIfInBounds_toArray, List.set_cons_zero, List.set_cons_succ]
                    refine anyU_take (i := 1) (v := .agg (stc p10 M10)) (by simp only [List.getElem?_toArray, List.getElem?_cons_succ, List.getElem?_cons_zero]; exact rfl) (by kernel_rfl) (by kernel_rfl) (by kernel_rfl) (fun _ _ _ h => h) (by kernel_rfl) (by kernel_rfl) (by kernel_rfl) (yields_load49 (x := .tmp 10) (by rfl) (by rfl) (by rfl) H80.out (fun _ h => h.2)) (by with_reducible exact ⟨HD.out.r8, HD.out.r10⟩) ?_
                    try simp only [Act.put, List.setIfInBounds_toArray, List.set_cons_zero, List.set_cons_succ]
                    refine anyU_one (i := 2) (by kernel_rfl) (by simp only [List.getElem?_toArray, List.getElem?_cons_succ, List.getElem?_cons_zero]; exact rfl) (fun K hK => ?_)
                    refine step_store49 (x := .tmp 3) (y := .tmp 111) rfl rfl H18.out HD.out.r3 HD.out.l3 H88.out ?_
                    refine hK.out _ _ (fun e _ => ⟨HD.out.r8.setRow_other (by have := G8.out; omega) _, HD.out.r10.setRow_other (by have := G10.out; omega) _⟩) ?_
                    clear hK K
                    try simp only [Act.put]
                    refine anyU_one (i := 3) (by kernel_rfl) (by simp only [List.getElem?_toArray, List.getElem?_cons_succ, List.getElem?_cons_zero]; exact rfl) (fun K hK => ?_)
                    refine step_store49 (x := .tmp 4) (y := .tmp 112) rfl rfl H10.out (HD.out.r4.setRow_other (by omega) _) HD.out.l4 H80.out ?_
                    refine hK.out _ _ (fun e _ => absurd rfl e) ?_
                    clear hK K
                    try simp only [Act.put]
                    refine anyU_done (by kernel_rfl) ?_
                    refine NoPanic.normal ?_
                    try simp only [Act.put]
                    have HZ := hide HD.out.lp
                    clear HD
                    generalize (wd.setRow g (stc p8 M8)).setRow (g + 1) (stc p10 M10) = wz at HZ ⊢
                    have R3 := hide HZ.out.r3
                    have R4 := hide HZ.out.r4
                    have CST := hide (states_is (eqS_self sn) HZ.out.n3.isS HZ.out.n4.isS)
                    go_wp2_with (first
                      | ((with_reducible refine wpList_load49 ?_ R3.out H88.out ?_); rfl)
                      | ((with_reducible refine wpList_load49 ?_ R4.out H80.out ?_); rfl)
                      | (go_at_call 18; (with_reducible refine CST.out.mono ?_); rintro e wy ⟨rfl, hby⟩; have HZ2 := hide (HZ.out.below hby); clear hby))
                    go_roundw
                    case rel => exact ⟨k + 1, _, _, _, _, _, _, by omega, by go_num, rfl, hide (by rw [HNX.out]; exact HZ2.out)⟩
                    case measure => simp [intOf]; omega
    · obtain rfl : k = m := by omega
      have hnl : ¬ ((k : Int) < (k : Int)) := by omega
      rw [List.take_of_length_le (by rw [HCL.out]; exact Nat.le_refl _)] at HM
      have HPL := hide (play0 A cc k cs wr (HC.out.below HM.out.bel) HCL.out hm60)
      go_upto_region 25 with (first
        | (go_at_call 11; (with_reducible refine HPL.out.mono ?_); rintro e wz ⟨pz, Mz, vz, RZ, rfl, hn, hr, hi, hb⟩; have HNZ := hide hn; have HRZ := hide hr; have HIZ := hide hi; have HBZ := hide hb; have H8 := hide hn.eight; have H1 := hide hn.one; clear hn hr hi hb)
        | ((with_reducible refine wpList_store49n ?_ ?_ H1.out H8.out ?_); rfl; rfl))
      have ka := kept_alloc (kept_refl wz) (.cells (stc pz Mz) 30)
      have HMY := hide (HM.out.below (kept_trans HBZ.out ka))
      have RZZ := hide (Row.new wz 30 (stc pz Mz))
      have NZZ := hide (HNZ.out.below ka).isS
      have HRY := hide (HRZ.out.below ka)
      clear ka HM HBZ HNZ HRZ H1 HPL
      generalize wz.alloc (.cells (stc pz Mz) 30) = wy at HMY RZZ NZZ HRY ⊢
      generalize wz.heap.size = gz at HRY RZZ ⊢
      have HLE := hide (show R.length = k ∧ RZ.length = k from by
        have h1 := congrArg List.length HMY.out.is
        have h2 := congrArg List.length HIZ.out
        have h3 := playP_len cs zeroS
        have h4 := HCL.out
        rw [List.length_map] at h1 h2
        omega)
      have HEQ := hide (HMY.out.is.trans HIZ.out.symm)
      obtain ⟨AV, cV, rfl, hv1, hv2, HEV⟩ := HMY.out.rp.els
      obtain ⟨AZ, cZ, rfl, hz1, hz2, HEZ⟩ := HRY.out.els
      have HEVH := hide HEV
      have HEZH := hide HEZ
      clear HEV HEZ
      have hl1 := HLE.out.1
      have hl2 := HLE.out.2
      rw [hl1] at hv1
      rw [hl2] at hz1
      rw [hl1, hl2]
      clear hl1 hl2
      go_wp2
      go_loopw [16] (fun i wx => ∃ j : Nat, j ≤ k ∧ i = .int .i64 j ∧ Hid (Below wy.heap.size wy wx)) (fun i _ => k - (intOf i).toNat)
      case atStart => exact ⟨0, by omega, rfl, hide (kept_refl _)⟩
      case round =>
        obtain ⟨j, hj, rfl, HB⟩ := hrel
        by_cases hjl : j < k
        · obtain ⟨x, hx⟩ : ∃ x, R[j]? = some x := ⟨_, List.getElem?_eq_getElem (by rw [HLE.out.1]; exact hjl)⟩
          obtain ⟨y, hy⟩ : ∃ y, RZ[j]? = some y := ⟨_, List.getElem?_eq_getElem (by rw [HLE.out.2]; exact hjl)⟩
          have HXY : Hid (y.r = x.r) := hide (by
            have h1 : (R.map Cr.r)[j]? = some x.r := by rw [List.getElem?_map, hx]; rfl
            rw [HEQ.out, List.getElem?_map, hy] at h1
            exact Option.some.inj h1)
          obtain ⟨d5, o5, rfl, hd5, ra⟩ := els_reply (HEVH.out.below HB.out) hx
          obtain ⟨d6, o6, rfl, hd6, rb⟩ := els_reply (HEZH.out.below HB.out) hy
          have RA := hide ra
          have RB := hide rb
          have HD5 := hide hd5
          have HD6 := hide hd6
          have HX := hide (HMY.out.rp.own x (List.mem_of_getElem? hx))
          have HYY := hide (HRY.out.own y (List.mem_of_getElem? hy))
          clear ra rb hd5 hd6 hx hy
          have hjl' : (j : Int) < (k : Int) := by omega
          have tb1 : decide (j < k) = true := decide_eq_true hjl
          have tb2 : decide ((j : Int) < (k : Int)) = true := decide_eq_true hjl'
          have hk60 : k ≤ 60 := hm60
          go_upto_region 28 with (fail)
          go_cut [144] (fun s144 wx => s144 = .bool false ∧ Hid (Below wy.heap.size wy wx))
          case first =>
            have HB0 : Below wr.heap.size wr wr := kept_refl wr
            refine wp_region_sp (fun w' => Below wr.heap.size wr w') (by kernel_rfl) (by kernel_rfl) (show Below wr.heap.size wr wr.drew from kept_drewN HB0 1) ?_
            generalize hS : (fun w' => Below wr.heap.size wr w') = S
            have l0 : ∀ z : Sp S, z.w.cell? ⟨d5, o5 + j * 5, none⟩ = some (.int .i64 x.r.why) := by subst hS; exact fun z => (RA.out.below HD5.out z.ok).1
            have l1 : ∀ z : Sp S, z.w.cell? ⟨d5, o5 + j * 5 + 1, none⟩ = some (.bool x.r.fnd) := by subst hS; exact fun z => (RA.out.below HD5.out z.ok).2.1
            have l2 : ∀ z : Sp S, z.w.cell? ⟨d5, o5 + j * 5 + 2, none⟩ = some (.string x.r.val) := by subst hS; exact fun z => (RA.out.below HD5.out z.ok).2.2.1
            have l3 : ∀ z : Sp S, z.w.cell? ⟨d5, o5 + j * 5 + 3, none⟩ = some (.int .i64 x.r.ver) := by subst hS; exact fun z => (RA.out.below HD5.out z.ok).2.2.2.1
            have l4 : ∀ z : Sp S, z.w.cell? ⟨d5, o5 + j * 5 + 4, none⟩ = some (Value.slice x.A x.r.l.length x.c) := by subst hS; exact fun z => (RA.out.below HD5.out z.ok).2.2.2.2
            have l5 : ∀ z : Sp S, z.w.cell? ⟨d6, o6 + j * 5, none⟩ = some (.int .i64 y.r.why) := by subst hS; exact fun z => (RB.out.below HD6.out z.ok).1
            have l6 : ∀ z : Sp S, z.w.cell? ⟨d6, o6 + j * 5 + 1, none⟩ = some (.bool y.r.fnd) := by subst hS; exact fun z => (RB.out.below HD6.out z.ok).2.1
            have l7 : ∀ z : Sp S, z.w.cell? ⟨d6, o6 + j * 5 + 2, none⟩ = some (.string y.r.val) := by subst hS; exact fun z => (RB.out.below HD6.out z.ok).2.2.1
            have l8 : ∀ z : Sp S, z.w.cell? ⟨d6, o6 + j * 5 + 3, none⟩ = some (.int .i64 y.r.ver) := by subst hS; exact fun z => (RB.out.below HD6.out z.ok).2.2.2.1
            have l9 : ∀ z : Sp S, z.w.cell? ⟨d6, o6 + j * 5 + 4, none⟩ = some (Value.slice y.A y.r.l.length y.c) := by subst hS; exact fun z => (RB.out.below HD6.out z.ok).2.2.2.2
            have ne : Nonempty (Sp S) := by subst hS; exact ⟨⟨_, HB0⟩⟩
            have STEP := hide (show ∀ w w', S w → Below w.heap.size w w' → S w' by subst hS; exact fun _ _ h hb => kept_trans h hb)
            have OLD := hide (show ∀ z : Sp S, Below wr.heap.size wr z.w by subst hS; exact fun z => z.ok)
            have C13 := hide (fun wz (hz : Below wr.heap.size wr wz) => replies_yes (p := .slice y.A y.r.l.length y.c) (q := .slice x.A x.r.l.length x.c) HXY.out (HYY.out.1.pin.below (kept_trans HB.out hz)) (HX.out.1.pin.below (kept_trans HB.out hz)) HYY.out.2 HX.out.2)
            clear HB0 hS
            repeat (go_big_quiet_step ((go_at_call 13; with_reducible exact sp_call STEP.out _ (C13.out _ (OLD.out _)))))
            refine wpQuiet_nil ?_
            intro kk
            have OK := hide (OLD.out kk)
            generalize kk.w = wk at OK ⊢
            clear l0 l1 l2 l3 l4 l5 l6 l7 l8 l9 ne OLD STEP
            go_wp2
            go_meet
            exact ⟨rfl, hide (kept_trans HB.out OK.out)⟩
          case rest =>
            obtain ⟨rfl, HBN⟩ := hcut
            go_wp2
            go_roundw
            case rel => exact ⟨j + 1, by omega, by go_num, HBN⟩
            case measure => simp [intOf]; omega
        · obtain rfl : j = k := by omega
          have hnl : ¬ ((j : Int) < (j : Int)) := by omega
          have tb1 : decide (j < j) = false := by simp
          have tb2 : decide ((j : Int) < (j : Int)) = false := by simp
          have RZ2 := hide (RZZ.out.below HB.out RZZ.out.lt)
          have R42 := hide (HMY.out.r4.below HB.out HMY.out.r4.lt)
          have H84 := hide HMY.out.n4.eight
          have CST := hide (states_is (eqS_self (playP zeroS cs).1) (NZZ.out.below HB.out) (HMY.out.n4.isS.below HB.out))
          go_wp2_with (first
            | ((with_reducible refine wpList_load49 ?_ RZ2.out H8.out ?_); rfl)
            | ((with_reducible refine wpList_load49 ?_ R42.out H84.out ?_); rfl)
            | (go_at_call 18; (with_reducible refine CST.out.mono ?_); rintro e w6 ⟨rfl, hb⟩; have HB6 := hide (kept_trans HB.out hb); clear hb)
            | (go_at_call 3; (with_reducible refine (RUN.out _).mono ?_); rintro e w9 ⟨rfl, hb9⟩))
          go_ret
          exact ⟨rfl, kept_trans (kept_trans HMY.out.bel HB6.out) hb9⟩
set_option maxRecDepth 100000 in
theorem lifted (os : Os) (started : os.Started) (H : Type) (enc : TypeId × Value → H) :
    ReturnsInHanded {} Try.checked os 4 .any (Rows.statePlaysSpec.pre6 enc Try.prog Try.f4 Rows.statePlaysRow.domain false) (Rows.statePlaysSpec.post enc Try.prog Try.f4 false true false false) := by
  refine returnsInHanded_of_change_sized (C := Try.checked) own started (by kernel_rfl) Try.func4
    (ChangeSpec.witness6 (enc := enc) (C := Try.checked) false ⟨#[], #[.slice none 0 0], []⟩ 8 (by kernel_rfl) (by kernel_rfl) (by kernel_rfl) (by kernel_rfl)) ?_
  intro W base args ds gs before hval0 hW _ hsz0 _
  have hval : ∀ (j : Nat) t v, Try.f4.params[j]? = some t → args[j]? = some v → Value.okWide Try.prog W .any base t v := hval0
  have hW' := hW
  obtain ⟨p, q, hA0, hV, rfl, _, _⟩ := hW
  have hA : DataW.TrodAll enc Try.prog W 0 (fun _ => true) true Try.f4.params.toList args.toList ds p := hA0
  have hsz : (DataW.weightsEach Try.prog (Try.f4.params.toList ++ Rows.statePlaysSpec.plain.varTypes Try.prog) (ds ++ gs)).all (· ≤ reachBytes) = true := hsz0
  rw [Try.params4] at hA hval hsz
  obtain ⟨v0, vs0, d0, ds0, p0, q0, hargs, rfl, rfl, h0, r0⟩ := trodAll_cons hA
  obtain ⟨rfl, rfl, rfl⟩ := trodAll_nil r0
  obtain rfl : args = #[v0] := by cases args; simp_all
  obtain ⟨rfl, rfl⟩ := trodVars_none hV
  have k0 := h0
  have lt0 : ∀ x ∈ p0, x.block < W.heap.size := by obtain ⟨m, hm⟩ := k0; exact DataW.trod_lt m _ _ _ hm
  obtain ⟨A0, n0, c0, rfl⟩ := okWide_slice Try.underlying39 (hval 0 39 v0 rfl rfl)
  obtain ⟨z0, s0⟩ := cmds_in (j := 0) h0 hsz rfl rfl
  clear hA0 hval0
  refine (walk A0 n0 c0 z0 W s0).mono fun e W' ⟨he, bel⟩ => ?_
  subst he
  exact ⟨_, rfl, _, _, _, [], _, [], hW', trodAll_mk1 (shut_bool Try.underlying4 _), (trodAll_cons_mk (Below.trod laidOut (by kernel_rfl) (of_decide_eq_true (by kernel_rfl)) k0 bel lt0) trodAll_mk0), rfl, bel.frame _, fun h => by cases h⟩
theorem over : Rows.statePlaysRow.holds Try.pinned (OpenSpec.ofChange Rows.statePlaysSpec) :=
  OpenClaim.holds_of_wide 4 Try.f4 rfl rfl rfl rfl rfl rfl rfl ⟨rfl, rfl, rfl, rfl, rfl⟩ rfl rfl rfl rfl rfl (by kernel_rfl) Try.func4 (by kernel_rfl)
    (of_decide_eq_true (by kernel_rfl)) (by unfold Func.isWrapper; first | (rw [if_pos (by decide +kernel)]; kernel_rfl) | (rw [if_neg (by decide +kernel)]; exact ⟨rfl, rfl⟩))
    (fun os started H enc _ => lifted os started H enc)
theorem proved : Rows.StatePlaysSaid := over
end Go.Proofs.Ytahfpncfkcfogaa.statePlays
