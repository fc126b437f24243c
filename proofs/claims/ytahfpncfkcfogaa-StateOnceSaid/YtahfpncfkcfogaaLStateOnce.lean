/- Proved: the law StateOnce returns true. Conditions: none beyond the row's own. -/
import Derived.Test.YtahfpncfkcfogaaGa
import Derived.Test.YtahfpncfkcfogaaOa
import Derived.Test.YtahfpncfkcfogaaGbk
import Derived.Test.YtahfpncfkcfogaaGq
import Derived.Test.YtahfpncfkcfogaaGs
import Derived.Deep.DeepCutAuto
import Derived.Deep.CutBlock
import Derived.BigQuiet
namespace Go.Proofs.Ytahfpncfkcfogaa.stateOnce
open Go.ChangeShapes Go.WideShapes Go.ChangeAt Go.RowKit
set_option maxRecDepth 100000 in
set_option maxHeartbeats 16000000 in
theorem walk (A : Option Addr) (n cc : Nat) (it : Nat → Cm) (W : World) (h : CmsIn W A n cc it) :
    Calls Try.prog 6 #[.slice A n cc] W fun e w' => e = .returned (.bool true) ∧ Below W.heap.size W w' := by
  have RUN := hide (fun w => runs_any w)
  have hm60 : min n 60 ≤ 60 := Nat.min_le_right _ _
  have HC := hide (h.cml (min n 60) (Nat.min_le_left _ _))
  have HCL := hide (cmsL_len it (min n 60))
  have HSH := hide (fun w => short_any A n cc w h.le h.room)
  clear h
  generalize cmsL it (min n 60) = cs at HC HCL
  generalize min n 60 = m at HCL HSH hm60
  have Z1 := hide (slice_one none 0 0)
  have Z8 : Hid (zeroL.length = 8) := hide rfl
  go_enter Try.func6, Try.ntmps6
  go_upto_region 3 with (first
    | (go_at_call 14; (with_reducible refine (HSH.out _).mono ?_); rintro e w2 ⟨rfl, rfl⟩)
    | ((with_reducible refine wpList_store49n (q := .slice none 0 0) (M := zeroL) ?_ ?_ Z1.out Z8.out ?_); rfl; rfl))
  rw [zero_state]
  have HQ : Hid (Oq W (W.alloc (.cells (stc (.slice none 0 0) zeroL) 30)) W.heap.size zeroS (.slice none 0 0) zeroL [] [] (.slice none 0 0) (.slice none 0 0)) := hide ⟨Row.new W _ _, zero_new _ _, World.ownsRow_nil _ _ _ _, World.ownsRow_nil _ _ _ _, rfl, kept_alloc (kept_refl W) _, Nat.le_refl _⟩
  generalize W.alloc (.cells (stc (.slice none 0 0) zeroL) 30) = w3 at HQ ⊢
  obtain ⟨g, hgW⟩ : ∃ g, W.heap.size = g := ⟨_, rfl⟩
  have HGW := hide hgW
  rw [hgW] at HQ ⊢
  clear hgW
  go_wp2
  go_loopw [6, 4, 5] (fun i d t wr => ∃ (k : Nat) (p : Value) (M : List Co) (D : List (Int × Int)) (T : List (List Value)) (vd vt : Value), k ≤ m ∧ i = .int .i64 k ∧ vd = d ∧ vt = t ∧ Hid (D.length ≤ k) ∧ Hid (Oq W wr g (playP zeroS (cs.take k)).1 p M D T vd vt) ∧ Hid (Dn (playP zeroS (cs.take k)).1.o D)) (fun i _ _ _ => m - (intOf i).toNat)
  case atStart => exact ⟨0, _, _, [], [], _, _, by omega, rfl, rfl, rfl, hide (Nat.le_refl 0), HQ, hide (fun p hp => by cases hp)⟩
  case round =>
    obtain ⟨k, p, M, D, T, vd, vt, hk, rfl, rfl, rfl, HDK, HM, HDN⟩ := hrel
    clear HQ
    by_cases hlt : k < m
    · obtain ⟨x, hx⟩ : ∃ x, cs[k]? = some x := ⟨_, List.getElem?_eq_getElem (by rw [HCL.out]; exact hlt)⟩
      have HNX := hide (play_next zeroS hx)
      have HUK := hide (play0_up (cs.take k))
      have HRS := hide (play0_right (cs.take k) (by rw [List.length_take]; omega)).eight
      obtain ⟨y, hy⟩ : ∃ y, playP zeroS (cs.take k) = y := ⟨_, rfl⟩
      rw [hy] at HM HNX HUK HRS HDN
      clear hy
      obtain ⟨sk, rk⟩ := y
      dsimp only at HM HNX HUK HRS HDN
      have HSK : Hid (sk.l.length ≤ 1000) := hide (by have h1 := HUK.out.2; rw [List.length_take] at h1; omega)
      obtain ⟨b, off, rfl, hbs, ca⟩ := (HC.out.below HM.out.bel).at_ hx
      have ca0 := ca.c0
      have ca1 := ca.c1
      have ca2 := ca.c2
      have ca3 := ca.c3
      have ca4 := ca.c4
      have ca5 := ca.c5
      have ca6 := ca.c6
      have hlt' : (k : Int) < (m : Int) := by omega
      clear ca hx
      go_upto_region 9 with (fail)
      have KB := hide (kept_alloc (kept_refl wr) (.cells #[.int .i64 x.k, .int .i64 x.c, .int .i64 x.q, .string x.key, .string x.en, .string x.old, .string x.val] 35))
      have RC := hide (Row.new wr 35 #[.int .i64 x.k, .int .i64 x.c, .int .i64 x.q, .string x.key, .string x.en, .string x.old, .string x.val])
      have HLT := hide HM.out.lt
      have HM5 := hide (HM.out.below KB.out)
      clear ca0 ca1 ca2 ca3 ca4 ca5 ca6
      generalize wr.alloc (.cells #[.int .i64 x.k, .int .i64 x.c, .int .i64 x.q, .string x.key, .string x.en, .string x.old, .string x.val] 35) = w5 at KB RC HM5 ⊢
      have HG7 := hide (Nat.le_refl wr.heap.size)
      obtain ⟨g7, hg7⟩ : ∃ g, wr.heap.size = g := ⟨_, rfl⟩
      have HE7 := hide hg7
      rw [hg7] at RC HLT ⊢
      clear hg7 HG7
      obtain ⟨a0, a1, a2, a3, a4, a5, a6⟩ := (seven_of (x := x) RC.out).cells
      have HAP := hide (apply_any p M sk x w5 HM5.out.st.isS HUK.out.1 HSK.out)
      unfold valC at HAP
      have RS := hide HM5.out.row
      have H8M := hide HM5.out.st.eight
      go_upto_region 10 with (first
        | ((with_reducible refine wpList_load49 ?_ RS.out H8M.out ?_); rfl)
        | (go_at_call 16; (with_reducible refine HAP.out.mono ?_); rintro e w6 ⟨p6, M6, q6, rfl, hn6, hq6, hl6, _, hb6⟩; obtain ⟨A6, c6, rfl, _, _, _, _⟩ := hq6.pin; have H86 := hide hn6.eight; have H16 := hide hn6.one)
        | (rw [zero_state]; (with_reducible refine wpList_store49 ?_ ?_ H16.out (pa_0 _).1 (L := zeroL) rfl H86.out ?_); rfl; rfl; have ZR := (pa_0 w6).2.setRow_other (show w6.heap.size + 1 ≠ w6.heap.size by omega) (stc p6 M6); obtain ⟨z0, z1, z2, z3, z4⟩ := ZR.five; have y0 := ZR.free 0; have y1 := ZR.free 1; have y2 := ZR.free 2; have y3 := ZR.free 3; have y4 := ZR.free 4))
      have hw : ((((((((w6.alloc (.cells (stc (.slice none 0 0) zeroL) 30)).alloc (.cells #[.int .i64 0, .bool false, .string { data := #[] }, .int .i64 0, .slice none 0 0] 25)).setRow w6.heap.size (stc p6 M6)).setCell ⟨w6.heap.size + 1, 0, none⟩ (.int .i64 (applyP sk x).2.why)).setCell ⟨w6.heap.size + 1, 1, none⟩ (.bool (applyP sk x).2.fnd)).setCell ⟨w6.heap.size + 1, 2, none⟩ (.string (applyP sk x).2.val)).setCell ⟨w6.heap.size + 1, 3, none⟩ (.int .i64 (applyP sk x).2.ver)).setCell ⟨w6.heap.size + 1, 4, none⟩ (.slice A6 (applyP sk x).2.l.length c6)) = paW w6 p6 M6 (applyP sk x).2 (.slice A6 (applyP sk x).2.l.length c6) := rfl
      rw [hw]
      have HOM := hide (HM.out.om (x := x) (g7 := g7) (r := (applyP sk x).2) RC.out KB.out (by rw [← HE7.out]; exact Nat.le_refl _) rfl hn6 hq6 hl6 hb6)
      have HTL := hide HM.out.len
      clear hw hn6 hq6 hl6 hb6 z0 z1 z2 z3 z4 y0 y1 y2 y3 y4 ZR RS H8M HM HM5 RC KB a0 a1 a2 a3 a4 a5 a6 HAP H16 H86
      generalize paW w6 p6 M6 (applyP sk x).2 (.slice A6 (applyP sk x).2.l.length c6) = w7 at HOM ⊢
      generalize w6.heap.size = g8 at HOM ⊢
      have HAG := hide (apply_again HRS.out x)
      have HON := hide (apply_once HRS.out HDN.out x)
      have HAU := hide (apply_up HUK.out.1 x)
      obtain ⟨y, hy⟩ : ∃ y, applyP sk x = y := ⟨_, rfl⟩
      rw [hy] at HOM HNX HAG HON HAU
      rw [hy]
      clear hy
      obtain ⟨sn, rn⟩ := y
      dsimp only at HOM HNX HAG HON HAU ⊢
      have HSA := hide (psame_below p6 p sn.l sk.l w7 HOM.out.st.pin.pin HOM.out.ns.pin.pin (by have := HOM.out.st.room; omega) (by have := HOM.out.ns.room; omega))
      have c8 := HOM.out.r8.pairs49
      have c3 := HOM.out.row.pairs49
      obtain ⟨tb, htb⟩ : ∃ t, decide (sn.l = sk.l) = t := ⟨_, rfl⟩
      rw [htb] at HSA
      have HTB := hide htb
      clear htb
      go_upto_if 38 with (first
        | (go_at_call 25; (with_reducible refine HSA.out.mono ?_); rintro e w8 ⟨rfl, hb8⟩; have HO8 := hide (HOM.out.below hb8); clear hb8))
      clear c8 c3 HSA HOM
      go_cut [4, 5] (fun s4 s5 wx => ∃ (D' : List (Int × Int)) (T' : List (List Value)) (vd' vt' : Value), s4 = vd' ∧ s5 = vt' ∧ Hid (Om W wx g g7 g8 x sk sn rn p M p6 M6 (.slice A6 rn.l.length c6) D' T' vd' vt') ∧ Hid (T'.length = D'.length ∧ D'.length ≤ k + 1) ∧ Hid (Dn sn.o D'))
      case first =>
        cases tb
        case true =>
          go_wp2
          go_meet
          exact ⟨D, T, vd, vt, rfl, rfl, HO8, hide ⟨HTL.out, Nat.le_succ_of_le HDK.out⟩, hide HON.out.1⟩
        case false =>
          have HNE := hide (HON.out.2 (of_decide_eq_false HTB.out))
          clear HTB HON
          obtain ⟨AD, cD, rfl, hAD, hDD, _, _⟩ := own_form HO8.out.dn
          obtain ⟨_, c1, c2, _, _, _, _⟩ := (seven_of HO8.out.rc).cells
          go_upto_region 12 with (fail)
          have KI := hide (kept_alloc (kept_refl w8) (.cells #[.int .i64 x.c, .int .i64 x.q] 56))
          have HME := hide (Row.new w8 56 #[.int .i64 x.c, .int .i64 x.q])
          have HO9 := hide (HO8.out.below KI.out)
          have HGM := hide (Nat.lt_of_lt_of_le HO8.out.r9.lt (Nat.le_refl _))
          clear c1 c2 KI HO8
          generalize w8.alloc (.cells #[.int .i64 x.c, .int .i64 x.q] 56) = w9 at HME HO9 ⊢
          generalize w8.heap.size = g10 at HME HGM ⊢
          have hdk : D.length ≤ 60 := by have := HDK.out; omega
          go_wp2
          go_loopw [11] (fun i wx => ∃ j : Nat, j ≤ D.length ∧ i = .int .i64 j ∧ Hid (Below w9.heap.size w9 wx)) (fun i _ => D.length - (intOf i).toNat)
          case atStart => exact ⟨0, by omega, rfl, hide (kept_refl _)⟩
          case round =>
            obtain ⟨j, hj, rfl, HB⟩ := hrel
            by_cases hjl : j < D.length
            · obtain ⟨pd, hpd⟩ : ∃ z, D[j]? = some z := ⟨_, List.getElem?_eq_getElem hjl⟩
              obtain ⟨bd, od, rfl, e0, e1⟩ := dV_cells (els_own (own_below HO9.out.dn HB.out) (dV_all D) (by omega)).1 hpd
              obtain ⟨e2, e3⟩ := (HME.out.below HB.out HME.out.lt).two
              have hfr := once_says HNE.out.1 (List.mem_of_getElem? hpd)
              have heq := fun w => eql_inst pd.1 pd.2 x.c x.q w
              rw [hfr] at heq
              clear hfr hpd
              have hjl' : (j : Int) < (D.length : Int) := by omega
              go_wp2
              go_quiet (fail)
              have HBN := hide (kept_trans HB.out (kept_drewN (kept_refl wr) nq))
              generalize wr.drewN nq = wy at HBN ⊢
              go_wp2
              go_roundw
              case rel => exact ⟨j + 1, by omega, by go_num, HBN⟩
              case measure => simp [intOf]; omega
            · obtain rfl : j = D.length := by omega
              have hnl : ¬ ((D.length : Int) < (D.length : Int)) := by omega
              have HOA := hide (HO9.out.below HB.out)
              have HMA := hide (HME.out.below HB.out HME.out.lt)
              clear HO9 HME
              go_upto_region 17 with (fail)
              go_cut [4, 5] (fun s4 s5 wx => ∃ vd' vt' : Value, s4 = vd' ∧ s5 = vt' ∧ Hid (Om W wx g g7 g8 x sk sn rn p M p6 M6 (.slice A6 rn.l.length c6) (D ++ [(x.c, x.q)]) (T ++ [[.int .i64 rn.why, .bool rn.fnd, .string rn.val, .int .i64 rn.ver, .slice A6 rn.l.length c6]]) vd' vt'))
              case first =>
                refine wp_region_noPanic ?_
                refine wp_region_U 9 (fun w' => Row w' g10 56 #[.int .i64 x.c, .int .i64 x.q] ∧ Row w' (g8 + 1) 25 (reV rn (.slice A6 rn.l.length c6))) (by kernel_rfl) ?_
                have HD := hide (show Om W (World.drew wr) g g7 g8 x sk sn rn p M p6 M6 (.slice A6 rn.l.length c6) D T (.slice AD D.length cD) vt ∧ Row (World.drew wr) g10 56 #[.int .i64 x.c, .int .i64 x.q] from ⟨HOA.out.below (kept_drewN (kept_refl wr) 1), HMA.out.below (kept_drewN (kept_refl wr) 1) HMA.out.lt⟩)
                generalize World.drew _ = wd at HD ⊢
                refine anyU_take (i := 0) (v := ?ov0s) (by simp only [List.getElem?_toArray, List.getElem?_cons_zero]; exact rfl) (by kernel_rfl) (by kernel_rfl) (by kernel_rfl) (fun _ _ _ h => h) (by kernel_rfl) (by kernel_rfl) (by kernel_rfl) (Or.inl ⟨by rfl, ?oy0s⟩) (by with_reducible exact ⟨HD.out.2, HD.out.1.r9⟩) ?or0s
                case oy0s => (intro w hSw; skip; go_simp; try with_reducible rfl)
                try simp only [Act.put, List.setIfInBounds_toArray, List.set_cons_zero, List.set_cons_succ]
                refine anyU_take (i := 1) (v := ?ov1s) (by simp only [List.getElem?_toArray, List.getElem?_cons_succ, List.getElem?_cons_zero]; exact rfl) (by kernel_rfl) (by kernel_rfl) (by kernel_rfl) (fun _ _ _ h => h) (by kernel_rfl) (by kernel_rfl) (by kernel_rfl) (Or.inl ⟨by rfl, ?oy1s⟩) (by with_reducible exact ⟨HD.out.2, HD.out.1.r9⟩) ?or1s
                case oy1s => (intro w hSw; obtain ⟨e0, e1⟩ := Row.two hSw.1; go_simp; try with_reducible rfl)
                try simp only [Act.put, List.setIfInBounds_toArray, List.set_cons_zero, List.set_cons_succ]
                refine anyU_take (i := 4) (v := ?ov4s) (by simp only [List.getElem?_toArray, List.getElem?_cons_succ, List.getElem?_cons_zero]; exact rfl) (by kernel_rfl) (by kernel_rfl) (by kernel_rfl) (fun _ _ _ h => h) (by kernel_rfl) (by kernel_rfl) (by kernel_rfl) (Or.inl ⟨by rfl, ?oy4s⟩) (by with_reducible exact ⟨HD.out.2, HD.out.1.r9⟩) ?or4s
                case oy4s => (intro w hSw; skip; go_simp; try with_reducible rfl)
                try simp only [Act.put, List.setIfInBounds_toArray, List.set_cons_zero, List.set_cons_succ]
                refine anyU_take (i := 5) (v := ?ov5s) (by simp only [List.getElem?_toArray, List.getElem?_cons_succ, List.getElem?_cons_zero]; exact rfl) (by kernel_rfl) (by kernel_rfl) (by kernel_rfl) (fun _ _ _ h => h) (by kernel_rfl) (by kernel_rfl) (by kernel_rfl) (Or.inl ⟨by rfl, ?oy5s⟩) (by with_reducible exact ⟨HD.out.2, HD.out.1.r9⟩) ?or5s
                case oy5s => (intro w hSw; obtain ⟨e0, e1, e2, e3, e4⟩ := Row.five hSw.2; (try dsimp only at e0 e1 e2 e3 e4); go_simp; try with_reducible rfl)
                try simp only [Act.put, List.setIfInBounds_toArray, List.set_cons_zero, List.set_cons_succ]
                refine anyU_two (i := 2) (j := 6) (by kernel_rfl) (by simp only [List.getElem?_toArray, List.getElem?_cons_succ, List.getElem?_cons_zero]; exact rfl) (by simp only [List.getElem?_toArray, List.getElem?_cons_succ, List.getElem?_cons_zero]; exact rfl) (fun K hK => ?_) (fun K hK => ?_)
                · skip
                  try go_simp
                  have RB1a := hide (Row.new wd 56 #[.int .i64 x.c, .int .i64 x.q])
                  have kb := kept_alloc (kept_refl wd) (.cells #[.int .i64 x.c, .int .i64 x.q] 56)
                  have HN1a := hide (show Om W (wd.alloc (.cells #[.int .i64 x.c, .int .i64 x.q] 56)) g g7 g8 x sk sn rn p M p6 M6 (.slice A6 rn.l.length c6) D T (.slice AD D.length cD) vt ∧ Row (wd.alloc (.cells #[.int .i64 x.c, .int .i64 x.q] 56)) g10 56 #[.int .i64 x.c, .int .i64 x.q] from ⟨HD.out.1.below kb, HD.out.2.below kb HD.out.2.lt⟩)
                  have RB1ag := hide (show g7 < wd.heap.size from HD.out.1.rc.lt)
                  clear kb
                  generalize (wd.alloc (.cells #[.int .i64 x.c, .int .i64 x.q] 56)) = wn1a at RB1a HN1a ⊢
                  generalize wd.heap.size = gRB1a at RB1a RB1ag ⊢
                  refine hK.out _ _ (fun e _ => ⟨HN1a.out.2, HN1a.out.1.r9⟩) ?_
                  clear hK K
                  try simp only [Act.put, List.setIfInBounds_toArray, List.set_cons_zero, List.set_cons_succ]
                  refine anyU_two (i := 3) (j := 6) (by kernel_rfl) (by simp only [List.getElem?_toArray, List.getElem?_cons_succ, List.getElem?_cons_zero]; exact rfl) (by simp only [List.getElem?_toArray, List.getElem?_cons_succ, List.getElem?_cons_zero]; exact rfl) (fun K hK => ?_) (fun K hK => ?_)
                  · skip
                    refine step_append_inst (c := x.c) (q := x.q) rfl (.tmp 56) (.tmp 58) rfl (by rfl) HN1a.out.1.dn (by rfl) RB1a.out (by omega) HN1a.out.1.row.lt ?_
                    intro vxa wn2a h1 h2
                    have HN2a := hide (show Om W wn2a g g7 g8 x sk sn rn p M p6 M6 (.slice A6 rn.l.length c6) (D ++ [(x.c, x.q)]) T vxa vt ∧ Row wn2a g10 56 #[.int .i64 x.c, .int .i64 x.q] from ⟨HN1a.out.1.appD HLT.out.1 h2 h1, HN1a.out.2.grown h2 (fun e => by have := HLT.out.1 _ e.symm; have := HGM.out; have := HN1a.out.1.l8; omega)⟩)
                    clear h1 h2
                    refine hK.out _ _ (fun e _ => ⟨HN2a.out.2, HN2a.out.1.r9⟩) ?_
                    clear hK K
                    try simp only [Act.put]
                    refine anyU_one (i := 6) (by kernel_rfl) (by simp only [List.getElem?_toArray, List.getElem?_cons_succ, List.getElem?_cons_zero]; exact rfl) (fun K hK => ?_)
                    try go_simp
                    have RB2a := hide (Row.new wn2a 25 #[.int .i64 rn.why, .bool rn.fnd, .string rn.val, .int .i64 rn.ver, .slice A6 rn.l.length c6])
                    have kb := kept_alloc (kept_refl wn2a) (.cells #[.int .i64 rn.why, .bool rn.fnd, .string rn.val, .int .i64 rn.ver, .slice A6 rn.l.length c6] 25)
                    have HN3a := hide (show Om W (wn2a.alloc (.cells #[.int .i64 rn.why, .bool rn.fnd, .string rn.val, .int .i64 rn.ver, .slice A6 rn.l.length c6] 25)) g g7 g8 x sk sn rn p M p6 M6 (.slice A6 rn.l.length c6) (D ++ [(x.c, x.q)]) T vxa vt ∧ Row (wn2a.alloc (.cells #[.int .i64 rn.why, .bool rn.fnd, .string rn.val, .int .i64 rn.ver, .slice A6 rn.l.length c6] 25)) g10 56 #[.int .i64 x.c, .int .i64 x.q] from ⟨HN2a.out.1.below kb, HN2a.out.2.below kb HN2a.out.2.lt⟩)
                    have RB2ag := hide (show g7 < wn2a.heap.size from HN2a.out.1.rc.lt)
                    clear kb
                    generalize (wn2a.alloc (.cells #[.int .i64 rn.why, .bool rn.fnd, .string rn.val, .int .i64 rn.ver, .slice A6 rn.l.length c6] 25)) = wn3a at RB2a HN3a ⊢
                    generalize wn2a.heap.size = gRB2a at RB2a RB2ag ⊢
                    refine hK.out _ _ (fun e _ => ⟨HN3a.out.2, HN3a.out.1.r9⟩) ?_
                    clear hK K
                    try simp only [Act.put, List.setIfInBounds_toArray, List.set_cons_zero, List.set_cons_succ]
                    refine anyU_one (i := 7) (by kernel_rfl) (by simp only [List.getElem?_toArray, List.getElem?_cons_succ, List.getElem?_cons_zero]; exact rfl) (fun K hK => ?_)
                    refine step_append_rep (r := rn) rfl (.tmp 60) (.tmp 62) rfl (by rfl) HN3a.out.1.tl (by rfl) RB2a.out (by have := HTL.out; omega) HN3a.out.1.row.lt ?_
                    intro vya wn4a h1 h2
                    have HN4a := hide (show Om W wn4a g g7 g8 x sk sn rn p M p6 M6 (.slice A6 rn.l.length c6) (D ++ [(x.c, x.q)]) (T ++ [[.int .i64 rn.why, .bool rn.fnd, .string rn.val, .int .i64 rn.ver, .slice A6 rn.l.length c6]]) vxa vya ∧ Row wn4a g10 56 #[.int .i64 x.c, .int .i64 x.q] from ⟨HN3a.out.1.appT HLT.out.2 h2 h1, HN3a.out.2.grown h2 (fun e => by have := HLT.out.2 _ e.symm; have := HGM.out; have := HN3a.out.1.l8; omega)⟩)
                    clear h1 h2
                    refine hK.out _ _ (fun e _ => ⟨HN4a.out.2, HN4a.out.1.r9⟩) ?_
                    clear hK K
                    try simp only [Act.put]
                    refine anyU_one (i := 8) (by kernel_rfl) (by simp only [List.getElem?_toArray, List.getElem?_cons_succ, List.getElem?_cons_zero]; exact rfl) (fun K hK => ?_)
                    try go_simp
                    refine hK.out _ _ (fun e _ => ⟨HN4a.out.2, HN4a.out.1.r9⟩) ?_
                    clear hK K
                    try simp only [Act.put, List.setIfInBounds_toArray, List.set_cons_zero, List.set_cons_succ]
                    refine anyU_one (i := 9) (by kernel_rfl) (by simp only [List.getElem?_toArray, List.getElem?_cons_succ, List.getElem?_cons_zero]; exact rfl) (fun K hK => ?_)
                    try go_simp
                    refine hK.out _ _ (fun e _ => absurd rfl e) ?_
                    clear hK K
                    try simp only [Act.put, List.setIfInBounds_toArray, List.set_cons_zero, List.set_cons_succ]
                    refine anyU_done (by kernel_rfl) ?_
                    refine NoPanic.normal ?_
                    try simp only [Act.put]
                    go_wp2
                    go_meet
                    exact ⟨_, _, rfl, rfl, hide HN4a.out.1⟩
                  · skip
                    try go_simp
                    have RB2a := hide (Row.new wn1a 25 #[.int .i64 rn.why, .bool rn.fnd, .string rn.val, .int .i64 rn.ver, .slice A6 rn.l.length c6])
                    have kb := kept_alloc (kept_refl wn1a) (.cells #[.int .i64 rn.why, .bool rn.fnd, .string rn.val, .int .i64 rn.ver, .slice A6 rn.l.length c6] 25)
                    have HN2a := hide (show Om W (wn1a.alloc (.cells #[.int .i64 rn.why, .bool rn.fnd, .string rn.val, .int .i64 rn.ver, .slice A6 rn.l.length c6] 25)) g g7 g8 x sk sn rn p M p6 M6 (.slice A6 rn.l.length c6) D T (.slice AD D.length cD) vt ∧ Row (wn1a.alloc (.cells #[.int .i64 rn.why, .bool rn.fnd, .string rn.val, .int .i64 rn.ver, .slice A6 rn.l.length c6] 25)) g10 56 #[.int .i64 x.c, .int .i64 x.q] from ⟨HN1a.out.1.below kb, HN1a.out.2.below kb HN1a.out.2.lt⟩)
                    have RB1a := hide (RB1a.out.below kb RB1a.out.lt)
                    have RB2ag := hide (show g7 < wn1a.heap.size from HN1a.out.1.rc.lt)
                    clear kb
                    generalize (wn1a.alloc (.cells #[.int .i64 rn.why, .bool rn.fnd, .string rn.val, .int .i64 rn.ver, .slice A6 rn.l.length c6] 25)) = wn2a at RB2a HN2a RB1a ⊢
                    generalize wn1a.heap.size = gRB2a at RB2a RB2ag ⊢
                    refine hK.out _ _ (fun e _ => ⟨HN2a.out.2, HN2a.out.1.r9⟩) ?_
                    clear hK K
                    try simp only [Act.put, List.setIfInBounds_toArray, List.set_cons_zero, List.set_cons_succ]
                    refine anyU_one (i := 3) (by kernel_rfl) (by simp only [List.getElem?_toArray, List.getElem?_cons_succ, List.getElem?_cons_zero]; exact rfl) (fun K hK => ?_)
                    refine step_append_inst (c := x.c) (q := x.q) rfl (.tmp 56) (.tmp 58) rfl (by rfl) HN2a.out.1.dn (by rfl) RB1a.out (by omega) HN2a.out.1.row.lt ?_
                    intro vxa wn3a h1 h2
                    have HN3a := hide (show Om W wn3a g g7 g8 x sk sn rn p M p6 M6 (.slice A6 rn.l.length c6) (D ++ [(x.c, x.q)]) T vxa vt ∧ Row wn3a g10 56 #[.int .i64 x.c, .int .i64 x.q] from ⟨HN2a.out.1.appD HLT.out.1 h2 h1, HN2a.out.2.grown h2 (fun e => by have := HLT.out.1 _ e.symm; have := HGM.out; have := HN2a.out.1.l8; omega)⟩)
                    have RB2a := hide (RB2a.out.grown h2 (fun e => by have := HLT.out.1 _ e.symm; have := RB2ag.out; omega))
                    clear h1 h2
                    refine hK.out _ _ (fun e _ => ⟨HN3a.out.2, HN3a.out.1.r9⟩) ?_
                    clear hK K
                    try simp only [Act.put]
                    refine anyU_one (i := 7) (by kernel_rfl) (by simp only [List.getElem?_toArray, List.getElem?_cons_succ, List.getElem?_cons_zero]; exact rfl) (fun K hK => ?_)
                    refine step_append_rep (r := rn) rfl (.tmp 60) (.tmp 62) rfl (by rfl) HN3a.out.1.tl (by rfl) RB2a.out (by have := HTL.out; omega) HN3a.out.1.row.lt ?_
                    intro vya wn4a h1 h2
                    have HN4a := hide (show Om W wn4a g g7 g8 x sk sn rn p M p6 M6 (.slice A6 rn.l.length c6) (D ++ [(x.c, x.q)]) (T ++ [[.int .i64 rn.why, .bool rn.fnd, .string rn.val, .int .i64 rn.ver, .slice A6 rn.l.length c6]]) vxa vya ∧ Row wn4a g10 56 #[.int .i64 x.c, .int .i64 x.q] from ⟨HN3a.out.1.appT HLT.out.2 h2 h1, HN3a.out.2.grown h2 (fun e => by have := HLT.out.2 _ e.symm; have := HGM.out; have := HN3a.out.1.l8; omega)⟩)
                    clear h1 h2
                    refine hK.out _ _ (fun e _ => ⟨HN4a.out.2, HN4a.out.1.r9⟩) ?_
                    clear hK K
                    try simp only [Act.put]
                    refine anyU_one (i := 8) (by kernel_rfl) (by simp only [List.getElem?_toArray, List.getElem?_cons_succ, List.getElem?_cons_zero]; exact rfl) (fun K hK => ?_)
                    try go_simp
                    refine hK.out _ _ (fun e _ => ⟨HN4a.out.2, HN4a.out.1.r9⟩) ?_
                    clear hK K
                    try simp only [Act.put, List.setIfInBounds_toArray, List.set_cons_zero, List.set_cons_succ]
                    refine anyU_one (i := 9) (by kernel_rfl) (by simp only [List.getElem?_toArray, List.getElem?_cons_succ, List.getElem?_cons_zero]; exact rfl) (fun K hK => ?_)
                    try go_simp
                    refine hK.out _ _ (fun e _ => absurd rfl e) ?_
                    clear hK K
                    try simp only [Act.put, List.setIfInBounds_toArray, List.set_cons_zero, List.set_cons_succ]
                    refine anyU_done (by kernel_rfl) ?_
                    refine NoPanic.normal ?_
                    try simp only [Act.put]
                    go_wp2
                    go_meet
                    exact ⟨_, _, rfl, rfl, hide HN4a.out.1⟩
                · skip
                  try go_simp
                  have RB2b := hide (Row.new wd 25 #[.int .i64 rn.why, .bool rn.fnd, .string rn.val, .int .i64 rn.ver, .slice A6 rn.l.length c6])
                  have kb := kept_alloc (kept_refl wd) (.cells #[.int .i64 rn.why, .bool rn.fnd, .string rn.val, .int .i64 rn.ver, .slice A6 rn.l.length c6] 25)
                  have HN1b := hide (show Om W (wd.alloc (.cells #[.int .i64 rn.why, .bool rn.fnd, .string rn.val, .int .i64 rn.ver, .slice A6 rn.l.length c6] 25)) g g7 g8 x sk sn rn p M p6 M6 (.slice A6 rn.l.length c6) D T (.slice AD D.length cD) vt ∧ Row (wd.alloc (.cells #[.int .i64 rn.why, .bool rn.fnd, .string rn.val, .int .i64 rn.ver, .slice A6 rn.l.length c6] 25)) g10 56 #[.int .i64 x.c, .int .i64 x.q] from ⟨HD.out.1.below kb, HD.out.2.below kb HD.out.2.lt⟩)
                  have RB2bg := hide (show g7 < wd.heap.size from HD.out.1.rc.lt)
                  clear kb
                  generalize (wd.alloc (.cells #[.int .i64 rn.why, .bool rn.fnd, .string rn.val, .int .i64 rn.ver, .slice A6 rn.l.length c6] 25)) = wn1b at RB2b HN1b ⊢
                  generalize wd.heap.size = gRB2b at RB2b RB2bg ⊢
                  refine hK.out _ _ (fun e _ => ⟨HN1b.out.2, HN1b.out.1.r9⟩) ?_
                  clear hK K
                  try simp only [Act.put, List.setIfInBounds_toArray, List.set_cons_zero, List.set_cons_succ]
                  refine anyU_one (i := 2) (by kernel_rfl) (by simp only [List.getElem?_toArray, List.getElem?_cons_succ, List.getElem?_cons_zero]; exact rfl) (fun K hK => ?_)
                  try go_simp
                  have RB1b := hide (Row.new wn1b 56 #[.int .i64 x.c, .int .i64 x.q])
                  have kb := kept_alloc (kept_refl wn1b) (.cells #[.int .i64 x.c, .int .i64 x.q] 56)
                  have HN2b := hide (show Om W (wn1b.alloc (.cells #[.int .i64 x.c, .int .i64 x.q] 56)) g g7 g8 x sk sn rn p M p6 M6 (.slice A6 rn.l.length c6) D T (.slice AD D.length cD) vt ∧ Row (wn1b.alloc (.cells #[.int .i64 x.c, .int .i64 x.q] 56)) g10 56 #[.int .i64 x.c, .int .i64 x.q] from ⟨HN1b.out.1.below kb, HN1b.out.2.below kb HN1b.out.2.lt⟩)
                  have RB2b := hide (RB2b.out.below kb RB2b.out.lt)
                  have RB1bg := hide (show g7 < wn1b.heap.size from HN1b.out.1.rc.lt)
                  clear kb
                  generalize (wn1b.alloc (.cells #[.int .i64 x.c, .int .i64 x.q] 56)) = wn2b at RB1b HN2b RB2b ⊢
                  generalize wn1b.heap.size = gRB1b at RB1b RB1bg ⊢
                  refine hK.out _ _ (fun e _ => ⟨HN2b.out.2, HN2b.out.1.r9⟩) ?_
                  clear hK K
                  try simp only [Act.put, List.setIfInBounds_toArray, List.set_cons_zero, List.set_cons_succ]
                  refine anyU_one (i := 3) (by kernel_rfl) (by simp only [List.getElem?_toArray, List.getElem?_cons_succ, List.getElem?_cons_zero]; exact rfl) (fun K hK => ?_)
                  refine step_append_inst (c := x.c) (q := x.q) rfl (.tmp 56) (.tmp 58) rfl (by rfl) HN2b.out.1.dn (by rfl) RB1b.out (by omega) HN2b.out.1.row.lt ?_
                  intro vxb wn3b h1 h2
                  have HN3b := hide (show Om W wn3b g g7 g8 x sk sn rn p M p6 M6 (.slice A6 rn.l.length c6) (D ++ [(x.c, x.q)]) T vxb vt ∧ Row wn3b g10 56 #[.int .i64 x.c, .int .i64 x.q] from ⟨HN2b.out.1.appD HLT.out.1 h2 h1, HN2b.out.2.grown h2 (fun e => by have := HLT.out.1 _ e.symm; have := HGM.out; have := HN2b.out.1.l8; omega)⟩)
                  have RB2b := hide (RB2b.out.grown h2 (fun e => by have := HLT.out.1 _ e.symm; have := RB2bg.out; omega))
                  clear h1 h2
                  refine hK.out _ _ (fun e _ => ⟨HN3b.out.2, HN3b.out.1.r9⟩) ?_
                  clear hK K
                  try simp only [Act.put]
                  refine anyU_one (i := 7) (by kernel_rfl) (by simp only [List.getElem?_toArray, List.getElem?_cons_succ, List.getElem?_cons_zero]; exact rfl) (fun K hK => ?_)
                  refine step_append_rep (r := rn) rfl (.tmp 60) (.tmp 62) rfl (by rfl) HN3b.out.1.tl (by rfl) RB2b.out (by have := HTL.out; omega) HN3b.out.1.row.lt ?_
                  intro vyb wn4b h1 h2
                  have HN4b := hide (show Om W wn4b g g7 g8 x sk sn rn p M p6 M6 (.slice A6 rn.l.length c6) (D ++ [(x.c, x.q)]) (T ++ [[.int .i64 rn.why, .bool rn.fnd, .string rn.val, .int .i64 rn.ver, .slice A6 rn.l.length c6]]) vxb vyb ∧ Row wn4b g10 56 #[.int .i64 x.c, .int .i64 x.q] from ⟨HN3b.out.1.appT HLT.out.2 h2 h1, HN3b.out.2.grown h2 (fun e => by have := HLT.out.2 _ e.symm; have := HGM.out; have := HN3b.out.1.l8; omega)⟩)
                  clear h1 h2
                  refine hK.out _ _ (fun e _ => ⟨HN4b.out.2, HN4b.out.1.r9⟩) ?_
                  clear hK K
                  try simp only [Act.put]
                  refine anyU_one (i := 8) (by kernel_rfl) (by simp only [List.getElem?_toArray, List.getElem?_cons_succ, List.getElem?_cons_zero]; exact rfl) (fun K hK => ?_)
                  try go_simp
                  refine hK.out _ _ (fun e _ => ⟨HN4b.out.2, HN4b.out.1.r9⟩) ?_
                  clear hK K
                  try simp only [Act.put, List.setIfInBounds_toArray, List.set_cons_zero, List.set_cons_succ]
                  refine anyU_one (i := 9) (by kernel_rfl) (by simp only [List.getElem?_toArray, List.getElem?_cons_succ, List.getElem?_cons_zero]; exact rfl) (fun K hK => ?_)
                  try go_simp
                  refine hK.out _ _ (fun e _ => absurd rfl e) ?_
                  clear hK K
                  try simp only [Act.put, List.setIfInBounds_toArray, List.set_cons_zero, List.set_cons_succ]
                  refine anyU_done (by kernel_rfl) ?_
                  refine NoPanic.normal ?_
                  try simp only [Act.put]
                  go_wp2
                  go_meet
                  exact ⟨_, _, rfl, rfl, hide HN4b.out.1⟩
              case rest =>
                obtain ⟨vd', vt', rfl, rfl, HOZ⟩ := hcut
                obtain ⟨b0, b1, b2, b3, b4, b5, b6⟩ := (seven_of HOZ.out.rc).cells
                have HWR := hide (fun w => writes_any x.k x.c x.q x.key x.en x.old x.val w)
                have hwt := HNE.out.2.2
                go_wp2_with (first | (go_at_call 26; (with_reducible refine (HWR.out _).mono ?_); rintro e wz ⟨rfl, hbz⟩; have HOY := hide (HOZ.out.below hbz); clear hbz))
                go_meet
                exact ⟨_, _, _, _, rfl, rfl, HOY, hide ⟨by simp [HTL.out], by have := HDK.out; simp; omega⟩, hide HNE.out.2.1⟩
      case rest =>
        obtain ⟨D', T', vd', vt', e4, e5, HO2, HLL, HD2⟩ := hcut
        have e4 := e4.symm
        have e5 := e5.symm
        subst e4 e5
        obtain ⟨wA, hwA⟩ : ∃ z, z = wc := ⟨_, rfl⟩
        subst hwA
        clear HO8 HTB HON HTL HLT HDN HDK
        have HSN : Hid (sn.l.length ≤ 1000) := hide (by have h1 := HAU.out.2; have h2 := HUK.out.2; rw [List.length_take] at h2; omega)
        obtain ⟨a0, a1, a2, a3, a4, a5, a6⟩ := (seven_of HO2.out.rc).cells
        have HAP := hide (apply_any p6 M6 sn x wA HO2.out.st.isS HAU.out.1 HSN.out)
        unfold valC at HAP
        have RS := hide HO2.out.r8
        have H8M := hide HO2.out.st.eight
        go_upto_region 21 with (first
          | ((with_reducible refine wpList_load49 ?_ RS.out H8M.out ?_); rfl)
          | (go_at_call 16; (with_reducible refine HAP.out.mono ?_); rintro e w9 ⟨p9, M9, q9, rfl, hn9, hq9, hl9, _, hb9⟩; obtain ⟨A9, c9, rfl, _, _, _, _⟩ := hq9.pin; have H89 := hide hn9.eight; have H19 := hide hn9.one)
          | (rw [zero_state]; (with_reducible refine wpList_store49 ?_ ?_ H19.out (pa_0 _).1 (L := zeroL) rfl H89.out ?_); rfl; rfl; have ZR := (pa_0 w9).2.setRow_other (show w9.heap.size + 1 ≠ w9.heap.size by omega) (stc p9 M9); obtain ⟨z0, z1, z2, z3, z4⟩ := ZR.five; have y0 := ZR.free 0; have y1 := ZR.free 1; have y2 := ZR.free 2; have y3 := ZR.free 3; have y4 := ZR.free 4))
        have hw : ((((((((w9.alloc (.cells (stc (.slice none 0 0) zeroL) 30)).alloc (.cells #[.int .i64 0, .bool false, .string { data := #[] }, .int .i64 0, .slice none 0 0] 25)).setRow w9.heap.size (stc p9 M9)).setCell ⟨w9.heap.size + 1, 0, none⟩ (.int .i64 (applyP sn x).2.why)).setCell ⟨w9.heap.size + 1, 1, none⟩ (.bool (applyP sn x).2.fnd)).setCell ⟨w9.heap.size + 1, 2, none⟩ (.string (applyP sn x).2.val)).setCell ⟨w9.heap.size + 1, 3, none⟩ (.int .i64 (applyP sn x).2.ver)).setCell ⟨w9.heap.size + 1, 4, none⟩ (.slice A9 (applyP sn x).2.l.length c9)) = paW w9 p9 M9 (applyP sn x).2 (.slice A9 (applyP sn x).2.l.length c9) := rfl
        rw [hw]
        have hpa := pa_1 w9 p9 M9 (applyP sn x).2 (.slice A9 (applyP sn x).2.l.length c9)
        have R12 := hide hpa.1
        have R13 := hide hpa.2.1
        have HO3 := hide (HO2.out.below (kept_trans hb9 hpa.2.2))
        have HN9 := hide (hn9.below hpa.2.2).isS
        have HQ9 := hide (hq9.below hpa.2.2).pin
        have HL9 := hide hl9
        clear hw hn9 hq9 hl9 hb9 z0 z1 z2 z3 z4 y0 y1 y2 y3 y4 ZR a0 a1 a2 a3 a4 a5 a6 HAP H19 hpa HO2 RS
        generalize paW w9 p9 M9 (applyP sn x).2 (.slice A9 (applyP sn x).2.l.length c9) = wB at R12 R13 HO3 HN9 HQ9 ⊢
        generalize w9.heap.size = g12 at R12 R13 ⊢
        obtain ⟨y, hy⟩ : ∃ y, applyP sn x = y := ⟨_, rfl⟩
        rw [hy] at HN9 HQ9 HL9 HAG R13 ⊢
        clear hy
        obtain ⟨s9, r9⟩ := y
        dsimp only at HN9 HQ9 HL9 HAG R13 ⊢
        have HSM := hide (same_yes HN9.out HO3.out.st.isS HAG.out.1)
        obtain ⟨cr, hcr⟩ : ∃ t, rightC x = t := ⟨_, rfl⟩
        obtain ⟨t1, ht1⟩ : ∃ t, (x.k != 0) = t := ⟨_, rfl⟩
        obtain ⟨t2, ht2⟩ : ∃ t, (rn.why != 9) = t := ⟨_, rfl⟩
        have HRI := hide (right_is hcr)
        have HEQ := hide (again_says HAG.out.2)
        rw [hcr, ht1, ht2] at HEQ
        clear hcr
        have H86 := hide HO3.out.st.eight
        have R8 := hide HO3.out.r8
        go_cut [96] (fun s96 wx => s96 = .bool false ∧ Hid (Om W wx g g7 g8 x sk sn rn p M p6 M6 (.slice A6 rn.l.length c6) D' T' vd' vt'))
        case first =>
          obtain ⟨a0, a1, a2, a3, a4, a5, a6⟩ := (seven_of HO3.out.rc).cells
          cases cr
          case false =>
            go_wp2_with (first
                  | ((with_reducible refine wpList_load49 ?_ R12.out H89.out ?_); rfl)
                  | ((with_reducible refine wpList_load49 ?_ R8.out H86.out ?_); rfl)
                  | (go_at_call 19; (with_reducible refine HSM.out.mono ?_); rintro e wd ⟨rfl, hbd⟩; have HB5 := hide hbd; obtain ⟨a0, a1, a2, a3, a4, a5, a6⟩ := (seven_of (HO3.out.below hbd).rc).cells; obtain ⟨r0, _, _, _, _⟩ := (HO3.out.below hbd).r9.five; clear hbd)
                  | (go_at_call 27; (with_reducible refine (HRI.out _).mono ?_); rintro e we ⟨rfl, hbe⟩; have HB6 := hide (kept_trans HB5.out hbe); obtain ⟨a0, a1, a2, a3, a4, a5, a6⟩ := (seven_of (HO3.out.below HB6.out).rc).cells; obtain ⟨r0, r1, r2, r3, r4⟩ := (HO3.out.below HB6.out).r9.five; obtain ⟨i0, i1, i2, i3, i4⟩ := (R13.out.below HB6.out R13.out.lt).five; clear hbe))
            go_meet
            exact ⟨rfl, hide (HO3.out.below HB6.out)⟩
          case true =>
            cases t1
            case false =>
              go_wp2_with (first
                  | ((with_reducible refine wpList_load49 ?_ R12.out H89.out ?_); rfl)
                  | ((with_reducible refine wpList_load49 ?_ R8.out H86.out ?_); rfl)
                  | (go_at_call 19; (with_reducible refine HSM.out.mono ?_); rintro e wd ⟨rfl, hbd⟩; have HB5 := hide hbd; obtain ⟨a0, a1, a2, a3, a4, a5, a6⟩ := (seven_of (HO3.out.below hbd).rc).cells; obtain ⟨r0, _, _, _, _⟩ := (HO3.out.below hbd).r9.five; clear hbd)
                  | (go_at_call 27; (with_reducible refine (HRI.out _).mono ?_); rintro e we ⟨rfl, hbe⟩; have HB6 := hide (kept_trans HB5.out hbe); obtain ⟨a0, a1, a2, a3, a4, a5, a6⟩ := (seven_of (HO3.out.below HB6.out).rc).cells; obtain ⟨r0, r1, r2, r3, r4⟩ := (HO3.out.below HB6.out).r9.five; obtain ⟨i0, i1, i2, i3, i4⟩ := (R13.out.below HB6.out R13.out.lt).five; clear hbe))
              go_meet
              exact ⟨rfl, hide (HO3.out.below HB6.out)⟩
            case true =>
              cases t2
              case false =>
                go_wp2_with (first
                  | ((with_reducible refine wpList_load49 ?_ R12.out H89.out ?_); rfl)
                  | ((with_reducible refine wpList_load49 ?_ R8.out H86.out ?_); rfl)
                  | (go_at_call 19; (with_reducible refine HSM.out.mono ?_); rintro e wd ⟨rfl, hbd⟩; have HB5 := hide hbd; obtain ⟨a0, a1, a2, a3, a4, a5, a6⟩ := (seven_of (HO3.out.below hbd).rc).cells; obtain ⟨r0, _, _, _, _⟩ := (HO3.out.below hbd).r9.five; clear hbd)
                  | (go_at_call 27; (with_reducible refine (HRI.out _).mono ?_); rintro e we ⟨rfl, hbe⟩; have HB6 := hide (kept_trans HB5.out hbe); obtain ⟨a0, a1, a2, a3, a4, a5, a6⟩ := (seven_of (HO3.out.below HB6.out).rc).cells; obtain ⟨r0, r1, r2, r3, r4⟩ := (HO3.out.below HB6.out).r9.five; obtain ⟨i0, i1, i2, i3, i4⟩ := (R13.out.below HB6.out R13.out.lt).five; clear hbe))
                go_meet
                exact ⟨rfl, hide (HO3.out.below HB6.out)⟩
              case true =>
                have HRP := hide (fun w (hw : Below wB.heap.size wB w) => replies_yes (HEQ.out rfl rfl rfl) (HQ9.out.below hw) (HO3.out.hq.pin.below hw) HL9.out HO3.out.ln)
                go_wp2_with (first
                  | ((with_reducible refine wpList_load49 ?_ R12.out H89.out ?_); rfl)
                  | ((with_reducible refine wpList_load49 ?_ R8.out H86.out ?_); rfl)
                  | (go_at_call 19; (with_reducible refine HSM.out.mono ?_); rintro e wd ⟨rfl, hbd⟩; have HB5 := hide hbd; obtain ⟨a0, a1, a2, a3, a4, a5, a6⟩ := (seven_of (HO3.out.below hbd).rc).cells; obtain ⟨r0, _, _, _, _⟩ := (HO3.out.below hbd).r9.five; clear hbd)
                  | (go_at_call 27; (with_reducible refine (HRI.out _).mono ?_); rintro e we ⟨rfl, hbe⟩; have HB6 := hide (kept_trans HB5.out hbe); obtain ⟨a0, a1, a2, a3, a4, a5, a6⟩ := (seven_of (HO3.out.below HB6.out).rc).cells; obtain ⟨r0, r1, r2, r3, r4⟩ := (HO3.out.below HB6.out).r9.five; obtain ⟨i0, i1, i2, i3, i4⟩ := (R13.out.below HB6.out R13.out.lt).five; clear hbe)
                  | (go_at_call 13; (with_reducible refine (HRP.out _ HB6.out).mono ?_); rintro e wf ⟨rfl, hbf⟩; have HB7 := hide (kept_trans HB6.out hbf); clear hbf))
                go_meet
                exact ⟨rfl, hide (HO3.out.below HB7.out)⟩
        case rest =>
          obtain ⟨rfl, HO4⟩ := hcut
          obtain ⟨wC, hwC⟩ : ∃ z, z = wc := ⟨_, rfl⟩
          subst hwC
          clear HO3 HSM HRI HEQ ht1 ht2 R12 R13 R8 H86 H8M
          have R8 := hide HO4.out.r8
          have RG := hide HO4.out.row
          have H8A := hide HO4.out.st.eight
          have H1A := hide HO4.out.st.one
          have H8B := hide HO4.out.ns.eight
          go_wp2_with (first
            | ((with_reducible refine wpList_load49 ?_ R8.out H8A.out ?_); rfl)
            | ((with_reducible refine wpList_store49 ?_ ?_ H1A.out RG.out H8B.out H8A.out ?_); rfl; rfl))
          have HZ := hide (HO4.out.next HLL.out.1)
          go_roundw
          case rel => exact ⟨k + 1, _, _, D', T', _, _, by omega, by go_num, rfl, rfl, hide HLL.out.2, hide (by rw [HNX.out]; exact HZ.out), hide (by rw [HNX.out]; exact HD2.out)⟩
          case measure => simp [intOf]; omega
    · obtain rfl : k = m := by omega
      have hnl : ¬ ((k : Int) < (k : Int)) := by omega
      rw [List.take_of_length_le (by rw [HCL.out]; exact Nat.le_refl _)] at HM HDN
      have HRs := hide (play0_right cs (by rw [HCL.out]; omega)).right
      obtain ⟨AD, cD, rfl, _, _, _, _⟩ := own_form HM.out.dn
      obtain ⟨AT, cT, e, _, _, _, _⟩ := own_form HM.out.tl
      rw [HM.out.len] at e
      subst e
      have HRI := hide (sright_yes HM.out.st.isS HRs.out)
      have R0 := hide HM.out.row
      have H8M := hide HM.out.st.eight
      go_wp2_with (first
        | ((with_reducible refine wpList_load49 ?_ R0.out H8M.out ?_); rfl)
        | (go_at_call 20; (with_reducible refine HRI.out.mono ?_); rintro e w5 ⟨rfl, hb5⟩; have HB5 := hide hb5; clear hb5)
        | (go_at_call 3; (with_reducible refine (RUN.out _).mono ?_); rintro e w9 ⟨rfl, hb9⟩))
      go_ret
      exact ⟨rfl, kept_trans (kept_trans HM.out.bel HB5.out) hb9⟩
set_option maxRecDepth 100000 in
theorem lifted (os : Os) (started : os.Started) (H : Type) (enc : TypeId × Value → H) :
    ReturnsInHanded {} Try.checked os 6 .any (Rows.stateOnceSpec.pre6 enc Try.prog Try.f6 Rows.stateOnceRow.domain false) (Rows.stateOnceSpec.post enc Try.prog Try.f6 false true false false) := by
  refine returnsInHanded_of_change_sized (C := Try.checked) own started (by kernel_rfl) Try.func6
    (ChangeSpec.witness6 (enc := enc) (C := Try.checked) false ⟨#[], #[.slice none 0 0], []⟩ 8 (by kernel_rfl) (by kernel_rfl) (by kernel_rfl) (by kernel_rfl)) ?_
  intro W base args ds gs before hval0 hW _ hsz0 _
  have hval : ∀ (j : Nat) t v, Try.f6.params[j]? = some t → args[j]? = some v → Value.okWide Try.prog W .any base t v := hval0
  have hW' := hW
  obtain ⟨p, q, hA0, hV, rfl, _, _⟩ := hW
  have hA : DataW.TrodAll enc Try.prog W 0 (fun _ => true) true Try.f6.params.toList args.toList ds p := hA0
  have hsz : (DataW.weightsEach Try.prog (Try.f6.params.toList ++ Rows.stateOnceSpec.plain.varTypes Try.prog) (ds ++ gs)).all (· ≤ reachBytes) = true := hsz0
  rw [Try.params6] at hA hval hsz
  obtain ⟨v0, vs0, d0, ds0, p0, q0, hargs, rfl, rfl, h0, r0⟩ := trodAll_cons hA
  obtain ⟨rfl, rfl, rfl⟩ := trodAll_nil r0
  obtain rfl : args = #[v0] := by cases args; simp_all
  obtain ⟨rfl, rfl⟩ := trodVars_none hV
  have k0 := h0
  have lt0 : ∀ x ∈ p0, x.block < W.heap.size := by obtain ⟨m, hm⟩ := k0; exact DataW.trod_lt m _ _ _ hm
  obtain ⟨A0, n0, c0, rfl⟩ := okWide_slice Try.underlying39 (hval 0 39 v0 rfl rfl)
  obtain ⟨z0, s0⟩ := cmds_in (j := 0) h0 hsz rfl rfl
  clear hA0 hval0
  refine (walk A0 n0 c0 z0 W s0).mono fun e W' ⟨he, bel⟩ => ?_
  subst he
  exact ⟨_, rfl, _, _, _, [], _, [], hW', trodAll_mk1 (shut_bool Try.underlying4 _), (trodAll_cons_mk (Below.trod laidOut (by kernel_rfl) (of_decide_eq_true (by kernel_rfl)) k0 bel lt0) trodAll_mk0), rfl, bel.frame _, fun h => by cases h⟩
theorem over : Rows.stateOnceRow.holds Try.pinned (OpenSpec.ofChange Rows.stateOnceSpec) :=
  OpenClaim.holds_of_wide 6 Try.f6 rfl rfl rfl rfl rfl rfl rfl ⟨rfl, rfl, rfl, rfl, rfl⟩ rfl rfl rfl rfl rfl (by kernel_rfl) Try.func6 (by kernel_rfl)
    (of_decide_eq_true (by kernel_rfl)) (by unfold Func.isWrapper; first | (rw [if_pos (by decide +kernel)]; kernel_rfl) | (rw [if_neg (by decide +kernel)]; exact ⟨rfl, rfl⟩))
    (fun os started H enc _ => lifted os started H enc)
theorem proved : Rows.StateOnceSaid := over
end Go.Proofs.Ytahfpncfkcfogaa.stateOnce
