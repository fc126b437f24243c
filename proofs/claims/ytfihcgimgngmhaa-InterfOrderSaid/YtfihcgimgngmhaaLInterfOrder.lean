/- Proved: the law InterfOrder returns true. Conditions: none beyond the row's own. -/
import Derived.Test.YtfihcgimgngmhaaVa
import Derived.Test.YtfihcgimgngmhaaVj
import Derived.Deep.DeepCutAuto
import Derived.BigQuiet
namespace Go.Proofs.Ytfihcgimgngmhaa.interfOrder
open Go.ChangeShapes Go.WideShapes Go.ChangeAt Go.RowKit
set_option maxRecDepth 100000 in
set_option maxHeartbeats 16000000 in
theorem walk (A : Option Addr) (n cc : Nat) (l : List Ia) (turn : Int) (r s : Int) (c : Cm) (W : World) (h : IasIn W A n cc l) (_ : -9223372036854775808 ≤ turn ∧ turn ≤ 9223372036854775807) (_ : -9223372036854775808 ≤ r ∧ r ≤ 9223372036854775807) (_ : -9223372036854775808 ≤ s ∧ s ≤ 9223372036854775807) (hc : CmOk c) :
    Calls Try.prog 6 #[.slice A n cc, .int .i64 turn, .agg #[.int .i64 r, .int .i64 s], .agg #[.int .i64 c.k, .int .i64 c.c, .int .i64 c.q, .string c.key, .string c.en, .string c.old, .string c.val]] W fun e w' => e = .returned (.bool true) ∧ Below W.heap.size W w' := by
  have RUN := hide (fun w => runs_any w)
  have HNW := hide (fun w => pnew_any w)
  have hn := h.len
  have hnc := h.le
  have hcr := h.room
  subst hn
  have HA := hide h.lies
  have HOK := hide h.ok
  have B0 := hide (kept_alloc (kept_alloc (kept_refl W) (.cells #[.int .i64 r, .int .i64 s] 26)) (.cells #[.int .i64 c.k, .int .i64 c.c, .int .i64 c.q, .string c.key, .string c.en, .string c.old, .string c.val] 29))
  have R5 := hide ((Row.new W 26 #[.int .i64 r, .int .i64 s]).alloc (.cells #[.int .i64 c.k, .int .i64 c.c, .int .i64 c.q, .string c.key, .string c.en, .string c.old, .string c.val] 29))
  have R6 := hide (Row.new (W.alloc (.cells #[.int .i64 r, .int .i64 s] 26)) 29 #[.int .i64 c.k, .int .i64 c.c, .int .i64 c.q, .string c.key, .string c.en, .string c.old, .string c.val])
  rw [show (W.alloc (.cells #[.int .i64 r, .int .i64 s] 26)).heap.size = W.heap.size + 1 by simp] at R6
  have HLC := hide (fun w => light_any c w (Nat.le_trans hc.key (by omega)) (Nat.le_trans hc.en (by omega)) (Nat.le_trans hc.old (by omega)) (Nat.le_trans hc.val (by omega)))
  obtain ⟨tc, htc⟩ : ∃ t, lightC c = t := ⟨_, rfl⟩
  rw [htc] at HLC
  have HTC := hide htc
  clear h hc htc
  go_enter Try.func6, Try.ntmps6
  go_upto_region 1 with (fail)
  generalize (W.alloc (.cells #[.int .i64 r, .int .i64 s] 26)).alloc (.cells #[.int .i64 c.k, .int .i64 c.c, .int .i64 c.q, .string c.key, .string c.en, .string c.old, .string c.val] 29) = w0 at B0 R5 R6 ⊢
  go_upto_region 2 with (first
    | (go_at_call 8; have HPQ := H1.out; (with_reducible refine (HNW.out _).mono ?_); rintro e w2 ⟨h, d, rfl, hp, hb, hg1, hb1⟩)
    | (go_at_call 8; (with_reducible refine (HNW.out _).mono ?_); rintro e w1 ⟨g, b, rfl, hp, hb, hg1, hb1⟩; have H1 := hide (And.intro hp (And.intro hb (And.intro hg1 hb1))); clear hp hb hg1 hb1))
  have HQ := hide (show Qo W w2 W.heap.size r s c g b h d zeroX zeroX (.slice none 0 0) [] from by
    obtain ⟨hp0, hb0, hg0, hd0⟩ := HPQ
    have hs0 := B0.out.size
    have hs1 := hb0.size
    have l1 := hp0.lt
    exact ⟨kept_trans (kept_trans B0.out hb0) hb, hp0.below hb, hp, by omega, by omega, by omega, by omega, by omega, by omega, (R5.out.below hb0 R5.out.lt).below hb (R5.out.below hb0 R5.out.lt).lt, (R6.out.below hb0 R6.out.lt).below hb (R6.out.below hb0 R6.out.lt).lt, rw_nil _ _ _ _⟩)
  clear HPQ hp hb hg1 hb1 H1 B0 R5 R6
  obtain ⟨q, hq⟩ : ∃ q, W.heap.size = q := ⟨_, rfl⟩
  have HWQ := hide hq
  replace HQ : Hid (Qo W w2 q r s c g b h d zeroX zeroX (.slice none 0 0) []) := hide (hq ▸ HQ.out)
  rw [hq]
  clear hq
  have i0 : w2.cell? ⟨q + 1, 0, none⟩ = some (.int .i64 c.k) := HQ.out.bc.cell 0
  have i1 : w2.cell? ⟨q + 1, 1, none⟩ = some (.int .i64 c.c) := HQ.out.bc.cell 1
  have i2 : w2.cell? ⟨q + 1, 2, none⟩ = some (.int .i64 c.q) := HQ.out.bc.cell 2
  have i3 : w2.cell? ⟨q + 1, 3, none⟩ = some (.string c.key) := HQ.out.bc.cell 3
  have i4 : w2.cell? ⟨q + 1, 4, none⟩ = some (.string c.en) := HQ.out.bc.cell 4
  have i5 : w2.cell? ⟨q + 1, 5, none⟩ = some (.string c.old) := HQ.out.bc.cell 5
  have i6 : w2.cell? ⟨q + 1, 6, none⟩ = some (.string c.val) := HQ.out.bc.cell 6
  cases tc
  case false =>
    go_wp2_with (first
      | (go_at_call 16; (with_reducible refine (HLC.out _).mono ?_); rintro e w3 ⟨rfl, hb⟩; replace HQ := hide (HQ.out.below hb); clear hb)
      | (go_at_call 3; (with_reducible refine (RUN.out _).mono ?_); rintro e w4 ⟨rfl, hb⟩; replace HQ := hide (HQ.out.below hb); clear hb)
      | go_in)
    go_ret
    exact ⟨rfl, HQ.out.low⟩
  case true =>
    go_upto_region 4 with (first
      | (go_at_call 16; (with_reducible refine (HLC.out _).mono ?_); rintro e w3 ⟨rfl, hb⟩; replace HQ := hide (HQ.out.below hb); clear hb))
    clear i0 i1 i2 i3 i4 i5 i6
    go_upto_block 0 with fail
    go_cut [11] from 11 to 83 (fun s11 wx => ∃ own : List Ia, Hid (own.length ≤ 30) ∧ Hid ((own.map keyA).Nodup) ∧ Hid (Qo W wx q r s c g b h d zeroX zeroX s11 own))
    case first =>
      go_wp2_with fail
      go_loopw [11, 12] (fun ov k wr => ∃ (j : Nat) (own : List Ia), j ≤ l.length ∧ j ≤ 30 ∧ k = .int .i64 j ∧ Hid (own.length ≤ j) ∧ Hid ((own.map keyA).Nodup) ∧ Hid (Qo W wr q r s c g b h d zeroX zeroX ov own)) (fun _ k _ => l.length - (intOf k).toNat)
      case atStart => exact ⟨0, [], by omega, by omega, rfl, hide (Nat.le_refl _), hide List.nodup_nil, HQ⟩
      case round =>
        clear HQ
        obtain ⟨j, own, hj, hj30, rfl, HN, HND, HQ⟩ := hrel
        obtain ⟨A1, c1, rfl, hA1, hA2⟩ := HQ.out.ow.ia_form
        by_cases hlt : j < l.length ∧ j < 30
        · obtain ⟨hlt, hlt30⟩ := hlt
          have hlt30' : decide ((j : Int) < 30) = true := decide_eq_true (by omega)
          obtain ⟨y, hy⟩ : ∃ y, l[j]? = some y := ⟨_, List.getElem?_eq_getElem hlt⟩
          have HY := hide (HOK.out y (List.mem_of_getElem? hy))
          have HYA := hide (fun (wz : World) (hz : Below W.heap.size W wz) => Els.ia (HA.out.below hz) hy)
          obtain ⟨b0, off, rfl, hbs, ha⟩ := HYA.out _ HQ.out.low
          replace HYA := hide (show ∀ wz, Below W.heap.size W wz → IaAt wz b0 off j y from fun wz hz => by
            obtain ⟨b1, off1, e1, _, h1⟩ := HYA.out wz hz
            injection e1 with e1
            injection e1 with e1 e2 _
            subst e1 e2
            exact h1)
          have e4 : wr.cell? ⟨b0, off + j * 18 + 4, none⟩ = some (.int .i64 y.c.k) := ha 4 (by omega)
          have e5 : wr.cell? ⟨b0, off + j * 18 + 5, none⟩ = some (.int .i64 y.c.c) := ha 5 (by omega)
          have e6 : wr.cell? ⟨b0, off + j * 18 + 6, none⟩ = some (.int .i64 y.c.q) := ha 6 (by omega)
          have e7 : wr.cell? ⟨b0, off + j * 18 + 7, none⟩ = some (.string y.c.key) := ha 7 (by omega)
          have e8 : wr.cell? ⟨b0, off + j * 18 + 8, none⟩ = some (.string y.c.en) := ha 8 (by omega)
          have e9 : wr.cell? ⟨b0, off + j * 18 + 9, none⟩ = some (.string y.c.old) := ha 9 (by omega)
          have e10 : wr.cell? ⟨b0, off + j * 18 + 10, none⟩ = some (.string y.c.val) := ha 10 (by omega)
          have hjl : (j : Int) < (l.length : Int) := by omega
          clear hy ha hbs
          have HLI := hide (fun w => light_any y.c w (Nat.le_trans HY.out.c.key (by omega)) (Nat.le_trans HY.out.c.en (by omega)) (Nat.le_trans HY.out.c.old (by omega)) (Nat.le_trans HY.out.c.val (by omega)))
          obtain ⟨tl, htl⟩ : ∃ t, lightC y.c = t := ⟨_, rfl⟩
          rw [htl] at HLI
          clear htl
          go_upto_region 9 with (first
            | (go_at_call 16; (with_reducible refine (HLI.out _).mono ?_); rintro e w4 ⟨rfl, hb⟩; replace HQ := hide (HQ.out.below hb); clear hb))
          clear e4 e5 e6 e7 e8 e9 e10
          go_upto_block 2 with fail
          go_cut [13, 14] from 56 to 75 (fun s13 _ wx => s13 = .bool (freshB tl own y) ∧ Hid (Qo W wx q r s c g b h d zeroX zeroX (.slice A1 own.length c1) own))
          case first =>
            go_wp2_with fail
            go_loopw [13, 14] (fun f k wr => ∃ m : Nat, m ≤ own.length ∧ k = .int .i64 m ∧ f = .bool (freshB tl (own.take m) y) ∧ Hid (Qo W wr q r s c g b h d zeroX zeroX (.slice A1 own.length c1) own)) (fun _ k _ => own.length - (intOf k).toNat)
            case atStart => exact ⟨0, by omega, rfl, by rw [List.take_zero]; unfold freshB; simp, HQ⟩
            case round =>
              clear HQ
              obtain ⟨m, hm, rfl, rfl, HQ⟩ := hrel
              by_cases hmo : m < own.length
              · obtain ⟨z, hz⟩ : ∃ z, own[m]? = some z := ⟨_, List.getElem?_eq_getElem hmo⟩
                have HFT := hide (fresh_take (t := tl) (y := y) hz)
                obtain ⟨A2, c2, hv, _, _, go, rfl, hgo, hzz⟩ := HQ.out.ow.ia hz
                injection hv with hv1 _ hv3
                subst hv1 hv3
                have hmo' : (m : Int) < (own.length : Int) := by omega
                have z2 : wr.cell? ⟨go, m * 18 + 2, none⟩ = some (.int .i64 z.r) := hzz.zero_ 2 (by omega)
                have z3 : wr.cell? ⟨go, m * 18 + 3, none⟩ = some (.int .i64 z.s) := hzz.zero_ 3 (by omega)
                have y2 : wr.cell? ⟨b0, off + j * 18 + 2, none⟩ = some (.int .i64 y.r) := HYA.out _ HQ.out.low 2 (by omega)
                have y3 : wr.cell? ⟨b0, off + j * 18 + 3, none⟩ = some (.int .i64 y.s) := HYA.out _ HQ.out.low 3 (by omega)
                have hne := fun w => neq_inst z.r z.s y.r y.s w
                obtain ⟨u, hu⟩ : ∃ u, sameA z y = u := ⟨_, rfl⟩
                rw [hu] at HFT
                unfold sameA at hu
                simp only [hu] at hne
                clear hu hzz hgo hz
                obtain ⟨t, ht⟩ : ∃ t, freshB tl (own.take m) y = t := ⟨_, rfl⟩
                rw [ht] at HFT ⊢
                clear ht
                go_upto_region 12 with (fail)
                cases t
                case false =>
                  go_quiet (fail)
                  replace HQ := hide (HQ.out.below (kept_drewN (kept_refl wr) nq))
                  clear z2 z3 y2 y3 hne
                  generalize wr.drewN nq = wy at HQ ⊢
                  go_wp2
                  exact ⟨⟨m + 1, by omega, by go_num, by rw [HFT.out]; rfl, HQ⟩, by simp [intOf]; omega⟩
                case true =>
                  go_quiet (fail)
                  replace HQ := hide (HQ.out.below (kept_drewN (kept_refl wr) nq))
                  clear z2 z3 y2 y3 hne
                  generalize wr.drewN nq = wy at HQ ⊢
                  go_wp2
                  exact ⟨⟨m + 1, by omega, by go_num, by rw [HFT.out]; first | rfl | simp, HQ⟩, by simp [intOf]; omega⟩
              · obtain rfl : m = own.length := by omega
                rw [List.take_length]
                go_wp2
                go_meet
                exact ⟨rfl, HQ⟩
          case rest =>
            obtain ⟨rfl, HQ3⟩ := hcut
            clear HQ
            obtain ⟨t, ht⟩ : ∃ t, freshB tl own y = t := ⟨_, rfl⟩
            have HT := hide ht
            rw [ht]
            clear ht
            cases t
            case false =>
              go_wp2
              go_roundw
              case rel => exact ⟨j + 1, own, by omega, by omega, by go_num, hide (by have := HN.out; omega), HND, HQ3⟩
              case measure => simp [intOf]; omega
            case true =>
              have RNG := hide (HYA.out _ HQ3.out.low).range
              have HQ5 := hide (HQ3.out.below (kept_alloc (kept_refl wc) (.cells (askC y) 48)))
              have RY := hide (Row.new wc 48 (askC y))
              have HLB := hide (show own.length ≤ 100000 by have := HN.out; omega)
              have HBA := hide HQ5.out.low.size
              go_wp2_with (first
                | ((with_reducible refine wpList_load_ia ?_ RNG.out ?_); rfl)
                | ((with_reducible refine wpList_lit_ask (y := y) ?_ ?_); rfl)
                | ((with_reducible refine wpList_append_ask (y := y) ?_ (.tmp 77) (.tmp 82) ?_ ?_ HQ5.out.ow ?_ RY.out HLB.out HBA.out ?_); rfl; rfl; rfl; rfl; intro v9 w9 ho hg; have HQ6 := hide (HQ5.out.more ho hg); clear ho hg)
                | go_in)
              have HND6 := hide (fresh_nodup HND.out HT.out)
              have HN6 := hide (show (own ++ [y]).length ≤ j + 1 by rw [List.length_append]; have := HN.out; simp; omega)
              go_roundw
              case rel => exact ⟨j + 1, own ++ [y], by omega, by omega, by go_num, HN6, HND6, HQ6⟩
              case measure => simp [intOf]; omega
        · by_cases hjl : j < l.length
          · obtain rfl : j = 30 := by omega
            have hjl' : ((30 : Nat) : Int) < (l.length : Int) := by omega
            go_wp2
            go_meet
            exact ⟨own, HN, HND, HQ⟩
          · obtain rfl : j = l.length := by omega
            go_wp2
            go_meet
            exact ⟨own, hide (by have := HN.out; omega), HND, HQ⟩
    case rest =>
      obtain ⟨own, HN, HND, HQ2⟩ := hcut
      clear HQ
      obtain ⟨A1, c1, rfl, hA1, hA2⟩ := HQ2.out.ow.ia_form
      have hn30 : own.length ≤ 30 := HN.out
      have hwb := withinI_bounds turn 0 (own.length : Int) (by omega)
      obtain ⟨nn, hnn⟩ : ∃ nn : Nat, withinI turn 0 (own.length : Int) = nn := ⟨(withinI turn 0 (own.length : Int)).toNat, by omega⟩
      have hnn30 : nn ≤ 30 := by omega
      have HWI := hide (fun w => within_any turn 0 (own.length : Int) w (by omega) (by omega) (by omega))
      rw [hnn] at HWI
      clear hnn hwb
      go_upto_region 16 with (first
        | (go_at_call 26; (with_reducible refine (HWI.out _).mono ?_); rintro e w4 ⟨rfl, rfl⟩))
      go_upto_block 4 with fail
      go_cut [] from 16 to 127 (fun wx => Hid (Qo W wx q r s c g b h d (noteL zeroX own) (noteL zeroX (rotL own nn)) (.slice A1 own.length c1) own))
      case first =>
        go_wp2_with fail
        go_loopw [16] (fun k wr => ∃ m : Nat, m ≤ own.length ∧ k = .int .i64 m ∧ Hid (Qo W wr q r s c g b h d (noteL zeroX (own.take m)) (noteL zeroX ((rotL own nn).take m)) (.slice A1 own.length c1) own)) (fun k _ => own.length - (intOf k).toNat)
        case atStart => exact ⟨0, by omega, rfl, HQ2⟩
        case round =>
          clear HQ2
          obtain ⟨m, hm, rfl, HQ⟩ := hrel
          by_cases hmo : m < own.length
          · obtain ⟨z, hz⟩ : ∃ z, own[m]? = some z := ⟨_, List.getElem?_eq_getElem hmo⟩
            have hmo' : (m : Int) < (own.length : Int) := by omega
            obtain ⟨kk, hkk⟩ : ∃ kk, (m + nn) % own.length = kk := ⟨_, rfl⟩
            have hkl : kk < own.length := hkk ▸ Nat.mod_lt _ (by omega)
            have hkl' : (kk : Int) < (own.length : Int) := by omega
            have hk0' : (0 : Int) ≤ (kk : Int) := by omega
            have hrm : Int.tmod ((m : Int) + (nn : Int)) (own.length : Int) = (kk : Int) := by rw [← hkk]; exact (Int.ofNat_tmod (m + nn) own.length).symm
            obtain ⟨y2, hy2⟩ : ∃ y, own[kk]? = some y := ⟨_, List.getElem?_eq_getElem hkl⟩
            have hr2 : (rotL own nn)[m]? = some y2 := by rw [← rot_at hmo, hkk, hy2]
            have HE1 := hide (noteL_step zeroX hz)
            have HE2 := hide (noteL_step zeroX hr2)
            obtain ⟨A2, c2, hv, _, _, go, rfl, hgo, hzz⟩ := HQ.out.ow.ia hz
            injection hv with hv1 _ hv3
            subst hv1 hv3
            have HZZ := hide hzz
            have HYY := hide (fun (wz : World) (hq : Qo W wz q r s c g b h d (noteX (noteL zeroX (own.take m)) z.r z.s z.c z.q) (noteL zeroX ((rotL own nn).take m)) (.slice (some ⟨go, 0, none⟩) own.length c1) own) => (show IaAt wz go 0 kk y2 from by
              obtain ⟨A3, c3, hv, _, _, go3, rfl, _, h3⟩ := hq.ow.ia hy2
              injection hv with hv1 _ _
              injection hv1 with hv1
              injection hv1 with hv1 _ _
              subst hv1
              exact h3))
            have HS1 := hide (noteL_small own m (by omega))
            have HS2 := hide (noteL_small (rotL own nn) m (by omega))
            have HN1 := hide (fun wz (hq : Qo W wz q r s c g b h d (noteL zeroX (own.take m)) (noteL zeroX ((rotL own nn).take m)) (.slice (some ⟨go, 0, none⟩) own.length c1) own) => qo_note1 hq HS1.out z)
            clear hkk hy2 hr2 hz hzz hgo
            go_upto_region 19 with (fail)
            refine wp_region_noPanic ?_
            refine wp_region_U 16 (fun w' => IaAt w' go 0 m z) (by kernel_rfl) ?_
            have HD0 := hide (show Qo W wr.drew q r s c g b h d (noteL zeroX (own.take m)) (noteL zeroX ((rotL own nn).take m)) (.slice (some ⟨go, 0, none⟩) own.length c1) own from HQ.out.below (kept_drewN (kept_refl wr) 1))
            have HS0 := hide (show IaAt wr.drew go 0 m z from HZZ.out)
            generalize World.drew _ = wd0 at HD0 HS0 ⊢
            refine anyU_pure (i := 0) (v := ?ov0o) (by simp only [List.getElem?_toArray, List.getElem?_cons_zero]; exact rfl) (by kernel_rfl) (by kernel_rfl) (fun _ _ _ h => h) (fun _ => by with_reducible exact HS0.out) (by kernel_rfl) (by kernel_rfl) (Or.inl ⟨by rfl, ?oy0o⟩) ?or0o
            case oy0o => (intro w hSw; go_simp; try with_reducible rfl)
            try simp only [Act.put, List.setIfInBounds_toArray, List.set_cons_zero, List.set_cons_succ]
            refine anyU_pure (i := 1) (v := ?ov1o) (by simp only [List.getElem?_toArray, List.getElem?_cons_succ, List.getElem?_cons_zero]; exact rfl) (by kernel_rfl) (by kernel_rfl) (fun _ _ _ h => h) (fun _ => by with_reducible exact HS0.out) (by kernel_rfl) (by kernel_rfl) (Or.inl ⟨by rfl, ?oy1o⟩) ?or1o
            case oy1o => (intro w hSw; go_simp; try with_reducible rfl)
            try simp only [Act.put, List.setIfInBounds_toArray, List.set_cons_zero, List.set_cons_succ]
            refine anyU_pure (i := 2) (v := ?ov2o) (by simp only [List.getElem?_toArray, List.getElem?_cons_succ, List.getElem?_cons_zero]; exact rfl) (by kernel_rfl) (by kernel_rfl) (fun _ _ _ h => h) (fun _ => by with_reducible exact HS0.out) (by kernel_rfl) (by kernel_rfl) (Or.inl ⟨by rfl, ?oy2o⟩) ?or2o
            case oy2o => (intro w hSw; go_simp; try with_reducible rfl)
            try simp only [Act.put, List.setIfInBounds_toArray, List.set_cons_zero, List.set_cons_succ]
            refine anyU_pure (i := 3) (v := ?ov3o) (by simp only [List.getElem?_toArray, List.getElem?_cons_succ, List.getElem?_cons_zero]; exact rfl) (by kernel_rfl) (by kernel_rfl) (fun _ _ _ h => h) (fun _ => by with_reducible exact HS0.out) (by kernel_rfl) (by kernel_rfl) (Or.inl ⟨by rfl, ?oy3o⟩) ?or3o
            case oy3o => (intro w hSw; go_simp; try with_reducible rfl)
            try simp only [Act.put, List.setIfInBounds_toArray, List.set_cons_zero, List.set_cons_succ]
            refine anyU_pure (i := 4) (v := ?ov4o) (by simp only [List.getElem?_toArray, List.getElem?_cons_succ, List.getElem?_cons_zero]; exact rfl) (by kernel_rfl) (by kernel_rfl) (fun _ _ _ h => h) (fun _ => by with_reducible exact HS0.out) (by kernel_rfl) (by kernel_rfl) (Or.inl ⟨by rfl, ?oy4o⟩) ?or4o
            case oy4o => (intro w hSw; go_simp; try with_reducible rfl)
            try simp only [Act.put, List.setIfInBounds_toArray, List.set_cons_zero, List.set_cons_succ]
            refine anyU_take2 (i := 5) (v := ?ov5o) (by simp only [List.getElem?_toArray, List.getElem?_cons_succ, List.getElem?_cons_zero]; exact rfl) (by kernel_rfl) 8 (by kernel_rfl) (by kernel_rfl) (fun _ _ _ h => h) (by kernel_rfl) (by kernel_rfl) (by kernel_rfl) (by kernel_rfl) (Or.inl ⟨by rfl, ?oy5o⟩) (by with_reducible exact HS0.out) ?or5o
            case oy5o => (intro w hSw; have c2 := show w.cell? ⟨go, m * 18 + 2, none⟩ = some (.int .i64 z.r) from hSw.zero_ 2 (by omega); have c3 := show w.cell? ⟨go, m * 18 + 3, none⟩ = some (.int .i64 z.s) from hSw.zero_ 3 (by omega); go_simp; try with_reducible rfl)
            try simp only [Act.put, List.setIfInBounds_toArray, List.set_cons_zero, List.set_cons_succ]
            refine anyU_pure (i := 6) (v := ?ov6o) (by simp only [List.getElem?_toArray, List.getElem?_cons_succ, List.getElem?_cons_zero]; exact rfl) (by kernel_rfl) (by kernel_rfl) (fun _ _ _ h => h) (fun _ => by with_reducible exact HS0.out) (by kernel_rfl) (by kernel_rfl) (Or.inl ⟨by rfl, ?oy6o⟩) ?or6o
            case oy6o => (intro w hSw; go_simp; try with_reducible rfl)
            try simp only [Act.put, List.setIfInBounds_toArray, List.set_cons_zero, List.set_cons_succ]
            refine anyU_pure (i := 7) (v := ?ov7o) (by simp only [List.getElem?_toArray, List.getElem?_cons_succ, List.getElem?_cons_zero]; exact rfl) (by kernel_rfl) (by kernel_rfl) (fun _ _ _ h => h) (fun _ => by with_reducible exact HS0.out) (by kernel_rfl) (by kernel_rfl) (Or.inl ⟨by rfl, ?oy7o⟩) ?or7o
            case oy7o => (intro w hSw; go_simp; try with_reducible rfl)
            try simp only [Act.put, List.setIfInBounds_toArray, List.set_cons_zero, List.set_cons_succ]
            refine anyU_pure (i := 8) (v := ?ov8o) (by simp only [List.getElem?_toArray, List.getElem?_cons_succ, List.getElem?_cons_zero]; exact rfl) (by kernel_rfl) (by kernel_rfl) (fun _ _ _ h => h) (fun _ => by with_reducible exact HS0.out) (by kernel_rfl) (by kernel_rfl) (Or.inl ⟨by rfl, ?oy8o⟩) ?or8o
            case oy8o => (intro w hSw; go_simp; try with_reducible rfl)
            try simp only [Act.put, List.setIfInBounds_toArray, List.set_cons_zero, List.set_cons_succ]
            refine anyU_pure (i := 9) (v := ?ov9o) (by simp only [List.getElem?_toArray, List.getElem?_cons_succ, List.getElem?_cons_zero]; exact rfl) (by kernel_rfl) (by kernel_rfl) (fun _ _ _ h => h) (fun _ => by with_reducible exact HS0.out) (by kernel_rfl) (by kernel_rfl) (Or.inl ⟨by rfl, ?oy9o⟩) ?or9o
            case oy9o => (intro w hSw; go_simp; try with_reducible rfl)
            try simp only [Act.put, List.setIfInBounds_toArray, List.set_cons_zero, List.set_cons_succ]
            refine anyU_take2 (i := 10) (v := ?ov10o) (by simp only [List.getElem?_toArray, List.getElem?_cons_succ, List.getElem?_cons_zero]; exact rfl) (by kernel_rfl) 8 (by kernel_rfl) (by kernel_rfl) (fun _ _ _ h => h) (by kernel_rfl) (by kernel_rfl) (by kernel_rfl) (by kernel_rfl) (Or.inl ⟨by rfl, ?oy10o⟩) (by with_reducible exact HS0.out) ?or10o
            case oy10o => (intro w hSw; have c4 := show w.cell? ⟨go, m * 18 + 4, none⟩ = some (.int .i64 z.c.k) from hSw.zero_ 4 (by omega); have c5 := show w.cell? ⟨go, m * 18 + 5, none⟩ = some (.int .i64 z.c.c) from hSw.zero_ 5 (by omega); have c6 := show w.cell? ⟨go, m * 18 + 6, none⟩ = some (.int .i64 z.c.q) from hSw.zero_ 6 (by omega); have c7 := show w.cell? ⟨go, m * 18 + 7, none⟩ = some (.string z.c.key) from hSw.zero_ 7 (by omega); have c8 := show w.cell? ⟨go, m * 18 + 8, none⟩ = some (.string z.c.en) from hSw.zero_ 8 (by omega); have c9 := show w.cell? ⟨go, m * 18 + 9, none⟩ = some (.string z.c.old) from hSw.zero_ 9 (by omega); have c10 := show w.cell? ⟨go, m * 18 + 10, none⟩ = some (.string z.c.val) from hSw.zero_ 10 (by omega); go_simp; try with_reducible rfl)
            try simp only [Act.put, List.setIfInBounds_toArray, List.set_cons_zero, List.set_cons_succ]
            refine anyU_pure (i := 11) (v := ?ov11o) (by simp only [List.getElem?_toArray, List.getElem?_cons_succ, List.getElem?_cons_zero]; exact rfl) (by kernel_rfl) (by kernel_rfl) (fun _ _ _ h => h) (fun _ => by with_reducible exact HS0.out) (by kernel_rfl) (by kernel_rfl) (Or.inl ⟨by rfl, ?oy11o⟩) ?or11o
            case oy11o => (intro w hSw; go_simp; try with_reducible rfl)
            try simp only [Act.put, List.setIfInBounds_toArray, List.set_cons_zero, List.set_cons_succ]
            refine anyU_pure (i := 12) (v := ?ov12o) (by simp only [List.getElem?_toArray, List.getElem?_cons_succ, List.getElem?_cons_zero]; exact rfl) (by kernel_rfl) (by kernel_rfl) (fun _ _ _ h => h) (fun _ => by with_reducible exact HS0.out) (by kernel_rfl) (by kernel_rfl) (Or.inl ⟨by rfl, ?oy12o⟩) ?or12o
            case oy12o => (intro w hSw; go_simp; try with_reducible rfl)
            try simp only [Act.put, List.setIfInBounds_toArray, List.set_cons_zero, List.set_cons_succ]
            refine anyU_pure (i := 13) (v := ?ov13o) (by simp only [List.getElem?_toArray, List.getElem?_cons_succ, List.getElem?_cons_zero]; exact rfl) (by kernel_rfl) (by kernel_rfl) (fun _ _ _ h => h) (fun _ => by with_reducible exact HS0.out) (by kernel_rfl) (by kernel_rfl) (Or.inl ⟨by rfl, ?oy13o⟩) ?or13o
            case oy13o => (intro w hSw; go_simp; try with_reducible rfl)
            try simp only [Act.put, List.setIfInBounds_toArray, List.set_cons_zero, List.set_cons_succ]
            refine anyU_pure (i := 14) (v := ?ov14o) (by simp only [List.getElem?_toArray, List.getElem?_cons_succ, List.getElem?_cons_zero]; exact rfl) (by kernel_rfl) (by kernel_rfl) (fun _ _ _ h => h) (fun _ => by with_reducible exact HS0.out) (by kernel_rfl) (by kernel_rfl) (Or.inl ⟨by rfl, ?oy14o⟩) ?or14o
            case oy14o => (intro w hSw; go_simp; try with_reducible rfl)
            try simp only [Act.put, List.setIfInBounds_toArray, List.set_cons_zero, List.set_cons_succ]
            refine anyU_take2 (i := 15) (v := ?ov15o) (by simp only [List.getElem?_toArray, List.getElem?_cons_succ, List.getElem?_cons_zero]; exact rfl) (by kernel_rfl) 8 (by kernel_rfl) (by kernel_rfl) (fun _ _ _ h => h) (by kernel_rfl) (by kernel_rfl) (by kernel_rfl) (by kernel_rfl) (Or.inl ⟨by rfl, ?oy15o⟩) (by with_reducible exact HS0.out) ?or15o
            case oy15o => (intro w hSw; have c1 := show w.cell? ⟨go, m * 18 + 1, none⟩ = some (.int .i64 z.q) from hSw.zero_ 1 (by omega); go_simp; try with_reducible rfl)
            try simp only [Act.put, List.setIfInBounds_toArray, List.set_cons_zero, List.set_cons_succ]
            refine anyU_one (i := 16) (by kernel_rfl) (by simp only [List.getElem?_toArray, List.getElem?_cons_succ, List.getElem?_cons_zero]; exact rfl) (fun K hK => ?_)
            try go_simp
            refine (HN1.out _ HD0.out).mono ?_
            rintro e wn ⟨rfl, hk⟩
            have HD1 := hide hk
            clear hk
            refine hK.out _ _ (fun e _ => absurd rfl e) ?_
            clear hK K
            try simp only [Act.put, List.setIfInBounds_toArray, List.set_cons_zero, List.set_cons_succ]
            refine anyU_done (by kernel_rfl) ?_
            refine NoPanic.normal ?_
            try simp only [Act.put]
            have HIY := hide (HYY.out _ HD1.out)
            have RNG := hide HIY.out.range0
            clear HIY
            clear HS0 HD0
            go_upto_region 21 with (first
              | ((with_reducible refine wpList_load_ia ?_ RNG.out ?_); rfl)
              | ((with_reducible refine wpList_store_ian (y := y2) ?_ ?_ ?_); rfl; rfl))
            have RZ := hide (Row.new wn 48 (askC y2))
            replace HD1 := hide (HD1.out.below (kept_alloc (kept_refl wn) (.cells (askC y2) 48)))
            clear RNG
            generalize wn.alloc (.cells (askC y2) 48) = wv at RZ HD1 ⊢
            generalize wn.heap.size = v at RZ ⊢
            have f1 : wv.cell? ⟨v, 1, none⟩ = some (.int .i64 y2.q) := RZ.out.cell 1
            have f2 : wv.cell? ⟨v, 2, none⟩ = some (.int .i64 y2.r) := RZ.out.cell 2
            have f3 : wv.cell? ⟨v, 3, none⟩ = some (.int .i64 y2.s) := RZ.out.cell 3
            have f4 : wv.cell? ⟨v, 4, none⟩ = some (.int .i64 y2.c.k) := RZ.out.cell 4
            have f5 : wv.cell? ⟨v, 5, none⟩ = some (.int .i64 y2.c.c) := RZ.out.cell 5
            have f6 : wv.cell? ⟨v, 6, none⟩ = some (.int .i64 y2.c.q) := RZ.out.cell 6
            have f7 : wv.cell? ⟨v, 7, none⟩ = some (.string y2.c.key) := RZ.out.cell 7
            have f8 : wv.cell? ⟨v, 8, none⟩ = some (.string y2.c.en) := RZ.out.cell 8
            have f9 : wv.cell? ⟨v, 9, none⟩ = some (.string y2.c.old) := RZ.out.cell 9
            have f10 : wv.cell? ⟨v, 10, none⟩ = some (.string y2.c.val) := RZ.out.cell 10
            have HN2 := hide (qo_note2 HD1.out HS2.out y2)
            go_wp2_with (first
              | (go_at_call 9; (with_reducible refine HN2.out.mono ?_); rintro e w7 ⟨rfl, hk⟩; have HD2 := hide hk; clear hk)
              | go_in)
            exact ⟨⟨m + 1, by omega, by go_num, hide (by rw [HE1.out, HE2.out]; exact HD2.out)⟩, by simp [intOf]; omega⟩
          · obtain rfl : m = own.length := by omega
            have HQ5 := hide (show Qo W wr q r s c g b h d (noteL zeroX own) (noteL zeroX (rotL own nn)) (.slice A1 own.length c1) own by
              have h1 := HQ.out
              rw [List.take_length, List.take_of_length_le (by rw [rot_len]; exact Nat.le_refl _)] at h1
              exact h1)
            clear HQ
            go_wp2
            go_meet
            exact HQ5
      case rest =>
        have HQ6 := hcut
        clear HQ2
        have hpm := noteL_perm (rot_perm own nn) HND.out r s c
        have HKX := hide (noteL_kn own Kn.zero)
        have HKZ := hide (noteL_kn (rotL own nn) Kn.zero)
        have HAX := hide (fun wz (hz : Below wc.heap.size wc wz) => pattr_any g b (noteL zeroX own) r s c wz (HQ6.out.below hz).px HKX.out (light_key HTC.out) (kn_small HKX.out))
        have HAZ := hide (fun wz (hz : Below wc.heap.size wc wz) => pattr_any h d (noteL zeroX (rotL own nn)) r s c wz (HQ6.out.below hz).pz HKZ.out (light_key HTC.out) (kn_small HKZ.out))
        have HLX := hide (fun wz (hz : Below wc.heap.size wc wz) => plen_any g b (noteL zeroX own) wz (HQ6.out.below hz).px)
        have HLZ := hide (fun wz (hz : Below wc.heap.size wc wz) => plen_any h d (noteL zeroX (rotL own nn)) wz (HQ6.out.below hz).pz)
        rw [← hpm.1] at HAZ
        rw [← hpm.2] at HLZ
        have heq := att_eql (noteL zeroX own) r s c
        unfold attO at heq
        generalize cA ((attrX (noteL zeroX own) r s c).1 :: (attrX (noteL zeroX own) r s c).2) = va at HAX HAZ heq ⊢
        generalize (noteL zeroX own).k.length = nk at HLX HLZ ⊢
        clear hpm HKX HKZ
        go_upto_region 22 with (fail)
        have HB0 : Below wc.heap.size wc wc := kept_refl wc
        refine wp_region_sp (fun w' => Below wc.heap.size wc w') (by kernel_rfl) (by kernel_rfl) (show Below wc.heap.size wc wc.drew from kept_drewN HB0 1) ?_
        generalize hS : (fun w' => Below wc.heap.size wc w') = S
        have l0 : ∀ z : Sp S, z.w.cell? ⟨q, 0, none⟩ = some (.int .i64 r) := by subst hS; exact fun z => (HQ6.out.below z.ok).bi.cell 0
        have l1 : ∀ z : Sp S, z.w.cell? ⟨q, 1, none⟩ = some (.int .i64 s) := by subst hS; exact fun z => (HQ6.out.below z.ok).bi.cell 1
        have l2 : ∀ z : Sp S, z.w.cell? ⟨q + 1, 0, none⟩ = some (.int .i64 c.k) := by subst hS; exact fun z => (HQ6.out.below z.ok).bc.cell 0
        have l3 : ∀ z : Sp S, z.w.cell? ⟨q + 1, 1, none⟩ = some (.int .i64 c.c) := by subst hS; exact fun z => (HQ6.out.below z.ok).bc.cell 1
        have l4 : ∀ z : Sp S, z.w.cell? ⟨q + 1, 2, none⟩ = some (.int .i64 c.q) := by subst hS; exact fun z => (HQ6.out.below z.ok).bc.cell 2
        have l5 : ∀ z : Sp S, z.w.cell? ⟨q + 1, 3, none⟩ = some (.string c.key) := by subst hS; exact fun z => (HQ6.out.below z.ok).bc.cell 3
        have l6 : ∀ z : Sp S, z.w.cell? ⟨q + 1, 4, none⟩ = some (.string c.en) := by subst hS; exact fun z => (HQ6.out.below z.ok).bc.cell 4
        have l7 : ∀ z : Sp S, z.w.cell? ⟨q + 1, 5, none⟩ = some (.string c.old) := by subst hS; exact fun z => (HQ6.out.below z.ok).bc.cell 5
        have l8 : ∀ z : Sp S, z.w.cell? ⟨q + 1, 6, none⟩ = some (.string c.val) := by subst hS; exact fun z => (HQ6.out.below z.ok).bc.cell 6
        have ne : Nonempty (Sp S) := by subst hS; exact ⟨⟨_, HB0⟩⟩
        have STEP := hide (show ∀ w w', S w → Below w.heap.size w w' → S w' by subst hS; exact fun _ _ h hb => kept_trans h hb)
        have OLD := hide (show ∀ z : Sp S, Below wc.heap.size wc z.w by subst hS; exact fun z => z.ok)
        clear HB0 hS
        repeat (go_big_quiet_step ((first | (go_at_call 12; with_reducible exact sp_call STEP.out _ (HAX.out _ (OLD.out _))) | (go_at_call 12; with_reducible exact sp_call STEP.out _ (HAZ.out _ (OLD.out _))) | (go_at_call 15; with_reducible exact sp_call STEP.out _ (HLX.out _ (OLD.out _))) | (go_at_call 15; with_reducible exact sp_call STEP.out _ (HLZ.out _ (OLD.out _))) | (go_at_call 3; with_reducible exact sp_call STEP.out _ (RUN.out _)))))
        refine wpQuiet_nil ?_
        intro kk
        have OK := hide (OLD.out kk)
        generalize kk.w = wk at OK ⊢
        clear l0 l1 l2 l3 l4 l5 l6 l7 l8 ne OLD STEP
        go_wp2
        go_ret
        exact ⟨rfl, kept_trans HQ6.out.low OK.out⟩
set_option maxRecDepth 100000 in
theorem lifted (os : Os) (started : os.Started) (H : Type) (enc : TypeId × Value → H) :
    ReturnsInHanded {} Try.checked os 6 .any (Rows.interfOrderSpec.pre6 enc Try.prog Try.f6 Rows.interfOrderRow.domain false) (Rows.interfOrderSpec.post enc Try.prog Try.f6 false true false false) := by
  refine returnsInHanded_of_change_sized (C := Try.checked) own started (by kernel_rfl) Try.func6
    (ChangeSpec.witness6 (enc := enc) (C := Try.checked) false ⟨#[], #[.slice none 0 0, .int .i64 0, .agg #[.int .i64 0, .int .i64 0], .agg #[.int .i64 0, .int .i64 0, .int .i64 0, .string ⟨#[]⟩, .string ⟨#[]⟩, .string ⟨#[]⟩, .string ⟨#[]⟩]], []⟩ 8 (by kernel_rfl) (by kernel_rfl) (by kernel_rfl) (by kernel_rfl)) ?_
  intro W base args ds gs before hval0 hW _ hsz0 _
  have hval : ∀ (j : Nat) t v, Try.f6.params[j]? = some t → args[j]? = some v → Value.okWide Try.prog W .any base t v := hval0
  have hW' := hW
  obtain ⟨p, q, hA0, hV, rfl, _, _⟩ := hW
  have hA : DataW.TrodAll enc Try.prog W 0 (fun _ => true) true Try.f6.params.toList args.toList ds p := hA0
  have hsz : (DataW.weightsEach Try.prog (Try.f6.params.toList ++ Rows.interfOrderSpec.plain.varTypes Try.prog) (ds ++ gs)).all (· ≤ reachBytes) = true := hsz0
  rw [Try.params6] at hA hval hsz
  obtain ⟨v0, vs0, d0, ds0, p0, q0, hargs, rfl, rfl, h0, r0⟩ := trodAll_cons hA
  obtain ⟨v1, vs1, d1, ds1, p1, q1, rfl, rfl, rfl, h1, r1⟩ := trodAll_cons r0
  obtain ⟨v2, vs2, d2, ds2, p2, q2, rfl, rfl, rfl, h2, r2⟩ := trodAll_cons r1
  obtain ⟨v3, vs3, d3, ds3, p3, q3, rfl, rfl, rfl, h3, r3⟩ := trodAll_cons r2
  obtain ⟨rfl, rfl, rfl⟩ := trodAll_nil r3
  obtain rfl : args = #[v0, v1, v2, v3] := by cases args; simp_all
  obtain ⟨rfl, rfl⟩ := trodVars_none hV
  have k0 := h0
  have lt0 : ∀ x ∈ p0, x.block < W.heap.size := by obtain ⟨m, hm⟩ := k0; exact DataW.trod_lt m _ _ _ hm
  obtain ⟨A0, n0, c0, rfl⟩ := okWide_slice Try.underlying40 (hval 0 40 v0 rfl rfl)
  obtain ⟨z0, s0⟩ := iasks_in (j := 0) h0 hsz rfl rfl
  obtain ⟨a1, rfl, rfl, rfl, w1⟩ := open_int Try.underlying3 (hval 1 3 v1 rfl rfl) h1
  have k2 := h2
  have lt2 : ∀ x ∈ p2, x.block < W.heap.size := by obtain ⟨m, hm⟩ := k2; exact DataW.trod_lt m _ _ _ hm
  obtain ⟨x2, y2, rfl, bx2, by2⟩ := inst_in (hval 2 26 v2 rfl rfl) h2
  have k3 := h3
  have lt3 : ∀ x ∈ p3, x.block < W.heap.size := by obtain ⟨m, hm⟩ := k3; exact DataW.trod_lt m _ _ _ hm
  obtain ⟨x3, rfl, s3⟩ := cmd_in (j := 3) (hval 3 29 v3 rfl rfl) h3 hsz rfl rfl
  clear hA0 hval0
  refine (walk A0 n0 c0 z0 a1 x2 y2 x3 W s0 (bounds_i64 w1) bx2 by2 s3).mono fun e W' ⟨he, bel⟩ => ?_
  subst he
  exact ⟨_, rfl, _, _, _, [], _, [], hW', trodAll_mk1 (shut_bool Try.underlying4 _), (trodAll_cons_mk (Below.trod laidOut (by kernel_rfl) (of_decide_eq_true (by kernel_rfl)) k0 bel lt0) (trodAll_cons_mk (shut_int Try.underlying3 w1) (trodAll_cons_mk (Below.trod laidOut (by kernel_rfl) (of_decide_eq_true (by kernel_rfl)) k2 bel lt2) (trodAll_cons_mk (Below.trod laidOut (by kernel_rfl) (of_decide_eq_true (by kernel_rfl)) k3 bel lt3) trodAll_mk0)))), rfl, bel.frame _, fun h => by cases h⟩
theorem over : Rows.interfOrderRow.holds Try.pinned (OpenSpec.ofChange Rows.interfOrderSpec) :=
  OpenClaim.holds_of_wide 6 Try.f6 rfl rfl rfl rfl rfl rfl rfl ⟨rfl, rfl, rfl, rfl, rfl⟩ rfl rfl rfl rfl rfl (by kernel_rfl) Try.func6 (by kernel_rfl)
    (of_decide_eq_true (by kernel_rfl)) (by unfold Func.isWrapper; first | (rw [if_pos (by decide +kernel)]; kernel_rfl) | (rw [if_neg (by decide +kernel)]; exact ⟨rfl, rfl⟩))
    (fun os started H enc _ => lifted os started H enc)
theorem proved : Rows.InterfOrderSaid := over
end Go.Proofs.Ytfihcgimgngmhaa.interfOrder
