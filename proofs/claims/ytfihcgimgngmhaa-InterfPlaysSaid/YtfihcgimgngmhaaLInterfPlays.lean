/- Proved: the law InterfPlays returns true. Conditions: none beyond the row's own. -/
import Derived.Test.YtfihcgimgngmhaaVa
import Derived.Test.YtfihcgimgngmhaaVj
import Derived.Test.YtfihcgimgngmhaaVb
import Derived.Test.YtfihcgimgngmhaaVd
import Derived.Deep.DeepCutAuto
import Derived.BigQuiet
namespace Go.Proofs.Ytfihcgimgngmhaa.interfPlays
open Go.ChangeShapes Go.WideShapes Go.ChangeAt Go.RowKit
set_option maxRecDepth 100000 in
set_option maxHeartbeats 16000000 in
theorem walk (A : Option Addr) (n c : Nat) (l : List Ia) (W : World) (h : IasIn W A n c l) :
    Calls Try.prog 4 #[.slice A n c] W fun e w' => e = .returned (.bool true) ∧ Below W.heap.size W w' := by
  have RUN := hide (fun w => runs_any w)
  have HNW := hide (fun w => pnew_any w)
  have hn := h.len
  have hnc := h.le
  have hcr := h.room
  subst hn
  have HA := hide h.lies
  have HOK := hide h.ok
  clear h
  go_enter Try.func4, Try.ntmps4
  go_upto_region 4 with (first
    | (go_at_call 8; (with_reducible refine (HNW.out _).mono ?_); rintro e w1 ⟨g, b, rfl, hp, hb, hg1, hb1⟩))
  have HQ := hide (show Pq W (w1.alloc (.cells (ixC (.slice none 0 0) (.slice none 0 0) (.slice none 0 0) [0, 0, 0, 0, 0, 0, 0]) 46)) g b w1.heap.size (.slice none 0 0) (.slice none 0 0) (.slice none 0 0) zeroX from
    ⟨(⟨hb, hp, hg1, hb1⟩ : Rn W w1 g b zeroX).below (kept_alloc (kept_refl _) _), ⟨Row.new _ _ _, rw_nil _ _ _ _, rw_nil _ _ _ _, rw_nil _ _ _ _, rfl⟩, hb.size⟩)
  clear hp hb hg1 hb1
  replace HQ : Hid (Pq W (w1.alloc (.cells #[.slice none 0 0, .slice none 0 0, .slice none 0 0, .int .i64 0, .int .i64 0, .int .i64 0, .int .i64 0, .int .i64 0, .int .i64 0, .int .i64 0] 46)) g b w1.heap.size (.slice none 0 0) (.slice none 0 0) (.slice none 0 0) zeroX) := HQ
  generalize w1.alloc (.cells #[.slice none 0 0, .slice none 0 0, .slice none 0 0, .int .i64 0, .int .i64 0, .int .i64 0, .int .i64 0, .int .i64 0, .int .i64 0, .int .i64 0] 46) = w2 at HQ ⊢
  generalize w1.heap.size = h at HQ ⊢
  generalize (Value.agg #[.slice none 0 0, .slice none 0 0, .slice none 0 0, .int .i64 0, .int .i64 0, .int .i64 0, .int .i64 0, .int .i64 0, .int .i64 0, .int .i64 0]) = va
  go_wp2
  go_loopw [5] (fun i wr => ∃ (j : Nat) (x : Ix) (vL vC vS : Value), j ≤ l.length ∧ j ≤ 60 ∧ i = .int .i64 j ∧ Hid (Kn x) ∧ Hid (x.k.length ≤ j) ∧ Hid (Pq W wr g b h vL vC vS x)) (fun i _ => l.length - (intOf i).toNat)
  case atStart => exact ⟨0, zeroX, _, _, _, by omega, by omega, rfl, Kn.zero, Nat.le_refl _, HQ⟩
  case round =>
    clear HQ
    obtain ⟨j, x, vL, vC, vS, hj, hj60, rfl, HK, HL, HR⟩ := hrel
    by_cases hlt : j < l.length ∧ j < 60
    · obtain ⟨hlt, hlt60⟩ := hlt
      have hlt60' : decide ((j : Int) < 60) = true := decide_eq_true (by omega)
      obtain ⟨y, hy⟩ : ∃ y, l[j]? = some y := ⟨_, List.getElem?_eq_getElem hlt⟩
      have HY := hide (HOK.out y (List.mem_of_getElem? hy))
      obtain ⟨b0, off, rfl, hbs, ha⟩ := Els.ia (HA.out.below HR.out.rn.low) hy
      have RNG := hide ha.range
      have hjl : (j : Int) < (l.length : Int) := by omega
      have HP := hide (show Pk W (wr.alloc (.cells (askC y) 48)) g b h wr.heap.size vL vC vS x x y from Pk.start (y := y) HR.out)
      clear hy ha
      go_upto_region 8 with (first
        | ((with_reducible refine wpList_load_ia ?_ RNG.out ?_); rfl)
        | ((with_reducible refine wpList_store_ian (y := y) ?_ ?_ ?_); rfl; rfl))
      clear RNG
      generalize wr.alloc (.cells (askC y) 48) = w3 at HP ⊢
      generalize wr.heap.size = v at HP hbs ⊢
      generalize (Value.agg (askC y)) = va2
      clear hbs
      have e0 : w3.cell? ⟨v, 0, none⟩ = some (.int .i64 y.k) := HP.out.av.cell 0
      have e1 : w3.cell? ⟨v, 1, none⟩ = some (.int .i64 y.q) := HP.out.av.cell 1
      have e2 : w3.cell? ⟨v, 2, none⟩ = some (.int .i64 y.r) := HP.out.av.cell 2
      have e3 : w3.cell? ⟨v, 3, none⟩ = some (.int .i64 y.s) := HP.out.av.cell 3
      have e4 : w3.cell? ⟨v, 4, none⟩ = some (.int .i64 y.c.k) := HP.out.av.cell 4
      have e5 : w3.cell? ⟨v, 5, none⟩ = some (.int .i64 y.c.c) := HP.out.av.cell 5
      have e6 : w3.cell? ⟨v, 6, none⟩ = some (.int .i64 y.c.q) := HP.out.av.cell 6
      have e7 : w3.cell? ⟨v, 7, none⟩ = some (.string y.c.key) := HP.out.av.cell 7
      have e8 : w3.cell? ⟨v, 8, none⟩ = some (.string y.c.en) := HP.out.av.cell 8
      have e9 : w3.cell? ⟨v, 9, none⟩ = some (.string y.c.old) := HP.out.av.cell 9
      have e10 : w3.cell? ⟨v, 10, none⟩ = some (.string y.c.val) := HP.out.av.cell 10
      have e11 : w3.cell? ⟨v, 11, none⟩ = some (.int .i64 y.u0) := HP.out.av.cell 11
      have e12 : w3.cell? ⟨v, 12, none⟩ = some (.int .i64 y.u1) := HP.out.av.cell 12
      have e13 : w3.cell? ⟨v, 13, none⟩ = some (.int .i64 y.u2) := HP.out.av.cell 13
      have e14 : w3.cell? ⟨v, 14, none⟩ = some (.int .i64 y.u3) := HP.out.av.cell 14
      have e15 : w3.cell? ⟨v, 15, none⟩ = some (.int .i64 y.u4) := HP.out.av.cell 15
      have e16 : w3.cell? ⟨v, 16, none⟩ = some (.int .i64 y.u5) := HP.out.av.cell 16
      have e17 : w3.cell? ⟨v, 17, none⟩ = some (.int .i64 y.u6) := HP.out.av.cell 17
      have HLI := hide (fun w => light_any y.c w (Nat.le_trans HY.out.c.key (by omega)) (Nat.le_trans HY.out.c.en (by omega)) (Nat.le_trans HY.out.c.old (by omega)) (Nat.le_trans HY.out.c.val (by omega)))
      obtain ⟨tl, htl⟩ : ∃ t, lightC y.c = t := ⟨_, rfl⟩
      rw [htl] at HLI
      have HTL := hide htl
      clear htl
      cases tl
      case false =>
        go_wp2_with (first
          | (go_at_call 16; (with_reducible refine (HLI.out _).mono ?_); rintro e w4 ⟨rfl, hb⟩; replace HP := hide (HP.out.below hb); clear hb)
          | go_in)
        exact ⟨⟨j + 1, x, _, _, _, by omega, by omega, by go_num, HK, hide (by have := HL.out; omega), HP.out.pq⟩, by simp [intOf]; omega⟩
      case true =>
        go_upto_region 9 with (first
          | (go_at_call 16; (with_reducible refine (HLI.out _).mono ?_); rintro e w4 ⟨rfl, hb⟩; replace HP := hide (HP.out.below hb); clear hb))
        replace HP : Hid (Pk W w4 g b h v vL vC vS x x y) := HP
        clear HR e0 e1 e2 e3 e4 e5 e6 e7 e8 e9 e10 e11 e12 e13 e14 e15 e16 e17
        have e0 : w4.cell? ⟨v, 0, none⟩ = some (.int .i64 y.k) := HP.out.av.cell 0
        go_upto_block 2 with fail
        clear e0
        have HL1 := hide (show x.k.length ≤ 1000 by have := HL.out; omega)
        go_cut [] from 31 to 75 (fun wx => ∃ (x' : Ix) (vL' vC' vS' : Value), Hid (Kn x') ∧ Hid (x'.k.length ≤ j + 1) ∧ Hid (Pq W wx g b h vL' vC' vS' x'))
        case first =>
          by_cases h1 : y.k = 1
          · have hk1 : (y.k == (1 : Int)) = true := by rw [h1]; rfl
            obtain ⟨t, ht⟩ : ∃ t, mayN x.d y.r y.s y.c y.q = t := ⟨_, rfl⟩
            have HN1 := hide (fun wz (hz : Pk W wz g b h v vL vC vS x x y) => pk_note1 hz HL1.out)
            have HN2 := hide (fun wz (hz : Pk W wz g b h v vL vC vS (noteX x y.r y.s y.c y.q) x y) => pk_note2 hz HL1.out HK.out.nd)
            rw [ht] at HN1 HN2
            clear ht
            have hbn : (t != t) = false := by cases t <;> rfl
            go_upto_region 11 with (fail)
            refine wp_region_noPanic ?_
            refine wp_region_U 16 (fun w' => Row w' v 48 y.l.toArray) (by kernel_rfl) ?_
            have HD0 := hide (show Pk W w4.drew g b h v vL vC vS x x y from HP.out.below (kept_drewN (kept_refl w4) 1))
            generalize World.drew _ = wd0 at HD0 ⊢
            have HS0 := hide HD0.out.av
            refine anyU_pure (i := 0) (v := ?ov0p) (by simp only [List.getElem?_toArray, List.getElem?_cons_zero]; exact rfl) (by kernel_rfl) (by kernel_rfl) (fun _ _ _ h => h) (fun _ => by with_reducible exact HS0.out) (by kernel_rfl) (by kernel_rfl) (Or.inl ⟨by rfl, ?oy0p⟩) ?or0p
            case oy0p => (intro w hSw; go_simp; try with_reducible rfl)
            try simp only [Act.put, List.setIfInBounds_toArray, List.set_cons_zero, List.set_cons_succ]
            refine anyU_pure (i := 1) (v := ?ov1p) (by simp only [List.getElem?_toArray, List.getElem?_cons_succ, List.getElem?_cons_zero]; exact rfl) (by kernel_rfl) (by kernel_rfl) (fun _ _ _ h => h) (fun _ => by with_reducible exact HS0.out) (by kernel_rfl) (by kernel_rfl) (Or.inl ⟨by rfl, ?oy1p⟩) ?or1p
            case oy1p => (intro w hSw; go_simp; try with_reducible rfl)
            try simp only [Act.put, List.setIfInBounds_toArray, List.set_cons_zero, List.set_cons_succ]
            refine anyU_take2 (i := 2) (v := ?ov2p) (by simp only [List.getElem?_toArray, List.getElem?_cons_succ, List.getElem?_cons_zero]; exact rfl) (by kernel_rfl) 8 (by kernel_rfl) (by kernel_rfl) (fun _ _ _ h => h) (by kernel_rfl) (by kernel_rfl) (by kernel_rfl) (by kernel_rfl) (Or.inl ⟨by rfl, ?oy2p⟩) (by with_reducible exact HS0.out) ?or2p
            case oy2p => (intro w hSw; have c2 := show w.cell? ⟨v, 2, none⟩ = some (.int .i64 y.r) from Row.cell hSw 2; have c3 := show w.cell? ⟨v, 3, none⟩ = some (.int .i64 y.s) from Row.cell hSw 3; go_simp; try with_reducible rfl)
            try simp only [Act.put, List.setIfInBounds_toArray, List.set_cons_zero, List.set_cons_succ]
            refine anyU_pure (i := 3) (v := ?ov3p) (by simp only [List.getElem?_toArray, List.getElem?_cons_succ, List.getElem?_cons_zero]; exact rfl) (by kernel_rfl) (by kernel_rfl) (fun _ _ _ h => h) (fun _ => by with_reducible exact HS0.out) (by kernel_rfl) (by kernel_rfl) (Or.inl ⟨by rfl, ?oy3p⟩) ?or3p
            case oy3p => (intro w hSw; go_simp; try with_reducible rfl)
            try simp only [Act.put, List.setIfInBounds_toArray, List.set_cons_zero, List.set_cons_succ]
            refine anyU_take2 (i := 4) (v := ?ov4p) (by simp only [List.getElem?_toArray, List.getElem?_cons_succ, List.getElem?_cons_zero]; exact rfl) (by kernel_rfl) 8 (by kernel_rfl) (by kernel_rfl) (fun _ _ _ h => h) (by kernel_rfl) (by kernel_rfl) (by kernel_rfl) (by kernel_rfl) (Or.inl ⟨by rfl, ?oy4p⟩) (by with_reducible exact HS0.out) ?or4p
            case oy4p => (intro w hSw; have c4 := show w.cell? ⟨v, 4, none⟩ = some (.int .i64 y.c.k) from Row.cell hSw 4; have c5 := show w.cell? ⟨v, 5, none⟩ = some (.int .i64 y.c.c) from Row.cell hSw 5; have c6 := show w.cell? ⟨v, 6, none⟩ = some (.int .i64 y.c.q) from Row.cell hSw 6; have c7 := show w.cell? ⟨v, 7, none⟩ = some (.string y.c.key) from Row.cell hSw 7; have c8 := show w.cell? ⟨v, 8, none⟩ = some (.string y.c.en) from Row.cell hSw 8; have c9 := show w.cell? ⟨v, 9, none⟩ = some (.string y.c.old) from Row.cell hSw 9; have c10 := show w.cell? ⟨v, 10, none⟩ = some (.string y.c.val) from Row.cell hSw 10; go_simp; try with_reducible rfl)
            try simp only [Act.put, List.setIfInBounds_toArray, List.set_cons_zero, List.set_cons_succ]
            refine anyU_pure (i := 5) (v := ?ov5p) (by simp only [List.getElem?_toArray, List.getElem?_cons_succ, List.getElem?_cons_zero]; exact rfl) (by kernel_rfl) (by kernel_rfl) (fun _ _ _ h => h) (fun _ => by with_reducible exact HS0.out) (by kernel_rfl) (by kernel_rfl) (Or.inl ⟨by rfl, ?oy5p⟩) ?or5p
            case oy5p => (intro w hSw; go_simp; try with_reducible rfl)
            try simp only [Act.put, List.setIfInBounds_toArray, List.set_cons_zero, List.set_cons_succ]
            refine anyU_take2 (i := 6) (v := ?ov6p) (by simp only [List.getElem?_toArray, List.getElem?_cons_succ, List.getElem?_cons_zero]; exact rfl) (by kernel_rfl) 8 (by kernel_rfl) (by kernel_rfl) (fun _ _ _ h => h) (by kernel_rfl) (by kernel_rfl) (by kernel_rfl) (by kernel_rfl) (Or.inl ⟨by rfl, ?oy6p⟩) (by with_reducible exact HS0.out) ?or6p
            case oy6p => (intro w hSw; have c1 := show w.cell? ⟨v, 1, none⟩ = some (.int .i64 y.q) from Row.cell hSw 1; go_simp; try with_reducible rfl)
            try simp only [Act.put, List.setIfInBounds_toArray, List.set_cons_zero, List.set_cons_succ]
            refine anyU_pure (i := 8) (v := ?ov8p) (by simp only [List.getElem?_toArray, List.getElem?_cons_succ, List.getElem?_cons_zero]; exact rfl) (by kernel_rfl) (by kernel_rfl) (fun _ _ _ h => h) (fun _ => by with_reducible exact HS0.out) (by kernel_rfl) (by kernel_rfl) (Or.inl ⟨by rfl, ?oy8p⟩) ?or8p
            case oy8p => (intro w hSw; go_simp; try with_reducible rfl)
            try simp only [Act.put, List.setIfInBounds_toArray, List.set_cons_zero, List.set_cons_succ]
            refine anyU_pure (i := 9) (v := ?ov9p) (by simp only [List.getElem?_toArray, List.getElem?_cons_succ, List.getElem?_cons_zero]; exact rfl) (by kernel_rfl) (by kernel_rfl) (fun _ _ _ h => h) (fun _ => by with_reducible exact HS0.out) (by kernel_rfl) (by kernel_rfl) (Or.inl ⟨by rfl, ?oy9p⟩) ?or9p
            case oy9p => (intro w hSw; go_simp; try with_reducible rfl)
            try simp only [Act.put, List.setIfInBounds_toArray, List.set_cons_zero, List.set_cons_succ]
            refine anyU_take2 (i := 10) (v := ?ov10p) (by simp only [List.getElem?_toArray, List.getElem?_cons_succ, List.getElem?_cons_zero]; exact rfl) (by kernel_rfl) 8 (by kernel_rfl) (by kernel_rfl) (fun _ _ _ h => h) (by kernel_rfl) (by kernel_rfl) (by kernel_rfl) (by kernel_rfl) (Or.inl ⟨by rfl, ?oy10p⟩) (by with_reducible exact HS0.out) ?or10p
            case oy10p => (intro w hSw; have c2 := show w.cell? ⟨v, 2, none⟩ = some (.int .i64 y.r) from Row.cell hSw 2; have c3 := show w.cell? ⟨v, 3, none⟩ = some (.int .i64 y.s) from Row.cell hSw 3; go_simp; try with_reducible rfl)
            try simp only [Act.put, List.setIfInBounds_toArray, List.set_cons_zero, List.set_cons_succ]
            refine anyU_pure (i := 11) (v := ?ov11p) (by simp only [List.getElem?_toArray, List.getElem?_cons_succ, List.getElem?_cons_zero]; exact rfl) (by kernel_rfl) (by kernel_rfl) (fun _ _ _ h => h) (fun _ => by with_reducible exact HS0.out) (by kernel_rfl) (by kernel_rfl) (Or.inl ⟨by rfl, ?oy11p⟩) ?or11p
            case oy11p => (intro w hSw; go_simp; try with_reducible rfl)
            try simp only [Act.put, List.setIfInBounds_toArray, List.set_cons_zero, List.set_cons_succ]
            refine anyU_take2 (i := 12) (v := ?ov12p) (by simp only [List.getElem?_toArray, List.getElem?_cons_succ, List.getElem?_cons_zero]; exact rfl) (by kernel_rfl) 8 (by kernel_rfl) (by kernel_rfl) (fun _ _ _ h => h) (by kernel_rfl) (by kernel_rfl) (by kernel_rfl) (by kernel_rfl) (Or.inl ⟨by rfl, ?oy12p⟩) (by with_reducible exact HS0.out) ?or12p
            case oy12p => (intro w hSw; have c4 := show w.cell? ⟨v, 4, none⟩ = some (.int .i64 y.c.k) from Row.cell hSw 4; have c5 := show w.cell? ⟨v, 5, none⟩ = some (.int .i64 y.c.c) from Row.cell hSw 5; have c6 := show w.cell? ⟨v, 6, none⟩ = some (.int .i64 y.c.q) from Row.cell hSw 6; have c7 := show w.cell? ⟨v, 7, none⟩ = some (.string y.c.key) from Row.cell hSw 7; have c8 := show w.cell? ⟨v, 8, none⟩ = some (.string y.c.en) from Row.cell hSw 8; have c9 := show w.cell? ⟨v, 9, none⟩ = some (.string y.c.old) from Row.cell hSw 9; have c10 := show w.cell? ⟨v, 10, none⟩ = some (.string y.c.val) from Row.cell hSw 10; go_simp; try with_reducible rfl)
            try simp only [Act.put, List.setIfInBounds_toArray, List.set_cons_zero, List.set_cons_succ]
            refine anyU_pure (i := 13) (v := ?ov13p) (by simp only [List.getElem?_toArray, List.getElem?_cons_succ, List.getElem?_cons_zero]; exact rfl) (by kernel_rfl) (by kernel_rfl) (fun _ _ _ h => h) (fun _ => by with_reducible exact HS0.out) (by kernel_rfl) (by kernel_rfl) (Or.inl ⟨by rfl, ?oy13p⟩) ?or13p
            case oy13p => (intro w hSw; go_simp; try with_reducible rfl)
            try simp only [Act.put, List.setIfInBounds_toArray, List.set_cons_zero, List.set_cons_succ]
            refine anyU_take2 (i := 14) (v := ?ov14p) (by simp only [List.getElem?_toArray, List.getElem?_cons_succ, List.getElem?_cons_zero]; exact rfl) (by kernel_rfl) 8 (by kernel_rfl) (by kernel_rfl) (fun _ _ _ h => h) (by kernel_rfl) (by kernel_rfl) (by kernel_rfl) (by kernel_rfl) (Or.inl ⟨by rfl, ?oy14p⟩) (by with_reducible exact HS0.out) ?or14p
            case oy14p => (intro w hSw; have c1 := show w.cell? ⟨v, 1, none⟩ = some (.int .i64 y.q) from Row.cell hSw 1; go_simp; try with_reducible rfl)
            try simp only [Act.put, List.setIfInBounds_toArray, List.set_cons_zero, List.set_cons_succ]
            refine anyU_one (i := 7) (by kernel_rfl) (by simp only [List.getElem?_toArray, List.getElem?_cons_succ, List.getElem?_cons_zero]; exact rfl) (fun K hK => ?_)
            try go_simp
            refine (HN1.out _ HD0.out).mono ?_
            rintro e wn ⟨rfl, hk⟩
            have HD1 := hide hk
            clear hk
            refine hK.out _ _ (fun e _ => HD1.out.av) ?_
            clear hK K
            try simp only [Act.put, List.setIfInBounds_toArray, List.set_cons_zero, List.set_cons_succ]
            refine anyU_one (i := 15) (by kernel_rfl) (by simp only [List.getElem?_toArray, List.getElem?_cons_succ, List.getElem?_cons_zero]; exact rfl) (fun K hK => ?_)
            try go_simp
            refine (HN2.out _ HD1.out).mono ?_
            rintro e wm ⟨rfl, vL', vC', vS', hk⟩
            have HD2 := hide hk
            clear hk
            refine hK.out _ _ (fun e _ => HD2.out.av) ?_
            clear hK K
            try simp only [Act.put, List.setIfInBounds_toArray, List.set_cons_zero, List.set_cons_succ]
            refine anyU_one (i := 16) (by kernel_rfl) (by simp only [List.getElem?_toArray, List.getElem?_cons_succ, List.getElem?_cons_zero]; exact rfl) (fun K hK => ?_)
            try go_simp
            refine hK.out _ _ (fun e _ => absurd rfl e) ?_
            clear hK K
            try simp only [Act.put, List.setIfInBounds_toArray, List.set_cons_zero, List.set_cons_succ]
            refine anyU_done (by kernel_rfl) ?_
            refine NoPanic.normal ?_
            try simp only [Act.put]
            go_wp2
            go_meet
            exact ⟨_, _, _, _, hide (HK.out.note _ _ _ _), hide (Nat.le_trans (note_len _ _ _ _ _) (by have := HL.out; omega)), HD2.out.pq⟩
          · have hk1 : (y.k == (1 : Int)) = false := by simpa using h1
            by_cases h2 : y.k = 2
            · have hk2 : (y.k == (2 : Int)) = true := by rw [h2]; rfl
              go_upto_region 14 with (fail)
              have HA1 := hide (fun wz (hz : Below w4.heap.size w4 wz) => pk_attr1 (HP.out.below hz) HK.out (light_key HTL.out))
              have HA2 := hide (fun wz (hz : Below w4.heap.size w4 wz) => pk_attr2 (HP.out.below hz) HK.out HL1.out (light_key HTL.out))
              have hne := att_neq x y
              have HB0 : Below w4.heap.size w4 w4 := kept_refl w4
              refine wp_region_sp (fun w' => Below w4.heap.size w4 w') (by kernel_rfl) (by kernel_rfl) (show Below w4.heap.size w4 w4.drew from kept_drewN HB0 1) ?_
              generalize hS : (fun w' => Below w4.heap.size w4 w') = S
              have l0 : ∀ z : Sp S, z.w.cell? ⟨v, 2, none⟩ = some (.int .i64 y.r) := by subst hS; exact fun z => (HP.out.av.below z.ok HP.out.av.lt).cell 2
              have l1 : ∀ z : Sp S, z.w.cell? ⟨v, 3, none⟩ = some (.int .i64 y.s) := by subst hS; exact fun z => (HP.out.av.below z.ok HP.out.av.lt).cell 3
              have l2 : ∀ z : Sp S, z.w.cell? ⟨v, 4, none⟩ = some (.int .i64 y.c.k) := by subst hS; exact fun z => (HP.out.av.below z.ok HP.out.av.lt).cell 4
              have l3 : ∀ z : Sp S, z.w.cell? ⟨v, 5, none⟩ = some (.int .i64 y.c.c) := by subst hS; exact fun z => (HP.out.av.below z.ok HP.out.av.lt).cell 5
              have l4 : ∀ z : Sp S, z.w.cell? ⟨v, 6, none⟩ = some (.int .i64 y.c.q) := by subst hS; exact fun z => (HP.out.av.below z.ok HP.out.av.lt).cell 6
              have l5 : ∀ z : Sp S, z.w.cell? ⟨v, 7, none⟩ = some (.string y.c.key) := by subst hS; exact fun z => (HP.out.av.below z.ok HP.out.av.lt).cell 7
              have l6 : ∀ z : Sp S, z.w.cell? ⟨v, 8, none⟩ = some (.string y.c.en) := by subst hS; exact fun z => (HP.out.av.below z.ok HP.out.av.lt).cell 8
              have l7 : ∀ z : Sp S, z.w.cell? ⟨v, 9, none⟩ = some (.string y.c.old) := by subst hS; exact fun z => (HP.out.av.below z.ok HP.out.av.lt).cell 9
              have l8 : ∀ z : Sp S, z.w.cell? ⟨v, 10, none⟩ = some (.string y.c.val) := by subst hS; exact fun z => (HP.out.av.below z.ok HP.out.av.lt).cell 10
              have ne : Nonempty (Sp S) := by subst hS; exact ⟨⟨_, HB0⟩⟩
              have STEP := hide (show ∀ w w', S w → Below w.heap.size w w' → S w' by subst hS; exact fun _ _ h hb => kept_trans h hb)
              have OLD := hide (show ∀ z : Sp S, Below w4.heap.size w4 z.w by subst hS; exact fun z => z.ok)
              clear HB0 hS
              repeat (go_big_quiet_step ((first | (go_at_call 12; with_reducible exact sp_call STEP.out _ (HA1.out _ (OLD.out _))) | (go_at_call 18; with_reducible exact sp_call STEP.out _ (HA2.out _ (OLD.out _))))))
              refine wpQuiet_nil ?_
              intro kk
              have OK := hide (OLD.out kk)
              generalize kk.w = wk at OK ⊢
              clear l0 l1 l2 l3 l4 l5 l6 l7 l8 ne OLD STEP
              go_wp2
              go_meet
              exact ⟨x, _, _, _, HK, hide (by have := HL.out; omega), (HP.out.below OK.out).pq⟩
            · have hk2 : (y.k == (2 : Int)) = false := by simpa using h2
              by_cases h3 : y.k = 3
              · have hk3 : (y.k == (3 : Int)) = true := by rw [h3]; rfl
                go_upto_region 17 with (fail)
                have c11 : w4.cell? ⟨v, 11, none⟩ = some (.int .i64 y.u0) := HP.out.av.cell 11
                have c12 : w4.cell? ⟨v, 12, none⟩ = some (.int .i64 y.u1) := HP.out.av.cell 12
                have c13 : w4.cell? ⟨v, 13, none⟩ = some (.int .i64 y.u2) := HP.out.av.cell 13
                have c14 : w4.cell? ⟨v, 14, none⟩ = some (.int .i64 y.u3) := HP.out.av.cell 14
                have c15 : w4.cell? ⟨v, 15, none⟩ = some (.int .i64 y.u4) := HP.out.av.cell 15
                have c16 : w4.cell? ⟨v, 16, none⟩ = some (.int .i64 y.u5) := HP.out.av.cell 16
                have c17 : w4.cell? ⟨v, 17, none⟩ = some (.int .i64 y.u6) := HP.out.av.cell 17
                go_wp2_with (first
                  | (go_at_call 13; (with_reducible refine (pk_prune1 HP.out HK.out).mono ?_); rintro e w5 ⟨rfl, hk⟩; replace HP := hide hk; clear hk; clear c11 c12 c13 c14 c15 c16 c17; have c11 : w5.cell? ⟨v, 11, none⟩ = some (.int .i64 y.u0) := HP.out.av.cell 11; have c12 : w5.cell? ⟨v, 12, none⟩ = some (.int .i64 y.u1) := HP.out.av.cell 12; have c13 : w5.cell? ⟨v, 13, none⟩ = some (.int .i64 y.u2) := HP.out.av.cell 13; have c14 : w5.cell? ⟨v, 14, none⟩ = some (.int .i64 y.u3) := HP.out.av.cell 14; have c15 : w5.cell? ⟨v, 15, none⟩ = some (.int .i64 y.u4) := HP.out.av.cell 15; have c16 : w5.cell? ⟨v, 16, none⟩ = some (.int .i64 y.u5) := HP.out.av.cell 16; have c17 : w5.cell? ⟨v, 17, none⟩ = some (.int .i64 y.u6) := HP.out.av.cell 17)
                  | (go_at_call 19; (with_reducible refine (pk_prune2 HP.out HK.out HL1.out).mono ?_); rintro e w6 ⟨rfl, vL', vC', vS', hk⟩; replace HP := hide hk; clear hk)
                  | go_in)
                go_meet
                exact ⟨_, _, _, _, hide (HK.out.prune _), hide (Nat.le_trans (prune_len _ _) (by have := HL.out; omega)), HP.out.pq⟩
              · have hk3 : (y.k == (3 : Int)) = false := by simpa using h3
                go_wp2
                go_meet
                exact ⟨x, _, _, _, HK, hide (by have := HL.out; omega), HP.out.pq⟩
        case rest =>
          obtain ⟨x', vL', vC', vS', HK', HL', HQ⟩ := hcut
          clear HP HK HL HL1
          obtain ⟨xk, xd⟩ := x'
          obtain ⟨d0, d1, d2, d3, d4, d5, d6, rfl⟩ := len7 HK'.out.d7
          obtain ⟨A1, a1, B1, b1, C1, c1, rfl, rfl, rfl, _, _, _⟩ := HQ.out.rx.form
          simp only at HL'
          have HLE := hide (fun wz (hz : Below wc.heap.size wc wz) => plen_any g b _ wz (HQ.out.rn.px.below hz))
          have HCU := hide (fun wz (hz : Below wc.heap.size wc wz) => pcut_any g b _ wz (HQ.out.rn.px.below hz))
          simp only at HLE HCU
          have hne := fun w => neq_deps d0 d1 d2 d3 d4 d5 d6 d0 d1 d2 d3 d4 d5 d6 w
          simp only at hne
          simp only [dC, List.map_cons, List.map_nil] at HCU
          go_upto_region 19 with (fail)
          have HB0 : Below wc.heap.size wc wc := kept_refl wc
          refine wp_region_sp (fun w' => Below wc.heap.size wc w') (by kernel_rfl) (by kernel_rfl) (show Below wc.heap.size wc wc.drew from kept_drewN HB0 1) ?_
          generalize hS : (fun w' => Below wc.heap.size wc w') = S
          have l0 : ∀ z : Sp S, z.w.cell? ⟨h, 0, none⟩ = some (.slice A1 xk.length a1) := by subst hS; exact fun z => (HQ.out.rx.row.below z.ok HQ.out.rx.row.lt).cell 0
          have l1 : ∀ z : Sp S, z.w.cell? ⟨h, 3, none⟩ = some (.int .i64 d0) := by subst hS; exact fun z => (HQ.out.rx.row.below z.ok HQ.out.rx.row.lt).cell 3
          have l2 : ∀ z : Sp S, z.w.cell? ⟨h, 4, none⟩ = some (.int .i64 d1) := by subst hS; exact fun z => (HQ.out.rx.row.below z.ok HQ.out.rx.row.lt).cell 4
          have l3 : ∀ z : Sp S, z.w.cell? ⟨h, 5, none⟩ = some (.int .i64 d2) := by subst hS; exact fun z => (HQ.out.rx.row.below z.ok HQ.out.rx.row.lt).cell 5
          have l4 : ∀ z : Sp S, z.w.cell? ⟨h, 6, none⟩ = some (.int .i64 d3) := by subst hS; exact fun z => (HQ.out.rx.row.below z.ok HQ.out.rx.row.lt).cell 6
          have l5 : ∀ z : Sp S, z.w.cell? ⟨h, 7, none⟩ = some (.int .i64 d4) := by subst hS; exact fun z => (HQ.out.rx.row.below z.ok HQ.out.rx.row.lt).cell 7
          have l6 : ∀ z : Sp S, z.w.cell? ⟨h, 8, none⟩ = some (.int .i64 d5) := by subst hS; exact fun z => (HQ.out.rx.row.below z.ok HQ.out.rx.row.lt).cell 8
          have l7 : ∀ z : Sp S, z.w.cell? ⟨h, 9, none⟩ = some (.int .i64 d6) := by subst hS; exact fun z => (HQ.out.rx.row.below z.ok HQ.out.rx.row.lt).cell 9
          have ne : Nonempty (Sp S) := by subst hS; exact ⟨⟨_, HB0⟩⟩
          have STEP := hide (show ∀ w w', S w → Below w.heap.size w w' → S w' by subst hS; exact fun _ _ h hb => kept_trans h hb)
          have OLD := hide (show ∀ z : Sp S, Below wc.heap.size wc z.w by subst hS; exact fun z => z.ok)
          clear HB0 hS
          repeat (go_big_quiet_step ((first | (go_at_call 15; with_reducible exact sp_call STEP.out _ (HLE.out _ (OLD.out _))) | (go_at_call 20; with_reducible exact sp_call STEP.out _ (HCU.out _ (OLD.out _))))))
          refine wpQuiet_nil ?_
          intro kk
          have OK := hide (OLD.out kk)
          generalize kk.w = wk at OK ⊢
          clear l0 l1 l2 l3 l4 l5 l6 l7 ne OLD STEP
          go_wp2
          exact ⟨⟨j + 1, _, _, _, _, by omega, by omega, by go_num, HK', HL', HQ.out.below OK.out⟩, by simp [intOf]; omega⟩
    · by_cases hjl : j < l.length
      · obtain rfl : j = 60 := by omega
        have hjl' : ((60 : Nat) : Int) < (l.length : Int) := by omega
        go_wp2_with (first
          | (go_at_call 3; (with_reducible refine (RUN.out _).mono ?_); rintro e w4 ⟨rfl, hb⟩; have HR4 := hide (HR.out.below hb); clear hb)
          | go_in)
        go_ret
        exact ⟨rfl, HR4.out.rn.low⟩
      · obtain rfl : j = l.length := by omega
        go_wp2_with (first
          | (go_at_call 3; (with_reducible refine (RUN.out _).mono ?_); rintro e w4 ⟨rfl, hb⟩; have HR4 := hide (HR.out.below hb); clear hb)
          | go_in)
        go_ret
        exact ⟨rfl, HR4.out.rn.low⟩
set_option maxRecDepth 100000 in
theorem lifted (os : Os) (started : os.Started) (H : Type) (enc : TypeId × Value → H) :
    ReturnsInHanded {} Try.checked os 4 .any (Rows.interfPlaysSpec.pre6 enc Try.prog Try.f4 Rows.interfPlaysRow.domain false) (Rows.interfPlaysSpec.post enc Try.prog Try.f4 false true false false) := by
  refine returnsInHanded_of_change_sized (C := Try.checked) own started (by kernel_rfl) Try.func4
    (ChangeSpec.witness6 (enc := enc) (C := Try.checked) false ⟨#[], #[.slice none 0 0], []⟩ 8 (by kernel_rfl) (by kernel_rfl) (by kernel_rfl) (by kernel_rfl)) ?_
  intro W base args ds gs before hval0 hW _ hsz0 _
  have hval : ∀ (j : Nat) t v, Try.f4.params[j]? = some t → args[j]? = some v → Value.okWide Try.prog W .any base t v := hval0
  have hW' := hW
  obtain ⟨p, q, hA0, hV, rfl, _, _⟩ := hW
  have hA : DataW.TrodAll enc Try.prog W 0 (fun _ => true) true Try.f4.params.toList args.toList ds p := hA0
  have hsz : (DataW.weightsEach Try.prog (Try.f4.params.toList ++ Rows.interfPlaysSpec.plain.varTypes Try.prog) (ds ++ gs)).all (· ≤ reachBytes) = true := hsz0
  rw [Try.params4] at hA hval hsz
  obtain ⟨v0, vs0, d0, ds0, p0, q0, hargs, rfl, rfl, h0, r0⟩ := trodAll_cons hA
  obtain ⟨rfl, rfl, rfl⟩ := trodAll_nil r0
  obtain rfl : args = #[v0] := by cases args; simp_all
  obtain ⟨rfl, rfl⟩ := trodVars_none hV
  have k0 := h0
  have lt0 : ∀ x ∈ p0, x.block < W.heap.size := by obtain ⟨m, hm⟩ := k0; exact DataW.trod_lt m _ _ _ hm
  obtain ⟨A0, n0, c0, rfl⟩ := okWide_slice Try.underlying40 (hval 0 40 v0 rfl rfl)
  obtain ⟨z0, s0⟩ := iasks_in (j := 0) h0 hsz rfl rfl
  clear hA0 hval0
  refine (walk A0 n0 c0 z0 W s0).mono fun e W' ⟨he, bel⟩ => ?_
  subst he
  exact ⟨_, rfl, _, _, _, [], _, [], hW', trodAll_mk1 (shut_bool Try.underlying4 _), (trodAll_cons_mk (Below.trod laidOut (by kernel_rfl) (of_decide_eq_true (by kernel_rfl)) k0 bel lt0) trodAll_mk0), rfl, bel.frame _, fun h => by cases h⟩
theorem over : Rows.interfPlaysRow.holds Try.pinned (OpenSpec.ofChange Rows.interfPlaysSpec) :=
  OpenClaim.holds_of_wide 4 Try.f4 rfl rfl rfl rfl rfl rfl rfl ⟨rfl, rfl, rfl, rfl, rfl⟩ rfl rfl rfl rfl rfl (by kernel_rfl) Try.func4 (by kernel_rfl)
    (of_decide_eq_true (by kernel_rfl)) (by unfold Func.isWrapper; first | (rw [if_pos (by decide +kernel)]; kernel_rfl) | (rw [if_neg (by decide +kernel)]; exact ⟨rfl, rfl⟩))
    (fun os started H enc _ => lifted os started H enc)
theorem proved : Rows.InterfPlaysSaid := over
end Go.Proofs.Ytfihcgimgngmhaa.interfPlays
