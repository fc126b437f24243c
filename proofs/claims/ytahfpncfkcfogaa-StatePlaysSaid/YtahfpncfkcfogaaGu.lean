/- The document's RightState, of any state. Conditions: the lists of pairs lie in memory, none is great. -/
import Derived.Test.YtahfpncfkcfogaaGj
import Derived.Test.YtahfpncfkcfogaaGl
import Derived.Test.YtahfpncfkcfogaaGa
import Derived.Test.YtahfpncfkcfogaaGn
import Derived.Test.YtahfpncfkcfogaaGi
namespace Go.Proofs.Ytahfpncfkcfogaa
set_option maxRecDepth 100000
open Go.RowKit
set_option maxRecDepth 100000 in
set_option maxHeartbeats 8000000 in
theorem rstate49_any (p : Value) (l : List Pr) (L : List Co) (w : World) (h : Fine w L) (hp0 : Pin w p l) (ln : l.length ≤ 3518437208780) :
    Calls Try.prog 21 #[.agg (stc p L)] w fun e w' => e = .returned (.bool (rightO L && rightB l)) ∧ Below w.heap.size w w' := by
  have HF := hide (h.below (kept_alloc (kept_refl w) (.cells (stc p L) 30)))
  have HW := hide (kept_alloc (kept_refl w) (.cells (stc p L) 30))
  have HR := hide (Row.new w 30 (stc p L))
  have H8 := hide h.1
  have HPP := hide (hp0.below HW.out)
  clear h hp0
  go_enter Try.func21, Try.ntmps21
  go_upto_region 1 with (fail)
  generalize w.alloc (.cells (stc p L) 30) = w1 at HF HW HR HPP ⊢
  have g0 := HR.out.lt
  generalize w.heap.size = g at HR g0 ⊢
  go_wp2
  go_loopw [3] (fun i wr => ∃ k : Nat, k ≤ 8 ∧ i = .int .i64 k ∧ Hid (∀ j x, j < k → L[j]? = some x → mayO x.o = true) ∧ Hid (Below w1.heap.size w1 wr)) (fun i _ => 8 - (intOf i).toNat)
  case atStart => exact ⟨0, by omega, rfl, (fun j x hj => absurd hj (by omega)), Below.refl _ _⟩
  case round =>
    obtain ⟨k, hk, rfl, hs, hb⟩ := hrel
    by_cases hlt : k < 8
    · obtain ⟨x, hx, hp, hn⟩ := HF.out.at_ hlt
      have hlt' : (k : Int) < 8 := by omega
      obtain ⟨c0, c1, c2, c3, c4, c5⟩ := (HR.out.below hb.out g0).owner49 hx
      have HX := hide hx
      have HP := hide hp
      unfold Co.p at c5 HP
      clear hx hp
      go_upto_region 5 with (fail)
      have HO := hide (Row.new wr 27 #[.int .i64 x.o.s, .int .i64 x.o.r.why, .bool x.o.r.fnd, .string x.o.r.val, .int .i64 x.o.r.ver, .slice x.A x.o.r.l.length x.c])
      have HB2 := hide (kept_trans hb.out (kept_alloc (kept_refl wr) (.cells #[.int .i64 x.o.s, .int .i64 x.o.r.why, .bool x.o.r.fnd, .string x.o.r.val, .int .i64 x.o.r.ver, .slice x.A x.o.r.l.length x.c] 27)))
      clear c0 c1 c2 c3 c4 c5
      generalize wr.alloc (.cells #[.int .i64 x.o.s, .int .i64 x.o.r.why, .bool x.o.r.fnd, .string x.o.r.val, .int .i64 x.o.r.ver, .slice x.A x.o.r.l.length x.c] 27) = w2 at HO HB2 ⊢
      generalize wr.heap.size = go at HO ⊢
      have hgo := HO.out.lt
      obtain ⟨d0, d1, d2, d3, d4, d5⟩ := HO.out.six
      have HQ := hide (rreply_any x.o.r _ w2 (HP.out.below HB2.out) hn)
      have HE0 := hide (fun (wz : World) (hz : Below w1.heap.size w1 wz) => show Calls Try.prog 13 #[.agg #[.int .i64 x.o.r.why, .bool x.o.r.fnd, .string x.o.r.val, .int .i64 x.o.r.ver, .slice x.A x.o.r.l.length x.c], .agg #[.int .i64 0, .bool false, .string { data := #[] }, .int .i64 0, .slice none 0 0]] wz (fun e w' => e = .returned (.bool (decide (x.o.r = zeroR))) ∧ Below wz.heap.size wz w') from replies_any x.o.r zeroR _ _ wz (HP.out.below hz) (Pin.nil_ wz) (by omega) (Nat.zero_le _))
      have hbad : badO x.o = (decide (x.o.s < 0) || (decide (1099511627776 < x.o.s) || (!okR x.o.r || ((x.o.s == 0) && !decide (x.o.r = zeroR))))) := rfl
      obtain ⟨t1, h1⟩ : ∃ t, decide (x.o.s < 0) = t := ⟨_, rfl⟩
      obtain ⟨t2, h2⟩ : ∃ t, decide (1099511627776 < x.o.s) = t := ⟨_, rfl⟩
      obtain ⟨t3, h3⟩ : ∃ t, okR x.o.r = t := ⟨_, rfl⟩
      obtain ⟨t4, h4⟩ : ∃ t, (x.o.s == 0) = t := ⟨_, rfl⟩
      obtain ⟨t5, h5⟩ : ∃ t, decide (x.o.r = zeroR) = t := ⟨_, rfl⟩
      rw [h1, h2, h3, h4, h5] at hbad
      rw [h3] at HQ
      rw [h5] at HE0
      clear h3 h5
      cases t1
      case true =>
        have HE := hide (right_bad HX.out (hbad.trans (by rfl)))
        clear hbad
        go_wp2_with (first | (go_at_call 48; (with_reducible refine HQ.out.mono ?_); rintro e w3 ⟨rfl, hb3⟩; have S := HO.out.below hb3 hgo; obtain ⟨d0, d1, d2, d3, d4, d5⟩ := S.six) | (go_at_call 13; (with_reducible refine (HE0.out _ (kept_trans HB2.out hb3)).mono ?_); rintro e w4 ⟨rfl, hb4⟩))
        go_ret
        exact ⟨by rw [HE.out]; rfl, kept_trans HW.out HB2.out⟩
      cases t2
      case true =>
        have HE := hide (right_bad HX.out (hbad.trans (by rfl)))
        clear hbad
        go_wp2_with (first | (go_at_call 48; (with_reducible refine HQ.out.mono ?_); rintro e w3 ⟨rfl, hb3⟩; have S := HO.out.below hb3 hgo; obtain ⟨d0, d1, d2, d3, d4, d5⟩ := S.six) | (go_at_call 13; (with_reducible refine (HE0.out _ (kept_trans HB2.out hb3)).mono ?_); rintro e w4 ⟨rfl, hb4⟩))
        go_ret
        exact ⟨by rw [HE.out]; rfl, kept_trans HW.out HB2.out⟩
      cases t3
      case false =>
        have HE := hide (right_bad HX.out (hbad.trans (by rfl)))
        clear hbad
        go_wp2_with (first | (go_at_call 48; (with_reducible refine HQ.out.mono ?_); rintro e w3 ⟨rfl, hb3⟩; have S := HO.out.below hb3 hgo; obtain ⟨d0, d1, d2, d3, d4, d5⟩ := S.six) | (go_at_call 13; (with_reducible refine (HE0.out _ (kept_trans HB2.out hb3)).mono ?_); rintro e w4 ⟨rfl, hb4⟩))
        go_ret
        exact ⟨by rw [HE.out]; rfl, kept_trans HW.out (kept_trans HB2.out hb3)⟩
      cases t4
      case false =>
        have HE : Hid (mayO x.o = true) := hide (by rw [may_bad, hbad]; rfl)
        clear hbad
        go_wp2_with (first | (go_at_call 48; (with_reducible refine HQ.out.mono ?_); rintro e w3 ⟨rfl, hb3⟩; have S := HO.out.below hb3 hgo; obtain ⟨d0, d1, d2, d3, d4, d5⟩ := S.six) | (go_at_call 13; (with_reducible refine (HE0.out _ (kept_trans HB2.out hb3)).mono ?_); rintro e w4 ⟨rfl, hb4⟩))
        go_roundw
        case rel => exact ⟨k + 1, by omega, by go_num, hide (fun j y hj hy => by
          rcases Nat.lt_or_ge j k with q1 | q1
          · exact hs.out j y q1 hy
          · obtain rfl : j = k := by omega
            cases HX.out.symm.trans hy
            exact HE.out), hide (kept_trans HB2.out hb3)⟩
        case measure => simp [intOf]; omega
      cases t5
      case false =>
        have HE := hide (right_bad HX.out (hbad.trans (by rfl)))
        clear hbad
        go_wp2_with (first | (go_at_call 48; (with_reducible refine HQ.out.mono ?_); rintro e w3 ⟨rfl, hb3⟩; have S := HO.out.below hb3 hgo; obtain ⟨d0, d1, d2, d3, d4, d5⟩ := S.six) | (go_at_call 13; (with_reducible refine (HE0.out _ (kept_trans HB2.out hb3)).mono ?_); rintro e w4 ⟨rfl, hb4⟩))
        go_ret
        exact ⟨by rw [HE.out]; rfl, kept_trans HW.out (kept_trans HB2.out (kept_trans hb3 hb4))⟩
      have HE : Hid (mayO x.o = true) := hide (by rw [may_bad, hbad]; rfl)
      clear hbad
      go_wp2_with (first | (go_at_call 48; (with_reducible refine HQ.out.mono ?_); rintro e w3 ⟨rfl, hb3⟩; have S := HO.out.below hb3 hgo; obtain ⟨d0, d1, d2, d3, d4, d5⟩ := S.six) | (go_at_call 13; (with_reducible refine (HE0.out _ (kept_trans HB2.out hb3)).mono ?_); rintro e w4 ⟨rfl, hb4⟩))
      go_roundw
      case rel => exact ⟨k + 1, by omega, by go_num, hide (fun j y hj hy => by
        rcases Nat.lt_or_ge j k with q1 | q1
        · exact hs.out j y q1 hy
        · obtain rfl : j = k := by omega
          cases HX.out.symm.trans hy
          exact HE.out), hide (kept_trans HB2.out (kept_trans hb3 hb4))⟩
      case measure => simp [intOf]; omega
    · obtain rfl : k = 8 := by omega
      have HE : Hid (rightO L = true) := hide (by
        unfold rightO
        rw [List.all_eq_true]
        intro x hx
        obtain ⟨j, hj⟩ := List.getElem?_of_mem hx
        have hl : j < L.length := by
          rcases Nat.lt_or_ge j L.length with h1 | h1
          · exact h1
          · rw [List.getElem?_eq_none h1] at hj; cases hj
        exact hs.out j x (by rw [H8.out] at hl; exact hl) hj)
      obtain ⟨Ap, cp, rfl, hA, hc, hcc, hl⟩ := HPP.out
      have c0 := (HR.out.below hb.out g0).pairs49
      have HQ := hide (rright_below (.slice Ap l.length cp) l wr (HPP.out.below hb.out) (by omega))
      clear hA hc hcc hl
      go_wp2_with (go_at_call 49; (with_reducible refine HQ.out.mono ?_); rintro e w3 ⟨rfl, hb3⟩)
      go_ret
      exact ⟨by rw [HE.out, Bool.true_and]; rfl, kept_trans HW.out (kept_trans hb.out hb3)⟩
end Go.Proofs.Ytahfpncfkcfogaa
/- What the document says a command does. Conditions: the pairs are of the call's own or of a caller's, not too many; the kind is one of five. -/
namespace Go.Proofs.Ytahfpncfkcfogaa
set_option maxRecDepth 100000
open Go.RowKit
/-- What is answered, and which blocks it may lie in. -/
def AnsB (b : Nat) (w : World) (v0 : Value) (x : List Pr × Re) (e : Ending) (w' : World) : Prop :=
  ∃ v q, e = .returned (.tuple #[v, .agg #[.int .i64 x.2.why, .bool x.2.fnd, .string x.2.val, .int .i64 x.2.ver, q]]) ∧ Mine b w' v x.1 ∧ Mine b w' q x.2.l ∧ (∀ g, g < w.heap.size → Off v0 g → Off v g) ∧ (∀ g, g < w.heap.size → Off q g) ∧ Below w.heap.size w w'
theorem R1.done2 {W w : World} {x : Cm} {p : Pr} {g b : Nat} (h : R1 W w x p g) {v q v0 : Value} {y : List Pr × Re} (hv : Mine b w v y.1) (hq : Mine b w q y.2.l) (ov : Off v (W.heap.size + 1)) (oq : Off q (W.heap.size + 1)) (dv : ∀ g, g < W.heap.size → Off v0 g → Off v g) (dq : ∀ g, g < W.heap.size → Off q g) :
    AnsB b W v0 y (.returned (.tuple #[v, .agg #[.int .i64 y.2.why, .bool y.2.fnd, .string y.2.val, .int .i64 y.2.ver, q]])) (((((w.setCell ⟨W.heap.size + 1, 0, none⟩ (.int .i64 y.2.why)).setCell ⟨W.heap.size + 1, 1, none⟩ (.bool y.2.fnd)).setCell ⟨W.heap.size + 1, 2, none⟩ (.string y.2.val)).setCell ⟨W.heap.size + 1, 3, none⟩ (.int .i64 y.2.ver)).setCell ⟨W.heap.size + 1, 4, none⟩ q) :=
  ⟨v, q, rfl, hv.putOff5 ov _ _ _ _ _, hq.putOff5 oq _ _ _ _ _, dv, dq, below_put5 h.r0.bel (by omega) _ _ _ _ _⟩
set_option maxHeartbeats 8000000 in
theorem rrun_any (b : Nat) (v : Value) (l : List Pr) (x : Cm) (w : World) (h : Mine b w v l) (hb : b ≤ w.heap.size) (ln : l.length ≤ 3518437208780) (h1 : 1 ≤ x.k) (h5 : x.k ≤ 5) :
    Calls Try.prog 42 #[v, valC x] w (AnsB b w v (runP l x)) := by
  obtain ⟨k, c, q, key, en, old, val⟩ := x
  show Calls Try.prog 42 #[v, .agg #[.int .i64 k, .int .i64 c, .int .i64 q, .string key, .string en, .string old, .string val]] w _
  have hk : k = 1 ∨ k = 2 ∨ k = 3 ∨ k = 4 ∨ k = 5 := by dsimp only at h1 h5; omega
  have HG := hide (fun w1 (z : Pin w1 v l) => rget_any v l key w1 z (by omega))
  have HN : Hid (R0 w ((w.alloc (.cells #[.int .i64 k, .int .i64 c, .int .i64 q, .string key, .string en, .string old, .string val] 35)).alloc (.cells #[.int .i64 0, .bool false, .string { data := #[] }, .int .i64 0, .slice none 0 0] 25)) ⟨k, c, q, key, en, old, val⟩) := hide (R0.new w ⟨k, c, q, key, en, old, val⟩)
  have HBL := hide (show ∀ w1 : World, Below w.heap.size w w1 → Mine b w1 v l from fun w1 z => h.below z)
  have OV : Hid (Off v (w.heap.size + 1)) := hide (h.offOld (by omega))
  have BLK := hide (show ∀ k, v.ownBlock = some k → k < w.heap.size from fun k e => (h.blk k e).2)
  have HBB := hide hb
  have DOLD := hide (show ∀ g, g < w.heap.size → Off v g → Off v g from fun _ _ z => z)
  have DNIL := hide (show ∀ g, g < w.heap.size → Off (.slice none 0 0) g from fun g _ => Off.nil_ g)
  clear h h1 h5 hb
  go_enter Try.func42, Try.ntmps42
  go_upto_region 1 with (fail)
  generalize (w.alloc (.cells #[.int .i64 k, .int .i64 c, .int .i64 q, .string key, .string en, .string old, .string val] 35)).alloc (.cells #[.int .i64 0, .bool false, .string { data := #[] }, .int .i64 0, .slice none 0 0] 25) = w1 at HN ⊢
  obtain ⟨a0, a1, a2, a3, a4, a5, a6⟩ := (seven_of HN.out.rc).cells
  dsimp only at a0 a1 a2 a3 a4 a5 a6
  have HG1 := hide (HG.out w1 (HBL.out w1 HN.out.bel).pin)
  go_upto_region 2 with (go_at_call 33; (with_reducible refine HG1.out.mono ?_); rintro e w2 ⟨rfl, hb2⟩)
  clear a0 a1 a2 a3 a4 a5 a6 HG1 HG
  have HP := hide ((HN.out.below hb2).pair (getP l key))
  unfold prV3 at HP
  clear hb2 HN
  obtain ⟨p, hp⟩ : ∃ p, getP l key = p := ⟨_, rfl⟩
  obtain ⟨t, ht⟩ : ∃ t, isB l key = t := ⟨_, rfl⟩
  rw [hp] at HP
  rw [hp, ht]
  have KP := hide hp
  have KT := hide ht
  clear hp ht
  generalize w2.alloc (.cells #[.string p.k, .string p.v, .int .i64 p.n] 47) = w3 at HP ⊢
  generalize w2.heap.size = g at HP ⊢
  obtain ⟨⟨a0, a1, a2, a3, a4, a5, a6⟩, ⟨d0, d1, d2⟩, ⟨e0, e1, e2, e3, e4⟩, f0, f1, f2, f3, f4⟩ := HP.out.all
  dsimp only at a0 a1 a2 a3 a4 a5 a6
  have HV3 := hide (HBL.out w3 HP.out.r0.bel)
  have hne : ¬ (g = w.heap.size + 1) := Nat.ne_of_gt HP.out.far
  have hne2 : ¬ (w.heap.size + 1 = g) := Nat.ne_of_lt HP.out.far
  rcases hk with rfl | rfl | rfl | rfl | rfl
  · go_upto_region 4 with (fail)
    refine wp_region_noPanic ?_
    refine wp_region_T 8 (fun w' => w'.cell? ⟨g, 1, none⟩ = some (.string p.v) ∧ w'.cell? ⟨g, 2, none⟩ = some (.int .i64 p.n)) (by kernel_rfl) ?_
    clear a0 a1 a2 a3 a4 a5 a6 d0 d1 d2 e0 e1 e2 e3 e4 f0 f1 f2 f3 f4
    have HD := hide (show R1 w (World.drew w3) _ p g from HP.out.drewN 1)
    generalize World.drew _ = wd at HD ⊢
    refine anyT_take (i := 0) (v := ?ov0_1) (by simp only [List.getElem?_toArray, List.getElem?_cons_zero]; exact rfl) (by kernel_rfl) (by kernel_rfl) (fun _ _ _ h => h) (by kernel_rfl) (by kernel_rfl) (Or.inl ⟨by rfl, ?oy0_1⟩) (by with_reducible exact ⟨HD.out.all.2.1.2.1, HD.out.all.2.1.2.2⟩) ?or0_1
    case oy0_1 => (intro w hSw; (try dsimp only at hSw); (try obtain ⟨hS1, hS2⟩ := hSw); go_simp; try with_reducible rfl)
    try simp only [Act.put, List.setIfInBounds_toArray, List.set_cons_zero, List.set_cons_succ]
    refine anyT_take (i := 1) (v := ?ov1_1) (by simp only [List.getElem?_toArray, List.getElem?_cons_succ, List.getElem?_cons_zero]; exact rfl) (by kernel_rfl) (by kernel_rfl) (fun _ _ _ h => h) (by kernel_rfl) (by kernel_rfl) (Or.inl ⟨by rfl, ?oy1_1⟩) (by with_reducible exact ⟨HD.out.all.2.1.2.1, HD.out.all.2.1.2.2⟩) ?or1_1
    case oy1_1 => (intro w hSw; (try dsimp only at hSw); (try obtain ⟨hS1, hS2⟩ := hSw); go_simp; try with_reducible rfl)
    try simp only [Act.put, List.setIfInBounds_toArray, List.set_cons_zero, List.set_cons_succ]
    refine anyT_take (i := 2) (v := ?ov2_1) (by simp only [List.getElem?_toArray, List.getElem?_cons_succ, List.getElem?_cons_zero]; exact rfl) (by kernel_rfl) (by kernel_rfl) (fun _ _ _ h => h) (by kernel_rfl) (by kernel_rfl) (Or.inl ⟨by rfl, ?oy2_1⟩) (by with_reducible exact ⟨HD.out.all.2.1.2.1, HD.out.all.2.1.2.2⟩) ?or2_1
    case oy2_1 => (intro w hSw; (try dsimp only at hSw); (try obtain ⟨hS1, hS2⟩ := hSw); go_simp; try with_reducible rfl)
    try simp only [Act.put, List.setIfInBounds_toArray, List.set_cons_zero, List.set_cons_succ]
    refine anyT_take (i := 3) (v := ?ov3_1) (by simp only [List.getElem?_toArray, List.getElem?_cons_succ, List.getElem?_cons_zero]; exact rfl) (by kernel_rfl) (by kernel_rfl) (fun _ _ _ h => h) (by kernel_rfl) (by kernel_rfl) (Or.inl ⟨by rfl, ?oy3_1⟩) (by with_reducible exact ⟨HD.out.all.2.1.2.1, HD.out.all.2.1.2.2⟩) ?or3_1
    case oy3_1 => (intro w hSw; (try dsimp only at hSw); (try obtain ⟨hS1, hS2⟩ := hSw); go_simp; try with_reducible rfl)
    try simp only [Act.put, List.setIfInBounds_toArray, List.set_cons_zero, List.set_cons_succ]
    refine anyT_take (i := 4) (v := ?ov4_1) (by simp only [List.getElem?_toArray, List.getElem?_cons_succ, List.getElem?_cons_zero]; exact rfl) (by kernel_rfl) (by kernel_rfl) (fun _ _ _ h => h) (by kernel_rfl) (by kernel_rfl) (Or.inl ⟨by rfl, ?oy4_1⟩) (by with_reducible exact ⟨HD.out.all.2.1.2.1, HD.out.all.2.1.2.2⟩) ?or4_1
    case oy4_1 => (intro w hSw; (try dsimp only at hSw); (try obtain ⟨hS1, hS2⟩ := hSw); go_simp; try with_reducible rfl)
    try simp only [Act.put, List.setIfInBounds_toArray, List.set_cons_zero, List.set_cons_succ]
    refine anyT_take (i := 5) (v := ?ov5_1) (by simp only [List.getElem?_toArray, List.getElem?_cons_succ, List.getElem?_cons_zero]; exact rfl) (by kernel_rfl) (by kernel_rfl) (fun _ _ _ h => h) (by kernel_rfl) (by kernel_rfl) (Or.inl ⟨by rfl, ?oy5_1⟩) (by with_reducible exact ⟨HD.out.all.2.1.2.1, HD.out.all.2.1.2.2⟩) ?or5_1
    case oy5_1 => (intro w hSw; (try dsimp only at hSw); (try obtain ⟨hS1, hS2⟩ := hSw); go_simp; try with_reducible rfl)
    try simp only [Act.put, List.setIfInBounds_toArray, List.set_cons_zero, List.set_cons_succ]
    refine anyT_take (i := 6) (v := ?ov6_1) (by simp only [List.getElem?_toArray, List.getElem?_cons_succ, List.getElem?_cons_zero]; exact rfl) (by kernel_rfl) (by kernel_rfl) (fun _ _ _ h => h) (by kernel_rfl) (by kernel_rfl) (Or.inl ⟨by rfl, ?oy6_1⟩) (by with_reducible exact ⟨HD.out.all.2.1.2.1, HD.out.all.2.1.2.2⟩) ?or6_1
    case oy6_1 => (intro w hSw; (try dsimp only at hSw); (try obtain ⟨hS1, hS2⟩ := hSw); go_simp; try with_reducible rfl)
    try simp only [Act.put, List.setIfInBounds_toArray, List.set_cons_zero, List.set_cons_succ]
    refine anyT_one (i := 7) (by kernel_rfl) (by simp only [List.getElem?_toArray, List.getElem?_cons_succ, List.getElem?_cons_zero]; exact rfl) (fun K hK => ?_)
    go_simp
    refine hK.out _ _ (fun e => ⟨HD.out.all.2.1.2.1, HD.out.all.2.1.2.2⟩) ?_
    clear hK K
    try simp only [Act.put, List.setIfInBounds_toArray, List.set_cons_zero, List.set_cons_succ]
    obtain ⟨_, _, ⟨e0, e1, e2, e3, e4⟩, f0, f1, f2, f3, f4⟩ := HD.out.all
    refine anyT_one (i := 8) (by kernel_rfl) (by simp only [List.getElem?_toArray, List.getElem?_cons_succ, List.getElem?_cons_zero]; exact rfl) (fun K hK => ?_)
    go_simp
    refine hK.out _ _ (fun e => absurd rfl e) ?_
    clear hK K
    try simp only [Act.put, List.setIfInBounds_toArray, List.set_cons_zero, List.set_cons_succ]
    refine anyT_done (by kernel_rfl) ?_
    refine NoPanic.normal ?_
    try simp only [Act.put]
    go_wp2_with fail
    refine bodyPost_ret (results_look (v := v) Try.results42 rfl rfl (HD.out.r0.rr.five_put _ _ _ _ _)) rfl ?_
    rw [run_1, KP.out, KT.out]
    exact HD.out.done2 (y := (l, ⟨0, t, p.v, p.n, []⟩)) (HBL.out _ HD.out.r0.bel) (Mine.nil_ _ _) OV.out (Off.nil_ _) DOLD.out DNIL.out
  · have HQ := hide (rput_any v l key val w3 HV3.out.pin ln)
    cases hf : fullB l key
    · obtain ⟨q1, q2⟩ := put_fits (value := val) hf
      rw [q1, q2] at HQ
      have HF := hide hf
      clear hf q1 q2
      go_upto_region 9 with (go_at_call 79; (with_reducible refine HQ.out.mono ?_); rintro e w4 ⟨v4, rfl, ho4, hb4⟩; obtain ⟨A4, c4, rfl, _, _, _, _⟩ := ho4.pin; have HP4 := hide (HP.out.below hb4); have HO4 := hide ho4; clear ho4 hb4; obtain ⟨⟨a0, a1, a2, a3, a4, a5, a6⟩, ⟨d0, d1, d2⟩, ⟨e0, e1, e2, e3, e4⟩, f0, f1, f2, f3, f4⟩ := HP4.out.all; dsimp only at a0 a1 a2 a3 a4 a5 a6)
      refine wp_region_noPanic ?_
      refine wp_region_T 7 (fun w' => w'.cell? ⟨g, 1, none⟩ = some (.string p.v) ∧ w'.cell? ⟨g, 2, none⟩ = some (.int .i64 p.n)) (by kernel_rfl) ?_
      clear a0 a1 a2 a3 a4 a5 a6 d0 d1 d2 e0 e1 e2 e3 e4 f0 f1 f2 f3 f4
      have HD := hide (show R1 w (World.drew w4) _ p g from HP4.out.drewN 1)
      have HE := hide (show Mine _ (World.drew w4) _ _ from HO4.out.below (kept_drewN (kept_refl w4) 1))
      generalize World.drew _ = wd at HD HE ⊢
      refine anyT_take (i := 0) (v := ?ov0_2) (by simp only [List.getElem?_toArray, List.getElem?_cons_zero]; exact rfl) (by kernel_rfl) (by kernel_rfl) (fun _ _ _ h => h) (by kernel_rfl) (by kernel_rfl) (Or.inl ⟨by rfl, ?oy0_2⟩) (by with_reducible exact ⟨HD.out.all.2.1.2.1, HD.out.all.2.1.2.2⟩) ?or0_2
      case oy0_2 => (intro w hSw; (try dsimp only at hSw); (try obtain ⟨hS1, hS2⟩ := hSw); go_simp; try with_reducible rfl)
      try simp only [Act.put, List.setIfInBounds_toArray, List.set_cons_zero, List.set_cons_succ]
      refine anyT_take (i := 1) (v := ?ov1_2) (by simp only [List.getElem?_toArray, List.getElem?_cons_succ, List.getElem?_cons_zero]; exact rfl) (by kernel_rfl) (by kernel_rfl) (fun _ _ _ h => h) (by kernel_rfl) (by kernel_rfl) (Or.inl ⟨by rfl, ?oy1_2⟩) (by with_reducible exact ⟨HD.out.all.2.1.2.1, HD.out.all.2.1.2.2⟩) ?or1_2
      case oy1_2 => (intro w hSw; (try dsimp only at hSw); (try obtain ⟨hS1, hS2⟩ := hSw); go_simp; try with_reducible rfl)
      try simp only [Act.put, List.setIfInBounds_toArray, List.set_cons_zero, List.set_cons_succ]
      refine anyT_take (i := 2) (v := ?ov2_2) (by simp only [List.getElem?_toArray, List.getElem?_cons_succ, List.getElem?_cons_zero]; exact rfl) (by kernel_rfl) (by kernel_rfl) (fun _ _ _ h => h) (by kernel_rfl) (by kernel_rfl) (Or.inl ⟨by rfl, ?oy2_2⟩) (by with_reducible exact ⟨HD.out.all.2.1.2.1, HD.out.all.2.1.2.2⟩) ?or2_2
      case oy2_2 => (intro w hSw; (try dsimp only at hSw); (try obtain ⟨hS1, hS2⟩ := hSw); go_simp; try with_reducible rfl)
      try simp only [Act.put, List.setIfInBounds_toArray, List.set_cons_zero, List.set_cons_succ]
      refine anyT_take (i := 3) (v := ?ov3_2) (by simp only [List.getElem?_toArray, List.getElem?_cons_succ, List.getElem?_cons_zero]; exact rfl) (by kernel_rfl) (by kernel_rfl) (fun _ _ _ h => h) (by kernel_rfl) (by kernel_rfl) (Or.inl ⟨by rfl, ?oy3_2⟩) (by with_reducible exact ⟨HD.out.all.2.1.2.1, HD.out.all.2.1.2.2⟩) ?or3_2
      case oy3_2 => (intro w hSw; (try dsimp only at hSw); (try obtain ⟨hS1, hS2⟩ := hSw); go_simp; try with_reducible rfl)
      try simp only [Act.put, List.setIfInBounds_toArray, List.set_cons_zero, List.set_cons_succ]
      refine anyT_take (i := 4) (v := ?ov4_2) (by simp only [List.getElem?_toArray, List.getElem?_cons_succ, List.getElem?_cons_zero]; exact rfl) (by kernel_rfl) (by kernel_rfl) (fun _ _ _ h => h) (by kernel_rfl) (by kernel_rfl) (Or.inl ⟨by rfl, ?oy4_2⟩) (by with_reducible exact ⟨HD.out.all.2.1.2.1, HD.out.all.2.1.2.2⟩) ?or4_2
      case oy4_2 => (intro w hSw; (try dsimp only at hSw); (try obtain ⟨hS1, hS2⟩ := hSw); go_simp; try with_reducible rfl)
      try simp only [Act.put, List.setIfInBounds_toArray, List.set_cons_zero, List.set_cons_succ]
      refine anyT_take (i := 5) (v := ?ov5_2) (by simp only [List.getElem?_toArray, List.getElem?_cons_succ, List.getElem?_cons_zero]; exact rfl) (by kernel_rfl) (by kernel_rfl) (fun _ _ _ h => h) (by kernel_rfl) (by kernel_rfl) (Or.inl ⟨by rfl, ?oy5_2⟩) (by with_reducible exact ⟨HD.out.all.2.1.2.1, HD.out.all.2.1.2.2⟩) ?or5_2
      case oy5_2 => (intro w hSw; (try dsimp only at hSw); (try obtain ⟨hS1, hS2⟩ := hSw); go_simp; try with_reducible rfl)
      try simp only [Act.put, List.setIfInBounds_toArray, List.set_cons_zero, List.set_cons_succ]
      refine anyT_one (i := 6) (by kernel_rfl) (by simp only [List.getElem?_toArray, List.getElem?_cons_succ, List.getElem?_cons_zero]; exact rfl) (fun K hK => ?_)
      go_simp
      refine hK.out _ _ (fun e => ⟨HD.out.all.2.1.2.1, HD.out.all.2.1.2.2⟩) ?_
      clear hK K
      try simp only [Act.put, List.setIfInBounds_toArray, List.set_cons_zero, List.set_cons_succ]
      obtain ⟨_, _, ⟨e0, e1, e2, e3, e4⟩, f0, f1, f2, f3, f4⟩ := HD.out.all
      refine anyT_one (i := 7) (by kernel_rfl) (by simp only [List.getElem?_toArray, List.getElem?_cons_succ, List.getElem?_cons_zero]; exact rfl) (fun K hK => ?_)
      go_simp
      refine hK.out _ _ (fun e => absurd rfl e) ?_
      clear hK K
      try simp only [Act.put, List.setIfInBounds_toArray, List.set_cons_zero, List.set_cons_succ]
      refine anyT_done (by kernel_rfl) ?_
      refine NoPanic.normal ?_
      try simp only [Act.put]
      go_wp2_with fail
      refine bodyPost_ret (results_look (v := _) Try.results42 rfl rfl (HD.out.r0.rr.five_put _ _ _ _ _)) rfl ?_
      rw [run_2, KP.out, KT.out, if_neg (by rw [HF.out]; simp)]
      exact HD.out.done2 (y := (putP l key val, ⟨0, t, nilT, IntKind.i64.wrap (p.n + 1), []⟩)) (HE.out.mono (Nat.le_trans HBB.out HP.out.r0.bel.size)) (Mine.nil_ _ _) (HE.out.offNew HP.out.r0.rr.lt) (Off.nil_ _) (fun g hg _ => HE.out.offNew (Nat.lt_of_lt_of_le hg HP.out.r0.bel.size)) DNIL.out
    · obtain ⟨q1, q2⟩ := put_full (value := val) hf
      rw [q1, q2] at HQ
      have HF := hide hf
      clear hf q1 q2
      go_wp2_with (go_at_call 79; (with_reducible refine HQ.out.mono ?_); rintro e w4 ⟨v4, rfl, ho4, hb4⟩; obtain ⟨A4, c4, rfl, _, _, _, _⟩ := ho4.pin; have HP4 := hide (HP.out.below hb4); have HO4 := hide ho4; clear ho4 hb4; obtain ⟨⟨a0, a1, a2, a3, a4, a5, a6⟩, ⟨d0, d1, d2⟩, ⟨e0, e1, e2, e3, e4⟩, f0, f1, f2, f3, f4⟩ := HP4.out.all; dsimp only at a0 a1 a2 a3 a4 a5 a6)
      refine bodyPost_ret (results_look (v := v) Try.results42 rfl rfl (HP4.out.r0.rr.five_put _ _ _ _ _)) rfl ?_
      rw [run_2, if_pos HF.out]
      exact HP4.out.done2 (y := (l, errR 7)) (HBL.out _ HP4.out.r0.bel) (Mine.nil_ _ _) OV.out (Off.nil_ _) DOLD.out DNIL.out
  · have HQ := hide (rdel_any v l key w3 HV3.out.pin ln)
    go_upto_region 12 with (go_at_call 80; (with_reducible refine HQ.out.mono ?_); rintro e w4 ⟨v4, rfl, ho4, hb4⟩; obtain ⟨A4, c4, rfl, _, _, _, _⟩ := ho4.pin; have HP4 := hide (HP.out.below hb4); have HO4 := hide ho4; clear ho4 hb4; obtain ⟨⟨a0, a1, a2, a3, a4, a5, a6⟩, ⟨d0, d1, d2⟩, ⟨e0, e1, e2, e3, e4⟩, f0, f1, f2, f3, f4⟩ := HP4.out.all; dsimp only at a0 a1 a2 a3 a4 a5 a6)
    refine wp_region_noPanic ?_
    refine wp_region_T 6 (fun w' => w'.cell? ⟨g, 1, none⟩ = some (.string p.v) ∧ w'.cell? ⟨g, 2, none⟩ = some (.int .i64 p.n)) (by kernel_rfl) ?_
    clear a0 a1 a2 a3 a4 a5 a6 d0 d1 d2 e0 e1 e2 e3 e4 f0 f1 f2 f3 f4
    have HD := hide (show R1 w (World.drew w4) _ p g from HP4.out.drewN 1)
    have HE := hide (show Mine _ (World.drew w4) _ _ from HO4.out.below (kept_drewN (kept_refl w4) 1))
    generalize World.drew _ = wd at HD HE ⊢
    refine anyT_take (i := 0) (v := ?ov0_3) (by simp only [List.getElem?_toArray, List.getElem?_cons_zero]; exact rfl) (by kernel_rfl) (by kernel_rfl) (fun _ _ _ h => h) (by kernel_rfl) (by kernel_rfl) (Or.inl ⟨by rfl, ?oy0_3⟩) (by with_reducible exact ⟨HD.out.all.2.1.2.1, HD.out.all.2.1.2.2⟩) ?or0_3
    case oy0_3 => (intro w hSw; (try dsimp only at hSw); (try obtain ⟨hS1, hS2⟩ := hSw); go_simp; try with_reducible rfl)
    try simp only [Act.put, List.setIfInBounds_toArray, List.set_cons_zero, List.set_cons_succ]
    refine anyT_take (i := 1) (v := ?ov1_3) (by simp only [List.getElem?_toArray, List.getElem?_cons_succ, List.getElem?_cons_zero]; exact rfl) (by kernel_rfl) (by kernel_rfl) (fun _ _ _ h => h) (by kernel_rfl) (by kernel_rfl) (Or.inl ⟨by rfl, ?oy1_3⟩) (by with_reducible exact ⟨HD.out.all.2.1.2.1, HD.out.all.2.1.2.2⟩) ?or1_3
    case oy1_3 => (intro w hSw; (try dsimp only at hSw); (try obtain ⟨hS1, hS2⟩ := hSw); go_simp; try with_reducible rfl)
    try simp only [Act.put, List.setIfInBounds_toArray, List.set_cons_zero, List.set_cons_succ]
    refine anyT_take (i := 2) (v := ?ov2_3) (by simp only [List.getElem?_toArray, List.getElem?_cons_succ, List.getElem?_cons_zero]; exact rfl) (by kernel_rfl) (by kernel_rfl) (fun _ _ _ h => h) (by kernel_rfl) (by kernel_rfl) (Or.inl ⟨by rfl, ?oy2_3⟩) (by with_reducible exact ⟨HD.out.all.2.1.2.1, HD.out.all.2.1.2.2⟩) ?or2_3
    case oy2_3 => (intro w hSw; (try dsimp only at hSw); (try obtain ⟨hS1, hS2⟩ := hSw); go_simp; try with_reducible rfl)
    try simp only [Act.put, List.setIfInBounds_toArray, List.set_cons_zero, List.set_cons_succ]
    refine anyT_take (i := 3) (v := ?ov3_3) (by simp only [List.getElem?_toArray, List.getElem?_cons_succ, List.getElem?_cons_zero]; exact rfl) (by kernel_rfl) (by kernel_rfl) (fun _ _ _ h => h) (by kernel_rfl) (by kernel_rfl) (Or.inl ⟨by rfl, ?oy3_3⟩) (by with_reducible exact ⟨HD.out.all.2.1.2.1, HD.out.all.2.1.2.2⟩) ?or3_3
    case oy3_3 => (intro w hSw; (try dsimp only at hSw); (try obtain ⟨hS1, hS2⟩ := hSw); go_simp; try with_reducible rfl)
    try simp only [Act.put, List.setIfInBounds_toArray, List.set_cons_zero, List.set_cons_succ]
    refine anyT_take (i := 4) (v := ?ov4_3) (by simp only [List.getElem?_toArray, List.getElem?_cons_succ, List.getElem?_cons_zero]; exact rfl) (by kernel_rfl) (by kernel_rfl) (fun _ _ _ h => h) (by kernel_rfl) (by kernel_rfl) (Or.inl ⟨by rfl, ?oy4_3⟩) (by with_reducible exact ⟨HD.out.all.2.1.2.1, HD.out.all.2.1.2.2⟩) ?or4_3
    case oy4_3 => (intro w hSw; (try dsimp only at hSw); (try obtain ⟨hS1, hS2⟩ := hSw); go_simp; try with_reducible rfl)
    try simp only [Act.put, List.setIfInBounds_toArray, List.set_cons_zero, List.set_cons_succ]
    refine anyT_one (i := 5) (by kernel_rfl) (by simp only [List.getElem?_toArray, List.getElem?_cons_succ, List.getElem?_cons_zero]; exact rfl) (fun K hK => ?_)
    go_simp
    refine hK.out _ _ (fun e => ⟨HD.out.all.2.1.2.1, HD.out.all.2.1.2.2⟩) ?_
    clear hK K
    try simp only [Act.put, List.setIfInBounds_toArray, List.set_cons_zero, List.set_cons_succ]
    obtain ⟨_, _, ⟨e0, e1, e2, e3, e4⟩, f0, f1, f2, f3, f4⟩ := HD.out.all
    refine anyT_one (i := 6) (by kernel_rfl) (by simp only [List.getElem?_toArray, List.getElem?_cons_succ, List.getElem?_cons_zero]; exact rfl) (fun K hK => ?_)
    go_simp
    refine hK.out _ _ (fun e => absurd rfl e) ?_
    clear hK K
    try simp only [Act.put, List.setIfInBounds_toArray, List.set_cons_zero, List.set_cons_succ]
    refine anyT_done (by kernel_rfl) ?_
    refine NoPanic.normal ?_
    try simp only [Act.put]
    go_wp2_with fail
    refine bodyPost_ret (results_look (v := _) Try.results42 rfl rfl (HD.out.r0.rr.five_put _ _ _ _ _)) rfl ?_
    rw [run_3, KP.out, KT.out]
    exact HD.out.done2 (y := (delP l key, ⟨0, t, nilT, p.n, []⟩)) (HE.out.mono (Nat.le_trans HBB.out HP.out.r0.bel.size)) (Mine.nil_ _ _) (HE.out.offNew HP.out.r0.rr.lt) (Off.nil_ _) (fun g hg _ => HE.out.offNew (Nat.lt_of_lt_of_le hg HP.out.r0.bel.size)) DNIL.out
  · cases t
    · go_upto_region 15 with (fail)
      refine wp_region_noPanic ?_
      refine wp_region_T 7 (fun w' => w'.cell? ⟨g, 1, none⟩ = some (.string p.v) ∧ w'.cell? ⟨g, 2, none⟩ = some (.int .i64 p.n)) (by kernel_rfl) ?_
      clear a0 a1 a2 a3 a4 a5 a6 d0 d1 d2 e0 e1 e2 e3 e4 f0 f1 f2 f3 f4
      have HD := hide (show R1 w (World.drew w3) _ p g from HP.out.drewN 1)
      generalize World.drew _ = wd at HD ⊢
      refine anyT_take (i := 0) (v := ?ov0_4) (by simp only [List.getElem?_toArray, List.getElem?_cons_zero]; exact rfl) (by kernel_rfl) (by kernel_rfl) (fun _ _ _ h => h) (by kernel_rfl) (by kernel_rfl) (Or.inl ⟨by rfl, ?oy0_4⟩) (by with_reducible exact ⟨HD.out.all.2.1.2.1, HD.out.all.2.1.2.2⟩) ?or0_4
      case oy0_4 => (intro w hSw; (try dsimp only at hSw); (try obtain ⟨hS1, hS2⟩ := hSw); go_simp; try with_reducible rfl)
      try simp only [Act.put, List.setIfInBounds_toArray, List.set_cons_zero, List.set_cons_succ]
      refine anyT_take (i := 1) (v := ?ov1_4) (by simp only [List.getElem?_toArray, List.getElem?_cons_succ, List.getElem?_cons_zero]; exact rfl) (by kernel_rfl) (by kernel_rfl) (fun _ _ _ h => h) (by kernel_rfl) (by kernel_rfl) (Or.inl ⟨by rfl, ?oy1_4⟩) (by with_reducible exact ⟨HD.out.all.2.1.2.1, HD.out.all.2.1.2.2⟩) ?or1_4
      case oy1_4 => (intro w hSw; (try dsimp only at hSw); (try obtain ⟨hS1, hS2⟩ := hSw); go_simp; try with_reducible rfl)
      try simp only [Act.put, List.setIfInBounds_toArray, List.set_cons_zero, List.set_cons_succ]
      refine anyT_take (i := 2) (v := ?ov2_4) (by simp only [List.getElem?_toArray, List.getElem?_cons_succ, List.getElem?_cons_zero]; exact rfl) (by kernel_rfl) (by kernel_rfl) (fun _ _ _ h => h) (by kernel_rfl) (by kernel_rfl) (Or.inl ⟨by rfl, ?oy2_4⟩) (by with_reducible exact ⟨HD.out.all.2.1.2.1, HD.out.all.2.1.2.2⟩) ?or2_4
      case oy2_4 => (intro w hSw; (try dsimp only at hSw); (try obtain ⟨hS1, hS2⟩ := hSw); go_simp; try with_reducible rfl)
      try simp only [Act.put, List.setIfInBounds_toArray, List.set_cons_zero, List.set_cons_succ]
      refine anyT_take (i := 3) (v := ?ov3_4) (by simp only [List.getElem?_toArray, List.getElem?_cons_succ, List.getElem?_cons_zero]; exact rfl) (by kernel_rfl) (by kernel_rfl) (fun _ _ _ h => h) (by kernel_rfl) (by kernel_rfl) (Or.inl ⟨by rfl, ?oy3_4⟩) (by with_reducible exact ⟨HD.out.all.2.1.2.1, HD.out.all.2.1.2.2⟩) ?or3_4
      case oy3_4 => (intro w hSw; (try dsimp only at hSw); (try obtain ⟨hS1, hS2⟩ := hSw); go_simp; try with_reducible rfl)
      try simp only [Act.put, List.setIfInBounds_toArray, List.set_cons_zero, List.set_cons_succ]
      refine anyT_take (i := 4) (v := ?ov4_4) (by simp only [List.getElem?_toArray, List.getElem?_cons_succ, List.getElem?_cons_zero]; exact rfl) (by kernel_rfl) (by kernel_rfl) (fun _ _ _ h => h) (by kernel_rfl) (by kernel_rfl) (Or.inl ⟨by rfl, ?oy4_4⟩) (by with_reducible exact ⟨HD.out.all.2.1.2.1, HD.out.all.2.1.2.2⟩) ?or4_4
      case oy4_4 => (intro w hSw; (try dsimp only at hSw); (try obtain ⟨hS1, hS2⟩ := hSw); go_simp; try with_reducible rfl)
      try simp only [Act.put, List.setIfInBounds_toArray, List.set_cons_zero, List.set_cons_succ]
      refine anyT_take (i := 5) (v := ?ov5_4) (by simp only [List.getElem?_toArray, List.getElem?_cons_succ, List.getElem?_cons_zero]; exact rfl) (by kernel_rfl) (by kernel_rfl) (fun _ _ _ h => h) (by kernel_rfl) (by kernel_rfl) (Or.inl ⟨by rfl, ?oy5_4⟩) (by with_reducible exact ⟨HD.out.all.2.1.2.1, HD.out.all.2.1.2.2⟩) ?or5_4
      case oy5_4 => (intro w hSw; (try dsimp only at hSw); (try obtain ⟨hS1, hS2⟩ := hSw); go_simp; try with_reducible rfl)
      try simp only [Act.put, List.setIfInBounds_toArray, List.set_cons_zero, List.set_cons_succ]
      refine anyT_one (i := 6) (by kernel_rfl) (by simp only [List.getElem?_toArray, List.getElem?_cons_succ, List.getElem?_cons_zero]; exact rfl) (fun K hK => ?_)
      go_simp
      refine hK.out _ _ (fun e => ⟨HD.out.all.2.1.2.1, HD.out.all.2.1.2.2⟩) ?_
      clear hK K
      try simp only [Act.put, List.setIfInBounds_toArray, List.set_cons_zero, List.set_cons_succ]
      obtain ⟨_, _, ⟨e0, e1, e2, e3, e4⟩, f0, f1, f2, f3, f4⟩ := HD.out.all
      refine anyT_one (i := 7) (by kernel_rfl) (by simp only [List.getElem?_toArray, List.getElem?_cons_succ, List.getElem?_cons_zero]; exact rfl) (fun K hK => ?_)
      go_simp
      refine hK.out _ _ (fun e => absurd rfl e) ?_
      clear hK K
      try simp only [Act.put, List.setIfInBounds_toArray, List.set_cons_zero, List.set_cons_succ]
      refine anyT_done (by kernel_rfl) ?_
      refine NoPanic.normal ?_
      try simp only [Act.put]
      go_wp2_with fail
      refine bodyPost_ret (results_look (v := v) Try.results42 rfl rfl (HD.out.r0.rr.five_put _ _ _ _ _)) rfl ?_
      rw [run_4, KP.out, KT.out, if_neg (by simp)]
      exact HD.out.done2 (y := (l, ⟨0, false, p.v, p.n, []⟩)) (HBL.out _ HD.out.r0.bel) (Mine.nil_ _ _) OV.out (Off.nil_ _) DOLD.out DNIL.out
    · cases ho : eqB p.v old
      · have HF := hide ho
        unfold eqB at ho
        go_upto_region 15 with (fail)
        refine wp_region_noPanic ?_
        refine wp_region_T 7 (fun w' => w'.cell? ⟨g, 1, none⟩ = some (.string p.v) ∧ w'.cell? ⟨g, 2, none⟩ = some (.int .i64 p.n)) (by kernel_rfl) ?_
        clear a0 a1 a2 a3 a4 a5 a6 d0 d1 d2 e0 e1 e2 e3 e4 f0 f1 f2 f3 f4
        have HD := hide (show R1 w (World.drew w3) _ p g from HP.out.drewN 1)
        generalize World.drew _ = wd at HD ⊢
        refine anyT_take (i := 0) (v := ?ov0_5) (by simp only [List.getElem?_toArray, List.getElem?_cons_zero]; exact rfl) (by kernel_rfl) (by kernel_rfl) (fun _ _ _ h => h) (by kernel_rfl) (by kernel_rfl) (Or.inl ⟨by rfl, ?oy0_5⟩) (by with_reducible exact ⟨HD.out.all.2.1.2.1, HD.out.all.2.1.2.2⟩) ?or0_5
        case oy0_5 => (intro w hSw; (try dsimp only at hSw); (try obtain ⟨hS1, hS2⟩ := hSw); go_simp; try with_reducible rfl)
        try simp only [Act.put, List.setIfInBounds_toArray, List.set_cons_zero, List.set_cons_succ]
        refine anyT_take (i := 1) (v := ?ov1_5) (by simp only [List.getElem?_toArray, List.getElem?_cons_succ, List.getElem?_cons_zero]; exact rfl) (by kernel_rfl) (by kernel_rfl) (fun _ _ _ h => h) (by kernel_rfl) (by kernel_rfl) (Or.inl ⟨by rfl, ?oy1_5⟩) (by with_reducible exact ⟨HD.out.all.2.1.2.1, HD.out.all.2.1.2.2⟩) ?or1_5
        case oy1_5 => (intro w hSw; (try dsimp only at hSw); (try obtain ⟨hS1, hS2⟩ := hSw); go_simp; try with_reducible rfl)
        try simp only [Act.put, List.setIfInBounds_toArray, List.set_cons_zero, List.set_cons_succ]
        refine anyT_take (i := 2) (v := ?ov2_5) (by simp only [List.getElem?_toArray, List.getElem?_cons_succ, List.getElem?_cons_zero]; exact rfl) (by kernel_rfl) (by kernel_rfl) (fun _ _ _ h => h) (by kernel_rfl) (by kernel_rfl) (Or.inl ⟨by rfl, ?oy2_5⟩) (by with_reducible exact ⟨HD.out.all.2.1.2.1, HD.out.all.2.1.2.2⟩) ?or2_5
        case oy2_5 => (intro w hSw; (try dsimp only at hSw); (try obtain ⟨hS1, hS2⟩ := hSw); go_simp; try with_reducible rfl)
        try simp only [Act.put, List.setIfInBounds_toArray, List.set_cons_zero, List.set_cons_succ]
        refine anyT_take (i := 3) (v := ?ov3_5) (by simp only [List.getElem?_toArray, List.getElem?_cons_succ, List.getElem?_cons_zero]; exact rfl) (by kernel_rfl) (by kernel_rfl) (fun _ _ _ h => h) (by kernel_rfl) (by kernel_rfl) (Or.inl ⟨by rfl, ?oy3_5⟩) (by with_reducible exact ⟨HD.out.all.2.1.2.1, HD.out.all.2.1.2.2⟩) ?or3_5
        case oy3_5 => (intro w hSw; (try dsimp only at hSw); (try obtain ⟨hS1, hS2⟩ := hSw); go_simp; try with_reducible rfl)
        try simp only [Act.put, List.setIfInBounds_toArray, List.set_cons_zero, List.set_cons_succ]
        refine anyT_take (i := 4) (v := ?ov4_5) (by simp only [List.getElem?_toArray, List.getElem?_cons_succ, List.getElem?_cons_zero]; exact rfl) (by kernel_rfl) (by kernel_rfl) (fun _ _ _ h => h) (by kernel_rfl) (by kernel_rfl) (Or.inl ⟨by rfl, ?oy4_5⟩) (by with_reducible exact ⟨HD.out.all.2.1.2.1, HD.out.all.2.1.2.2⟩) ?or4_5
        case oy4_5 => (intro w hSw; (try dsimp only at hSw); (try obtain ⟨hS1, hS2⟩ := hSw); go_simp; try with_reducible rfl)
        try simp only [Act.put, List.setIfInBounds_toArray, List.set_cons_zero, List.set_cons_succ]
        refine anyT_take (i := 5) (v := ?ov5_5) (by simp only [List.getElem?_toArray, List.getElem?_cons_succ, List.getElem?_cons_zero]; exact rfl) (by kernel_rfl) (by kernel_rfl) (fun _ _ _ h => h) (by kernel_rfl) (by kernel_rfl) (Or.inl ⟨by rfl, ?oy5_5⟩) (by with_reducible exact ⟨HD.out.all.2.1.2.1, HD.out.all.2.1.2.2⟩) ?or5_5
        case oy5_5 => (intro w hSw; (try dsimp only at hSw); (try obtain ⟨hS1, hS2⟩ := hSw); go_simp; try with_reducible rfl)
        try simp only [Act.put, List.setIfInBounds_toArray, List.set_cons_zero, List.set_cons_succ]
        refine anyT_one (i := 6) (by kernel_rfl) (by simp only [List.getElem?_toArray, List.getElem?_cons_succ, List.getElem?_cons_zero]; exact rfl) (fun K hK => ?_)
        go_simp
        refine hK.out _ _ (fun e => ⟨HD.out.all.2.1.2.1, HD.out.all.2.1.2.2⟩) ?_
        clear hK K
        try simp only [Act.put, List.setIfInBounds_toArray, List.set_cons_zero, List.set_cons_succ]
        obtain ⟨_, _, ⟨e0, e1, e2, e3, e4⟩, f0, f1, f2, f3, f4⟩ := HD.out.all
        refine anyT_one (i := 7) (by kernel_rfl) (by simp only [List.getElem?_toArray, List.getElem?_cons_succ, List.getElem?_cons_zero]; exact rfl) (fun K hK => ?_)
        go_simp
        refine hK.out _ _ (fun e => absurd rfl e) ?_
        clear hK K
        try simp only [Act.put, List.setIfInBounds_toArray, List.set_cons_zero, List.set_cons_succ]
        refine anyT_done (by kernel_rfl) ?_
        refine NoPanic.normal ?_
        try simp only [Act.put]
        go_wp2_with fail
        refine bodyPost_ret (results_look (v := v) Try.results42 rfl rfl (HD.out.r0.rr.five_put _ _ _ _ _)) rfl ?_
        rw [run_4, KP.out, KT.out, if_neg (by rw [HF.out]; simp)]
        exact HD.out.done2 (y := (l, ⟨0, false, p.v, p.n, []⟩)) (HBL.out _ HD.out.r0.bel) (Mine.nil_ _ _) OV.out (Off.nil_ _) DOLD.out DNIL.out
      · have HQ := hide (rput_any v l key val w3 HV3.out.pin ln)
        obtain ⟨q1, q2⟩ := put_fits (value := val) (full_is KT.out)
        rw [q1, q2] at HQ
        have HF := hide ho
        unfold eqB at ho
        clear q1 q2
        go_upto_region 17 with (go_at_call 79; (with_reducible refine HQ.out.mono ?_); rintro e w4 ⟨v4, rfl, ho4, hb4⟩; obtain ⟨A4, c4, rfl, _, _, _, _⟩ := ho4.pin; have HP4 := hide (HP.out.below hb4); have HO4 := hide ho4; clear ho4 hb4; obtain ⟨⟨a0, a1, a2, a3, a4, a5, a6⟩, ⟨d0, d1, d2⟩, ⟨e0, e1, e2, e3, e4⟩, f0, f1, f2, f3, f4⟩ := HP4.out.all; dsimp only at a0 a1 a2 a3 a4 a5 a6)
        refine wp_region_noPanic ?_
        refine wp_region_T 8 (fun w' => w'.cell? ⟨g, 1, none⟩ = some (.string p.v) ∧ w'.cell? ⟨g, 2, none⟩ = some (.int .i64 p.n)) (by kernel_rfl) ?_
        clear a0 a1 a2 a3 a4 a5 a6 d0 d1 d2 e0 e1 e2 e3 e4 f0 f1 f2 f3 f4
        have HD := hide (show R1 w (World.drew w4) _ p g from HP4.out.drewN 1)
        have HE := hide (show Mine _ (World.drew w4) _ _ from HO4.out.below (kept_drewN (kept_refl w4) 1))
        generalize World.drew _ = wd at HD HE ⊢
        refine anyT_take (i := 0) (v := ?ov0_6) (by simp only [List.getElem?_toArray, List.getElem?_cons_zero]; exact rfl) (by kernel_rfl) (by kernel_rfl) (fun _ _ _ h => h) (by kernel_rfl) (by kernel_rfl) (Or.inl ⟨by rfl, ?oy0_6⟩) (by with_reducible exact ⟨HD.out.all.2.1.2.1, HD.out.all.2.1.2.2⟩) ?or0_6
        case oy0_6 => (intro w hSw; (try dsimp only at hSw); (try obtain ⟨hS1, hS2⟩ := hSw); go_simp; try with_reducible rfl)
        try simp only [Act.put, List.setIfInBounds_toArray, List.set_cons_zero, List.set_cons_succ]
        refine anyT_take (i := 1) (v := ?ov1_6) (by simp only [List.getElem?_toArray, List.getElem?_cons_succ, List.getElem?_cons_zero]; exact rfl) (by kernel_rfl) (by kernel_rfl) (fun _ _ _ h => h) (by kernel_rfl) (by kernel_rfl) (Or.inl ⟨by rfl, ?oy1_6⟩) (by with_reducible exact ⟨HD.out.all.2.1.2.1, HD.out.all.2.1.2.2⟩) ?or1_6
        case oy1_6 => (intro w hSw; (try dsimp only at hSw); (try obtain ⟨hS1, hS2⟩ := hSw); go_simp; try with_reducible rfl)
        try simp only [Act.put, List.setIfInBounds_toArray, List.set_cons_zero, List.set_cons_succ]
        refine anyT_take (i := 2) (v := ?ov2_6) (by simp only [List.getElem?_toArray, List.getElem?_cons_succ, List.getElem?_cons_zero]; exact rfl) (by kernel_rfl) (by kernel_rfl) (fun _ _ _ h => h) (by kernel_rfl) (by kernel_rfl) (Or.inl ⟨by rfl, ?oy2_6⟩) (by with_reducible exact ⟨HD.out.all.2.1.2.1, HD.out.all.2.1.2.2⟩) ?or2_6
        case oy2_6 => (intro w hSw; (try dsimp only at hSw); (try obtain ⟨hS1, hS2⟩ := hSw); go_simp; try with_reducible rfl)
        try simp only [Act.put, List.setIfInBounds_toArray, List.set_cons_zero, List.set_cons_succ]
        refine anyT_take (i := 3) (v := ?ov3_6) (by simp only [List.getElem?_toArray, List.getElem?_cons_succ, List.getElem?_cons_zero]; exact rfl) (by kernel_rfl) (by kernel_rfl) (fun _ _ _ h => h) (by kernel_rfl) (by kernel_rfl) (Or.inl ⟨by rfl, ?oy3_6⟩) (by with_reducible exact ⟨HD.out.all.2.1.2.1, HD.out.all.2.1.2.2⟩) ?or3_6
        case oy3_6 => (intro w hSw; (try dsimp only at hSw); (try obtain ⟨hS1, hS2⟩ := hSw); go_simp; try with_reducible rfl)
        try simp only [Act.put, List.setIfInBounds_toArray, List.set_cons_zero, List.set_cons_succ]
        refine anyT_take (i := 4) (v := ?ov4_6) (by simp only [List.getElem?_toArray, List.getElem?_cons_succ, List.getElem?_cons_zero]; exact rfl) (by kernel_rfl) (by kernel_rfl) (fun _ _ _ h => h) (by kernel_rfl) (by kernel_rfl) (Or.inl ⟨by rfl, ?oy4_6⟩) (by with_reducible exact ⟨HD.out.all.2.1.2.1, HD.out.all.2.1.2.2⟩) ?or4_6
        case oy4_6 => (intro w hSw; (try dsimp only at hSw); (try obtain ⟨hS1, hS2⟩ := hSw); go_simp; try with_reducible rfl)
        try simp only [Act.put, List.setIfInBounds_toArray, List.set_cons_zero, List.set_cons_succ]
        refine anyT_take (i := 5) (v := ?ov5_6) (by simp only [List.getElem?_toArray, List.getElem?_cons_succ, List.getElem?_cons_zero]; exact rfl) (by kernel_rfl) (by kernel_rfl) (fun _ _ _ h => h) (by kernel_rfl) (by kernel_rfl) (Or.inl ⟨by rfl, ?oy5_6⟩) (by with_reducible exact ⟨HD.out.all.2.1.2.1, HD.out.all.2.1.2.2⟩) ?or5_6
        case oy5_6 => (intro w hSw; (try dsimp only at hSw); (try obtain ⟨hS1, hS2⟩ := hSw); go_simp; try with_reducible rfl)
        try simp only [Act.put, List.setIfInBounds_toArray, List.set_cons_zero, List.set_cons_succ]
        refine anyT_take (i := 6) (v := ?ov6_6) (by simp only [List.getElem?_toArray, List.getElem?_cons_succ, List.getElem?_cons_zero]; exact rfl) (by kernel_rfl) (by kernel_rfl) (fun _ _ _ h => h) (by kernel_rfl) (by kernel_rfl) (Or.inl ⟨by rfl, ?oy6_6⟩) (by with_reducible exact ⟨HD.out.all.2.1.2.1, HD.out.all.2.1.2.2⟩) ?or6_6
        case oy6_6 => (intro w hSw; (try dsimp only at hSw); (try obtain ⟨hS1, hS2⟩ := hSw); go_simp; try with_reducible rfl)
        try simp only [Act.put, List.setIfInBounds_toArray, List.set_cons_zero, List.set_cons_succ]
        refine anyT_one (i := 7) (by kernel_rfl) (by simp only [List.getElem?_toArray, List.getElem?_cons_succ, List.getElem?_cons_zero]; exact rfl) (fun K hK => ?_)
        go_simp
        refine hK.out _ _ (fun e => ⟨HD.out.all.2.1.2.1, HD.out.all.2.1.2.2⟩) ?_
        clear hK K
        try simp only [Act.put, List.setIfInBounds_toArray, List.set_cons_zero, List.set_cons_succ]
        obtain ⟨_, _, ⟨e0, e1, e2, e3, e4⟩, f0, f1, f2, f3, f4⟩ := HD.out.all
        refine anyT_one (i := 8) (by kernel_rfl) (by simp only [List.getElem?_toArray, List.getElem?_cons_succ, List.getElem?_cons_zero]; exact rfl) (fun K hK => ?_)
        go_simp
        refine hK.out _ _ (fun e => absurd rfl e) ?_
        clear hK K
        try simp only [Act.put, List.setIfInBounds_toArray, List.set_cons_zero, List.set_cons_succ]
        refine anyT_done (by kernel_rfl) ?_
        refine NoPanic.normal ?_
        try simp only [Act.put]
        go_wp2_with fail
        refine bodyPost_ret (results_look (v := _) Try.results42 rfl rfl (HD.out.r0.rr.five_put _ _ _ _ _)) rfl ?_
        rw [run_4, KP.out, KT.out, if_pos (by rw [HF.out]; rfl)]
        exact HD.out.done2 (y := (putP l key val, ⟨0, true, p.v, IntKind.i64.wrap (p.n + 1), []⟩)) (HE.out.mono (Nat.le_trans HBB.out HP.out.r0.bel.size)) (Mine.nil_ _ _) (HE.out.offNew HP.out.r0.rr.lt) (Off.nil_ _) (fun g hg _ => HE.out.offNew (Nat.lt_of_lt_of_le hg HP.out.r0.bel.size)) DNIL.out
  · have HQ := hide (rrange_any v l key en w3 HV3.out.pin (by omega))
    go_wp2_with (go_at_call 34; (with_reducible refine HQ.out.mono ?_); rintro e w4 ⟨v4, rfl, ho4, hb4⟩; obtain ⟨A4, c4, rfl, _, _, _, _⟩ := ho4.pin; have HP4 := hide (HP.out.below hb4); have HO4 := hide ho4; clear ho4 hb4; obtain ⟨⟨a0, a1, a2, a3, a4, a5, a6⟩, ⟨d0, d1, d2⟩, ⟨e0, e1, e2, e3, e4⟩, f0, f1, f2, f3, f4⟩ := HP4.out.all; dsimp only at a0 a1 a2 a3 a4 a5 a6)
    refine bodyPost_ret (results_look (v := v) Try.results42 rfl rfl (HP4.out.r0.rr.five_put _ _ _ _ _)) rfl ?_
    rw [run_5]
    exact HP4.out.done2 (y := (l, ⟨0, moreB l key en, nilT, 0, rngP l key en⟩)) (HBL.out _ HP4.out.r0.bel) (HO4.out.mono (Nat.le_trans HBB.out HP.out.r0.bel.size)) OV.out (HO4.out.offNew HP.out.r0.rr.lt) DOLD.out (fun g hg => HO4.out.offNew (Nat.lt_of_lt_of_le hg HP.out.r0.bel.size))
end Go.Proofs.Ytahfpncfkcfogaa
/- The document's Apply. Conditions: the state's lists lie in memory, its pairs rise, they are not many. -/
namespace Go.Proofs.Ytahfpncfkcfogaa
set_option maxRecDepth 100000
open Go.RowKit
theorem seen_is (o : Ow) (s : Int) : (s = o.s → seenO o s = (2, o.r)) ∧ (s < o.s → seenO o s = (3, zeroR)) ∧ (o.s < s → seenO o s = (1, zeroR)) := by
  obtain ⟨a, r⟩ := o
  refine ⟨fun h => ?_, fun h => seen3 h, fun h => seen1 h⟩
  dsimp only at h
  subst h
  exact seen2 _ _
/-- Behind Twin and the owner's load. -/
structure C1 (W w : World) (p : Value) (L : List Co) (x : Cm) (p' : Value) (M : List Co) (s : Sm) (y : Co) (b gt go : Nat) : Prop where
  b1 : B1 W w p L x
  rt : Row w gt 30 (stc p' M)
  ro : Row w go 27 #[.int .i64 y.o.s, .int .i64 y.o.r.why, .bool y.o.r.fnd, .string y.o.r.val, .int .i64 y.o.r.ver, .slice y.A y.o.r.l.length y.c]
  n : NewS b w p' M s
  hb : W.heap.size + 1 + 1 + 1 < b
  hbg : b ≤ gt
  off : OffS gt p' M
  lt : gt < go
theorem C1.below {W w w' : World} {p : Value} {L : List Co} {x : Cm} {p' : Value} {M : List Co} {s : Sm} {y : Co} {b gt go : Nat} (h : C1 W w p L x p' M s y b gt go) (hb : Below w.heap.size w w') : C1 W w' p L x p' M s y b gt go :=
  ⟨h.b1.below hb, h.rt.below hb h.rt.lt, h.ro.below hb h.ro.lt, h.n.below hb, h.hb, h.hbg, h.off, h.lt⟩
/-- Behind run, the pairs stored. -/
structure C2 (W w : World) (p : Value) (L : List Co) (x : Cm) (v : Value) (l : List Pr) (M : List Co) (R : Re) (q : Value) (b gt gr : Nat) : Prop where
  b1 : B1 W w p L x
  rt : Row w gt 30 (stc v M)
  rr : Row w gr 25 (reV R q)
  hv : Mine b w v l
  ho : ∀ z, z ∈ M → Mine b w z.p z.o.r.l ∧ z.o.r.l.length ≤ 3518437208780
  hq : Mine b w q R.l
  hb : W.heap.size + 1 + 1 + 1 < b
  hbg : b ≤ gt
  lt : gt < gr
  ov : Off v gt
  oo : ∀ z, z ∈ M → Off z.p gt
  oq : Off q gt
theorem C2.below {W w w' : World} {p : Value} {L : List Co} {x : Cm} {v : Value} {l : List Pr} {M : List Co} {R : Re} {q : Value} {b gt gr : Nat} (h : C2 W w p L x v l M R q b gt gr) (hb : Below w.heap.size w w') : C2 W w' p L x v l M R q b gt gr :=
  ⟨h.b1.below hb, h.rt.below hb h.rt.lt, h.rr.below hb h.rr.lt, h.hv.below hb, fun z hz => ⟨(h.ho z hz).1.below hb, (h.ho z hz).2⟩, h.hq.below hb, h.hb, h.hbg, h.lt, h.ov, h.oo, h.oq⟩
theorem C1.pairs {W w : World} {p : Value} {L : List Co} {x : Cm} {p' v : Value} {M : List Co} {s : Sm} {y : Co} {b gt go gr : Nat} {l : List Pr} {R : Re} {q : Value} (h : C1 W w p L x p' M s y b gt go) (hr : Row w gr 25 (reV R q)) (hv : Mine b w v l) (hq : Mine b w q R.l) (ov : Off v gt) (oq : Off q gt) (lt : gt < gr) :
    C2 W (w.setCell ⟨gt, 0, none⟩ v) p L x v l M R q b gt gr := by
  have hb := h.hb
  have hbg := h.hbg
  have b1 := h.b1
  exact ⟨⟨b1.rs.putOff (by omega) _, b1.rc.putOff (by omega) _, b1.rz.putOff (by omega) _, b1.rr.putOff (by omega) _, b1.bel.setCell (p := ⟨gt, 0, none⟩) (by show W.heap.size ≤ gt; omega) _⟩, h.rt.putPairs v, hr.putOff (by omega) _, hv.putOff ov 0 _, fun z hz => ⟨(h.n.own z hz).1.putOff (h.off.2 z hz) 0 _, (h.n.own z hz).2⟩, hq.putOff oq 0 _, hb, hbg, lt, ov, h.off.2, oq⟩
/-- An owner stored. -/
theorem C2.owner {W w w' : World} {p : Value} {L : List Co} {x : Cm} {v : Value} {l : List Pr} {M : List Co} {R : Re} {q : Value} {b gt gr i : Nat} {z : Co} (h : C2 W w p L x v l M R q b gt gr) (hb : Below w.heap.size w w') (hz : Mine w.heap.size w' z.p z.o.r.l) (ln : z.o.r.l.length ≤ 3518437208780) (h8 : M.length = 8) :
    B1 W (w'.setRow gt (stc v (M.set i z))) p L x ∧ Row (w'.setRow gt (stc v (M.set i z))) gt 30 (stc v (M.set i z)) ∧ Row (w'.setRow gt (stc v (M.set i z))) gr 25 (reV R q) ∧ Mine b (w'.setRow gt (stc v (M.set i z))) q R.l ∧
      ∀ o, ows M = o → l.length ≤ 3518437208780 → NewS b (w'.setRow gt (stc v (M.set i z))) v (M.set i z) ⟨l, o.set i z.o⟩ := by
  have hbb := h.hb
  have hbg := h.hbg
  have hlt := h.lt
  have k := h.below hb
  have b1 := k.b1
  have ht := h.rt.lt
  refine ⟨⟨b1.rs.setRow_other (by omega) _, b1.rc.setRow_other (by omega) _, b1.rz.setRow_other (by omega) _, b1.rr.setRow_other (by omega) _, below_setRow b1.bel (by omega) _⟩, k.rt.setRow _, k.rr.setRow_other (by omega) _, k.hq.grownOff (setRow_grown _ _ _) k.oq, fun o ho hl => ⟨k.hv.grownOff (setRow_grown _ _ _) k.ov, hl, by rw [List.length_set]; exact h8, fun u hu => ?_, by rw [ows_set, ho]⟩⟩
  rcases List.mem_or_eq_of_mem_set hu with hu | rfl
  · exact ⟨(k.ho u hu).1.grownOff (setRow_grown _ _ _) (k.oo u hu), (k.ho u hu).2⟩
  · exact ⟨(hz.mono (by omega)).grownOff (setRow_grown _ _ _) (hz.offNew (by omega)), ln⟩
set_option maxHeartbeats 8000000 in
theorem rapply_any (p : Value) (L : List Co) (s : Sm) (x : Cm) (w : World) (h : IsS w p L s) (hu : Up s.l) (ln : s.l.length ≤ 1000) :
    Calls Try.prog 17 #[.agg (stc p L), valC x] w (AnsS false w (applyP s x)) := by
  obtain ⟨k, c, q, key, en, old, val⟩ := x
  show Calls Try.prog 17 #[.agg (stc p L), .agg #[.int .i64 k, .int .i64 c, .int .i64 q, .string key, .string en, .string old, .string val]] w _
  obtain ⟨Ap, cp, hp, _⟩ := h.pin
  subst hp
  have HS := hide h
  have H8 := hide h.fine.1
  have heq := eql_cmd k c q key en old val 0 0 0 { data := #[] } { data := #[] } { data := #[] } { data := #[] } w
  have heq := fun w => eql_cmd k c q key en old val 0 0 0 { data := #[] } { data := #[] } { data := #[] } { data := #[] } w
  have HR := hide (fun w1 => rright_to k c q key en old val w1)
  have HN := hide (B1.new w (.slice Ap s.l.length cp) L ⟨k, c, q, key, en, old, val⟩)
  have HU := hide hu
  clear h hu
  obtain ⟨tz, hz⟩ : ∃ t, sameC ⟨k, c, q, key, en, old, val⟩ ⟨0, 0, 0, { data := #[] }, { data := #[] }, { data := #[] }, { data := #[] }⟩ = t := ⟨_, rfl⟩
  rw [hz] at heq
  have HZ := hide hz
  clear hz
  go_enter Try.func17, Try.ntmps17
  go_upto_region 1 with (fail)
  rw [zero_state]
  have hw : (((w.alloc (.cells (stc (.slice Ap s.l.length cp) L) 30)).alloc (.cells #[.int .i64 k, .int .i64 c, .int .i64 q, .string key, .string en, .string old, .string val] 35)).alloc (.cells (stc (.slice none 0 0) zeroL) 30)).alloc (.cells #[.int .i64 0, .bool false, .string { data := #[] }, .int .i64 0, .slice none 0 0] 25) = (((w.alloc (.cells (stc (.slice Ap s.l.length cp) L) 30)).alloc (.cells (rowC ⟨k, c, q, key, en, old, val⟩) 35)).alloc (.cells (stc (.slice none 0 0) zeroL) 30)).alloc (.cells (reV zeroR (.slice none 0 0)) 25) := rfl
  rw [hw]
  clear hw
  generalize (((w.alloc (.cells (stc (.slice Ap s.l.length cp) L) 30)).alloc (.cells (rowC ⟨k, c, q, key, en, old, val⟩) 35)).alloc (.cells (stc (.slice none 0 0) zeroL) 30)).alloc (.cells (reV zeroR (.slice none 0 0)) 25) = w1 at HN ⊢
  have HS1 := hide (HS.out.below HN.out.bel)
  obtain ⟨a0, a1, a2, a3, a4, a5, a6⟩ := (seven_of HN.out.rc).cells
  dsimp only at a0 a1 a2 a3 a4 a5 a6
  have G3 := hide HN.out.rr.lt
  cases tz
  case true =>
    have HA := hide (twin_any _ L s w1 HS1.out)
    have RS := hide HN.out.rs
    go_wp2_with (first
      | ((with_reducible refine wpList_load49 ?_ RS.out H8.out ?_); rfl)
      | (go_at_call 15; (with_reducible refine HA.out.mono ?_); rintro e w8 ⟨p8, M8, rfl, hn8, hb8⟩; have FN := hide ((HN.out.below hb8).fin0 (T := false) (r := zeroR) hn8 HN.out.rr.lt rfl); have H88 := hide hn8.eight; have H81 := hide hn8.one; clear hn8 hb8)
      | ((with_reducible refine wpList_store49 ?_ ?_ H81.out FN.out.rz (L := zeroL) rfl H88.out ?_); rfl; rfl; obtain ⟨⟨i0, i1, i2, i3, i4⟩, j0, j1, j2, j3, j4⟩ := FN.out.cells))
    refine bodyPost_ret (results_sr Try.results17 rfl FN.out.row2 H88.out rfl FN.out.row3) rfl ?_
    rw [apply_zero (by exact HZ.out)]
    exact FN.out.ans
  have HR1 := hide (HR.out w1)
  obtain ⟨tr, hr⟩ : ∃ t, rightC ⟨k, c, q, key, en, old, val⟩ = t := ⟨_, rfl⟩
  rw [hr] at HR1
  have KR := hide hr
  clear hr
  cases tr
  case false =>
    go_upto_region 4 with (go_at_call 41; (with_reducible refine HR1.out.mono ?_); rintro e w2 ⟨rfl, hb2⟩)
    have HN2 := hide (HN.out.below hb2)
    have HA := hide (twin_any _ L s w2 (HS1.out.below hb2))
    have RS := hide HN2.out.rs
    have G32 := hide HN2.out.rr.lt
    clear hb2
    go_wp2_with (first
      | ((with_reducible refine wpList_load49 ?_ RS.out H8.out ?_); rfl)
      | (go_at_call 15; (with_reducible refine HA.out.mono ?_); rintro e w8 ⟨p8, M8, rfl, hn8, hb8⟩; have FN := hide ((HN2.out.below hb8).fin0 (T := false) (r := errR 1) hn8 HN2.out.rr.lt rfl); have H88 := hide hn8.eight; have H81 := hide hn8.one; clear hn8 hb8)
      | ((with_reducible refine wpList_store49 ?_ ?_ H81.out FN.out.rz (L := zeroL) rfl H88.out ?_); rfl; rfl; obtain ⟨⟨i0, i1, i2, i3, i4⟩, j0, j1, j2, j3, j4⟩ := FN.out.cells))
    refine bodyPost_ret (results_sr Try.results17 rfl FN.out.row2 H88.out rfl FN.out.row3) rfl ?_
    rw [apply_bad (by exact HZ.out) KR.out]
    exact FN.out.ans
  go_upto_region 5 with (go_at_call 41; (with_reducible refine HR1.out.mono ?_); rintro e w2 ⟨rfl, hb2⟩)
  have HN2 := hide (HN.out.below hb2)
  have HS2 := hide (HS1.out.below hb2)
  clear hb2 HR1 HR HN HS1 a0 a1 a2 a3 a4 a5 a6 G3 heq
  have RS := hide HN2.out.rs
  have HTW := hide (twin_any _ L s w2 HS2.out)
  go_upto_region 6 with (first
    | ((with_reducible refine wpList_load49 ?_ RS.out H8.out ?_); rfl)
    | (go_at_call 15; (with_reducible refine HTW.out.mono ?_); rintro e w3 ⟨p3, M3, rfl, hn3, hb3⟩; have H83 := hide hn3.eight; have H31 := hide hn3.one)
    | ((with_reducible refine wpList_store49n ?_ ?_ H31.out H83.out ?_); rfl; rfl))
  have hz0 : sameC ⟨k, c, q, key, en, old, val⟩ c_zeroC = false := HZ.out
  have hc18 := (rc_says KR.out hz0).2.2.2.1
  dsimp only at hc18
  obtain ⟨i, hi⟩ : ∃ i : Nat, c = (i : Int) + 1 := ⟨(c - 1).toNat, by omega⟩
  have hi8 : i < 8 := by omega
  have hci : IntKind.i64.wrap (c - 1) = (i : Int) := by rw [IntKind.wrap_i64]; omega
  obtain ⟨y, hy⟩ : ∃ y, M3[i]? = some y := ⟨_, List.getElem?_eq_getElem (by rw [H83.out]; exact hi8)⟩
  have hli : (i : Int) < 8 := by omega
  have ELK := hide (show lookO s.o c q = seenO y.o q from by
    unfold lookO
    rw [if_pos (cli_in hc18), show (c - 1).toNat = i by omega, ← hn3.is, ows_at hy]; rfl)
  have ENT := hide (show ∀ r, noteO s.o c q r = s.o.set i ⟨q, r⟩ from fun r => by unfold noteO; rw [if_pos (cli_in hc18), show (c - 1).toNat = i by omega])
  have EAP := hide (apply_at (s := s) hz0 KR.out)
  dsimp only at EAP
  rw [ELK.out] at EAP
  have ka := kept_alloc (kept_refl w3) (.cells (stc p3 M3) 30)
  have HN3 := hide (HN2.out.below (kept_trans hb3 ka))
  have HB3 := hide (kept_trans hb3 ka)
  have RT := hide (Row.new w3 30 (stc p3 M3))
  have N3 := hide (hn3.below ka)
  have OF3 := hide (hn3.offOld (Nat.le_refl w3.heap.size))
  have SZ3 := hide hb3.size
  have G23 := hide HN2.out.rr.lt
  clear ka hn3 hb3 HTW RS H31 hc18 hz0
  generalize w3.alloc (.cells (stc p3 M3) 30) = w4 at HN3 HB3 RT N3 ⊢
  generalize w3.heap.size = gt at RT OF3 SZ3 ⊢
  obtain ⟨a0, a1, a2, a3, a4, a5, a6⟩ := (seven_of HN3.out.rc).cells
  dsimp only at a0 a1 a2 a3 a4 a5 a6
  obtain ⟨c0, c1, c2, c3, c4, c5⟩ := RT.out.owner49 hy
  unfold Co.p at c5
  have HY := hide hy
  have HI8 := hide hi
  clear hy hi
  go_upto_region 7 with (fail)
  have ka := kept_alloc (kept_refl w4) (.cells #[.int .i64 y.o.s, .int .i64 y.o.r.why, .bool y.o.r.fnd, .string y.o.r.val, .int .i64 y.o.r.ver, .slice y.A y.o.r.l.length y.c] 27)
  have HC1 := hide (show C1 w (w4.alloc (.cells #[.int .i64 y.o.s, .int .i64 y.o.r.why, .bool y.o.r.fnd, .string y.o.r.val, .int .i64 y.o.r.ver, .slice y.A y.o.r.l.length y.c] 27)) (.slice Ap s.l.length cp) L ⟨k, c, q, key, en, old, val⟩ p3 M3 s y w2.heap.size gt w4.heap.size from ⟨HN3.out.below ka, RT.out.alloc _, Row.new w4 _ _, N3.out.below ka, G23.out, SZ3.out, OF3.out, RT.out.lt⟩)
  clear ka HN3 RT N3 OF3 c0 c1 c2 c3 c4 c5 a0 a1 a2 a3 a4 a5 a6 HB3 HN2 HS2
  generalize w4.alloc (.cells #[.int .i64 y.o.s, .int .i64 y.o.r.why, .bool y.o.r.fnd, .string y.o.r.val, .int .i64 y.o.r.ver, .slice y.A y.o.r.l.length y.c] 27) = w5 at HC1 ⊢
  generalize w4.heap.size = go at HC1 ⊢
  generalize w2.heap.size = b at HC1 SZ3 G23 ⊢
  obtain ⟨a0, a1, a2, a3, a4, a5, a6⟩ := (seven_of HC1.out.b1.rc).cells
  dsimp only at a0 a1 a2 a3 a4 a5 a6
  obtain ⟨c0, c1, c2, c3, c4, c5⟩ := HC1.out.ro.six
  have HYY := hide (HC1.out.n.own y (List.mem_of_getElem? HY.out))
  by_cases e1 : q = y.o.s
  case pos =>
    rw [(seen_is y.o q).1 e1, if_pos rfl] at EAP
    have hq1 : (q == y.o.s) = true := by simpa using e1
    clear e1
    go_upto_region 8 with (fail)
    refine wp_region_noPanic ?_
    refine wp_region_T 5 (fun w' => Row w' gt 30 (stc p3 M3) ∧ Row w' go 27 #[.int .i64 y.o.s, .int .i64 y.o.r.why, .bool y.o.r.fnd, .string y.o.r.val, .int .i64 y.o.r.ver, .slice y.A y.o.r.l.length y.c]) (by kernel_rfl) ?_
    clear a0 a1 a2 a3 a4 a5 a6 c0 c1 c2 c3 c4 c5
    have HD := hide (show C1 w (World.drew w5) (.slice Ap s.l.length cp) L ⟨k, c, q, key, en, old, val⟩ p3 M3 s y b gt go ∧ Mine b (World.drew w5) y.p y.o.r.l from ⟨HC1.out.below (kept_drewN (kept_refl w5) 1), HYY.out.1.below (kept_drewN (kept_refl w5) 1)⟩)
    generalize World.drew _ = wd at HD ⊢
    refine anyT_take (i := 0) (v := .agg (stc p3 M3)) (by simp only [List.getElem?_toArray, List.getElem?_cons_zero]; exact rfl) (by kernel_rfl) (by kernel_rfl) (fun _ _ _ h => h) (by kernel_rfl) (by kernel_rfl) (yields_load49 (x := .tmp 6) (by rfl) (by rfl) (by rfl) H83.out (fun _ h => h.1)) (by with_reducible exact ⟨HD.out.1.rt, HD.out.1.ro⟩) ?_
    try simp only [Act.put, List.setIfInBounds_toArray, List.set_cons_zero, List.set_cons_succ]
    refine anyT_take (i := 1) (v := ?ov1_a) (by simp only [List.getElem?_toArray, List.getElem?_cons_succ, List.getElem?_cons_zero]; exact rfl) (by kernel_rfl) (by kernel_rfl) (fun _ _ _ h => h) (by kernel_rfl) (by kernel_rfl) (Or.inl ⟨by rfl, ?oy1_a⟩) (by with_reducible exact ⟨HD.out.1.rt, HD.out.1.ro⟩) ?or1_a
    case oy1_a => (intro w hSw; skip; go_simp; try with_reducible rfl)
    try simp only [Act.put, List.setIfInBounds_toArray, List.set_cons_zero, List.set_cons_succ]
    refine anyT_take (i := 2) (v := ?ov2_a) (by simp only [List.getElem?_toArray, List.getElem?_cons_succ, List.getElem?_cons_zero]; exact rfl) (by kernel_rfl) (by kernel_rfl) (fun _ _ _ h => h) (by kernel_rfl) (by kernel_rfl) (Or.inl ⟨by rfl, ?oy2_a⟩) (by with_reducible exact ⟨HD.out.1.rt, HD.out.1.ro⟩) ?or2_a
    case oy2_a => (intro w hSw; obtain ⟨e0, e1, e2, e3, e4, e5⟩ := hSw.2.six; go_simp; try with_reducible rfl)
    try simp only [Act.put, List.setIfInBounds_toArray, List.set_cons_zero, List.set_cons_succ]
    refine anyT_one (i := 3) (by kernel_rfl) (by simp only [List.getElem?_toArray, List.getElem?_cons_succ, List.getElem?_cons_zero]; exact rfl) (fun K hK => ?_)
    try go_simp
    refine (copy_any y.o.r _ wd HD.out.2.pin HYY.out.2).mono ?_
    rintro e w8 ⟨q8, rfl, hq8, hb8⟩
    obtain ⟨A8, c8, rfl, _, _, _, _⟩ := hq8.pin
    have HE := hide (HD.out.1.below hb8)
    have FN := hide (HE.out.b1.fin (T := false) (s := s) (r := y.o.r) HE.out.n HE.out.hb hq8 (Nat.lt_of_lt_of_le HE.out.hb (Nat.le_trans HE.out.hbg (Nat.le_of_lt HD.out.1.rt.lt))) HYY.out.2 (fun h => by cases h))
    have H81 := hide HE.out.n.one
    refine hK.out _ _ (fun e => ⟨HE.out.rt, HE.out.ro⟩) ?_
    clear hK K
    try simp only [Act.put, List.setIfInBounds_toArray, List.set_cons_zero, List.set_cons_succ]
    refine anyT_one (i := 4) (by kernel_rfl) (by simp only [List.getElem?_toArray, List.getElem?_cons_succ, List.getElem?_cons_zero]; exact rfl) (fun K hK => ?_)
    refine step_store49 (L := zeroL) (M := M3) (by rfl) (by rfl) H81.out FN.out.rz rfl H83.out ?_
    refine hK.out _ _ (fun e => ⟨HE.out.rt.setRow_other (by have := HE.out.hb; have := HE.out.hbg; have := HE.out.lt; omega) _, HE.out.ro.setRow_other (by have := HE.out.hb; have := HE.out.hbg; have := HE.out.lt; omega) _⟩) ?_
    clear hK K
    try simp only [Act.put]
    obtain ⟨⟨i0, i1, i2, i3, i4⟩, j0, j1, j2, j3, j4⟩ := FN.out.cells
    refine anyT_one (i := 5) (by kernel_rfl) (by simp only [List.getElem?_toArray, List.getElem?_cons_succ, List.getElem?_cons_zero]; exact rfl) (fun K hK => ?_)
    try go_simp
    refine hK.out _ _ (fun e => absurd rfl e) ?_
    clear hK K
    refine anyT_done (by kernel_rfl) ?_
    refine NoPanic.normal ?_
    try simp only [Act.put]
    go_wp2_with fail
    refine bodyPost_ret (results_sr Try.results17 rfl FN.out.row2 H83.out rfl FN.out.row3) rfl ?_
    rw [EAP.out]
    exact FN.out.ans
  by_cases e2 : q < y.o.s
  case pos =>
    rw [(seen_is y.o q).2.1 e2, if_neg (by decide), if_pos rfl] at EAP
    have hq1 : (q == y.o.s) = false := by simpa using e1
    have hq2 : decide (q < y.o.s) = true := decide_eq_true e2
    clear e1 e2
    go_upto_region 10 with (fail)
    have FN := hide ((HC1.out.b1).fin0 (T := false) (r := errR 9) HC1.out.n HC1.out.hb rfl)
    have RT := hide HC1.out.rt
    have H81 := hide HC1.out.n.one
    go_wp2_with (first
      | ((with_reducible refine wpList_load49 ?_ RT.out H83.out ?_); rfl)
      | ((with_reducible refine wpList_store49 ?_ ?_ H81.out FN.out.rz (L := zeroL) rfl H83.out ?_); rfl; rfl; obtain ⟨⟨i0, i1, i2, i3, i4⟩, j0, j1, j2, j3, j4⟩ := FN.out.cells))
    refine bodyPost_ret (results_sr Try.results17 rfl FN.out.row2 H83.out rfl FN.out.row3) rfl ?_
    rw [EAP.out]
    exact FN.out.ans
  rw [(seen_is y.o q).2.2 (by omega), if_neg (by decide), if_neg (by decide)] at EAP
  have hq1 : (q == y.o.s) = false := by simpa using e1
  have hq2 : decide (q < y.o.s) = false := decide_eq_false e2
  clear e1 e2
  obtain ⟨Ar, cr, hpr, _⟩ := HC1.out.n.pin.pin
  subst hpr
  have k0 := HC1.out.rt.pairs49
  obtain ⟨k1, k5⟩ : 1 ≤ k ∧ k ≤ 5 := by have := rc_says KR.out (by exact HZ.out); exact ⟨this.1, this.2.1⟩
  have HC := hide (rrun_any b (.slice Ar s.l.length cr) s.l ⟨k, c, q, key, en, old, val⟩ w5 HC1.out.n.pin (by have := HC1.out.hbg; have := HC1.out.rt.lt; omega) (by omega) k1 k5)
  have HLR := hide (run_len s.l ⟨k, c, q, key, en, old, val⟩)
  have HLL := hide (len_run HU.out ⟨k, c, q, key, en, old, val⟩)
  unfold valC at HC
  try dsimp only at HC
  obtain ⟨z, hz⟩ : ∃ z, runP s.l ⟨k, c, q, key, en, old, val⟩ = z := ⟨_, rfl⟩
  rw [hz] at HC HLR HLL EAP
  clear hz k1 k5
  obtain ⟨l', R⟩ := z
  dsimp only at HLR HLL EAP
  go_upto_region 12 with (go_at_call 42; (with_reducible refine HC.out.mono ?_); rintro e w6 ⟨v6, q6, rfl, hv6, hq6, hdv, hdq, hb6⟩; obtain ⟨A6, c6, rfl, _, _, _, _⟩ := hv6.pin; obtain ⟨B6, d6, rfl, _, _, _, _⟩ := hq6.pin)
  have kb := kept_trans hb6 (kept_alloc (kept_refl w6) (.cells (reV R (.slice B6 R.l.length d6)) 25))
  have HC6 := hide (HC1.out.below kb)
  have HV6 := hide (hv6.below (kept_alloc (kept_refl w6) (.cells (reV R (.slice B6 R.l.length d6)) 25)))
  have HQ6 := hide (hq6.below (kept_alloc (kept_refl w6) (.cells (reV R (.slice B6 R.l.length d6)) 25)))
  have RR := hide (Row.new w6 25 (reV R (.slice B6 R.l.length d6)))
  have GV := hide (hv6.offOld (Nat.le_refl w6.heap.size))
  have GG := hide (Nat.lt_of_lt_of_le HC1.out.ro.lt hb6.size)
  have OV := hide (show Off (.slice A6 l'.length c6) gt from hdv gt (Nat.lt_trans HC1.out.lt HC1.out.ro.lt) HC1.out.off.1)
  have OQ := hide (show Off (.slice B6 R.l.length d6) gt from hdq gt (Nat.lt_trans HC1.out.lt HC1.out.ro.lt))
  clear hdv hdq
  have hw : w6.alloc (.cells #[.int .i64 R.why, .bool R.fnd, .string R.val, .int .i64 R.ver, .slice B6 R.l.length d6] 25) = w6.alloc (.cells (reV R (.slice B6 R.l.length d6)) 25) := rfl
  rw [hw]
  clear hw kb hv6 hq6 hb6 HC k0 a0 a1 a2 a3 a4 a5 a6 c0 c1 c2 c3 c4 c5
  generalize w6.alloc (.cells (reV R (.slice B6 R.l.length d6)) 25) = w7 at HC6 HV6 HQ6 RR ⊢
  generalize w6.heap.size = gr at RR GV GG ⊢
  have k0 := HC6.out.rt.pairs49
  have k1 := HC6.out.rt.free 0
  have HC2 := hide (HC6.out.pairs RR.out HV6.out HQ6.out OV.out OQ.out (Nat.lt_trans HC1.out.lt GG.out))
  have HIS := hide HC1.out.n.is
  go_upto_region 13 with (fail)
  clear k0 k1 HC6 HV6 HQ6 RR GV GG OV OQ HYY
  generalize w7.setCell ⟨gt, 0, none⟩ (.slice A6 l'.length c6) = w8 at HC2 ⊢
  refine wp_region_noPanic ?_
  refine wp_region_T 10 (fun w' => Row w' (w.heap.size + 1) 35 (rowC ⟨k, c, q, key, en, old, val⟩) ∧ Row w' gr 25 (reV R (.slice B6 R.l.length d6))) (by kernel_rfl) ?_
  have HD := hide (HC2.out.below (kept_drewN (kept_refl w8) 1))
  replace HD : Hid (C2 _ (World.drew w8) _ _ _ _ _ _ _ _ _ _ _) := HD
  generalize World.drew _ = wd at HD ⊢
  refine anyT_take (i := 0) (v := ?ov0_b) (by simp only [List.getElem?_toArray, List.getElem?_cons_zero]; exact rfl) (by kernel_rfl) (by kernel_rfl) (fun _ _ _ h => h) (by kernel_rfl) (by kernel_rfl) (Or.inl ⟨by rfl, ?oy0_b⟩) (by with_reducible exact ⟨HD.out.b1.rc, HD.out.rr⟩) ?or0_b
  case oy0_b => (intro w hSw; obtain ⟨a0, a1, a2, a3, a4, a5, a6⟩ := (seven_of hSw.1).cells; obtain ⟨e0, e1, e2, e3, e4⟩ := Row.five hSw.2; (try dsimp only at a0 a1 a2 a3 a4 a5 a6 e0 e1 e2 e3 e4); go_simp; try with_reducible rfl)
  try simp only [Act.put, List.setIfInBounds_toArray, List.set_cons_zero, List.set_cons_succ]
  refine anyT_take (i := 1) (v := ?ov1_b) (by simp only [List.getElem?_toArray, List.getElem?_cons_succ, List.getElem?_cons_zero]; exact rfl) (by kernel_rfl) (by kernel_rfl) (fun _ _ _ h => h) (by kernel_rfl) (by kernel_rfl) (Or.inl ⟨by rfl, ?oy1_b⟩) (by with_reducible exact ⟨HD.out.b1.rc, HD.out.rr⟩) ?or1_b
  case oy1_b => (intro w hSw; obtain ⟨a0, a1, a2, a3, a4, a5, a6⟩ := (seven_of hSw.1).cells; obtain ⟨e0, e1, e2, e3, e4⟩ := Row.five hSw.2; (try dsimp only at a0 a1 a2 a3 a4 a5 a6 e0 e1 e2 e3 e4); go_simp; try with_reducible rfl)
  try simp only [Act.put, List.setIfInBounds_toArray, List.set_cons_zero, List.set_cons_succ]
  refine anyT_take (i := 2) (v := ?ov2_b) (by simp only [List.getElem?_toArray, List.getElem?_cons_succ, List.getElem?_cons_zero]; exact rfl) (by kernel_rfl) (by kernel_rfl) (fun _ _ _ h => h) (by kernel_rfl) (by kernel_rfl) (Or.inl ⟨by rfl, ?oy2_b⟩) (by with_reducible exact ⟨HD.out.b1.rc, HD.out.rr⟩) ?or2_b
  case oy2_b => (intro w hSw; obtain ⟨a0, a1, a2, a3, a4, a5, a6⟩ := (seven_of hSw.1).cells; obtain ⟨e0, e1, e2, e3, e4⟩ := Row.five hSw.2; (try dsimp only at a0 a1 a2 a3 a4 a5 a6 e0 e1 e2 e3 e4); go_simp; try with_reducible rfl)
  try simp only [Act.put, List.setIfInBounds_toArray, List.set_cons_zero, List.set_cons_succ]
  refine anyT_take (i := 3) (v := ?ov3_b) (by simp only [List.getElem?_toArray, List.getElem?_cons_succ, List.getElem?_cons_zero]; exact rfl) (by kernel_rfl) (by kernel_rfl) (fun _ _ _ h => h) (by kernel_rfl) (by kernel_rfl) (Or.inl ⟨by rfl, ?oy3_b⟩) (by with_reducible exact ⟨HD.out.b1.rc, HD.out.rr⟩) ?or3_b
  case oy3_b => (intro w hSw; obtain ⟨a0, a1, a2, a3, a4, a5, a6⟩ := (seven_of hSw.1).cells; obtain ⟨e0, e1, e2, e3, e4⟩ := Row.five hSw.2; (try dsimp only at a0 a1 a2 a3 a4 a5 a6 e0 e1 e2 e3 e4); go_simp; try with_reducible rfl)
  try simp only [Act.put, List.setIfInBounds_toArray, List.set_cons_zero, List.set_cons_succ]
  refine anyT_take (i := 4) (v := ?ov4_b) (by simp only [List.getElem?_toArray, List.getElem?_cons_succ, List.getElem?_cons_zero]; exact rfl) (by kernel_rfl) (by kernel_rfl) (fun _ _ _ h => h) (by kernel_rfl) (by kernel_rfl) (Or.inl ⟨by rfl, ?oy4_b⟩) (by with_reducible exact ⟨HD.out.b1.rc, HD.out.rr⟩) ?or4_b
  case oy4_b => (intro w hSw; obtain ⟨a0, a1, a2, a3, a4, a5, a6⟩ := (seven_of hSw.1).cells; obtain ⟨e0, e1, e2, e3, e4⟩ := Row.five hSw.2; (try dsimp only at a0 a1 a2 a3 a4 a5 a6 e0 e1 e2 e3 e4); go_simp; try with_reducible rfl)
  try simp only [Act.put, List.setIfInBounds_toArray, List.set_cons_zero, List.set_cons_succ]
  refine anyT_take (i := 5) (v := ?ov5_b) (by simp only [List.getElem?_toArray, List.getElem?_cons_succ, List.getElem?_cons_zero]; exact rfl) (by kernel_rfl) (by kernel_rfl) (fun _ _ _ h => h) (by kernel_rfl) (by kernel_rfl) (Or.inl ⟨by rfl, ?oy5_b⟩) (by with_reducible exact ⟨HD.out.b1.rc, HD.out.rr⟩) ?or5_b
  case oy5_b => (intro w hSw; obtain ⟨a0, a1, a2, a3, a4, a5, a6⟩ := (seven_of hSw.1).cells; obtain ⟨e0, e1, e2, e3, e4⟩ := Row.five hSw.2; (try dsimp only at a0 a1 a2 a3 a4 a5 a6 e0 e1 e2 e3 e4); go_simp; try with_reducible rfl)
  try simp only [Act.put, List.setIfInBounds_toArray, List.set_cons_zero, List.set_cons_succ]
  refine anyT_two (i := 6) (j := 8) (by kernel_rfl) (by simp only [List.getElem?_toArray, List.getElem?_cons_succ, List.getElem?_cons_zero]; exact rfl) (by simp only [List.getElem?_toArray, List.getElem?_cons_succ, List.getElem?_cons_zero]; exact rfl) (fun K hK => ?_) (fun K hK => ?_)
  · skip
    try go_simp
    refine (copy_any R _ wd HD.out.hq.pin (Nat.le_trans HLR.out (by omega))).mono ?_
    rintro e w9 ⟨q9, rfl, hq9, hb9⟩
    obtain ⟨A9, c9, rfl, _, _, _, _⟩ := hq9.pin
    have HF := hide (HD.out.below hb9)
    have HE := hide (HD.out.owner (i := i) (z := ⟨⟨q, R⟩, A9, c9⟩) hb9 hq9 (Nat.le_trans HLR.out (by omega)) H83.out)
    clear hq9 hb9
    refine hK.out _ _ (fun e => ⟨HF.out.b1.rc, HF.out.rr⟩) ?_
    clear hK K
    try simp only [Act.put, List.setIfInBounds_toArray, List.set_cons_zero, List.set_cons_succ]
    refine anyT_take (i := 7) (v := ?ov7_d) (by simp only [List.getElem?_toArray, List.getElem?_cons_succ, List.getElem?_cons_zero]; exact rfl) (by kernel_rfl) (by kernel_rfl) (fun _ _ _ h => h) (by kernel_rfl) (by kernel_rfl) (Or.inl ⟨by rfl, ?oy7_d⟩) (by with_reducible exact ⟨HF.out.b1.rc, HF.out.rr⟩) ?or7_d
    case oy7_d => (intro w hSw; skip; go_simp; try with_reducible rfl)
    try simp only [Act.put, List.setIfInBounds_toArray, List.set_cons_zero, List.set_cons_succ]
    refine anyT_one (i := 8) (by kernel_rfl) (by simp only [List.getElem?_toArray, List.getElem?_cons_succ, List.getElem?_cons_zero]; exact rfl) (fun K hK => ?_)
    try go_simp
    refine hK.out _ _ (fun e => ⟨HF.out.b1.rc, HF.out.rr⟩) ?_
    clear hK K
    try simp only [Act.put, List.setIfInBounds_toArray, List.set_cons_zero, List.set_cons_succ]
    refine anyT_one (i := 9) (by kernel_rfl) (by simp only [List.getElem?_toArray, List.getElem?_cons_succ, List.getElem?_cons_zero]; exact rfl) (fun K hK => ?_)
    try go_simp
    refine hK.out _ _ (fun e => ⟨HF.out.b1.rc, HF.out.rr⟩) ?_
    clear hK K
    try simp only [Act.put, List.setIfInBounds_toArray, List.set_cons_zero, List.set_cons_succ]
    refine anyT_one (i := 10) (by kernel_rfl) (by simp only [List.getElem?_toArray, List.getElem?_cons_succ, List.getElem?_cons_zero]; exact rfl) (fun K hK => ?_)
    refine step_storeO49 (k := i) (o' := ⟨⟨q, R⟩, A9, c9⟩) (by rfl) (by rfl) HF.out.rt H83.out HY.out ?_
    refine hK.out _ _ (fun e => absurd rfl e) ?_
    clear hK K
    refine anyT_done (by kernel_rfl) ?_
    refine NoPanic.normal ?_
    try simp only [Act.put]
    generalize w9.setRow gt (stc (.slice A6 l'.length c6) (M3.set i ⟨⟨q, R⟩, A9, c9⟩)) = w10 at HE ⊢
    have HIS2 := hide (HE.out.2.2.2.2 _ HIS.out (Nat.le_trans HLL.out (by omega)))
    go_upto_region 14 with (fail)
    refine wp_region_noPanic ?_
    refine wp_region_T 3 (fun w' => Row w' gt 30 (stc (.slice A6 l'.length c6) (M3.set i ⟨⟨q, R⟩, A9, c9⟩)) ∧ Row w' gr 25 (reV R (.slice B6 R.l.length d6))) (by kernel_rfl) ?_
    have KD := kept_drewN (kept_refl w10) 1
    have HD := hide (show Row (World.drew w10) gt 30 (stc (.slice A6 l'.length c6) (M3.set i ⟨⟨q, R⟩, A9, c9⟩)) ∧ Row (World.drew w10) gr 25 (reV R (.slice B6 R.l.length d6)) ∧ Fin false w (World.drew w10) (.slice A6 l'.length c6) (M3.set i ⟨⟨q, R⟩, A9, c9⟩) ⟨l', s.o.set i ⟨q, R⟩⟩ R (.slice B6 R.l.length d6) from ⟨HE.out.2.1.drew, HE.out.2.2.1.drew, ((HE.out.1.below KD).fin (T := false) (HIS2.out.below KD) HC2.out.hb (HE.out.2.2.2.1.below KD) HC2.out.hb (Nat.le_trans HLR.out (by omega)) (fun h => by cases h))⟩)
    clear KD
    generalize World.drew _ = we at HD ⊢
    refine anyT_take (i := 0) (v := .agg (stc (.slice A6 l'.length c6) (M3.set i ⟨⟨q, R⟩, A9, c9⟩))) (by simp only [List.getElem?_toArray, List.getElem?_cons_zero]; exact rfl) (by kernel_rfl) (by kernel_rfl) (fun _ _ _ h => h) (by kernel_rfl) (by kernel_rfl) (yields_load49 (x := .tmp 6) (by rfl) (by rfl) (by rfl) HD.out.2.2.n.eight (fun _ h => h.1)) (by with_reducible exact ⟨HD.out.1, HD.out.2.1⟩) ?_
    try simp only [Act.put, List.setIfInBounds_toArray, List.set_cons_zero, List.set_cons_succ]
    refine anyT_take (i := 1) (v := ?ov1_c) (by simp only [List.getElem?_toArray, List.getElem?_cons_succ, List.getElem?_cons_zero]; exact rfl) (by kernel_rfl) (by kernel_rfl) (fun _ _ _ h => h) (by kernel_rfl) (by kernel_rfl) (Or.inl ⟨by rfl, ?oy1_c⟩) (by with_reducible exact ⟨HD.out.1, HD.out.2.1⟩) ?or1_c
    case oy1_c => (intro w hSw; obtain ⟨e0, e1, e2, e3, e4⟩ := Row.five hSw.2; (try dsimp only at e0 e1 e2 e3 e4); go_simp; try with_reducible rfl)
    try simp only [Act.put, List.setIfInBounds_toArray, List.set_cons_zero, List.set_cons_succ]
    refine anyT_one (i := 2) (by kernel_rfl) (by simp only [List.getElem?_toArray, List.getElem?_cons_succ, List.getElem?_cons_zero]; exact rfl) (fun K hK => ?_)
    refine step_store49 (L := zeroL) (M := M3.set i ⟨⟨q, R⟩, A9, c9⟩) (by rfl) (by rfl) rfl HD.out.2.2.rz rfl HD.out.2.2.n.eight ?_
    refine hK.out _ _ (fun e => ⟨HD.out.1.setRow_other (by have := HC2.out.hb; have := HC2.out.hbg; have := HC2.out.lt; omega) _, HD.out.2.1.setRow_other (by have := HC2.out.hb; have := HC2.out.hbg; have := HC2.out.lt; omega) _⟩) ?_
    clear hK K
    try simp only [Act.put]
    obtain ⟨⟨i0, i1, i2, i3, i4⟩, j0, j1, j2, j3, j4⟩ := HD.out.2.2.cells
    refine anyT_one (i := 3) (by kernel_rfl) (by simp only [List.getElem?_toArray, List.getElem?_cons_succ, List.getElem?_cons_zero]; exact rfl) (fun K hK => ?_)
    try go_simp
    refine hK.out _ _ (fun e => absurd rfl e) ?_
    clear hK K
    refine anyT_done (by kernel_rfl) ?_
    refine NoPanic.normal ?_
    try simp only [Act.put]
    go_wp2_with fail
    refine bodyPost_ret (results_sr Try.results17 rfl HD.out.2.2.row2 HD.out.2.2.n.eight rfl HD.out.2.2.row3) rfl ?_
    rw [EAP.out, ENT.out]
    exact HD.out.2.2.ans
  · skip
    try go_simp
    refine hK.out _ _ (fun e => ⟨HD.out.b1.rc, HD.out.rr⟩) ?_
    clear hK K
    try simp only [Act.put, List.setIfInBounds_toArray, List.set_cons_zero, List.set_cons_succ]
    refine anyT_one (i := 6) (by kernel_rfl) (by simp only [List.getElem?_toArray, List.getElem?_cons_succ, List.getElem?_cons_zero]; exact rfl) (fun K hK => ?_)
    try go_simp
    refine (copy_any R _ wd HD.out.hq.pin (Nat.le_trans HLR.out (by omega))).mono ?_
    rintro e w9 ⟨q9, rfl, hq9, hb9⟩
    obtain ⟨A9, c9, rfl, _, _, _, _⟩ := hq9.pin
    have HF := hide (HD.out.below hb9)
    have HE := hide (HD.out.owner (i := i) (z := ⟨⟨q, R⟩, A9, c9⟩) hb9 hq9 (Nat.le_trans HLR.out (by omega)) H83.out)
    clear hq9 hb9
    refine hK.out _ _ (fun e => ⟨HF.out.b1.rc, HF.out.rr⟩) ?_
    clear hK K
    try simp only [Act.put, List.setIfInBounds_toArray, List.set_cons_zero, List.set_cons_succ]
    refine anyT_take (i := 7) (v := ?ov7_e) (by simp only [List.getElem?_toArray, List.getElem?_cons_succ, List.getElem?_cons_zero]; exact rfl) (by kernel_rfl) (by kernel_rfl) (fun _ _ _ h => h) (by kernel_rfl) (by kernel_rfl) (Or.inl ⟨by rfl, ?oy7_e⟩) (by with_reducible exact ⟨HF.out.b1.rc, HF.out.rr⟩) ?or7_e
    case oy7_e => (intro w hSw; skip; go_simp; try with_reducible rfl)
    try simp only [Act.put, List.setIfInBounds_toArray, List.set_cons_zero, List.set_cons_succ]
    refine anyT_one (i := 9) (by kernel_rfl) (by simp only [List.getElem?_toArray, List.getElem?_cons_succ, List.getElem?_cons_zero]; exact rfl) (fun K hK => ?_)
    try go_simp
    refine hK.out _ _ (fun e => ⟨HF.out.b1.rc, HF.out.rr⟩) ?_
    clear hK K
    try simp only [Act.put, List.setIfInBounds_toArray, List.set_cons_zero, List.set_cons_succ]
    refine anyT_one (i := 10) (by kernel_rfl) (by simp only [List.getElem?_toArray, List.getElem?_cons_succ, List.getElem?_cons_zero]; exact rfl) (fun K hK => ?_)
    refine step_storeO49 (k := i) (o' := ⟨⟨q, R⟩, A9, c9⟩) (by rfl) (by rfl) HF.out.rt H83.out HY.out ?_
    refine hK.out _ _ (fun e => absurd rfl e) ?_
    clear hK K
    refine anyT_done (by kernel_rfl) ?_
    refine NoPanic.normal ?_
    try simp only [Act.put]
    generalize w9.setRow gt (stc (.slice A6 l'.length c6) (M3.set i ⟨⟨q, R⟩, A9, c9⟩)) = w10 at HE ⊢
    have HIS2 := hide (HE.out.2.2.2.2 _ HIS.out (Nat.le_trans HLL.out (by omega)))
    go_upto_region 14 with (fail)
    refine wp_region_noPanic ?_
    refine wp_region_T 3 (fun w' => Row w' gt 30 (stc (.slice A6 l'.length c6) (M3.set i ⟨⟨q, R⟩, A9, c9⟩)) ∧ Row w' gr 25 (reV R (.slice B6 R.l.length d6))) (by kernel_rfl) ?_
    have KD := kept_drewN (kept_refl w10) 1
    have HD := hide (show Row (World.drew w10) gt 30 (stc (.slice A6 l'.length c6) (M3.set i ⟨⟨q, R⟩, A9, c9⟩)) ∧ Row (World.drew w10) gr 25 (reV R (.slice B6 R.l.length d6)) ∧ Fin false w (World.drew w10) (.slice A6 l'.length c6) (M3.set i ⟨⟨q, R⟩, A9, c9⟩) ⟨l', s.o.set i ⟨q, R⟩⟩ R (.slice B6 R.l.length d6) from ⟨HE.out.2.1.drew, HE.out.2.2.1.drew, ((HE.out.1.below KD).fin (T := false) (HIS2.out.below KD) HC2.out.hb (HE.out.2.2.2.1.below KD) HC2.out.hb (Nat.le_trans HLR.out (by omega)) (fun h => by cases h))⟩)
    clear KD
    generalize World.drew _ = we at HD ⊢
    refine anyT_take (i := 0) (v := .agg (stc (.slice A6 l'.length c6) (M3.set i ⟨⟨q, R⟩, A9, c9⟩))) (by simp only [List.getElem?_toArray, List.getElem?_cons_zero]; exact rfl) (by kernel_rfl) (by kernel_rfl) (fun _ _ _ h => h) (by kernel_rfl) (by kernel_rfl) (yields_load49 (x := .tmp 6) (by rfl) (by rfl) (by rfl) HD.out.2.2.n.eight (fun _ h => h.1)) (by with_reducible exact ⟨HD.out.1, HD.out.2.1⟩) ?_
    try simp only [Act.put, List.setIfInBounds_toArray, List.set_cons_zero, List.set_cons_succ]
    refine anyT_take (i := 1) (v := ?ov1_f) (by simp only [List.getElem?_toArray, List.getElem?_cons_succ, List.getElem?_cons_zero]; exact rfl) (by kernel_rfl) (by kernel_rfl) (fun _ _ _ h => h) (by kernel_rfl) (by kernel_rfl) (Or.inl ⟨by rfl, ?oy1_f⟩) (by with_reducible exact ⟨HD.out.1, HD.out.2.1⟩) ?or1_f
    case oy1_f => (intro w hSw; obtain ⟨e0, e1, e2, e3, e4⟩ := Row.five hSw.2; (try dsimp only at e0 e1 e2 e3 e4); go_simp; try with_reducible rfl)
    try simp only [Act.put, List.setIfInBounds_toArray, List.set_cons_zero, List.set_cons_succ]
    refine anyT_one (i := 2) (by kernel_rfl) (by simp only [List.getElem?_toArray, List.getElem?_cons_succ, List.getElem?_cons_zero]; exact rfl) (fun K hK => ?_)
    refine step_store49 (L := zeroL) (M := M3.set i ⟨⟨q, R⟩, A9, c9⟩) (by rfl) (by rfl) rfl HD.out.2.2.rz rfl HD.out.2.2.n.eight ?_
    refine hK.out _ _ (fun e => ⟨HD.out.1.setRow_other (by have := HC2.out.hb; have := HC2.out.hbg; have := HC2.out.lt; omega) _, HD.out.2.1.setRow_other (by have := HC2.out.hb; have := HC2.out.hbg; have := HC2.out.lt; omega) _⟩) ?_
    clear hK K
    try simp only [Act.put]
    obtain ⟨⟨i0, i1, i2, i3, i4⟩, j0, j1, j2, j3, j4⟩ := HD.out.2.2.cells
    refine anyT_one (i := 3) (by kernel_rfl) (by simp only [List.getElem?_toArray, List.getElem?_cons_succ, List.getElem?_cons_zero]; exact rfl) (fun K hK => ?_)
    try go_simp
    refine hK.out _ _ (fun e => absurd rfl e) ?_
    clear hK K
    refine anyT_done (by kernel_rfl) ?_
    refine NoPanic.normal ?_
    try simp only [Act.put]
    go_wp2_with fail
    refine bodyPost_ret (results_sr Try.results17 rfl HD.out.2.2.row2 HD.out.2.2.n.eight rfl HD.out.2.2.row3) rfl ?_
    rw [EAP.out, ENT.out]
    exact HD.out.2.2.ans
end Go.Proofs.Ytahfpncfkcfogaa
