/- slices.Equal of pairs; the program's sameOwner. Conditions: the slices lie in memory, their lengths have room. -/
import Derived.Test.YtahfpncfkcfogaaGm
import Derived.Test.YtahfpncfkcfogaaGa
import Derived.Test.YtahfpncfkcfogaaGb
import Derived.Test.YtahfpncfkcfogaaGo
import Derived.BigQuiet
namespace Go.Proofs.Ytahfpncfkcfogaa
set_option maxRecDepth 100000
open Go.RowKit
set_option maxHeartbeats 1000000 in
theorem equal_any (A B : Option Addr) (n m c d : Nat) (zs ys : List Pr) (w : World) (hn : zs.length = n) (hm : ys.length = m) (hz : Prs w A zs) (hy : Prs w B ys) (ln : n ≤ 4611686018427387904) (lm : m ≤ 4611686018427387904) :
    Calls Try.prog 43 #[.slice A n c, .slice B m d] w fun e w' => e = .returned (.bool (decide (zs = ys))) ∧ ∃ q, w' = w.drewN q := by
  subst hn hm
  by_cases hl : zs.length = ys.length
  · have hb : ((zs.length : Int) != (ys.length : Int)) = false := by rw [hl]; simp
    have HL := hide hl
    clear hl
    go_enter Try.func43, Try.ntmps43
    go_wp2
    go_loopw [13] (fun i wr => ∃ k q : Nat, k ≤ zs.length ∧ i = .int .i64 k ∧ wr = w.drewN q ∧ Hid (∀ j, j < k → zs[j]? = ys[j]?)) (fun i _ => zs.length - (intOf i).toNat)
    case atStart => exact ⟨0, 0, by omega, rfl, rfl, fun j hj => absurd hj (by omega)⟩
    case round =>
      obtain ⟨k, q, hk, rfl, rfl, hs⟩ := hrel
      by_cases hlt : k < zs.length
      · have hl := HL.out
        obtain ⟨x, hx⟩ : ∃ x, zs[k]? = some x := ⟨_, List.getElem?_eq_getElem hlt⟩
        obtain ⟨y, hyy⟩ : ∃ x, ys[k]? = some x := ⟨_, List.getElem?_eq_getElem (by omega)⟩
        obtain ⟨b1, o1, rfl, _, c0, c1, c2⟩ := hz.at_ hx
        obtain ⟨b2, o2, rfl, _, d0, d1, d2⟩ := hy.at_ hyy
        have heq := neq_pair x y
        have lt1 : k < ys.length := by omega
        have Hz := hide hz; have Hy := hide hy; have HX := hide hx; have HY := hide hyy; clear hz hy hx hyy hl
        by_cases he : x = y
        · rw [decide_eq_true he] at heq
          have HE := hide he
          clear he
          go_wp2
          go_quiet (fail)
          go_wp2
          go_roundw
          case rel => exact ⟨k + 1, _, by omega, by go_num, rfl, fun j hj => by
            rcases Nat.lt_or_ge j k with h1 | h1
            · exact hs.out j h1
            · obtain rfl : j = k := by omega
              rw [HX.out, HY.out, HE.out]⟩
          case measure => simp [intOf]; omega
        · rw [decide_eq_false he] at heq
          have HE := hide he
          clear he
          go_wp2
          go_quiet (fail)
          go_wp2
          go_ret
          refine ⟨ret_bool ?_, _, World.drewN_drewN _ _ _⟩
          symm; rw [decide_eq_false_iff_not]; rintro rfl
          have := HX.out.symm.trans HY.out
          exact HE.out (Option.some.inj this)
      · go_wp2
        go_ret
        refine ⟨ret_bool ?_, _, rfl⟩
        symm; rw [decide_eq_true_iff]
        apply List.ext_getElem?
        intro j
        rcases Nat.lt_or_ge j k with h1 | h1
        · exact hs.out j h1
        · rw [List.getElem?_eq_none (by omega), List.getElem?_eq_none (by have := HL.out; omega)]
  · have hb : ((zs.length : Int) != (ys.length : Int)) = true := by simp; omega
    have HL := hide hl
    clear hl
    go_enter Try.func43, Try.ntmps43
    go_wp2
    go_ret
    exact ⟨ret_bool (by symm; rw [decide_eq_false_iff_not]; rintro rfl; exact HL.out rfl), 0, rfl⟩
theorem equal_below (v u : Value) (l m : List Pr) (w : World) (h : Pin w v l) (k : Pin w u m) (ln : l.length ≤ 4611686018427387904) (lm : m.length ≤ 4611686018427387904) :
    Calls Try.prog 43 #[v, u] w fun e w' => e = .returned (.bool (decide (l = m))) ∧ Below w.heap.size w w' := by
  obtain ⟨A, c, rfl, _, _, _, hl⟩ := h
  obtain ⟨B, d, rfl, _, _, _, hm⟩ := k
  exact (equal_any A B _ _ c d l m w rfl rfl hl hm ln lm).mono fun _ _ ⟨he, q, hq⟩ => ⟨he, by subst hq; exact kept_drewN (kept_refl w) q⟩
/-- Two owners boxed, their replies apart. -/
structure So (W w : World) (x y : Co) (h1 h2 : Nat) : Prop where
  rx : Row w W.heap.size 27 x.cs.toArray
  ry : Row w (W.heap.size + 1) 27 y.cs.toArray
  r1 : Row w h1 25 (reV x.o.r x.p)
  r2 : Row w h2 25 (reV y.o.r y.p)
  bel : Below W.heap.size W w
theorem ow_ne {a b : Ow} (h : a.s ≠ b.s ∨ a.r.why ≠ b.r.why ∨ a.r.fnd ≠ b.r.fnd ∨ eqB a.r.val b.r.val = false ∨ a.r.ver ≠ b.r.ver ∨ a.r.l ≠ b.r.l) : decide (a = b) = false := decide_eq_false fun e => by
  subst e
  rcases h with h | h | h | h | h | h
  · exact h rfl
  · exact h rfl
  · exact h rfl
  · rw [(eq_iff _ _).2 rfl] at h; cases h
  · exact h rfl
  · exact h rfl
set_option maxHeartbeats 8000000 in
theorem so_any (x y : Co) (w : World) (hx : Pin w x.p x.o.r.l) (hy : Pin w y.p y.o.r.l) (lx : x.o.r.l.length ≤ 4611686018427387904) (ly : y.o.r.l.length ≤ 4611686018427387904) :
    Calls Try.prog 45 #[.agg x.cs.toArray, .agg y.cs.toArray] w fun e w' => e = .returned (.bool (decide (x.o = y.o))) ∧ Below w.heap.size w w' := by
  obtain ⟨⟨s, ⟨why, fnd, val, ver, l⟩⟩, A, c⟩ := x
  obtain ⟨⟨s', ⟨why', fnd', val', ver', l'⟩⟩, B, d⟩ := y
  have HX := hide hx
  have HY := hide hy
  clear hx hy
  unfold Co.cs Co.p at *
  dsimp only at *
  have R0 := hide (Row.new w 27 #[.int .i64 s, .int .i64 why, .bool fnd, .string val, .int .i64 ver, .slice A l.length c])
  have K0 := hide (kept_alloc (kept_refl w) (.cells #[.int .i64 s, .int .i64 why, .bool fnd, .string val, .int .i64 ver, .slice A l.length c] 27))
  have S0 : Hid ((w.alloc (.cells #[.int .i64 s, .int .i64 why, .bool fnd, .string val, .int .i64 ver, .slice A l.length c] 27)).heap.size = w.heap.size + 1) := hide (by simp)
  go_enter Try.func45, Try.ntmps45
  go_upto_region 1 with (fail)
  generalize w.alloc (.cells #[.int .i64 s, .int .i64 why, .bool fnd, .string val, .int .i64 ver, .slice A l.length c] 27) = w1 at R0 K0 S0 ⊢
  have R1 := hide (Row.new w1 27 #[.int .i64 s', .int .i64 why', .bool fnd', .string val', .int .i64 ver', .slice B l'.length d])
  rw [S0.out] at R1
  have R01 := hide (R0.out.alloc (.cells #[.int .i64 s', .int .i64 why', .bool fnd', .string val', .int .i64 ver', .slice B l'.length d] 27))
  have K1 := hide (kept_alloc K0.out (.cells #[.int .i64 s', .int .i64 why', .bool fnd', .string val', .int .i64 ver', .slice B l'.length d] 27))
  clear R0 K0
  generalize w1.alloc (.cells #[.int .i64 s', .int .i64 why', .bool fnd', .string val', .int .i64 ver', .slice B l'.length d] 27) = w2 at R1 R01 K1 ⊢
  clear S0
  obtain ⟨c0, c1, c2, c3, c4, c5⟩ := R01.out.six
  obtain ⟨d0, d1, d2, d3, d4, d5⟩ := R1.out.six
  go_cut [5, 6] (fun s5 s6 wx => ∃ h1 h2, s5 = .pointer (some ⟨h1, 0, none⟩) ∧ s6 = .pointer (some ⟨h2, 0, none⟩) ∧ So w wx ⟨⟨s, ⟨why, fnd, val, ver, l⟩⟩, A, c⟩ ⟨⟨s', ⟨why', fnd', val', ver', l'⟩⟩, B, d⟩ h1 h2)
  case first =>
    clear c0 c1 c2 c3 c4 c5 d0 d1 d2 d3 d4 d5
    refine wp_region_noPanic ?_
    refine wp_region_T 7 (fun w' => Row w' w.heap.size 27 #[.int .i64 s, .int .i64 why, .bool fnd, .string val, .int .i64 ver, .slice A l.length c] ∧ Row w' (w.heap.size + 1) 27 #[.int .i64 s', .int .i64 why', .bool fnd', .string val', .int .i64 ver', .slice B l'.length d]) (by kernel_rfl) ?_
    have HD := hide (show Row (World.drew w2) w.heap.size 27 #[.int .i64 s, .int .i64 why, .bool fnd, .string val, .int .i64 ver, .slice A l.length c] ∧ Row (World.drew w2) (w.heap.size + 1) 27 #[.int .i64 s', .int .i64 why', .bool fnd', .string val', .int .i64 ver', .slice B l'.length d] ∧ Below w.heap.size w (World.drew w2) from ⟨R01.out.drew, R1.out.drew, kept_drewN K1.out 1⟩)
    generalize World.drew w2 = wd at HD ⊢
    refine anyT_take (i := 0) (v := ?ov0_s) (by simp only [List.getElem?_toArray, List.getElem?_cons_zero]; exact rfl) (by kernel_rfl) (by kernel_rfl) (fun _ _ _ h => h) (by kernel_rfl) (by kernel_rfl) (Or.inl ⟨by rfl, ?oy0_s⟩) (by with_reducible exact ⟨HD.out.1, HD.out.2.1⟩) ?or0_s
    case oy0_s => (intro w hSw; obtain ⟨c0, c1, c2, c3, c4, c5⟩ := hSw.1.six; obtain ⟨d0, d1, d2, d3, d4, d5⟩ := hSw.2.six; go_simp; try with_reducible rfl)
    try simp only [Act.put, List.setIfInBounds_toArray, List.set_cons_zero, List.set_cons_succ]
    refine anyT_take (i := 1) (v := ?ov1_s) (by simp only [List.getElem?_toArray, List.getElem?_cons_succ, List.getElem?_cons_zero]; exact rfl) (by kernel_rfl) (by kernel_rfl) (fun _ _ _ h => h) (by kernel_rfl) (by kernel_rfl) (Or.inl ⟨by rfl, ?oy1_s⟩) (by with_reducible exact ⟨HD.out.1, HD.out.2.1⟩) ?or1_s
    case oy1_s => (intro w hSw; obtain ⟨c0, c1, c2, c3, c4, c5⟩ := hSw.1.six; obtain ⟨d0, d1, d2, d3, d4, d5⟩ := hSw.2.six; go_simp; try with_reducible rfl)
    try simp only [Act.put, List.setIfInBounds_toArray, List.set_cons_zero, List.set_cons_succ]
    refine anyT_take (i := 2) (v := ?ov2_s) (by simp only [List.getElem?_toArray, List.getElem?_cons_succ, List.getElem?_cons_zero]; exact rfl) (by kernel_rfl) (by kernel_rfl) (fun _ _ _ h => h) (by kernel_rfl) (by kernel_rfl) (Or.inl ⟨by rfl, ?oy2_s⟩) (by with_reducible exact ⟨HD.out.1, HD.out.2.1⟩) ?or2_s
    case oy2_s => (intro w hSw; obtain ⟨c0, c1, c2, c3, c4, c5⟩ := hSw.1.six; obtain ⟨d0, d1, d2, d3, d4, d5⟩ := hSw.2.six; go_simp; try with_reducible rfl)
    try simp only [Act.put, List.setIfInBounds_toArray, List.set_cons_zero, List.set_cons_succ]
    refine anyT_take (i := 3) (v := ?ov3_s) (by simp only [List.getElem?_toArray, List.getElem?_cons_succ, List.getElem?_cons_zero]; exact rfl) (by kernel_rfl) (by kernel_rfl) (fun _ _ _ h => h) (by kernel_rfl) (by kernel_rfl) (Or.inl ⟨by rfl, ?oy3_s⟩) (by with_reducible exact ⟨HD.out.1, HD.out.2.1⟩) ?or3_s
    case oy3_s => (intro w hSw; obtain ⟨c0, c1, c2, c3, c4, c5⟩ := hSw.1.six; obtain ⟨d0, d1, d2, d3, d4, d5⟩ := hSw.2.six; go_simp; try with_reducible rfl)
    try simp only [Act.put, List.setIfInBounds_toArray, List.set_cons_zero, List.set_cons_succ]
    refine anyT_two (i := 4) (j := 5) (by kernel_rfl) (by simp only [List.getElem?_toArray, List.getElem?_cons_succ, List.getElem?_cons_zero]; exact rfl) (by simp only [List.getElem?_toArray, List.getElem?_cons_succ, List.getElem?_cons_zero]; exact rfl) (fun K hK => ?_) (fun K hK => ?_)
    · skip
      try go_simp
      have ka := kept_alloc (kept_refl wd) (.cells #[.int .i64 0, .bool false, .string { data := #[] }, .int .i64 0, .slice none 0 0] 25)
      have RA := hide (Row.new wd 25 #[.int .i64 0, .bool false, .string { data := #[] }, .int .i64 0, .slice none 0 0])
      have HE := hide (show Row (wd.alloc (.cells #[.int .i64 0, .bool false, .string { data := #[] }, .int .i64 0, .slice none 0 0] 25)) w.heap.size 27 #[.int .i64 s, .int .i64 why, .bool fnd, .string val, .int .i64 ver, .slice A l.length c] ∧ Row (wd.alloc (.cells #[.int .i64 0, .bool false, .string { data := #[] }, .int .i64 0, .slice none 0 0] 25)) (w.heap.size + 1) 27 #[.int .i64 s', .int .i64 why', .bool fnd', .string val', .int .i64 ver', .slice B l'.length d] ∧ Below w.heap.size w (wd.alloc (.cells #[.int .i64 0, .bool false, .string { data := #[] }, .int .i64 0, .slice none 0 0] 25)) from ⟨HD.out.1.alloc _, HD.out.2.1.alloc _, kept_trans HD.out.2.2 ka⟩)
      have GA := hide (show w.heap.size + 1 < wd.heap.size from HD.out.2.1.lt)
      clear ka
      refine hK.out _ _ (fun e => ⟨HE.out.1, HE.out.2.1⟩) ?_
      clear hK K
      try simp only [Act.put, List.setIfInBounds_toArray, List.set_cons_zero, List.set_cons_succ]
      refine anyT_one (i := 5) (by kernel_rfl) (by simp only [List.getElem?_toArray, List.getElem?_cons_succ, List.getElem?_cons_zero]; exact rfl) (fun K hK => ?_)
      try go_simp
      have SZ : (wd.alloc (.cells #[.int .i64 0, .bool false, .string { data := #[] }, .int .i64 0, .slice none 0 0] 25)).heap.size = wd.heap.size + 1 := by simp
      generalize wd.alloc (.cells #[.int .i64 0, .bool false, .string { data := #[] }, .int .i64 0, .slice none 0 0] 25) = we at RA HE SZ ⊢
      generalize wd.heap.size = ga at RA GA SZ ⊢
      have ka := kept_alloc (kept_refl we) (.cells #[.int .i64 0, .bool false, .string { data := #[] }, .int .i64 0, .slice none 0 0] 25)
      have RB := hide (Row.new we 25 #[.int .i64 0, .bool false, .string { data := #[] }, .int .i64 0, .slice none 0 0])
      rw [SZ] at RB
      have RA2 := hide (RA.out.alloc (.cells #[.int .i64 0, .bool false, .string { data := #[] }, .int .i64 0, .slice none 0 0] 25))
      have GB := hide (show ga < ga + 1 from Nat.lt_succ_self _)
      have HF := hide (show Row (we.alloc (.cells #[.int .i64 0, .bool false, .string { data := #[] }, .int .i64 0, .slice none 0 0] 25)) w.heap.size 27 #[.int .i64 s, .int .i64 why, .bool fnd, .string val, .int .i64 ver, .slice A l.length c] ∧ Row (we.alloc (.cells #[.int .i64 0, .bool false, .string { data := #[] }, .int .i64 0, .slice none 0 0] 25)) (w.heap.size + 1) 27 #[.int .i64 s', .int .i64 why', .bool fnd', .string val', .int .i64 ver', .slice B l'.length d] ∧ Below w.heap.size w (we.alloc (.cells #[.int .i64 0, .bool false, .string { data := #[] }, .int .i64 0, .slice none 0 0] 25)) from ⟨HE.out.1.alloc _, HE.out.2.1.alloc _, kept_trans HE.out.2.2 ka⟩)
      clear ka RA HE
      refine hK.out _ _ (fun e => ⟨HF.out.1, HF.out.2.1⟩) ?_
      clear hK K
      try simp only [Act.put, List.setIfInBounds_toArray, List.set_cons_zero, List.set_cons_succ]
      generalize we.alloc (.cells #[.int .i64 0, .bool false, .string { data := #[] }, .int .i64 0, .slice none 0 0] 25) = wf at RA2 RB HF ⊢
      clear SZ
      have H1 := hide RA2.out
      have H2 := hide RB.out
      have N12 := hide (show ¬ (ga = (ga + 1)) from by have := GB.out; omega)
      have F1 := hide (show w.heap.size + 1 < ga from by have := GA.out; have := GB.out; omega)
      have F2 := hide (show w.heap.size + 1 < (ga + 1) from by have := GA.out; have := GB.out; omega)
      clear RA2 RB GA GB
      obtain ⟨e0, e1, e2, e3, e4⟩ := H1.out.five
      have f0 := H1.out.free 0
      have f1 := H1.out.free 1
      have f2 := H1.out.free 2
      have f3 := H1.out.free 3
      have f4 := H1.out.free 4
      refine anyT_one (i := 6) (by kernel_rfl) (by simp only [List.getElem?_toArray, List.getElem?_cons_succ, List.getElem?_cons_zero]; exact rfl) (fun K hK => ?_)
      try go_simp
      have HG := hide (show (Row (((((wf.setCell ⟨ga, 0, none⟩ (.int .i64 why)).setCell ⟨ga, 1, none⟩ (.bool fnd)).setCell ⟨ga, 2, none⟩ (.string val)).setCell ⟨ga, 3, none⟩ (.int .i64 ver)).setCell ⟨ga, 4, none⟩ (.slice A l.length c)) w.heap.size 27 #[.int .i64 s, .int .i64 why, .bool fnd, .string val, .int .i64 ver, .slice A l.length c] ∧ Row (((((wf.setCell ⟨ga, 0, none⟩ (.int .i64 why)).setCell ⟨ga, 1, none⟩ (.bool fnd)).setCell ⟨ga, 2, none⟩ (.string val)).setCell ⟨ga, 3, none⟩ (.int .i64 ver)).setCell ⟨ga, 4, none⟩ (.slice A l.length c)) (w.heap.size + 1) 27 #[.int .i64 s', .int .i64 why', .bool fnd', .string val', .int .i64 ver', .slice B l'.length d] ∧ Below w.heap.size w (((((wf.setCell ⟨ga, 0, none⟩ (.int .i64 why)).setCell ⟨ga, 1, none⟩ (.bool fnd)).setCell ⟨ga, 2, none⟩ (.string val)).setCell ⟨ga, 3, none⟩ (.int .i64 ver)).setCell ⟨ga, 4, none⟩ (.slice A l.length c))) ∧ Row (((((wf.setCell ⟨ga, 0, none⟩ (.int .i64 why)).setCell ⟨ga, 1, none⟩ (.bool fnd)).setCell ⟨ga, 2, none⟩ (.string val)).setCell ⟨ga, 3, none⟩ (.int .i64 ver)).setCell ⟨ga, 4, none⟩ (.slice A l.length c)) ga 25 #[.int .i64 why, .bool fnd, .string val, .int .i64 ver, .slice A l.length c] ∧ Row (((((wf.setCell ⟨ga, 0, none⟩ (.int .i64 why)).setCell ⟨ga, 1, none⟩ (.bool fnd)).setCell ⟨ga, 2, none⟩ (.string val)).setCell ⟨ga, 3, none⟩ (.int .i64 ver)).setCell ⟨ga, 4, none⟩ (.slice A l.length c)) (ga + 1) 25 #[.int .i64 0, .bool false, .string { data := #[] }, .int .i64 0, .slice none 0 0] from by
        have n12 := N12.out
        have n1 := F1.out
        exact ⟨⟨((((HF.out.1.putOff (by omega) _).putOff (by omega) _).putOff (by omega) _).putOff (by omega) _).putOff (by omega) _, ((((HF.out.2.1.putOff (by omega) _).putOff (by omega) _).putOff (by omega) _).putOff (by omega) _).putOff (by omega) _, below_put5 HF.out.2.2 (by omega) _ _ _ _ _⟩, H1.out.five_put _ _ _ _ _, ((((H2.out.putOff (by omega) _).putOff (by omega) _).putOff (by omega) _).putOff (by omega) _).putOff (by omega) _⟩)
      refine hK.out _ _ (fun e => ⟨HG.out.1.1, HG.out.1.2.1⟩) ?_
      clear hK K e0 e1 e2 e3 e4 f0 f1 f2 f3 f4 H1 H2
      try simp only [Act.put]
      generalize ((((wf.setCell ⟨ga, 0, none⟩ (.int .i64 why)).setCell ⟨ga, 1, none⟩ (.bool fnd)).setCell ⟨ga, 2, none⟩ (.string val)).setCell ⟨ga, 3, none⟩ (.int .i64 ver)).setCell ⟨ga, 4, none⟩ (.slice A l.length c) = wg at HG ⊢
      obtain ⟨e0, e1, e2, e3, e4⟩ := HG.out.2.2.five
      have f0 := HG.out.2.2.free 0
      have f1 := HG.out.2.2.free 1
      have f2 := HG.out.2.2.free 2
      have f3 := HG.out.2.2.free 3
      have f4 := HG.out.2.2.free 4
      refine anyT_one (i := 7) (by kernel_rfl) (by simp only [List.getElem?_toArray, List.getElem?_cons_succ, List.getElem?_cons_zero]; exact rfl) (fun K hK => ?_)
      try go_simp
      refine hK.out _ _ (fun e => absurd rfl e) ?_
      clear hK K
      refine anyT_done (by kernel_rfl) ?_
      refine NoPanic.normal ?_
      try simp only [Act.put]
      go_wp2_with fail
      go_meet
      have n12 := N12.out
      have n1 := F1.out
      have n2 := F2.out
      exact ⟨ga, (ga + 1), rfl, rfl, ⟨((((HG.out.1.1.putOff (by omega) _).putOff (by omega) _).putOff (by omega) _).putOff (by omega) _).putOff (by omega) _, ((((HG.out.1.2.1.putOff (by omega) _).putOff (by omega) _).putOff (by omega) _).putOff (by omega) _).putOff (by omega) _, ((((HG.out.2.1.putOff (by omega) _).putOff (by omega) _).putOff (by omega) _).putOff (by omega) _).putOff (by omega) _, HG.out.2.2.five_put _ _ _ _ _, below_put5 HG.out.1.2.2 (by omega) _ _ _ _ _⟩⟩
    · skip
      try go_simp
      have ka := kept_alloc (kept_refl wd) (.cells #[.int .i64 0, .bool false, .string { data := #[] }, .int .i64 0, .slice none 0 0] 25)
      have RA := hide (Row.new wd 25 #[.int .i64 0, .bool false, .string { data := #[] }, .int .i64 0, .slice none 0 0])
      have HE := hide (show Row (wd.alloc (.cells #[.int .i64 0, .bool false, .string { data := #[] }, .int .i64 0, .slice none 0 0] 25)) w.heap.size 27 #[.int .i64 s, .int .i64 why, .bool fnd, .string val, .int .i64 ver, .slice A l.length c] ∧ Row (wd.alloc (.cells #[.int .i64 0, .bool false, .string { data := #[] }, .int .i64 0, .slice none 0 0] 25)) (w.heap.size + 1) 27 #[.int .i64 s', .int .i64 why', .bool fnd', .string val', .int .i64 ver', .slice B l'.length d] ∧ Below w.heap.size w (wd.alloc (.cells #[.int .i64 0, .bool false, .string { data := #[] }, .int .i64 0, .slice none 0 0] 25)) from ⟨HD.out.1.alloc _, HD.out.2.1.alloc _, kept_trans HD.out.2.2 ka⟩)
      have GA := hide (show w.heap.size + 1 < wd.heap.size from HD.out.2.1.lt)
      clear ka
      refine hK.out _ _ (fun e => ⟨HE.out.1, HE.out.2.1⟩) ?_
      clear hK K
      try simp only [Act.put, List.setIfInBounds_toArray, List.set_cons_zero, List.set_cons_succ]
      refine anyT_one (i := 4) (by kernel_rfl) (by simp only [List.getElem?_toArray, List.getElem?_cons_succ, List.getElem?_cons_zero]; exact rfl) (fun K hK => ?_)
      try go_simp
      have SZ : (wd.alloc (.cells #[.int .i64 0, .bool false, .string { data := #[] }, .int .i64 0, .slice none 0 0] 25)).heap.size = wd.heap.size + 1 := by simp
      generalize wd.alloc (.cells #[.int .i64 0, .bool false, .string { data := #[] }, .int .i64 0, .slice none 0 0] 25) = we at RA HE SZ ⊢
      generalize wd.heap.size = ga at RA GA SZ ⊢
      have ka := kept_alloc (kept_refl we) (.cells #[.int .i64 0, .bool false, .string { data := #[] }, .int .i64 0, .slice none 0 0] 25)
      have RB := hide (Row.new we 25 #[.int .i64 0, .bool false, .string { data := #[] }, .int .i64 0, .slice none 0 0])
      rw [SZ] at RB
      have RA2 := hide (RA.out.alloc (.cells #[.int .i64 0, .bool false, .string { data := #[] }, .int .i64 0, .slice none 0 0] 25))
      have GB := hide (show ga < ga + 1 from Nat.lt_succ_self _)
      have HF := hide (show Row (we.alloc (.cells #[.int .i64 0, .bool false, .string { data := #[] }, .int .i64 0, .slice none 0 0] 25)) w.heap.size 27 #[.int .i64 s, .int .i64 why, .bool fnd, .string val, .int .i64 ver, .slice A l.length c] ∧ Row (we.alloc (.cells #[.int .i64 0, .bool false, .string { data := #[] }, .int .i64 0, .slice none 0 0] 25)) (w.heap.size + 1) 27 #[.int .i64 s', .int .i64 why', .bool fnd', .string val', .int .i64 ver', .slice B l'.length d] ∧ Below w.heap.size w (we.alloc (.cells #[.int .i64 0, .bool false, .string { data := #[] }, .int .i64 0, .slice none 0 0] 25)) from ⟨HE.out.1.alloc _, HE.out.2.1.alloc _, kept_trans HE.out.2.2 ka⟩)
      clear ka RA HE
      refine hK.out _ _ (fun e => ⟨HF.out.1, HF.out.2.1⟩) ?_
      clear hK K
      try simp only [Act.put, List.setIfInBounds_toArray, List.set_cons_zero, List.set_cons_succ]
      generalize we.alloc (.cells #[.int .i64 0, .bool false, .string { data := #[] }, .int .i64 0, .slice none 0 0] 25) = wf at RA2 RB HF ⊢
      clear SZ
      have H1 := hide RB.out
      have H2 := hide RA2.out
      have N12 := hide (show ¬ ((ga + 1) = ga) from by have := GB.out; omega)
      have F1 := hide (show w.heap.size + 1 < (ga + 1) from by have := GA.out; have := GB.out; omega)
      have F2 := hide (show w.heap.size + 1 < ga from by have := GA.out; have := GB.out; omega)
      clear RA2 RB GA GB
      obtain ⟨e0, e1, e2, e3, e4⟩ := H1.out.five
      have f0 := H1.out.free 0
      have f1 := H1.out.free 1
      have f2 := H1.out.free 2
      have f3 := H1.out.free 3
      have f4 := H1.out.free 4
      refine anyT_one (i := 6) (by kernel_rfl) (by simp only [List.getElem?_toArray, List.getElem?_cons_succ, List.getElem?_cons_zero]; exact rfl) (fun K hK => ?_)
      try go_simp
      have HG := hide (show (Row (((((wf.setCell ⟨(ga + 1), 0, none⟩ (.int .i64 why)).setCell ⟨(ga + 1), 1, none⟩ (.bool fnd)).setCell ⟨(ga + 1), 2, none⟩ (.string val)).setCell ⟨(ga + 1), 3, none⟩ (.int .i64 ver)).setCell ⟨(ga + 1), 4, none⟩ (.slice A l.length c)) w.heap.size 27 #[.int .i64 s, .int .i64 why, .bool fnd, .string val, .int .i64 ver, .slice A l.length c] ∧ Row (((((wf.setCell ⟨(ga + 1), 0, none⟩ (.int .i64 why)).setCell ⟨(ga + 1), 1, none⟩ (.bool fnd)).setCell ⟨(ga + 1), 2, none⟩ (.string val)).setCell ⟨(ga + 1), 3, none⟩ (.int .i64 ver)).setCell ⟨(ga + 1), 4, none⟩ (.slice A l.length c)) (w.heap.size + 1) 27 #[.int .i64 s', .int .i64 why', .bool fnd', .string val', .int .i64 ver', .slice B l'.length d] ∧ Below w.heap.size w (((((wf.setCell ⟨(ga + 1), 0, none⟩ (.int .i64 why)).setCell ⟨(ga + 1), 1, none⟩ (.bool fnd)).setCell ⟨(ga + 1), 2, none⟩ (.string val)).setCell ⟨(ga + 1), 3, none⟩ (.int .i64 ver)).setCell ⟨(ga + 1), 4, none⟩ (.slice A l.length c))) ∧ Row (((((wf.setCell ⟨(ga + 1), 0, none⟩ (.int .i64 why)).setCell ⟨(ga + 1), 1, none⟩ (.bool fnd)).setCell ⟨(ga + 1), 2, none⟩ (.string val)).setCell ⟨(ga + 1), 3, none⟩ (.int .i64 ver)).setCell ⟨(ga + 1), 4, none⟩ (.slice A l.length c)) (ga + 1) 25 #[.int .i64 why, .bool fnd, .string val, .int .i64 ver, .slice A l.length c] ∧ Row (((((wf.setCell ⟨(ga + 1), 0, none⟩ (.int .i64 why)).setCell ⟨(ga + 1), 1, none⟩ (.bool fnd)).setCell ⟨(ga + 1), 2, none⟩ (.string val)).setCell ⟨(ga + 1), 3, none⟩ (.int .i64 ver)).setCell ⟨(ga + 1), 4, none⟩ (.slice A l.length c)) ga 25 #[.int .i64 0, .bool false, .string { data := #[] }, .int .i64 0, .slice none 0 0] from by
        have n12 := N12.out
        have n1 := F1.out
        exact ⟨⟨((((HF.out.1.putOff (by omega) _).putOff (by omega) _).putOff (by omega) _).putOff (by omega) _).putOff (by omega) _, ((((HF.out.2.1.putOff (by omega) _).putOff (by omega) _).putOff (by omega) _).putOff (by omega) _).putOff (by omega) _, below_put5 HF.out.2.2 (by omega) _ _ _ _ _⟩, H1.out.five_put _ _ _ _ _, ((((H2.out.putOff (by omega) _).putOff (by omega) _).putOff (by omega) _).putOff (by omega) _).putOff (by omega) _⟩)
      refine hK.out _ _ (fun e => ⟨HG.out.1.1, HG.out.1.2.1⟩) ?_
      clear hK K e0 e1 e2 e3 e4 f0 f1 f2 f3 f4 H1 H2
      try simp only [Act.put]
      generalize ((((wf.setCell ⟨(ga + 1), 0, none⟩ (.int .i64 why)).setCell ⟨(ga + 1), 1, none⟩ (.bool fnd)).setCell ⟨(ga + 1), 2, none⟩ (.string val)).setCell ⟨(ga + 1), 3, none⟩ (.int .i64 ver)).setCell ⟨(ga + 1), 4, none⟩ (.slice A l.length c) = wg at HG ⊢
      obtain ⟨e0, e1, e2, e3, e4⟩ := HG.out.2.2.five
      have f0 := HG.out.2.2.free 0
      have f1 := HG.out.2.2.free 1
      have f2 := HG.out.2.2.free 2
      have f3 := HG.out.2.2.free 3
      have f4 := HG.out.2.2.free 4
      refine anyT_one (i := 7) (by kernel_rfl) (by simp only [List.getElem?_toArray, List.getElem?_cons_succ, List.getElem?_cons_zero]; exact rfl) (fun K hK => ?_)
      try go_simp
      refine hK.out _ _ (fun e => absurd rfl e) ?_
      clear hK K
      refine anyT_done (by kernel_rfl) ?_
      refine NoPanic.normal ?_
      try simp only [Act.put]
      go_wp2_with fail
      go_meet
      have n12 := N12.out
      have n1 := F1.out
      have n2 := F2.out
      exact ⟨(ga + 1), ga, rfl, rfl, ⟨((((HG.out.1.1.putOff (by omega) _).putOff (by omega) _).putOff (by omega) _).putOff (by omega) _).putOff (by omega) _, ((((HG.out.1.2.1.putOff (by omega) _).putOff (by omega) _).putOff (by omega) _).putOff (by omega) _).putOff (by omega) _, ((((HG.out.2.1.putOff (by omega) _).putOff (by omega) _).putOff (by omega) _).putOff (by omega) _).putOff (by omega) _, HG.out.2.2.five_put _ _ _ _ _, below_put5 HG.out.1.2.2 (by omega) _ _ _ _ _⟩⟩
  case rest =>
    obtain ⟨h1, h2, rfl, rfl, HS⟩ := hcut
    have HS := hide HS
    clear c0 c1 c2 c3 c4 c5 d0 d1 d2 d3 d4 d5 R1 R01 K1
    obtain ⟨c0, c1, c2, c3, c4, c5⟩ := Row.six HS.out.rx
    obtain ⟨d0, d1, d2, d3, d4, d5⟩ := Row.six HS.out.ry
    obtain ⟨e0, e1, e2, e3, e4⟩ := Row.five HS.out.r1
    obtain ⟨f0, f1, f2, f3, f4⟩ := Row.five HS.out.r2
    unfold Co.p at e4 f4 c5 d5
    dsimp only at c0 d0 e0 e1 e2 e3 e4 f0 f1 f2 f3 f4
    clear c1 c2 c3 c4 c5 d1 d2 d3 d4 d5
    have HEQ := hide (equal_below _ _ l l' wc (HX.out.below HS.out.bel) (HY.out.below HS.out.bel) lx ly)
    by_cases h0 : s = s'
    case neg =>
      have HE := hide (ow_ne (a := ⟨s, ⟨why, fnd, val, ver, l⟩⟩) (b := ⟨s', ⟨why', fnd', val', ver', l'⟩⟩) (.inl h0))
      have g0 : (s == s') = false := by simpa using h0
      clear h0
      go_wp2
      go_ret
      exact ⟨by rw [HE.out]; rfl, HS.out.bel⟩
    by_cases h1 : why = why'
    case neg =>
      have HE := hide (ow_ne (a := ⟨s, ⟨why, fnd, val, ver, l⟩⟩) (b := ⟨s', ⟨why', fnd', val', ver', l'⟩⟩) (.inr (.inl h1)))
      have g0 : (s == s') = true := by simpa using h0
      have g1 : (why == why') = false := by simpa using h1
      clear h0 h1
      go_wp2
      go_ret
      exact ⟨by rw [HE.out]; rfl, HS.out.bel⟩
    by_cases h2 : fnd = fnd'
    case neg =>
      have HE := hide (ow_ne (a := ⟨s, ⟨why, fnd, val, ver, l⟩⟩) (b := ⟨s', ⟨why', fnd', val', ver', l'⟩⟩) (.inr (.inr (.inl h2))))
      have g0 : (s == s') = true := by simpa using h0
      have g1 : (why == why') = true := by simpa using h1
      have g2 : (fnd == fnd') = false := by simpa using h2
      clear h0 h1 h2
      go_wp2
      go_ret
      exact ⟨by rw [HE.out]; rfl, HS.out.bel⟩
    by_cases h3 : eqB val val' = true
    case neg =>
      have g3 : eqB val val' = false := by simpa using h3
      have HE := hide (ow_ne (a := ⟨s, ⟨why, fnd, val, ver, l⟩⟩) (b := ⟨s', ⟨why', fnd', val', ver', l'⟩⟩) (.inr (.inr (.inr (.inl g3)))))
      have g0 : (s == s') = true := by simpa using h0
      have g1 : (why == why') = true := by simpa using h1
      have g2 : (fnd == fnd') = true := by simpa using h2
      unfold eqB at g3
      clear h0 h1 h2 h3
      go_wp2
      go_ret
      exact ⟨by rw [HE.out]; rfl, HS.out.bel⟩
    by_cases h4 : ver = ver'
    case neg =>
      have HE := hide (ow_ne (a := ⟨s, ⟨why, fnd, val, ver, l⟩⟩) (b := ⟨s', ⟨why', fnd', val', ver', l'⟩⟩) (.inr (.inr (.inr (.inr (.inl h4))))))
      have g0 : (s == s') = true := by simpa using h0
      have g1 : (why == why') = true := by simpa using h1
      have g2 : (fnd == fnd') = true := by simpa using h2
      have g3 : (val.toList == val'.toList) = true := h3
      have g4 : (ver == ver') = false := by simpa using h4
      clear h0 h1 h2 h3 h4
      go_wp2
      go_ret
      exact ⟨by rw [HE.out]; rfl, HS.out.bel⟩
    have HE := hide (show decide ((⟨s, ⟨why, fnd, val, ver, l⟩⟩ : Ow) = ⟨s', ⟨why', fnd', val', ver', l'⟩⟩) = decide (l = l') by
      have := (eq_iff _ _).1 h3
      subst h0 h1 h2 h4 this
      by_cases h5 : l = l'
      · subst h5; rw [decide_eq_true rfl, decide_eq_true rfl]
      · rw [decide_eq_false h5]; exact decide_eq_false (fun e => h5 (by cases e; rfl)))
    have g0 : (s == s') = true := by simpa using h0
    have g1 : (why == why') = true := by simpa using h1
    have g2 : (fnd == fnd') = true := by simpa using h2
    have g3 : (val.toList == val'.toList) = true := h3
    have g4 : (ver == ver') = true := by simpa using h4
    clear h0 h1 h2 h3 h4
    go_wp2_with (go_at_call 43; (with_reducible refine HEQ.out.mono ?_); rintro e w5 ⟨rfl, hb5⟩)
    go_ret
    exact ⟨by rw [HE.out]; simp, kept_trans HS.out.bel hb5⟩
end Go.Proofs.Ytahfpncfkcfogaa
/- slices.EqualFunc of owners by sameOwner; the program's Same, Right. Conditions: the lists of pairs lie in memory, none is great. -/
namespace Go.Proofs.Ytahfpncfkcfogaa
set_option maxRecDepth 100000
open Go.RowKit
def eqS (s t : Sm) : Bool := decide (s.l = t.l) && decide (s.o = t.o)
theorem eqS_iff (s t : Sm) : eqS s t = true ↔ s = t := by
  obtain ⟨l, o⟩ := s
  obtain ⟨m, p⟩ := t
  unfold eqS
  rw [Bool.and_eq_true, decide_eq_true_eq, decide_eq_true_eq]
  constructor
  · rintro ⟨h1, h2⟩
    dsimp only at h1 h2
    rw [h1, h2]
  · intro h; cases h; exact ⟨rfl, rfl⟩
set_option maxHeartbeats 8000000 in
theorem eqf_any (g g' : Nat) (p q : Value) (L M : List Co) (u u' : TypeId) (w : World) (h : Fine w L) (k : Fine w M) (hr : Row w g u (stc p L)) (kr : Row w g' u' (stc q M)) :
    Calls Try.prog 44 #[.slice (some ⟨g, 1, none⟩) 8 8, .slice (some ⟨g', 1, none⟩) 8 8, .func (.func 45) #[] #[]] w fun e w' => e = .returned (.bool (decide (ows L = ows M))) ∧ Below w.heap.size w w' := by
  have HL := hide h
  have HM := hide k
  have HR := hide hr
  have KR := hide kr
  clear h k hr kr
  go_enter Try.func44, Try.ntmps44
  go_wp2
  go_loopw [17] (fun i wr => ∃ k : Nat, k ≤ 8 ∧ i = .int .i64 k ∧ Hid (Below w.heap.size w wr) ∧ Hid (∀ j, j < k → (ows L)[j]? = (ows M)[j]?)) (fun i _ => 8 - (intOf i).toNat)
  case atStart => exact ⟨0, by omega, rfl, Below.refl _ _, fun j hj => absurd hj (by omega)⟩
  case round =>
    obtain ⟨k, hk, rfl, HB, hs⟩ := hrel
    by_cases hlt : k < 8
    · obtain ⟨x, hx, hpx, hnx⟩ := HL.out.at_ hlt
      obtain ⟨y, hy, hpy, hny⟩ := HM.out.at_ hlt
      have R1 := hide (HR.out.below HB.out HR.out.lt)
      have R2 := hide (KR.out.below HB.out KR.out.lt)
      obtain ⟨c0, c1, c2, c3, c4, c5⟩ := R1.out.owner49 hx
      obtain ⟨d0, d1, d2, d3, d4, d5⟩ := R2.out.owner49 hy
      have hlt' : (k : Int) < 8 := by omega
      have HX := hide hx
      have HY := hide hy
      have PX := hide (hpx.below HB.out)
      have PY := hide (hpy.below HB.out)
      unfold Co.p at c5 d5
      clear hx hy hpx hpy
      go_upto_region 6 with (fail)
      clear c0 c1 c2 c3 c4 c5 d0 d1 d2 d3 d4 d5
      have K1 := hide (kept_alloc (kept_refl wr) (.cells #[.int .i64 x.o.s, .int .i64 x.o.r.why, .bool x.o.r.fnd, .string x.o.r.val, .int .i64 x.o.r.ver, .slice x.A x.o.r.l.length x.c] 27))
      have RX := hide (Row.new wr 27 #[.int .i64 x.o.s, .int .i64 x.o.r.why, .bool x.o.r.fnd, .string x.o.r.val, .int .i64 x.o.r.ver, .slice x.A x.o.r.l.length x.c])
      have R3 := hide (R2.out.alloc (.cells #[.int .i64 x.o.s, .int .i64 x.o.r.why, .bool x.o.r.fnd, .string x.o.r.val, .int .i64 x.o.r.ver, .slice x.A x.o.r.l.length x.c] 27))
      generalize wr.alloc (.cells #[.int .i64 x.o.s, .int .i64 x.o.r.why, .bool x.o.r.fnd, .string x.o.r.val, .int .i64 x.o.r.ver, .slice x.A x.o.r.l.length x.c] 27) = w2 at K1 RX R3 ⊢
      generalize wr.heap.size = gx at RX ⊢
      obtain ⟨d0, d1, d2, d3, d4, d5⟩ := R3.out.owner49 HY.out
      unfold Co.p at d5
      go_upto_region 7 with (fail)
      clear d0 d1 d2 d3 d4 d5
      have K2 := hide (kept_trans K1.out (kept_alloc (kept_refl w2) (.cells #[.int .i64 y.o.s, .int .i64 y.o.r.why, .bool y.o.r.fnd, .string y.o.r.val, .int .i64 y.o.r.ver, .slice y.A y.o.r.l.length y.c] 27)))
      have RY := hide (Row.new w2 27 #[.int .i64 y.o.s, .int .i64 y.o.r.why, .bool y.o.r.fnd, .string y.o.r.val, .int .i64 y.o.r.ver, .slice y.A y.o.r.l.length y.c])
      have RX2 := hide (RX.out.alloc (.cells #[.int .i64 y.o.s, .int .i64 y.o.r.why, .bool y.o.r.fnd, .string y.o.r.val, .int .i64 y.o.r.ver, .slice y.A y.o.r.l.length y.c] 27))
      clear RX R3 K1
      generalize w2.alloc (.cells #[.int .i64 y.o.s, .int .i64 y.o.r.why, .bool y.o.r.fnd, .string y.o.r.val, .int .i64 y.o.r.ver, .slice y.A y.o.r.l.length y.c] 27) = w3 at K2 RY RX2 ⊢
      generalize w2.heap.size = gy at RY ⊢
      obtain ⟨c0, c1, c2, c3, c4, c5⟩ := RX2.out.six
      obtain ⟨d0, d1, d2, d3, d4, d5⟩ := RY.out.six
      have HE := hide (so_any x y w3 (PX.out.below K2.out) (PY.out.below K2.out) (by omega) (by omega))
      unfold Co.cs Co.p at HE
      have HBX := hide (kept_trans HB.out K2.out)
      by_cases he : x.o = y.o
      · rw [decide_eq_true he] at HE
        have HQ := hide he
        clear he
        go_wp2_with (go_at_call 45; (with_reducible refine HE.out.mono ?_); rintro e w4 ⟨rfl, hb4⟩)
        go_roundw
        case rel => exact ⟨k + 1, by omega, by go_num, hide (kept_trans HBX.out hb4), hide (fun j hj => by
          rcases Nat.lt_or_ge j k with h1 | h1
          · exact hs.out j h1
          · obtain rfl : j = k := by omega
            rw [ows_at HX.out, ows_at HY.out, HQ.out])⟩
        case measure => simp [intOf]; omega
      · rw [decide_eq_false he] at HE
        have HQ := hide he
        clear he
        go_wp2_with (go_at_call 45; (with_reducible refine HE.out.mono ?_); rintro e w4 ⟨rfl, hb4⟩)
        go_ret
        refine ⟨ret_bool ?_, kept_trans HBX.out hb4⟩
        symm; rw [decide_eq_false_iff_not]; intro e
        have h1 := ows_at HX.out
        rw [e, ows_at HY.out] at h1
        exact HQ.out (Option.some.inj h1).symm
    · obtain rfl : k = 8 := by omega
      go_wp2
      go_ret
      refine ⟨ret_bool ?_, HB.out⟩
      symm; rw [decide_eq_true_iff]
      apply List.ext_getElem?
      intro j
      rcases Nat.lt_or_ge j 8 with h1 | h1
      · exact hs.out j h1
      · rw [List.getElem?_eq_none (by rw [ows_len, HL.out.1]; exact h1), List.getElem?_eq_none (by rw [ows_len, HM.out.1]; exact h1)]
set_option maxHeartbeats 8000000 in
theorem ssame_any (p q : Value) (L M : List Co) (s t : Sm) (w : World) (h : IsS w p L s) (k : IsS w q M t) :
    Calls Try.prog 19 #[.agg (stc p L), .agg (stc q M)] w fun e w' => e = .returned (.bool (eqS s t)) ∧ Below w.heap.size w w' := by
  have R0 := hide (Row.new w 30 (stc p L))
  have K0 := hide (kept_alloc (kept_refl w) (.cells (stc p L) 30))
  have S0 : Hid ((w.alloc (.cells (stc p L) 30)).heap.size = w.heap.size + 1) := hide (by simp)
  have HS := hide h
  have HT := hide k
  obtain ⟨A, c, rfl, _⟩ := h.pin
  obtain ⟨B, d, rfl, _⟩ := k.pin
  clear h k
  go_enter Try.func19, Try.ntmps19
  go_upto_region 1 with (fail)
  generalize w.alloc (.cells (stc (.slice A s.l.length c) L) 30) = w1 at R0 K0 S0 ⊢
  have R1 := hide (Row.new w1 30 (stc (.slice B t.l.length d) M))
  rw [S0.out] at R1
  have R01 := hide (R0.out.alloc (.cells (stc (.slice B t.l.length d) M) 30))
  have K1 := hide (kept_alloc K0.out (.cells (stc (.slice B t.l.length d) M) 30))
  clear R0 K0 S0
  generalize w1.alloc (.cells (stc (.slice B t.l.length d) M) 30) = w2 at R1 R01 K1 ⊢
  have HEQ := hide (show ∀ wz : World, Below w2.heap.size w2 wz → Calls Try.prog 43 #[.slice A s.l.length c, .slice B t.l.length d] wz fun e w' => e = .returned (.bool (decide (s.l = t.l))) ∧ Below wz.heap.size wz w' from fun wz hz => equal_below _ _ s.l t.l wz (HS.out.pin.below (kept_trans K1.out hz)) (HT.out.pin.below (kept_trans K1.out hz)) (by have := HS.out.room; omega) (by have := HT.out.room; omega))
  have HEF := hide (show ∀ wz : World, Below w2.heap.size w2 wz → Calls Try.prog 44 #[.slice (some ⟨w.heap.size, 1, none⟩) 8 8, .slice (some ⟨w.heap.size + 1, 1, none⟩) 8 8, .func (.func 45) #[] #[]] wz fun e w' => e = .returned (.bool (decide (s.o = t.o))) ∧ Below wz.heap.size wz w' from fun wz hz => by
    have h := eqf_any w.heap.size (w.heap.size + 1) (.slice A s.l.length c) (.slice B t.l.length d) L M _ _ wz (HS.out.fine.below (kept_trans K1.out hz)) (HT.out.fine.below (kept_trans K1.out hz)) (R01.out.below hz R01.out.lt) (R1.out.below hz R1.out.lt)
    rw [HS.out.is, HT.out.is] at h
    exact h)
  have HU : Hid (eqS s t = (decide (s.l = t.l) && decide (s.o = t.o))) := hide rfl
  obtain ⟨b1, hb1⟩ : ∃ b, decide (s.l = t.l) = b := ⟨_, rfl⟩
  rw [hb1] at HEQ HU
  cases b1
  case false =>
    clear hb1 HEF
    have HB0 : Below w2.heap.size w2 w2 := kept_refl w2
    refine wp_region_sp (fun w' => Below w2.heap.size w2 w') (by kernel_rfl) (by kernel_rfl) (show Below w2.heap.size w2 w2.drew from kept_drewN HB0 1) ?_
    generalize hS : (fun w' => Below w2.heap.size w2 w') = S
    have l0 : ∀ z : Sp S, z.w.cell? ⟨w.heap.size, 0, none⟩ = some (.slice A s.l.length c) := by subst hS; exact fun z => (R01.out.below z.ok R01.out.lt).pairs49
    have l1 : ∀ z : Sp S, z.w.cell? ⟨w.heap.size + 1, 0, none⟩ = some (.slice B t.l.length d) := by subst hS; exact fun z => (R1.out.below z.ok R1.out.lt).pairs49
    have ne : Nonempty (Sp S) := by subst hS; exact ⟨⟨_, HB0⟩⟩
    have STEP := hide (show ∀ w w', S w → Below w.heap.size w w' → S w' by subst hS; exact fun _ _ h hb => kept_trans h hb)
    have OLD := hide (show ∀ z : Sp S, Below w2.heap.size w2 z.w by subst hS; exact fun z => z.ok)
    clear HB0 hS
    repeat (go_big_quiet_step ((first | (go_at_call 43; with_reducible exact sp_call STEP.out _ (HEQ.out _ (OLD.out _))))))
    refine wpQuiet_nil ?_
    intro kk
    have OK := hide (OLD.out kk)
    generalize kk.w = wk at OK ⊢
    clear l0 l1 ne OLD STEP
    generalize wk = wn at OK ⊢
    go_wp2
    go_ret
    exact ⟨by rw [HU.out]; rfl, kept_trans K1.out OK.out⟩
  case true =>
    clear hb1
    have HB0 : Below w2.heap.size w2 w2 := kept_refl w2
    refine wp_region_sp (fun w' => Below w2.heap.size w2 w') (by kernel_rfl) (by kernel_rfl) (show Below w2.heap.size w2 w2.drew from kept_drewN HB0 1) ?_
    generalize hS : (fun w' => Below w2.heap.size w2 w') = S
    have l0 : ∀ z : Sp S, z.w.cell? ⟨w.heap.size, 0, none⟩ = some (.slice A s.l.length c) := by subst hS; exact fun z => (R01.out.below z.ok R01.out.lt).pairs49
    have l1 : ∀ z : Sp S, z.w.cell? ⟨w.heap.size + 1, 0, none⟩ = some (.slice B t.l.length d) := by subst hS; exact fun z => (R1.out.below z.ok R1.out.lt).pairs49
    have ne : Nonempty (Sp S) := by subst hS; exact ⟨⟨_, HB0⟩⟩
    have STEP := hide (show ∀ w w', S w → Below w.heap.size w w' → S w' by subst hS; exact fun _ _ h hb => kept_trans h hb)
    have OLD := hide (show ∀ z : Sp S, Below w2.heap.size w2 z.w by subst hS; exact fun z => z.ok)
    clear HB0 hS
    repeat (go_big_quiet_step ((first | (go_at_call 43; with_reducible exact sp_call STEP.out _ (HEQ.out _ (OLD.out _))) | (go_at_call 44; with_reducible exact sp_call STEP.out _ (HEF.out _ (OLD.out _))))))
    refine wpQuiet_nil ?_
    intro kk
    have OK := hide (OLD.out kk)
    generalize kk.w = wk at OK ⊢
    clear l0 l1 ne OLD STEP
    generalize wk = wn at OK ⊢
    go_wp2
    go_ret
    exact ⟨by rw [HU.out]; simp, kept_trans K1.out OK.out⟩
end Go.Proofs.Ytahfpncfkcfogaa
