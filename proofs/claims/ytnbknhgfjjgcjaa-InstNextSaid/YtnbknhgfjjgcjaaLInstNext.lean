/- Proved: the law InstNext returns true. Conditions: none beyond the row's own. -/
import Derived.Test.YtnbknhgfjjgcjaaFrame
import Derived.Test.YtnbknhgfjjgcjaaRuns
import Derived.Test.YtnbknhgfjjgcjaaSp
import Derived.Test.YtnbknhgfjjgcjaaWithin
import Derived.Test.YtnbknhgfjjgcjaaSliceIn
import Derived.Deep.DeepCutAuto
import Derived.Deep.RegionHeld3
import Derived.LoopTactic
namespace Go.Proofs.Ytnbknhgfjjgcjaa.instNext
open Go.ChangeShapes Go.WideShapes Go.ChangeAt Go.RowKit
theorem joinA {W w w' : World} {g : Nat} {t : TypeId} {e r z y : Int} (R : Row w g t #[.int .i64 e, .int .i64 r]) (B : Below W.heap.size W w) (hb : Below w.drew.heap.size w.drew w') :
    ∃ h, Value.pointer (some ⟨w'.heap.size, 0, none⟩) = .pointer (some ⟨h, 0, none⟩) ∧ Row (w'.alloc (.cells #[.int .i64 y, .int .i64 z] t)) h t #[.int .i64 y, .int .i64 z] ∧ Row (w'.alloc (.cells #[.int .i64 y, .int .i64 z] t)) g t #[.int .i64 e, .int .i64 r] ∧
      Below W.heap.size W (w'.alloc (.cells #[.int .i64 y, .int .i64 z] t)) ∧ ¬ h = g := by
  have R' := R.drew.below hb R.lt
  refine ⟨_, rfl, Row.new _ _ _, R'.alloc _, kept_alloc (kept_trans (kept_drewN B 1) hb) _, fun e => ?_⟩
  have := R'.lt
  omega
theorem joinB {W w w' : World} {g : Nat} {t : TypeId} {e r z y : Int} (R : Row w g t #[.int .i64 e, .int .i64 r]) (B : Below W.heap.size W w) (hb : Below (w.alloc (.cells #[.int .i64 0, .int .i64 0] t)).drew.heap.size (w.alloc (.cells #[.int .i64 0, .int .i64 0] t)).drew w') :
    ∃ h, Value.pointer (some ⟨w.heap.size, 0, none⟩) = .pointer (some ⟨h, 0, none⟩) ∧ Row ((w'.setCell ⟨w.heap.size, 0, none⟩ (.int .i64 y)).setCell ⟨w.heap.size, 1, none⟩ (.int .i64 z)) h t #[.int .i64 y, .int .i64 z] ∧
      Row ((w'.setCell ⟨w.heap.size, 0, none⟩ (.int .i64 y)).setCell ⟨w.heap.size, 1, none⟩ (.int .i64 z)) g t #[.int .i64 e, .int .i64 r] ∧
      Below W.heap.size W ((w'.setCell ⟨w.heap.size, 0, none⟩ (.int .i64 y)).setCell ⟨w.heap.size, 1, none⟩ (.int .i64 z)) ∧ ¬ h = g := by
  have hne : ¬ w.heap.size = g := fun e => by have := R.lt; omega
  have N := ((Row.new w t #[.int .i64 0, .int .i64 0]).drew).below hb ((Row.new w t #[.int .i64 0, .int .i64 0]).drew).lt
  have R' := ((R.alloc (.cells #[.int .i64 0, .int .i64 0] t)).drew).below hb ((R.alloc (.cells #[.int .i64 0, .int .i64 0] t)).drew).lt
  have hg := grown_put (grown_put (grown_refl w' (some w.heap.size)) 0 (.int .i64 y)) 1 (.int .i64 z)
  have hB := kept_trans (kept_drewN (kept_alloc B (.cells #[.int .i64 0, .int .i64 0] t)) 1) hb
  exact ⟨_, rfl, by simpa using (N.put 0 (.int .i64 y)).put 1 (.int .i64 z), R'.grown hg (fun e => hne (Option.some.inj e).symm), hB.grown hg hB.size (fun k hk => by cases hk; exact B.size), hne⟩
theorem fresh_facts {w w' : World} {t : TypeId} (hb : Below (w.alloc (.cells #[.int .i64 0, .int .i64 0] t)).drew.heap.size (w.alloc (.cells #[.int .i64 0, .int .i64 0] t)).drew w') :
    w'.cell? ⟨w.heap.size, 0, none⟩ = some (.int .i64 0) ∧ w'.cell? ⟨w.heap.size, 1, none⟩ = some (.int .i64 0) ∧ w'.frozen? ⟨w.heap.size, 0, none⟩ = false ∧ w'.frozen? ⟨w.heap.size, 1, none⟩ = false := by
  have N := ((Row.new w t #[.int .i64 0, .int .i64 0]).drew).below hb ((Row.new w t #[.int .i64 0, .int .i64 0]).drew).lt
  exact ⟨N.cell 0, N.cell 1, N.free 0, N.free 1⟩
structure P1 (W w : World) (g : Nat) (e r : Int) : Prop where
  low : Below W.heap.size W w
  p : Pr w g e r
theorem P1.step {W w w' : World} {g : Nat} {e r : Int} (s : P1 W w g e r) (hb : Below w.heap.size w w') : P1 W w' g e r := ⟨kept_trans s.low hb, s.p.kept hb⟩
theorem P1.drew {W w : World} {g : Nat} {e r : Int} (s : P1 W w g e r) : P1 W w.drew g e r := ⟨kept_drewN s.low 1, s.p.drew⟩
/-- Two ballots in two blocks of the call's own. -/
structure P2 (W w : World) (g h : Nat) (e r e' r' : Int) : Prop where
  low : Below W.heap.size W w
  x : Row w g 35 #[.int .i64 e, .int .i64 r]
  y : Row w h 35 #[.int .i64 e', .int .i64 r']
  ne : ¬ h = g
theorem P2.step {W w w' : World} {g h : Nat} {e r e' r' : Int} (s : P2 W w g h e r e' r') (hb : Below w.heap.size w w') :
    w'.cell? ⟨h, 0, none⟩ = some (.int .i64 e') ∧ w'.cell? ⟨h, 1, none⟩ = some (.int .i64 r') ∧ w'.cell? ⟨g, 0, none⟩ = some (.int .i64 e) ∧ w'.cell? ⟨g, 1, none⟩ = some (.int .i64 r) ∧ P2 W w' g h e r e' r' := by
  have X := s.x.below hb s.x.lt
  have Y := s.y.below hb s.y.lt
  exact ⟨Y.cell 0, Y.cell 1, X.cell 0, X.cell 1, kept_trans s.low hb, X, Y, s.ne⟩
set_option maxRecDepth 100000 in
set_option maxHeartbeats 4000000 in
theorem walk (x1 x2 : Int) (A : Option Addr) (n c : Nat) (who : List Int) (a q : Int) (W : World) (_ : -9223372036854775808 ≤ x1 ∧ x1 ≤ 9223372036854775807) (_ : -9223372036854775808 ≤ x2 ∧ x2 ≤ 9223372036854775807) (hw : IntsIn W A n c who)
    (_ : -9223372036854775808 ≤ a ∧ a ≤ 9223372036854775807) (_ : -9223372036854775808 ≤ q ∧ q ≤ 9223372036854775807) :
    Calls Try.prog 7 #[.agg #[.int .i64 x1, .int .i64 x2], .slice A n c, .int .i64 a, .int .i64 q] W fun e w' => e = .returned (.bool true) ∧ Below W.heap.size W w' := by
  have heq := eql_ballot
  have R0 := hide (Row.new W 35 #[.int .i64 x1, .int .i64 x2])
  have B0 := hide (kept_alloc (kept_refl W) (.cells #[.int .i64 x1, .int .i64 x2] 35))
  go_enter Try.func7, Try.ntmps7
  go_upto_region 1 with (fail)
  generalize (World.alloc W _) = w1 at R0 B0 ⊢
  have f0 : w1.cell? ⟨W.heap.size, 0, none⟩ = some (.int .i64 x1) := R0.out.cell 0
  have f1 : w1.cell? ⟨W.heap.size, 1, none⟩ = some (.int .i64 x2) := R0.out.cell 1
  have g0 : (w1.alloc (.cells #[.int .i64 0, .int .i64 0] 35)).cell? ⟨W.heap.size, 0, none⟩ = some (.int .i64 x1) := (R0.out.alloc _).cell 0
  have g1 : (w1.alloc (.cells #[.int .i64 0, .int .i64 0] 35)).cell? ⟨W.heap.size, 1, none⟩ = some (.int .i64 x2) := (R0.out.alloc _).cell 1
  have e1 := fun w => within_any x1 0 1000 w (by omega) (by omega) (by omega)
  have e2 := fun w => within_any x2 0 6 w (by omega) (by omega) (by omega)
  have b1 := withinI_bounds x1 0 1000 (by omega)
  have b2 := withinI_bounds x2 0 6 (by omega)
  generalize withinI x1 0 1000 = e at e1 b1
  generalize withinI x2 0 6 = r at e2 b2
  have E1 := hide e1
  have E2 := hide e2
  have HB := hide (And.intro b1 b2)
  have HW := hide hw
  clear e1 e2 b1 b2 hw
  go_cut [9] (fun s9 wx => ∃ g, s9 = .pointer (some ⟨g, 0, none⟩) ∧ Row wx g 35 #[.int .i64 e, .int .i64 r] ∧ Below W.heap.size W wx ∧ W.heap.size ≤ g)
  case first =>
    go_region_with (first
      | (go_at_call 24; (with_reducible refine (E1.out _).mono ?_); rintro y w' ⟨rfl, rfl⟩)
      | (go_at_call 24; (with_reducible refine (E2.out _).mono ?_); rintro y w' ⟨rfl, rfl⟩))
    all_goals go_wp2
    all_goals go_meet
    all_goals exact ⟨w1.heap.size, rfl, (Row.new w1 _ _).drew, kept_drewN (kept_alloc B0.out _) 1, B0.out.size⟩
  case rest =>
    obtain ⟨g, rfl, R1, B1, hg⟩ := hcut
    have R2 := hide R1
    have B2 := hide B1
    have HG := hide hg
    clear f0 f1 g0 g1 R0 B0 R1 B1 hg E1 E2
    go_upto_region 2 with (fail)
    have hlen : who.length = n := HW.out.len
    have hroom : n ≤ c := HW.out.le
    have hroom2 : c ≤ 9223372036854775807 := HW.out.room
    go_wp2
    go_loopw [10] (fun i wr => ∃ (k : Nat) (e r : Int), k ≤ n ∧ k ≤ 30 ∧ i = .int .i64 k ∧ Hid (Row wr g 35 #[.int .i64 e, .int .i64 r]) ∧ Hid ((0 ≤ e ∧ e ≤ 1000 + k) ∧ 0 ≤ r ∧ r ≤ 6) ∧ Hid (Below W.heap.size W wr)) (fun i _ => 30 - (intOf i).toNat)
    case atStart => exact ⟨0, e, r, by omega, by omega, rfl, R2, hide (by have := HB.out; omega), B2⟩
    case round =>
      clear R2 B2 HB
      obtain ⟨k, e', r', hk, hk30, rfl, R, HB, B⟩ := hrel
      by_cases h1 : k < n
      · by_cases h2 : k < 30
        · go_upto_region 5 with (fail)
          obtain ⟨y, hy⟩ : ∃ y, who[k]? = some y := ⟨_, List.getElem?_eq_getElem (by omega)⟩
          obtain ⟨bw, ow, hA, hbw, q0, hyok⟩ := HW.out.at_ k y hy
          have q1 : wr.cell? ⟨bw, ow + k, none⟩ = some (.int .i64 y) := (B.out.cell (p := ⟨bw, ow + k, none⟩) hbw).trans q0
          subst hA
          have lt0 : (0 : Int) ≤ (k : Int) := by omega
          have lt1 : (k : Int) < (n : Int) := by omega
          have p0 : wr.cell? ⟨g, 0, none⟩ = some (.int .i64 e') := R.out.cell 0
          have p1 : wr.cell? ⟨g, 1, none⟩ = some (.int .i64 r') := R.out.cell 1
          have RW := hide ((Row.same (w := wr) (w' := wr) (g := g) R.out rfl).alloc (.cells #[.int .i64 0, .int .i64 0] 35))
          have p2 : (wr.alloc (.cells #[.int .i64 0, .int .i64 0] 35)).cell? ⟨g, 0, none⟩ = some (.int .i64 e') := RW.out.cell 0
          have p3 : (wr.alloc (.cells #[.int .i64 0, .int .i64 0] 35)).cell? ⟨g, 1, none⟩ = some (.int .i64 r') := RW.out.cell 1
          have p4 : (wr.alloc (.cells #[.int .i64 0, .int .i64 0] 35)).cell? ⟨bw, ow + k, none⟩ = some (.int .i64 y) := ((B.out.alloc B.out.size _).cell (p := ⟨bw, ow + k, none⟩) hbw).trans q0
          have e1 := fun w => within_any y 0 6 w (by omega) (by omega) (by omega)
          have b1 := withinI_bounds y 0 6 (by omega)
          generalize withinI y 0 6 = z at e1 b1
          have E1 := hide e1
          have WR := hide (show wrap64 (e' + 1) = e' + 1 from by have := HB.out; unfold wrap64; omega)
          have e2 := fun w => next_any e' r' z w
          rw [WR.out] at e2
          have E2 := hide e2
          clear e2
          have BZ := hide b1
          have HY := hide hy
          have HQ := hide q0
          clear e1 b1 hy q0 hyok
          go_cut [11] (fun s11 wx => ∃ h, s11 = .pointer (some ⟨h, 0, none⟩) ∧ Row wx h 35 #[.int .i64 (e' + 1), .int .i64 z] ∧ Row wx g 35 #[.int .i64 e', .int .i64 r'] ∧ Below W.heap.size W wx ∧ ¬ h = g)
          case first =>
            go_region_with (first
              | (go_at_call 24; (with_reducible refine (E1.out _).mono ?_); rintro y w' ⟨rfl, rfl⟩)
              | (go_at_call 17; (with_reducible refine (E2.out _).mono ?_); rintro y w' ⟨rfl, hb⟩; refine And.elim (fun z0 zz => ?_) (fresh_facts (w := wr) hb); obtain ⟨z1, z2, z3⟩ := zz)
              | (go_at_call 17; (with_reducible refine (E2.out _).mono ?_); rintro y w' ⟨rfl, hb⟩))
            all_goals go_wp2
            all_goals go_meet
            all_goals first
              | exact joinA R.out B.out (by assumption)
              | exact joinB R.out B.out (by assumption)
          case rest =>
            obtain ⟨h, rfl, RH, RG, hB, hne⟩ := hcut
            have y0 : wc.cell? ⟨h, 0, none⟩ = some (.int .i64 (e' + 1)) := RH.cell 0
            have y1 : wc.cell? ⟨h, 1, none⟩ = some (.int .i64 z) := RH.cell 1
            have x0 : wc.cell? ⟨g, 0, none⟩ = some (.int .i64 e') := RG.cell 0
            have x1' : wc.cell? ⟨g, 1, none⟩ = some (.int .i64 r') := RG.cell 1
            have P := hide (show P2 W wc g h e' r' (e' + 1) z from ⟨hB, RG, RH, hne⟩)
            have t1 : ltP (e', r') (e' + 1, z) = true := by unfold ltP; simp; omega
            have t2 : ltP (e' + 1, z) (e', r') = false := by unfold ltP; simp; omega
            have t3 : rightB (e' + 1) z = true := by have := HB.out; have := BZ.out; unfold rightB repB; simp; omega
            have C1 := hide (fun w => below_any e' r' (e' + 1) z w)
            have C2 := hide (fun w => below_any (e' + 1) z e' r' w)
            have C3 := hide (fun w => rightballot_any (e' + 1) z w)
            rw [t1] at C1; rw [t2] at C2; rw [t3] at C3
            clear RH RG hB p0 p1 p2 p3 p4 RW E1 E2 WR HY HQ t1 t2 t3 R B q1
            go_upto_region 8 with (first
              | (go_at_call 16; (with_reducible refine (C1.out _).mono ?_); rintro y w' ⟨rfl, hb⟩; obtain ⟨y0, y1, x0, x1', PP⟩ := P.out.step hb; replace P := hide PP; clear PP)
              | (go_at_call 16; (with_reducible refine (C2.out _).mono ?_); rintro y w' ⟨rfl, hb⟩; obtain ⟨y0, y1, x0, x1', PP⟩ := P.out.step hb; replace P := hide PP; clear PP)
              | (go_at_call 22; (with_reducible refine (C3.out _).mono ?_); rintro y w' ⟨rfl, hb⟩; obtain ⟨y0, y1, x0, x1', PP⟩ := P.out.step hb; replace P := hide PP; clear PP))
            have z0 : w'.frozen? ⟨g, 0, none⟩ = false := P.out.x.free 0
            have z1 : w'.frozen? ⟨g, 1, none⟩ = false := P.out.x.free 1
            have RX := hide (show Row ((w'.setCell ⟨g, 0, none⟩ (.int .i64 (e' + 1))).setCell ⟨g, 1, none⟩ (.int .i64 z)) g 35 #[.int .i64 (e' + 1), .int .i64 z] from by simpa using (P.out.x.put 0 (.int .i64 (e' + 1))).put 1 (.int .i64 z))
            have HBX := hide (show (0 ≤ e' + 1 ∧ e' + 1 ≤ 1000 + ((k + 1 : Nat) : Int)) ∧ 0 ≤ z ∧ z ≤ 6 from by have := HB.out; have := BZ.out; omega)
            have BX := hide (show Below W.heap.size W ((w'.setCell ⟨g, 0, none⟩ (.int .i64 (e' + 1))).setCell ⟨g, 1, none⟩ (.int .i64 z)) from P.out.low.grown (grown_put (grown_put (grown_refl w' (some g)) 0 _) 1 _) P.out.low.size (fun j hj => by cases hj; exact HG.out))
            clear C1 C2 C3 P HB BZ
            go_wp2
            go_roundw
            case rel => exact ⟨k + 1, e' + 1, z, by omega, by omega, by go_num, RX, HBX, BX⟩
            case measure => simp [intOf]; omega
        · obtain rfl : k = 30 := by omega
          have RG := R
          have BG := B
          have HBG := HB
          clear R B HB HW
          go_upto_region 9 with (fail)
          have k1 := fun w => within_any a 0 6 w (by omega) (by omega) (by omega)
          have k2 := fun w => within_any q 0 6 w (by omega) (by omega) (by omega)
          generalize withinI a 0 6 = a' at k1
          generalize withinI q 0 6 = q' at k2
          have K1 := hide k1
          have K2 := hide k2
          clear k1 k2
          go_upto_region 10 with (first
            | (go_at_call 24; (with_reducible refine (K1.out _).mono ?_); rintro y w' ⟨rfl, rfl⟩)
            | (go_at_call 24; (with_reducible refine (K2.out _).mono ?_); rintro y w' ⟨rfl, rfl⟩))
          have st : P1 W wr g e' r' := ⟨BG.out, ⟨RG.out.lt, RG.out.cell 0, RG.out.cell 1⟩⟩
          have ST := hide st
          have ss : sameB (wrap64 (e' + 1)) a' (wrap64 (e' + 1)) q' = (a' == q') := by unfold sameB; simp
          refine wp_region_sp (fun w' => P1 W w' g e' r') (by kernel_rfl) (by kernel_rfl) st.drew ?_
          generalize hS : (fun w' => P1 W w' g e' r') = S
          have l1 : ∀ k : Sp S, k.w.cell? ⟨g, 0, none⟩ = some (.int .i64 e') := by subst hS; exact fun k => k.ok.p.c0
          have l2 : ∀ k : Sp S, k.w.cell? ⟨g, 1, none⟩ = some (.int .i64 r') := by subst hS; exact fun k => k.ok.p.c1
          have ne : Nonempty (Sp S) := by subst hS; exact ⟨⟨_, st⟩⟩
          have STEP := hide (show ∀ w w', S w → Below w.heap.size w w' → S w' by subst hS; exact fun _ _ h hb => h.step hb)
          have OLD := hide (show ∀ k : Sp S, Below W.heap.size W k.w by subst hS; exact fun k => k.ok.low)
          have N1 := hide (fun w => next_any e' r' a' w)
          have N2 := hide (fun w => next_any e' r' q' w)
          clear st hS
          repeat (quiet_step (first
            | (go_at_call 17; with_reducible exact sp_call STEP.out _ (N1.out _))
            | (go_at_call 17; with_reducible exact sp_call STEP.out _ (N2.out _))
            | (go_at_call 3; exact sp_call STEP.out _ (runs_any _))))
          refine wpQuiet_nil ?_
          intro kk
          have OK := hide (OLD.out kk)
          generalize kk.w = wk at OK ⊢
          clear l1 l2 ne OLD STEP
          go_wp2
          go_ret
          exact ⟨rfl, OK.out⟩
      · obtain rfl : k = n := by omega
        have RG := R
        have BG := B
        have HBG := HB
        clear R B HB HW
        go_upto_region 9 with (fail)
        have k1 := fun w => within_any a 0 6 w (by omega) (by omega) (by omega)
        have k2 := fun w => within_any q 0 6 w (by omega) (by omega) (by omega)
        generalize withinI a 0 6 = a' at k1
        generalize withinI q 0 6 = q' at k2
        have K1 := hide k1
        have K2 := hide k2
        clear k1 k2
        go_upto_region 10 with (first
          | (go_at_call 24; (with_reducible refine (K1.out _).mono ?_); rintro y w' ⟨rfl, rfl⟩)
          | (go_at_call 24; (with_reducible refine (K2.out _).mono ?_); rintro y w' ⟨rfl, rfl⟩))
        have st : P1 W wr g e' r' := ⟨BG.out, ⟨RG.out.lt, RG.out.cell 0, RG.out.cell 1⟩⟩
        have ST := hide st
        have ss : sameB (wrap64 (e' + 1)) a' (wrap64 (e' + 1)) q' = (a' == q') := by unfold sameB; simp
        refine wp_region_sp (fun w' => P1 W w' g e' r') (by kernel_rfl) (by kernel_rfl) st.drew ?_
        generalize hS : (fun w' => P1 W w' g e' r') = S
        have l1 : ∀ k : Sp S, k.w.cell? ⟨g, 0, none⟩ = some (.int .i64 e') := by subst hS; exact fun k => k.ok.p.c0
        have l2 : ∀ k : Sp S, k.w.cell? ⟨g, 1, none⟩ = some (.int .i64 r') := by subst hS; exact fun k => k.ok.p.c1
        have ne : Nonempty (Sp S) := by subst hS; exact ⟨⟨_, st⟩⟩
        have STEP := hide (show ∀ w w', S w → Below w.heap.size w w' → S w' by subst hS; exact fun _ _ h hb => h.step hb)
        have OLD := hide (show ∀ k : Sp S, Below W.heap.size W k.w by subst hS; exact fun k => k.ok.low)
        have N1 := hide (fun w => next_any e' r' a' w)
        have N2 := hide (fun w => next_any e' r' q' w)
        clear st hS
        repeat (quiet_step (first
          | (go_at_call 17; with_reducible exact sp_call STEP.out _ (N1.out _))
          | (go_at_call 17; with_reducible exact sp_call STEP.out _ (N2.out _))
          | (go_at_call 3; exact sp_call STEP.out _ (runs_any _))))
        refine wpQuiet_nil ?_
        intro kk
        have OK := hide (OLD.out kk)
        generalize kk.w = wk at OK ⊢
        clear l1 l2 ne OLD STEP
        go_wp2
        go_ret
        exact ⟨rfl, OK.out⟩
set_option maxRecDepth 100000 in
theorem lifted (os : Os) (started : os.Started) (H : Type) (enc : TypeId × Value → H) :
    ReturnsInHanded {} Try.checked os 7 .any (Rows.instNextSpec.pre6 enc Try.prog Try.f7 Rows.instNextRow.domain false) (Rows.instNextSpec.post enc Try.prog Try.f7 false true false false) := by
  refine returnsInHanded_of_change (C := Try.checked) own started (by kernel_rfl) Try.func7
    (ChangeSpec.witness6 (enc := enc) (C := Try.checked) false ⟨#[], #[.agg #[.int .i64 0, .int .i64 0], .slice none 0 0, .int .i64 0, .int .i64 0], []⟩ 8 (by kernel_rfl) (by kernel_rfl) (by kernel_rfl) (by kernel_rfl)) ?_
  intro W base args ds gs before hval0 hW _ _
  have hval : ∀ (j : Nat) t v, Try.f7.params[j]? = some t → args[j]? = some v → Value.okWide Try.prog W .any base t v := hval0
  have hW' := hW
  obtain ⟨p, q, hA0, hV, rfl, _, _⟩ := hW
  have hA : DataW.TrodAll enc Try.prog W 0 (fun _ => true) true Try.f7.params.toList args.toList ds p := hA0
  rw [Try.params7] at hA hval
  obtain ⟨v0, vs0, d0, ds0, p0, q0, hargs, rfl, rfl, h0, r0⟩ := trodAll_cons hA
  obtain ⟨v1, vs1, d1, ds1, p1, q1, rfl, rfl, rfl, h1, r1⟩ := trodAll_cons r0
  obtain ⟨v2, vs2, d2, ds2, p2, q2, rfl, rfl, rfl, h2, r2⟩ := trodAll_cons r1
  obtain ⟨v3, vs3, d3, ds3, p3, q3, rfl, rfl, rfl, h3, r3⟩ := trodAll_cons r2
  obtain ⟨rfl, rfl, rfl⟩ := trodAll_nil r3
  obtain rfl : args = #[v0, v1, v2, v3] := by cases args; simp_all
  obtain ⟨rfl, rfl⟩ := trodVars_none hV
  have k0 := h0
  have lt0 : ∀ x ∈ p0, x.block < W.heap.size := by obtain ⟨m, hm⟩ := k0; exact DataW.trod_lt m _ _ _ hm
  obtain ⟨x0, y0, rfl, bx0, by0⟩ := ballot_in (hval 0 35 v0 rfl rfl) h0
  have k1 := h1
  have lt1 : ∀ x ∈ p1, x.block < W.heap.size := by obtain ⟨m, hm⟩ := k1; exact DataW.trod_lt m _ _ _ hm
  obtain ⟨A1, n1, c1, rfl⟩ := okWide_slice Try.underlying45 (hval 1 45 v1 rfl rfl)
  obtain ⟨z1, s1⟩ := ints_in h1
  obtain ⟨a2, rfl, rfl, rfl, w2⟩ := open_int Try.underlying3 (hval 2 3 v2 rfl rfl) h2
  obtain ⟨a3, rfl, rfl, rfl, w3⟩ := open_int Try.underlying3 (hval 3 3 v3 rfl rfl) h3
  clear hA0 hval0
  refine (walk x0 y0 A1 n1 c1 z1 a2 a3 W bx0 by0 s1 (bounds_i64 w2) (bounds_i64 w3)).mono fun e W' ⟨he, bel⟩ => ?_
  subst he
  exact ⟨_, rfl, _, _, _, [], _, [], hW', trodAll_mk1 (shut_bool Try.underlying4 _), (trodAll_cons_mk (Below.trod laidOut (by kernel_rfl) (of_decide_eq_true (by kernel_rfl)) k0 bel lt0) (trodAll_cons_mk (Below.trod laidOut (by kernel_rfl) (of_decide_eq_true (by kernel_rfl)) k1 bel lt1) (trodAll_cons_mk (shut_int Try.underlying3 w2) (trodAll_cons_mk (shut_int Try.underlying3 w3) trodAll_mk0)))), rfl, bel.frame _, fun h => by cases h⟩
theorem over : Rows.instNextRow.holds Try.pinned (OpenSpec.ofChange Rows.instNextSpec) :=
  OpenClaim.holds_of_wide 7 Try.f7 rfl rfl rfl rfl rfl rfl rfl ⟨rfl, rfl, rfl, rfl, rfl⟩ rfl rfl rfl rfl rfl (by kernel_rfl) Try.func7 (by kernel_rfl)
    (of_decide_eq_true (by kernel_rfl)) (by unfold Func.isWrapper; first | (rw [if_pos (by decide +kernel)]; kernel_rfl) | (rw [if_neg (by decide +kernel)]; exact ⟨rfl, rfl⟩))
    (fun os started H enc _ => lifted os started H enc)
theorem proved : Rows.InstNextSaid := over
end Go.Proofs.Ytnbknhgfjjgcjaa.instNext
