/- WalKeeps. No condition. -/
import Derived.Test.YtkmcnhjfnjikaaaGreatDoorKew
namespace Go.Proofs.YtkmcnhjfnjikaaaGreatDoor
open Go.RowKit Go.Maps
theorem min_few (m : Nat) : min m 6 ≤ m := Nat.min_le_left _ _
set_option maxRecDepth 100000 in
set_option maxHeartbeats 4000000 in
theorem keeps_any (A : Option Addr) (m c : Nat) (it : Nat → La) (W : World) (h : LasIn W A m c it) :
    Calls Tryz.prog 7 #[.slice A m c] W fun e w' => e = .returned (.bool true) ∧ Below W.heap.size W w' := by
  have hmx : (m : Int) ≤ 9223372036854775807 := by have := h.le; have := h.room; omega
  have c0 := hide (new_q 1048576 W (by omega))
  have oe := op_empty 1048576
  obtain ⟨st1, st2, st3⟩ := Ke.start
  have c1 := hide (fun (w : World) (g : Nat) (h : Lw W (fun k => k < W.heap.size) w g (newS 1048576)) => open_l (m := 60) (x := ⟨0, 0, false⟩) (L := []) h ⟨Nat.zero_le _, fun f hf => by (cases hf)⟩ (by omega) oe.1 oe.2.1 (by rw [oe.2.2.1, oe.2.2.2.1]) oe.2.2.2.2)
  have c2 := hide (fun (w : World) (p g : Nat) (h : Wl W w p g (newS 1048576) ⟨0, 0, false⟩) => h.anew (n := 0) (Below.refl _ _) (recs0 (fun k => w.heap.size ≤ k ∧ k < w.heap.size) w) (fun k hk => .inr hk) rfl (by omega) (fun q hq => by (cases hq)) (by decide) (Nat.zero_le _) ⟨st1, rfl, st2⟩)
  have st3 := hide st3
  generalize anS (newS 1048576) ⟨0, 0, false⟩ [] = d0 at *
  have hP := hide h
  have hruns := hide runs_any
  clear oe st1 st2 h
  go_enter Tryz.func7, Tryz.ntmps7
  go_upto_region 6 with (first
    | (go_at_call 10; (with_reducible refine c0.out.mono ?_); rintro e w1 ⟨g, rfl, hq1, hb1⟩; (have S0 := hide (Lw.start hq1 hb1)); clear hq1 hb1)
    | (go_at_call 11; (with_reducible refine (c1.out _ _ S0.out).mono ?_); rintro e w2 ⟨P, A1, n1, rfl, hS, -⟩; (have S1 := hide hS); clear hS S0)
    | (go_at_call 13; (with_reducible refine (c2.out _ _ _ S1.out).mono ?_); rintro e w3 ⟨rfl, hS⟩; (have S2 := hide (Wk.start hS)); clear hS S1))
  go_wp2
  go_loopw [5, 8, 9] (fun wv v i wr => ∃ (vv : Value) (P j G K : Nat) (d : DS) (F : Nat → List (List Int)) (L : List (List Int)), vv = v ∧ wv = .pointer (some ⟨P, 0, none⟩) ∧ i = .int .i64 j ∧ j ≤ 20 ∧ j ≤ m ∧ Hid (Ke j d G K F L) ∧ Hid (Wk W wr (fun k => k < W.heap.size) P g d ⟨G, K, false⟩ vv L)) (fun _ _ i _ => 20 - (intOf i).toNat)
  case atStart => exact ⟨_, P, 0, 1, 1, d0, _, [], rfl, rfl, rfl, by omega, by omega, st3, S2⟩
  case round =>
    obtain ⟨v, P, j, G, K, d, F, L, rfl, rfl, rfl, hj, hjm, hF, S⟩ := hrel
    by_cases hlt : j < m ∧ j < 20
    · obtain ⟨hlt1, hlt2⟩ := hlt
      have t1 : decide ((j : Int) < (m : Int)) = true := by simp; omega
      have t2 : decide (j < m) = true := by simp; omega
      have t3 : decide ((j : Int) < 20) = true := by simp; omega
      have t4 : decide (j < 20) = true := by simp; omega
      have hj0 : j < m := hlt1
      have hj20 : j < 20 := hlt2
      obtain ⟨b, off, rfl, hbl, hat, hok⟩ := hP.out.at_ j hlt1
      generalize it j = a at *
      have hok := hide hok
      have hat := hide hat
      obtain ⟨q0, q1, q2, q3⟩ := hat.out.below S.out.low hbl
      by_cases hp : 20 < a.p.n
      · have e1 : decide ((20 : Int) < (a.p.n : Int)) = true := by simp; omega
        have e2 : decide (20 < a.p.n) = true := by simp; omega
        have hN := hide hF.out.next
        clear hp
        go_wp2
        go_roundw
        case rel => exact ⟨v, P, j + 1, G, K, d, F, L, rfl, rfl, by simp; try omega, by omega, by omega, hN, S⟩
        case measure => simp [intOf]; omega
      · have e1 : decide ((20 : Int) < (a.p.n : Int)) = false := by simp; omega
        have e2 : decide (20 < a.p.n) = false := by simp; omega
        have hfew := hide (fun (w2 : World) (hb : Below W.heap.size W w2) => few_any hok.out.r hb)
        have hM := hide (fewL_ok hok.out.r (min_few a.m))
        have h6 : (fewL a.it (min a.m 6)).length ≤ 6 := Nat.le_trans (fewL_len _ _) (Nat.min_le_right _ _)
        generalize fewL a.it (min a.m 6) = M at *
        go_upto_region 11 with (first
          | (go_at_call 32; (with_reducible refine (hfew.out _ S.out.low).mono ?_); rintro e w1 ⟨v2, rfl, hN, hv2, hb1⟩; (have N1 := hide hN); (have hv2 := hide hv2); (have B1 := hide hb1); clear hN hb1))
        have S1 := hide (S.out.below B1.out)
        obtain ⟨r0, r1, r2, r3⟩ := hat.out.below S1.out.low hbl
        obtain ⟨A2, c2, rfl, hr2⟩ := N1.out.recs (fun p hp => (hM.out p hp).2)
        have hr2 := hide hr2
        have hG := hF.out.G
        have hkk := hF.out.k
        have hfd := hF.out.g.len (by omega) (by omega)
        have hLn := hF.out.ln
        have hY := hide (show ∀ k, (k < W.heap.size ∨ Value.ownBlock (.slice A2 M.length c2) = some k) → k < W.heap.size ∨ v.ownBlock = some k ∨ (wr.heap.size ≤ k ∧ k < w1.heap.size) from fun k hk => by
          rcases hk with z | z
          · exact .inl z
          · exact .inr (.inr ⟨hv2.out k z, N1.out.lt k z⟩))
        have hsz := hide (fun q (hq : q ∈ M) => (show q.length ≤ 1000000 by have := (hM.out q hq).1; omega))
        obtain ⟨ln, hln⟩ : ∃ n, M.length = n := ⟨_, rfl⟩
        rw [hln] at N1 hv2 hr2 hY h6
        rw [hln]
        generalize hka : a.k = ka at *
        by_cases k1 : ka = 1
        · have f1 : (ka == 1) = true := by simp [k1]
          obtain ⟨K', F', g1, g2, hF2⟩ := hF.out.add (by omega) hM.out (by omega)
          have hF2 := hide hF2
          have hadd := hide (S.out.addk (n := ln) (y := 0) B1.out hr2.out hY.out hln (by omega) hsz.out (by show G < 99; omega) (by show K < 99; omega) (by omega) ⟨g1, rfl, g2⟩)
          generalize adS d ⟨G, K, false⟩ M = d' at *
          clear k1
          go_upto_region 15 with (first | (go_at_call 12; (with_reducible refine hadd.out.mono ?_); rintro e w3 ⟨rfl, hS3, hk3⟩; (have S3 := hide hS3); (have N3 := hide (N1.out.kx hk3 (fun k hk => .inr (.inr ⟨hv2.out k hk, N1.out.lt k hk⟩)) (fun k hk => .inl hk))); clear hS3 hk3))
          obtain ⟨vs, hvs, hvl⟩ := S3.out.want.own
          have hvs := hide hvs
          have hvl := hide hvl
          go_wp2_with (at_builtin; refine append_wnt rfl (.tmp 71) (.tmp 72) rfl v L vs rfl hvs.out (.slice A2 ln c2) M rfl N3.out (by omega) ?_)
          intro us v3 w4 hus o4 k4 hat4
          have S4 := hide (S3.out.grows (Below.refl _ _) hus hvl.out (by have := hvs.out.1; omega) (fun k hk => Nat.le_of_not_lt (S3.out.want.apart k hk)) (by rw [List.length_append, hln]) o4 k4 hat4)
          clear hus o4 k4 hat4 hvs hvl S3
          go_wp2
          go_roundw
          case rel => exact ⟨v3, P, j + 1, G, K', d', F', L ++ M, rfl, rfl, by simp; try omega, by omega, by omega, hF2, S4⟩
          case measure => simp [intOf]; omega
        · have f1 : (ka == 1) = false := by simp [k1]
          by_cases k2 : ka = 2
          · have f2 : (ka == 2) = true := by simp [k2]
            obtain ⟨g1, g2, hF2⟩ := hF.out.anew (by omega) hM.out (by omega)
            have hF2 := hide hF2
            have hadd := hide (S.out.anew (n := ln) (y := 0) B1.out hr2.out hY.out hln (by omega) hsz.out (by show G < 99; omega) (by omega) ⟨g1, rfl, g2⟩)
            generalize anS d ⟨G, K, false⟩ M = d' at *
            clear k1 k2
            go_upto_region 19 with (first | (go_at_call 13; (with_reducible refine hadd.out.mono ?_); rintro e w3 ⟨rfl, hS3, hk3⟩; (have S3 := hide hS3); (have N3 := hide (N1.out.kx hk3 (fun k hk => .inr (.inr ⟨hv2.out k hk, N1.out.lt k hk⟩)) (fun k hk => .inl hk))); clear hS3 hk3))
            have S4 := hide S3.out.renew
            have N4 := hide (N3.out.below (below_alloc' w3 (.cells #[] 31)))
            obtain ⟨vs, hvs, hvl⟩ := S4.out.want.own
            have hvs := hide hvs
            have hvl := hide hvl
            go_wp2_with (at_builtin; refine append_wnt rfl (.tmp 80) (.tmp 81) rfl (.slice (some ⟨w3.heap.size, 0, none⟩) 0 0) [] vs rfl hvs.out (.slice A2 ln c2) M rfl N4.out (by simp; omega) ?_)
            intro us v3 w4 hus o4 k4 hat4
            have S5 := hide (S4.out.grows (M := M) (Below.refl _ _) (fun j q hj => by have := hus j q hj; simpa using this) hvl.out (by have := hvs.out.1; simp at this; simpa using this) (fun k hk => Nat.le_of_not_lt (S4.out.want.apart k hk)) (by simp [hln]) o4 k4 (by simpa using hat4))
            clear hus o4 k4 hat4 hvs hvl S3 S4
            go_wp2
            go_roundw
            case rel => exact ⟨v3, P, j + 1, G + 1, 1, d', _, M, rfl, rfl, by simp; try omega, by omega, by omega, hF2, S5⟩
            case measure => simp [intOf]; omega
          · have f2 : (ka == 2) = false := by simp [k2]
            have o := hF.out.open (by omega)
            have hoct := hide (fun p (hp : p ∈ L) => (hF.out.sz p hp).2)
            have hszL := hide (fun p (hp : p ∈ L) => (show p.length ≤ 1000000 by have := (hF.out.sz p hp).1; omega))
            by_cases k3 : ka = 3
            · have f3 : (ka == 3) = true := by simp [k3]
              have f5 : (ka == 5) = false := by simp [k3]
              clear k1 k2 k3
              obtain ⟨Av, cv, rfl, -⟩ := S.out.want.recs hoct.out
              have hli := hide (fun (w2 : World) (Y1 Y2 : Nat → Prop) (A2 : Option Addr) (c2 : Nat) (r1 : Recs Y1 w2 A2 c2 L) (r2 : Recs Y2 w2 Av cv L) => lists_any (n := L.length) (m := L.length) r1 r2 rfl rfl (by omega) (by omega) hszL.out hszL.out)
              rw [decide_eq_true rfl] at hli
              have hop := hide (fun (w2 : World) (S2 : Wk W w2 (fun k => k < W.heap.size) P g d ⟨G, K, false⟩ (.slice Av L.length cv) L) => S2.open (m := 60) (M := L) (hF.out.g.sm (by omega) (by omega) (by omega)) (by omega) o.1 o.2.2.1)
              rw [o.2.1, o.2.2.2.1, o.2.2.2.2] at hop
              have hcr := hide (S1.out.crash (hF.out.g.cra _) hok.out.p (by omega) (by omega))
              have S5 := S1
              obtain ⟨lw, hlw⟩ : ∃ n, L.length = n := ⟨_, rfl⟩
              rw [hlw] at S1 S5 hop hli hcr
              rw [hlw]
              go_wp2_with (first
                | (go_at_call 24; (with_reducible refine hcr.out.mono ?_); rintro e w5 ⟨rfl, hS5⟩; clear S5; (have S5 := hide hS5); clear hS5)
                | (go_at_call 11; (with_reducible refine (hop.out _ S5.out).mono ?_); rintro e w6 ⟨P2, A3, c3, rfl, hS6, hr6⟩; (have S6 := hide hS6); (have R6 := hide hr6); clear hS6 hr6)
                | (go_at_call 26; obtain ⟨Y9, r9⟩ := S6.out.want.recs_at hoct.out; (with_reducible refine (hli.out _ _ _ _ _ R6.out r9).mono ?_); rintro e w7 ⟨rfl, q3, rfl⟩; (have S7 := hide (S6.out.below (below_drewN' (Below.refl _ _) q3)))))
              go_roundw
              case rel => exact ⟨_, P2, j + 1, G, K, d, F, L, rfl, rfl, by simp; try omega, by omega, by omega, hF.out.next, S7⟩
              case measure => simp [intOf]; omega
            · have f3 : (ka == 3) = false := by simp [k3]
              by_cases k5 : ka = 5
              · have f5 : (ka == 5) = true := by simp [k5]
                clear k1 k2 k3 k5
                obtain ⟨Av, cv, rfl, -⟩ := S.out.want.recs hoct.out
                have hli := hide (fun (w2 : World) (Y1 Y2 : Nat → Prop) (A2 : Option Addr) (c2 : Nat) (r1 : Recs Y1 w2 A2 c2 L) (r2 : Recs Y2 w2 Av cv L) => lists_any (n := L.length) (m := L.length) r1 r2 rfl rfl (by omega) (by omega) hszL.out hszL.out)
                rw [decide_eq_true rfl] at hli
                have hop := hide (fun (w2 : World) (S2 : Wk W w2 (fun k => k < W.heap.size) P g d ⟨G, K, false⟩ (.slice Av L.length cv) L) => S2.open (m := 60) (M := L) (hF.out.g.sm (by omega) (by omega) (by omega)) (by omega) o.1 o.2.2.1)
                rw [o.2.1, o.2.2.2.1, o.2.2.2.2] at hop
                have hcr := hide (S1.out.crash (hF.out.g.cra _) hok.out.p (by omega) (by omega))
                have S5 := S1
                obtain ⟨lw, hlw⟩ : ∃ n, L.length = n := ⟨_, rfl⟩
                rw [hlw] at S1 S5 hop hli hcr
                rw [hlw]
                go_wp2_with (first
                  | (go_at_call 24; (with_reducible refine hcr.out.mono ?_); rintro e w5 ⟨rfl, hS5⟩; clear S5; (have S5 := hide hS5); clear hS5)
                  | (go_at_call 11; (with_reducible refine (hop.out _ S5.out).mono ?_); rintro e w6 ⟨P2, A3, c3, rfl, hS6, hr6⟩; (have S6 := hide hS6); (have R6 := hide hr6); clear hS6 hr6)
                  | (go_at_call 26; obtain ⟨Y9, r9⟩ := S6.out.want.recs_at hoct.out; (with_reducible refine (hli.out _ _ _ _ _ R6.out r9).mono ?_); rintro e w7 ⟨rfl, q3, rfl⟩; (have S7 := hide (S6.out.below (below_drewN' (Below.refl _ _) q3)))))
                go_roundw
                case rel => exact ⟨_, P2, j + 1, G, K, d, F, L, rfl, rfl, by simp; try omega, by omega, by omega, hF.out.next, S7⟩
                case measure => simp [intOf]; omega
              · have f5 : (ka == 5) = false := by simp [k5]
                have hN := hide hF.out.next
                clear k1 k2 k3 k5
                go_wp2
                go_roundw
                case rel => exact ⟨v, P, j + 1, G, K, d, F, L, rfl, rfl, by simp; try omega, by omega, by omega, hN, S1⟩
                case measure => simp [intOf]; omega
    · by_cases hjm2 : j < m
      · have t1 : decide ((j : Int) < (m : Int)) = true := by simp; omega
        have t2 : decide (j < m) = true := by simp; omega
        have t3 : decide ((j : Int) < 20) = false := by simp; omega
        have t4 : decide (j < 20) = false := by simp; omega
        clear hlt
        go_wp2_with (first | (go_at_call 3; (with_reducible refine (hruns.out _).mono ?_); rintro e w4 ⟨rfl, hb4⟩; have B9 := hide (kept_trans S.out.low hb4)))
        go_ret
        exact ⟨rfl, B9.out⟩
      · have t1 : decide ((j : Int) < (m : Int)) = false := by simp; omega
        have t2 : decide (j < m) = false := by simp; omega
        clear hlt
        go_wp2_with (first | (go_at_call 3; (with_reducible refine (hruns.out _).mono ?_); rintro e w4 ⟨rfl, hb4⟩; have B9 := hide (kept_trans S.out.low hb4)))
        go_ret
        exact ⟨rfl, B9.out⟩
end Go.Proofs.YtkmcnhjfnjikaaaGreatDoor
