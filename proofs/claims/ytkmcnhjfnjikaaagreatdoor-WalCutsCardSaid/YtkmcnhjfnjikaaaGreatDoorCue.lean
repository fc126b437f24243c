/- WalCuts. No condition. -/
import Derived.Test.YtkmcnhjfnjikaaaGreatDoorCud
import Derived.Deep.DeepCutAuto
import Derived.Deep.CutBlock
namespace Go.Proofs.YtkmcnhjfnjikaaaGreatDoor
open Go.RowKit Go.Maps
set_option maxRecDepth 100000 in
set_option maxHeartbeats 4000000 in
theorem cuts_any (A : Option Addr) (m c : Nat) (it : Nat → Pb) (A1 : Option Addr) (m1 c1 : Nat) (it1 : Nat → Sb) (an : Bool) (cut : Int) (A4 : Option Addr) (n4 c4 : Nat) (zs4 : List Int) (A5 : Option Addr) (n5 c5 : Nat) (zs5 : List Int) (W : World)
    (h : PpsIn W A m c it) (h1 : PartsIn W A1 m1 c1 it1) (_ : -9223372036854775808 ≤ cut ∧ cut ≤ 9223372036854775807) (h4 : IntsIn W A4 n4 c4 zs4) (h5 : IntsIn W A5 n5 c5 zs5) :
    Calls Tryz.prog 6 #[.slice A m c, .slice A1 m1 c1, .bool an, .int .i64 cut, .slice A4 n4 c4, .slice A5 n5 c5] W fun e w' => e = .returned (.bool true) ∧ Below W.heap.size W w' := by
  have hmx : (m : Int) ≤ 9223372036854775807 := by have := h.le; have := h.room; omega
  have hmx4 : (n4 : Int) ≤ 9223372036854775807 := by have := h4.le; have := h4.room; omega
  have hmx5 : (n5 : Int) ≤ 9223372036854775807 := by have := h5.le; have := h5.room; omega
  have q0 := hide (new_q 1048576 W (by omega))
  have oe := op_empty 1048576
  obtain ⟨st1, st2, st3⟩ := Ke.start
  have q1 := hide (fun (w : World) (g : Nat) (h : Lw W (fun k => k < W.heap.size) w g (newS 1048576)) => open_l (m := 60) (x := ⟨0, 0, false⟩) (L := []) h ⟨Nat.zero_le _, fun f hf => by (cases hf)⟩ (by omega) oe.1 oe.2.1 (by rw [oe.2.2.1, oe.2.2.2.1]) oe.2.2.2.2)
  have q2 := hide (fun (w : World) (p g : Nat) (v : Value) (h : Wk W w (fun k => k < W.heap.size) p g (newS 1048576) ⟨0, 0, false⟩ v []) => h.anew (n := 0) (Below.refl _ _) (recs0 (fun k => w.heap.size ≤ k ∧ k < w.heap.size) w) (fun k hk => .inr (.inr hk)) rfl (by omega) (fun q hq => by (cases hq)) (by decide) (Nat.zero_le _) ⟨st1, rfl, st2⟩)
  have st3 := hide st3
  generalize anS (newS 1048576) ⟨0, 0, false⟩ [] = d0 at *
  have hP := hide h
  have hP1 := hide h1
  have hP4 := hide h4
  have hP5 := hide h5
  have hruns := hide runs_any
  clear oe st1 st2 h h1 h4 h5
  go_enter Tryz.func6, Tryz.ntmps6
  go_upto_region 3 with (first
    | (go_at_call 10; (with_reducible refine q0.out.mono ?_); rintro e w1 ⟨g, rfl, hq1, hb1⟩; (have S0 := hide (Lw.start hq1 hb1)); clear hq1 hb1)
    | (go_at_call 11; (with_reducible refine (q1.out _ _ S0.out).mono ?_); rintro e w2 ⟨P, A9, n9, rfl, hS, -⟩; (have S1 := hide hS); clear hS S0))
  by_cases hp : 20 < n5
  · have e1 : decide ((20 : Int) < (n5 : Int)) = true := by simp; omega
    have e2 : decide (20 < n5) = true := by simp; omega
    clear hp
    go_wp2_with (first | (go_at_call 3; (with_reducible refine (hruns.out _).mono ?_); rintro e w4 ⟨rfl, hb4⟩; have B9 := hide (kept_trans S1.out.low hb4)))
    go_ret
    exact ⟨rfl, B9.out⟩
  have e1 : decide ((20 : Int) < (n5 : Int)) = false := by simp; omega
  have e2 : decide (20 < n5) = false := by simp; omega
  have hp5 : n5 ≤ 20 := by omega
  clear hp
  go_upto_region 6 with (fail)
  have S2 := hide (Wk.start S1.out).renew
  clear S1
  generalize Value.slice (some ⟨w2.heap.size, 0, none⟩) 0 0 = v0 at S2 ⊢
  generalize World.alloc _ _ = w3 at S2 ⊢
  go_upto_block 0 with (first
    | (go_at_call 13; (with_reducible refine (q2.out _ _ _ _ S2.out).mono ?_); rintro e w4 ⟨rfl, hS, -⟩; (have S3 := hide hS); clear hS S2))
  clear q0 q1 q2
  go_cut [18, 19, 20] (fun s18 _ _ wx => ∃ (vv : Value) (j K : Nat) (d : DS) (F : Nat → List (List Int)) (L : List (List Int)), s18 = vv ∧ j ≤ 8 ∧ Hid (Ke j d 1 K F L) ∧ Hid (Wk W wx (fun k => k < W.heap.size) P g d ⟨1, K, false⟩ vv L))
  case first =>
    go_wp2
    go_loopw [18, 19] (fun v i wr => ∃ (vv : Value) (j K : Nat) (d : DS) (F : Nat → List (List Int)) (L : List (List Int)), vv = v ∧ i = .int .i64 j ∧ j ≤ 8 ∧ j ≤ m ∧ Hid (Ke j d 1 K F L) ∧ Hid (Wk W wr (fun k => k < W.heap.size) P g d ⟨1, K, false⟩ vv L)) (fun _ i _ => 8 - (intOf i).toNat)
    case atStart => exact ⟨_, 0, 1, d0, _, [], rfl, rfl, by omega, by omega, st3, S3⟩
    case round =>
      obtain ⟨v, j, K, d, F, L, rfl, rfl, hj, hjm, hF, S⟩ := hrel
      by_cases hlt : j < m ∧ j < 8
      · obtain ⟨hlt1, hlt2⟩ := hlt
        have t1 : decide ((j : Int) < (m : Int)) = true := by simp; omega
        have t2 : decide (j < m) = true := by simp; omega
        have t3 : decide ((j : Int) < 8) = true := by simp; omega
        have t4 : decide (j < 8) = true := by simp; omega
        have hj0 : j < m := hlt1
        have hj8 : j < 8 := hlt2
        obtain ⟨b, off, rfl, hbl, hat, hok⟩ := hP.out.at_ j hlt1
        have cw := (S.out.low.cell (p := ⟨b, off + j, none⟩) hbl).trans hat
        clear hat
        generalize it j = a at *
        have hok := hide hok
        have hfew := hide (fun (w2 : World) (hb : Below W.heap.size W w2) => few_any hok.out hb)
        have hM := hide (fewL_ok hok.out (Nat.min_le_left a.m 6))
        have h6 : (fewL a.it (min a.m 6)).length ≤ 6 := Nat.le_trans (fewL_len _ _) (Nat.min_le_right _ _)
        generalize fewL a.it (min a.m 6) = M at *
        generalize a.A = aA at *
        generalize a.m = am at *
        generalize a.c = ac at *
        go_upto_region 12 with (first
          | (go_at_call 32; (with_reducible refine (hfew.out _ S.out.low).mono ?_); rintro e w1 ⟨v2, rfl, hN, hv2, hb1⟩; (have N1 := hide hN); (have hv2 := hide hv2); (have B1 := hide hb1); clear hN hb1))
        obtain ⟨A2, c2, rfl, hr2⟩ := N1.out.recs (fun p hp => (hM.out p hp).2)
        have hr2 := hide hr2
        have hkk := hF.out.k
        have hfd := hF.out.g.len (by omega) (by omega)
        have hLn := hF.out.ln
        have hY := hide (show ∀ k, (k < W.heap.size ∨ Value.ownBlock (.slice A2 M.length c2) = some k) → k < W.heap.size ∨ v.ownBlock = some k ∨ (wr.heap.size ≤ k ∧ k < w1.heap.size) from fun k hk => by
          rcases hk with z | z
          · exact .inl z
          · exact .inr (.inr ⟨hv2.out k z, N1.out.lt k z⟩))
        have hsz := hide (fun q (hq : q ∈ M) => (show q.length ≤ 1000000 by have := (hM.out q hq).1; omega))
        obtain ⟨ln, hln⟩ : ∃ n, M.length = n := ⟨_, rfl⟩
        rw [hln] at N1 hv2 hr2 hY h6
        rw [hln]
        obtain ⟨K', F', g1, g2, hF2⟩ := hF.out.add (by omega) hM.out (by omega)
        have hF2 := hide hF2
        have hadd := hide (S.out.addk (n := ln) (y := 0) B1.out hr2.out hY.out hln (by omega) hsz.out (by show 1 < 99; omega) (by show K < 99; omega) (by omega) ⟨g1, rfl, g2⟩)
        generalize adS d ⟨1, K, false⟩ M = d' at *
        go_upto_region 14 with (first | (go_at_call 12; (with_reducible refine hadd.out.mono ?_); rintro e w3 ⟨rfl, hS3, hk3⟩; (have S4 := hide hS3); (have N3 := hide (N1.out.kx hk3 (fun k hk => .inr (.inr ⟨hv2.out k hk, N1.out.lt k hk⟩)) (fun k hk => .inl hk))); clear hS3 hk3))
        obtain ⟨vs, hvs, hvl⟩ := S4.out.want.own
        have hvs := hide hvs
        have hvl := hide hvl
        go_wp2_with (at_builtin; refine append_wnt rfl (.tmp 81) (.tmp 82) rfl v L vs rfl hvs.out (.slice A2 ln c2) M rfl N3.out (by omega) ?_)
        intro us v3 w5 hus o4 k4 hat4
        have S5 := hide (S4.out.grows (Below.refl _ _) hus hvl.out (by have := hvs.out.1; omega) (fun k hk => Nat.le_of_not_lt (S4.out.want.apart k hk)) (by rw [List.length_append, hln]) o4 k4 hat4)
        clear hus o4 k4 hat4 hvs hvl S4
        go_wp2
        go_roundw
        case rel => exact ⟨v3, j + 1, K', d', F', L ++ M, rfl, by simp; try omega, by omega, by omega, hF2, S5⟩
        case measure => simp [intOf]; omega
      · by_cases hjm2 : j < m
        · have t1 : decide ((j : Int) < (m : Int)) = true := by simp; omega
          have t2 : decide (j < m) = true := by simp; omega
          have t3 : decide ((j : Int) < 8) = false := by simp; omega
          have t4 : decide (j < 8) = false := by simp; omega
          clear hlt
          go_wp2
          go_meet
          exact ⟨v, j, K, d, F, L, rfl, hj, hF, S⟩
        · have t1 : decide ((j : Int) < (m : Int)) = false := by simp; omega
          have t2 : decide (j < m) = false := by simp; omega
          clear hlt
          go_wp2
          go_meet
          exact ⟨v, j, K, d, F, L, rfl, hj, hF, S⟩
  case rest =>
  obtain ⟨v, j, K, d, F, L, rfl, hj, hF, S⟩ := hcut
  have hfew := hide (fun (w2 : World) (hb : Below W.heap.size W w2) => few_any hP1.out hb)
  have hM := hide (fewL_ok hP1.out (Nat.min_le_left m1 6))
  have h6 : (fewL it1 (min m1 6)).length ≤ 6 := Nat.le_trans (fewL_len _ _) (Nat.min_le_right _ _)
  have hwi := hide (fun w => within_any cut 0 5 w (by omega) (by omega) (by omega))
  have hwb := withinI_bounds cut 0 5 (by omega)
  generalize withinI cut 0 5 = q at *
  generalize fewL it1 (min m1 6) = M at *
  go_upto_region 16 with (first
    | (go_at_call 32; (with_reducible refine (hfew.out _ S.out.low).mono ?_); rintro e w1 ⟨v2, rfl, hN, hv2, hb1⟩; (have N1 := hide hN); (have hv2 := hide hv2); (have B1 := hide hb1); clear hN hb1))
  have S1 := hide (S.out.wider (Y' := fun k => k < W.heap.size ∨ v2.ownBlock = some k) B1.out (fun k h => .inl h) (fun k h => h.imp id fun e => ⟨hv2.out k e, N1.out.lt k e⟩))
  have harm := hide (S1.out.arm (n := q) (by omega))
  go_upto_if 90 with (first
    | (go_at_call 16; (with_reducible refine (hwi.out _).mono ?_); rintro e w6 ⟨rfl, rfl⟩)
    | (go_at_call 22; (with_reducible refine harm.out.mono ?_); rintro e w2 ⟨rfl, hS, hk⟩; (have S2 := hide hS); (have N2 := hide (N1.out.kx hk (fun k hk => .inl (.inr hk)) (fun k hk => .inl (.inl hk)))); clear hS hk))
  clear hfew hwi harm S1 N1 S B1 hP hP1
  obtain ⟨A2, c2, rfl, hr2⟩ := N2.out.recs (fun p hp => (hM.out p hp).2)
  obtain ⟨Av, cv, rfl, hrv⟩ := S2.out.want.recs (fun p hp => (hF.out.sz p hp).2)
  have hr2 := hide hr2
  clear hrv
  have hkk := hF.out.k
  have hfd := hF.out.g.len (by omega) (by omega)
  have hLn := hF.out.ln
  have htot := hF.out.tot
  have hq := hF.out.q
  have henc := enc_few hM.out
  have hsz := hide (fun p (hp : p ∈ M) => (show p.length ≤ 1000000 by have := (hM.out p hp).1; omega))
  have hszL := hide (fun p (hp : p ∈ L) => (show p.length ≤ 1000000 by have := (hF.out.sz p hp).1; omega))
  have hoct := hide (fun p (hp : p ∈ L) => (hF.out.sz p hp).2)
  have hoctM := hide (fun p (hp : p ∈ M) => (hM.out p hp).2)
  have l0 := num7_len (M.length : Nat)
  have e0 : (enc (anF M)).length = (num7 (M.length : Nat)).length + 6 + (enc M).length := by unfold anF; rw [enc_cons, List.length_append, length_frm]
  have icA := hide (hF.out.g.cutAdd (by omega) (mayB_few hM.out) hoctM.out (by omega) q hwb.1)
  have icN := hide (hF.out.g.cutAnew (by omega) (mayB_few hM.out) hoctM.out (by omega) (by omega) q hwb.1)
  rw [hF.out.ct] at icA icN
  have hY := hide (show ∀ k, (k < W.heap.size ∨ Value.ownBlock (.slice A2 M.length c2) = some k) → (k < W.heap.size ∨ Value.ownBlock (.slice A2 M.length c2) = some k) ∨ Value.ownBlock (.slice Av L.length cv) = some k ∨ (w2.heap.size ≤ k ∧ k < w2.heap.size) from fun k hk => .inl hk)
  obtain ⟨lm, hlm⟩ : ∃ n, M.length = n := ⟨_, rfl⟩
  obtain ⟨ll, hll⟩ : ∃ n, L.length = n := ⟨_, rfl⟩
  have cA := hide (S2.out.addk (Below.refl _ _) hr2.out hY.out rfl (by omega) hsz.out (by show 1 < 99; omega) (by show K < 99; omega) (by show d.l.length ≤ 80; omega) ⟨rfl, rfl, rfl⟩)
  have cN := hide (S2.out.anew (Below.refl _ _) hr2.out hY.out rfl (by omega) hsz.out (by show 1 < 99; omega) (by show d.l.length ≤ 80; omega) ⟨rfl, rfl, rfl⟩)
  rw [hlm] at cA cN N2 S2 hr2 hY
  rw [hll] at cA cN S2 hY
  rw [hlm, hll]
  generalize adE (armS d q) ⟨1, K, false⟩ M = zA at *
  generalize adS (armS d q) ⟨1, K, false⟩ M = dA at *
  generalize anE (armS d q) ⟨1, K, false⟩ M = zN at *
  generalize anS (armS d q) ⟨1, K, false⟩ M = dN at *
  generalize adW (armS d q) ⟨1, K, false⟩ M = xA at *
  generalize anW (armS d q) ⟨1, K, false⟩ M = xN at *
  go_cut [22] (fun s22 wx => ∃ (z : Int) (d : DS), s22 = .int .i64 z ∧ Hid (Iq (if an = true then Rn L M z else Ra L M z) d) ∧ Hid (Wd W wx (fun k => k < W.heap.size ∨ Value.ownBlock (.slice A2 lm c2) = some k) g d (.slice Av ll cv) L (.slice A2 lm c2) M))
  case first =>
    cases an
    · go_wp2_with (first | (go_at_call 12; (with_reducible refine cA.out.mono ?_); rintro e w7 ⟨rfl, hS, hk⟩; (have S4 := hide (hS.wd (N2.out.kx hk (fun k hk => .inl (.inr hk)) (fun k hk => .inl (.inl hk))) (fun k hk => .inr hk)))))
      go_meet
      exact ⟨zA, dA, rfl, icA, S4⟩
    · go_wp2_with (first | (go_at_call 13; (with_reducible refine cN.out.mono ?_); rintro e w7 ⟨rfl, hS, hk⟩; (have S4 := hide (hS.wd (N2.out.kx hk (fun k hk => .inl (.inr hk)) (fun k hk => .inl (.inl hk))) (fun k hk => .inr hk)))))
      go_meet
      exact ⟨zN, dN, rfl, icN, S4⟩
  case rest =>
  obtain ⟨z, d1, rfl, hI, S4⟩ := hcut
  have hl48 : ll ≤ 48 := by omega
  clear cA cN icA icN S2 N2 hr2 hY hF htot hq henc l0 e0 hkk hfd hLn hwb
  generalize hRR : (if an = true then Rn L M z else Ra L M z) = RR at hI
  go_upto_block 2 with (fail)
  go_cut [23] (fun _ wx => ∃ (d : DS), Hid (Iq RR d) ∧ Hid (Wd W wx (fun k => k < W.heap.size ∨ Value.ownBlock (.slice A2 lm c2) = some k) g d (.slice Av ll cv) L (.slice A2 lm c2) M))
  case first =>
    clear hRR
    go_wp2
    go_loopw [23] (fun i wr => ∃ (j : Nat) (d : DS), i = .int .i64 j ∧ j ≤ 4 ∧ j ≤ n4 ∧ Hid (Iq RR d) ∧ Hid (Wd W wr (fun k => k < W.heap.size ∨ Value.ownBlock (.slice A2 lm c2) = some k) g d (.slice Av ll cv) L (.slice A2 lm c2) M)) (fun i _ => 4 - (intOf i).toNat)
    case atStart => exact ⟨0, d1, rfl, by omega, by omega, hI, S4⟩
    case round =>
      obtain ⟨i, d, rfl, hi, him, hId, S⟩ := hrel
      by_cases hlt : i < n4 ∧ i < 4
      · obtain ⟨hlt1, hlt2⟩ := hlt
        have t1 : decide ((i : Int) < (n4 : Int)) = true := by simp; omega
        have t2 : decide (i < n4) = true := by simp; omega
        have t3 : decide ((i : Int) < 4) = true := by simp; omega
        have t4 : decide (i < 4) = true := by simp; omega
        have hi0 : i < n4 := hlt1
        have hi4 : i < 4 := hlt2
        obtain ⟨b, off, rfl, hbl, hat⟩ := hP4.out.lies.at_ (k := i) (by have := hP4.out.len; omega)
        have hat := hide hat
        generalize ix zs4 i = y at *
        have hwi := hide (fun w => within_any y 0 4 w (by omega) (by omega) (by omega))
        have hwb := withinI_bounds y 0 4 (by omega)
        generalize withinI y 0 4 = q2 at *
        have hln := hId.out.len
        have hcr := hide (S.out.crash hP5.out hp5 (by omega))
        have hsm := hide (hId.out.sm zs5)
        have hI2 := hide (hId.out.round zs5 q2)
        go_upto_region 25 with (first
          | (go_at_call 24; (with_reducible refine hcr.out.mono ?_); rintro e w6 ⟨rfl, hS⟩; (have S5 := hide hS); clear hS))
        have cw := (S5.out.low.cell (p := ⟨b, off + i, none⟩) hbl).trans hat.out
        have har := hide (S5.out.arm (n := q2) (by omega))
        have hop := hide (fun (w7 : World) (S7 : Wd W w7 (fun k => k < W.heap.size ∨ Value.ownBlock (.slice A2 lm c2) = some k) g (armS (craS d zs5) q2) (.slice Av ll cv) L (.slice A2 lm c2) M) => S7.open (m := 21) hsm.out (by omega))
        generalize opS (armS (craS d zs5) q2) = d2 at *
        go_upto_region 23 with (first
          | (go_at_call 16; (with_reducible refine (hwi.out _).mono ?_); rintro e w8 ⟨rfl, rfl⟩)
          | (go_at_call 22; (with_reducible refine har.out.mono ?_); rintro e w7 ⟨rfl, hS⟩; (have S7 := hide hS); clear hS)
          | (go_at_call 11; (with_reducible refine (hop.out _ S7.out).mono ?_); rintro e w9 ⟨P9, A8, n8, c8, z8, rfl, hS⟩; (have S9 := hide hS); clear hS))
        go_wp2
        go_roundw
        case rel => exact ⟨i + 1, d2, by simp; try omega, by omega, by omega, hI2, S9⟩
        case measure => simp [intOf]; omega
      · by_cases him2 : i < n4
        · have t1 : decide ((i : Int) < (n4 : Int)) = true := by simp; omega
          have t2 : decide (i < n4) = true := by simp; omega
          have t3 : decide ((i : Int) < 4) = false := by simp; omega
          have t4 : decide (i < 4) = false := by simp; omega
          clear hlt
          go_wp2
          go_meet
          exact ⟨d, hId, S⟩
        · have t1 : decide ((i : Int) < (n4 : Int)) = false := by simp; omega
          have t2 : decide (i < n4) = false := by simp; omega
          clear hlt
          go_wp2
          go_meet
          exact ⟨d, hId, S⟩
  case rest =>
  obtain ⟨d2, hI2, S5⟩ := hcut
  clear hI S4
  have hln := hI2.out.len
  have hcr := hide (S5.out.crash hP5.out hp5 (by omega))
  have hsm := hide (hI2.out.sm zs5)
  obtain ⟨ho, hr⟩ := hI2.out.open zs5
  have ho := hide ho
  have hR := hide hr
  clear hr
  have hop := hide (fun (w7 : World) (S7 : Wd W w7 (fun k => k < W.heap.size ∨ Value.ownBlock (.slice A2 lm c2) = some k) g (craS d2 zs5) (.slice Av ll cv) L (.slice A2 lm c2) M) => S7.last (m := 21) hsm.out (by omega) ho.out)
  generalize opL (craS d2 zs5) = N at *
  generalize opS (craS d2 zs5) = d3 at *
  obtain ⟨ln, hln2⟩ : ∃ n, N.length = n := ⟨_, rfl⟩
  rw [hln2] at hop
  go_upto_region 31 with (first
    | (go_at_call 24; (with_reducible refine hcr.out.mono ?_); rintro e w6 ⟨rfl, hS⟩; (have S6 := hide hS); clear hS)
    | (go_at_call 11; (with_reducible refine (hop.out _ S6.out).mono ?_); rintro e w7 ⟨P9, A8, c8, rfl, hS, hN⟩; (have S7 := hide hS); (have N7 := hide hN); clear hS hN))
  clear hop hcr S6 S5
  obtain ⟨Y1, rv⟩ := S7.out.want.recs_at hoct.out
  obtain ⟨Y2, rc⟩ := Wnt.recs_at S7.out.came hoctM.out
  have rv := hide rv
  have rc := hide rc
  have hlow := hide S7.out.low
  clear S7
  cases an
  · have hR2 : Ra L M z N := by rw [← hRR] at hR; exact hR.out
    clear hRR hR
    obtain ⟨i, hi1, hi2, rfl⟩ := hR2
    rw [List.length_append, List.length_take, Nat.min_eq_left hi1, hll] at hln2
    rw [hlm] at hi1 hi2
    have z0 := N7.out.le
    rw [List.length_append, List.length_take, hll, hlm, Nat.min_eq_left hi1] at z0
    have zc := rc.out.le
    rw [hlm] at zc
    have k1 := hide (fun (w9 : World) (hb : Below w7.heap.size w7 w9) => lists_b (n := ll) (m := ll) (N7.out.first ll) rv.out (by rw [List.length_take, List.length_append, hll]; omega) hll (by omega) (by omega) (fun p hp => hszL.out p (by rw [← hll, List.take_left] at hp; exact hp)) hszL.out hb)
    rw [decide_eq_true (show (L ++ M.take i).take ll = L by rw [← hll, List.take_left])] at k1
    have k2 := hide (fun (w9 : World) (hb : Below w7.heap.size w7 w9) => lists_b (n := i) (m := i) (N7.out.rest ll) (rc.out.first i) (by rw [List.length_drop, List.length_append, List.length_take, hll, hlm]; omega) (by rw [List.length_take, hlm]; omega) (by omega) (by omega) (fun p hp => hsz.out p (by rw [← hll, List.drop_left] at hp; exact List.mem_of_mem_take hp)) (fun p hp => hsz.out p (List.mem_of_mem_take hp)) hb)
    rw [decide_eq_true (show (L ++ M.take i).drop ll = M.take i by rw [← hll, List.drop_left])] at k2
    have x0 : IntKind.i64.wrap ((ln : Int) - (ll : Int)) = (i : Int) := by rw [IntKind.wrap_i64]; omega
    have x1 : decide ((i : Int) < 0) = false := by simp; try omega
    have x2 : decide ((lm : Int) < (i : Int)) = false := by simp; omega
    have x3 : decide (lm < i) = false := by simp; omega
    have x5 : (z == 0) = false ∨ ((z == 0) = true ∧ ((i : Int) != (lm : Int)) = false) := by
      by_cases hz : z = 0
      · exact .inr ⟨by simp [hz], by simp [hi2 hz]⟩
      · exact .inl (by simp [hz])
    have y1 : (ll : Int) ≤ (c8 : Int) := by omega
    have y2 : (ll : Int) ≤ (ln : Int) := by omega
    have y3 : (i : Int) ≤ (c2 : Int) := by omega
    have y4 : (if c8 = ll then A8 else Option.map (fun x => x.add ll) A8) = partA A8 c8 ll := rfl
    have y5 : ln - ll = i := by omega
    clear hi2 hln2
    rcases x5 with x4 | ⟨x4, x5⟩
    all_goals
      go_upto_region 36 with (fail)
      have BB := hide (Below.refl w7.heap.size w7).drew
      go_region_held3 (fun _ => True) (go_keep)
        (first
          | (go_at_call 26; (with_reducible refine (k1.out _ BB.out).mono ?_); rintro e w9 ⟨rfl, hb9⟩; clear BB; (have BB := hide hb9); clear hb9)
          | (go_at_call 26; (with_reducible refine (k2.out _ BB.out).mono ?_); rintro e w9 ⟨rfl, hb9⟩; clear BB; (have BB := hide hb9); clear hb9)
          | (go_at_call 3; (with_reducible refine (hruns.out _).mono ?_); rintro e w9 ⟨rfl, hb9⟩; (have BN := hide (kept_trans BB.out hb9)); clear BB hb9; (have BB := BN); clear BN))
      go_wp2
      go_ret
      exact ⟨rfl, kept_trans hlow.out BB.out⟩
  · have hR2 : Rn L M z N := by rw [← hRR] at hR; exact hR.out
    clear hRR hR
    have hszN := hide (show ∀ p, p ∈ N → p.length ≤ 1000000 from fun p hp => by
      rcases hR2 with ⟨_, e⟩ | e
      · exact hszL.out p (by rw [← e]; exact hp)
      · exact hsz.out p (by rw [← e]; exact hp))
    have hlnb : ln ≤ 100 := by
      rcases hR2 with ⟨_, e⟩ | e
      · rw [e, hll] at hln2; omega
      · rw [e, hlm] at hln2; omega
    have k1 := hide (fun (w9 : World) (hb : Below w7.heap.size w7 w9) => lists_b (n := ln) (m := ll) N7.out rv.out hln2 hll (by omega) (by omega) hszN.out hszL.out hb)
    have k2 := hide (fun (w9 : World) (hb : Below w7.heap.size w7 w9) => lists_b (n := ln) (m := lm) N7.out rc.out hln2 hlm (by omega) (by omega) hszN.out hsz.out hb)
    have x5 : (decide (N = L) = true ∧ (z != 0) = true) ∨ (decide (N = L) = true ∧ (z != 0) = false ∧ decide (N = M) = true) ∨ (decide (N = L) = false ∧ decide (N = M) = true) := by
      by_cases h1 : N = L
      · by_cases hz : z = 0
        · refine .inr (.inl ⟨decide_eq_true h1, by simp [hz], decide_eq_true ?_⟩)
          rcases hR2 with ⟨h3, _⟩ | h3
          · exact absurd hz h3
          · exact h3
        · exact .inl ⟨decide_eq_true h1, by simp [hz]⟩
      · refine .inr (.inr ⟨decide_eq_false h1, decide_eq_true ?_⟩)
        rcases hR2 with ⟨_, h3⟩ | h3
        · exact absurd h3 h1
        · exact h3
    clear hR2 hln2
    generalize decide (N = L) = tL at *
    generalize decide (N = M) = tM at *
    have BB := hide (Below.refl w7.heap.size w7)
    rcases x5 with ⟨rfl, x4⟩ | ⟨rfl, x4, rfl⟩ | ⟨rfl, rfl⟩
    all_goals
      go_wp2_with (first
          | (go_at_call 26; (with_reducible refine (k1.out _ BB.out).mono ?_); rintro e w9 ⟨rfl, hb9⟩; clear BB; (have BB := hide hb9); clear hb9)
          | (go_at_call 26; (with_reducible refine (k2.out _ BB.out).mono ?_); rintro e w9 ⟨rfl, hb9⟩; clear BB; (have BB := hide hb9); clear hb9)
          | (go_at_call 3; (with_reducible refine (hruns.out _).mono ?_); rintro e w9 ⟨rfl, hb9⟩; (have BN := hide (kept_trans BB.out hb9)); clear BB hb9; (have BB := BN); clear BN))
      go_ret
      exact ⟨rfl, kept_trans hlow.out BB.out⟩
end Go.Proofs.YtkmcnhjfnjikaaaGreatDoor
