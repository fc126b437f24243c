/- WalPlays. No condition. -/
import Derived.Test.YtkmcnhjfnjikaaaGreatDoorRboth
import Derived.Deep.DeepCutAuto
import Derived.Deep.CutBlock
import Derived.Deep.RegionHeld3
import Derived.Deep.RegionWith
namespace Go.Proofs.YtkmcnhjfnjikaaaGreatDoor
open Go.RowKit Go.Maps
set_option maxRecDepth 100000 in
set_option maxHeartbeats 4000000 in
theorem plays_any (l : Int) (A : Option Addr) (m c : Nat) (it : Nat → La) (W : World) (_ : -9223372036854775808 ≤ l ∧ l ≤ 9223372036854775807) (h : LasIn W A m c it) :
    Calls Tryz.prog 4 #[.int .i64 l, .slice A m c] W fun e w' => e = .returned (.bool true) ∧ Below W.heap.size W w' := by
  have hmx : (m : Int) ≤ 9223372036854775807 := by have := h.le; have := h.room; omega
  have hP := hide h
  have hruns := hide runs_any
  have hwi := hide (fun w => within_any l 0 60000 w (by omega) (by omega) (by omega))
  have hwb := withinI_bounds l 0 60000 (by omega)
  generalize withinI l 0 60000 = q at *
  have q0 := hide (fun w => new_q q w (by omega))
  have q1 := hide (fun w => rnew_yes q w (by omega))
  clear h
  go_enter Tryz.func4, Tryz.ntmps4
  go_upto_block 0 with (first
    | (go_at_call 16; (with_reducible refine (hwi.out _).mono ?_); rintro e w6 ⟨rfl, rfl⟩)
    | (go_at_call 10; (with_reducible refine (q0.out _).mono ?_); rintro e w1 ⟨p, rfl, hd, hb⟩; (have L1 := hide hd); (have B1 := hide hb); clear hd hb)
    | (go_at_call 17; (with_reducible refine (q1.out _).mono ?_); rintro e w2 ⟨rfl, hd, hb⟩; (have L2 := hide (both_new L1.out B1.out hd hb)); clear hd hb L1 B1)
    | (go_at_call 11; (with_reducible refine L2.out.popen0.mono ?_); rintro e w3 ⟨P, A3, c3, rfl, hM, -⟩; (have L3 := hide hM); clear hM L2)
    | (go_at_call 18; (with_reducible refine L3.out.ropen0.mono ?_); rintro e w4 ⟨R, A4, c4, rfl, hM⟩; (have L4 := hide hM); clear hM L3))
  generalize w1.heap.size = r at *
  have S0 := hide (show Sw W w4 p r 1 (.pointer (some ⟨P, 0, none⟩)) (.pointer (some ⟨R, 0, none⟩)) from .inr ⟨_, _, P, R, rfl, rfl, pi_new q, L4.out⟩)
  clear L4 q0 q1 hwi hwb
  go_wp2
  go_loopw [10, 12, 13, 15, 16] (fun wv _ xv _ i wr => ∃ j : Nat, i = .int .i64 j ∧ j ≤ m ∧ j ≤ 25 ∧ Hid (Sw W wr p r (j + 1) wv xv)) (fun _ _ _ _ i _ => 25 - (intOf i).toNat)
  case atStart => exact ⟨0, rfl, by omega, by omega, S0⟩
  case round =>
    clear S0
    obtain ⟨j, rfl, hj, hj25, S⟩ := hrel
    by_cases hlt : j < m ∧ j < 25
    · obtain ⟨hlt1, hlt2⟩ := hlt
      have t1 : decide ((j : Int) < (m : Int)) = true := by simp; omega
      have t2 : decide (j < m) = true := by simp; omega
      have t3 : decide ((j : Int) < 25) = true := by simp; omega
      have t4 : decide (j < 25) = true := by simp; omega
      obtain ⟨b, off, rfl, hat, hok⟩ := hP.out.at' S.out.low hlt1
      generalize it j = a at *
      have c0 := hat.c0
      have c1 := hat.c1
      have c2 := hat.c2
      have c3 := hat.c3
      have hok := hide hok
      clear hat
      go_upto_region 12 with (fail)
      rcases S.out with ⟨rfl, rfl, d, hs, hu, hL⟩ | ⟨d, x, P1, R1, rfl, rfl, hpi, hPw⟩
      · have hj40 : j + 1 ≤ 60 := by omega
        have S1 := hide (Bx.startL hL a)
        have hs := hide hs
        have hu := hide hu
        clear hL S c0 c1 c2 c3
        generalize World.alloc _ _ = w1 at S1 ⊢
        generalize wr.heap.size = B at *
        have r0 := S1.out.c0
        have r1 := S1.out.c1
        have r2 := S1.out.c2
        have r3 := S1.out.c3
        go_upto_if 76 with (first | (go_at_call 19; (with_reducible refine (lightq hok.out S1.out.lowL).mono ?_); rintro e w5 ⟨t, rfl, ht, hb5⟩; (have S2 := hide (S1.out.belowL hb5)); have ht := hide ht))
        clear r0 r1 r2 r3 S1
        cases t
        · have S3 := hide (S2.out.swL hs.out hu.out)
          go_wp2
          go_roundw
          case rel => exact ⟨j + 1, by go_num, by omega, by omega, S3⟩
          case measure => simp [intOf]; omega
        · have hl9 := hide (ht.out rfl)
          have r0 := S2.out.c0
          go_upto_block 2 with (fail)
          go_cut [10, 12, 13, 15, 18, 19] from 60 to 185 (fun s10 _ s13 _ _ _ wx => Sw W wx p r (j + 2) s10 s13)
          case first =>
            by_cases k1 : a.k = 1
            · as_aux_lemma =>
                rw [k1] at r0
                go_upto_region 15 with (fail)
                go_quiet (fail)
                go_wp2_with fail
                go_meet
                exact S2.out.swLn hs.out hu.out _
            have e1 : (a.k == 1) = false := by simp [k1]
            by_cases k2 : a.k = 2
            · as_aux_lemma =>
                rw [k2] at r0
                go_upto_region 18 with (fail)
                go_quiet (fail)
                go_wp2_with fail
                go_meet
                exact S2.out.swLn hs.out hu.out _
            have e2 : (a.k == 2) = false := by simp [k2]
            by_cases k4 : a.k = 4
            · as_aux_lemma =>
                rw [k4] at r0
                have r1 := S2.out.c1
                have hnn := hide hok.out.n
                go_upto_region 22 with (first | (go_at_call 22; (with_reducible refine (S2.out.parmL hnn.out).mono ?_); rintro e w6 ⟨rfl, h⟩; (have S3 := hide h); clear h))
                have r4 := S3.out.c1
                go_wp2_with (first | (go_at_call 23; (with_reducible refine (S3.out.rarmL hnn.out).mono ?_); rintro e w7 ⟨rfl, h⟩; (have S4 := hide h); clear h))
                go_meet
                exact S4.out.swL (d := armS d a.n) hs.out hu.out
            have e4 : (a.k == 4) = false := by simp [k4]
            by_cases k3 : a.k = 3
            · as_aux_lemma =>
                rw [k3] at r0
                have QQ := hide S2.out
                have hsm := hide hs.out
                have hup := hide hu.out
                clear S2
                by_cases hE : opE d = 0
                · have H1 := hide (QQ.out.open1 hsm.out hj40 hE)
                  have H2 := hide (fun w2 P A c (h : Mw (fun k => k < W.heap.size) W w2 p r P (opS d) d ⟨opG d, (opZ d).k, false⟩ A c (opL d)) => open2 h hsm.out hup.out hj40 hE)
                  clear hE
                  generalize (opL d).length = ln at *
                  go_upto_region 31 with (first
                    | (go_at_call 11; (with_reducible refine H1.out.mono ?_); rintro e w7 ⟨P2, A5, c5, rfl, hM⟩; (have M0 := hide (H2.out _ _ _ _ hM)); clear hM)
                    | (go_at_call 18; (with_reducible refine M0.out.mono ?_); rintro e w8 ⟨R2, A6, c6, rfl, hT⟩; (have T8 := hide hT); clear hT M0))
                  clear H1 H2 QQ
                  go_wp2_with (first | (go_at_call 26; (with_reducible refine T8.out.lists0.mono ?_); rintro e w9 ⟨rfl, k9, rfl⟩))
                  go_meet
                  exact (T8.out.drewN k9).1
                · have H1 := hide (QQ.out.openE1 hsm.out hj40 hE)
                  have H2 := hide (fun w2 (h : Lb W (fun k => k < W.heap.size) w2 p (opS d) r d) => openE2 h hsm.out hup.out hj40 hE)
                  clear hE
                  generalize opE d = eo at *
                  go_upto_region 31 with (first
                    | (go_at_call 11; (with_reducible refine H1.out.mono ?_); rintro e w7 ⟨rfl, hM⟩; (have M0 := hide (H2.out _ hM)); clear hM)
                    | (go_at_call 18; (with_reducible refine M0.out.mono ?_); rintro e w8 ⟨rfl, hT⟩; (have T8 := hide hT); clear hT M0))
                  clear H1 H2 QQ
                  have HL := hide lists_nil0
                  go_wp2_with (first | (go_at_call 26; (with_reducible refine (HL.out _).mono ?_); rintro e w9 ⟨rfl, k9, rfl⟩))
                  go_meet
                  exact T8.out k9
            have e3 : (a.k == 3) = false := by simp [k3]
            by_cases k5 : a.k = 5
            · as_aux_lemma =>
                rw [k5] at r0
                have QA := hide S2.out
                have hdl := hide (show d.l.length ≤ 1000000 by have := hs.out.len; omega)
                have r3 := QA.out.c3
                clear S2
                go_upto_region 27 with (first | (go_at_call 24; (with_reducible refine (QA.out.pcraL hok.out hl9.out.2 hdl.out).mono ?_); rintro e w6 ⟨rfl, h⟩; (have QB := hide h); clear h))
                have r6 := QB.out.c3
                clear r0 r3 QA
                go_upto_region 28 with (first | (go_at_call 25; (with_reducible refine (QB.out.rcraL hok.out hl9.out.2 hdl.out).mono ?_); rintro e w7 ⟨rfl, h⟩; (have QQ := hide h); clear h))
                have hsm := hide (hs.out.cra a.p.zs)
                have hup := hide QQ.out.upL
                clear r6 QB
                generalize craS d a.p.zs = d5 at *
                by_cases hE : opE d5 = 0
                · have H1 := hide (QQ.out.open1 hsm.out hj40 hE)
                  have H2 := hide (fun w2 P A c (h : Mw (fun k => k < W.heap.size) W w2 p r P (opS d5) d5 ⟨opG d5, (opZ d5).k, false⟩ A c (opL d5)) => open2 h hsm.out hup.out hj40 hE)
                  clear hE
                  generalize (opL d5).length = ln at *
                  go_upto_region 31 with (first
                    | (go_at_call 11; (with_reducible refine H1.out.mono ?_); rintro e w7 ⟨P2, A5, c5, rfl, hM⟩; (have M0 := hide (H2.out _ _ _ _ hM)); clear hM)
                    | (go_at_call 18; (with_reducible refine M0.out.mono ?_); rintro e w8 ⟨R2, A6, c6, rfl, hT⟩; (have T8 := hide hT); clear hT M0))
                  clear H1 H2 QQ
                  go_wp2_with (first | (go_at_call 26; (with_reducible refine T8.out.lists0.mono ?_); rintro e w9 ⟨rfl, k9, rfl⟩))
                  go_meet
                  exact (T8.out.drewN k9).1
                · have H1 := hide (QQ.out.openE1 hsm.out hj40 hE)
                  have H2 := hide (fun w2 (h : Lb W (fun k => k < W.heap.size) w2 p (opS d5) r d5) => openE2 h hsm.out hup.out hj40 hE)
                  clear hE
                  generalize opE d5 = eo at *
                  go_upto_region 31 with (first
                    | (go_at_call 11; (with_reducible refine H1.out.mono ?_); rintro e w7 ⟨rfl, hM⟩; (have M0 := hide (H2.out _ hM)); clear hM)
                    | (go_at_call 18; (with_reducible refine M0.out.mono ?_); rintro e w8 ⟨rfl, hT⟩; (have T8 := hide hT); clear hT M0))
                  clear H1 H2 QQ
                  have HL := hide lists_nil0
                  go_wp2_with (first | (go_at_call 26; (with_reducible refine (HL.out _).mono ?_); rintro e w9 ⟨rfl, k9, rfl⟩))
                  go_meet
                  exact T8.out k9
            have e5 : (a.k == 5) = false := by simp [k5]
            go_wp2_with fail
            go_meet
            exact S2.out.swL hs.out hu.out
          case rest => as_aux_lemma =>
            have SW := hide hcut
            clear hcut
            have hal := hide (SW.out.alike (by omega))
            go_upto_if 164 with (first | (go_at_call 27; (with_reducible refine hal.out.mono ?_); rintro e w8 ⟨rfl, h⟩; (have S8 := hide h); clear h))
            clear hal SW
            go_upto_region 35 with (fail)
            rcases S8.out with ⟨rfl, rfl, d9, g1, g2, g3⟩ | ⟨d9, x9, P9, R9, rfl, rfl, g1, g2⟩
            · clear g1 g2 g3
              go_wp2_with fail
              go_roundw
              case rel => exact ⟨j + 1, by go_num, by omega, by omega, S8⟩
              case measure => simp [intOf]; omega
            · as_aux_lemma =>
                have hwh := hide (where_any g2.wq)
                have q1 := hide (fun (w2 : World) (hb : Below w8.heap.size w8 w2) => (g2.row.below hb g2.row.lt).cell 1)
                have q2 := hide (fun (w2 : World) (hb : Below w8.heap.size w8 w2) => (g2.row.below hb g2.row.lt).cell 2)
                clear g1 g2
                go_upto_region 37 with (first | (go_at_call 15; (with_reducible refine hwh.out.mono ?_); rintro e w9 ⟨rfl, hb9⟩; (have S9 := hide (S8.out.below hb9)); (have q3 := q1.out _ hb9); (have q4 := q2.out _ hb9)))
                simp only [rwRow, List.getElem?_toArray, List.getElem?_cons_zero, List.getElem?_cons_succ] at q3 q4
                clear q1 q2 hwh S8
                go_wp2_with fail
                go_roundw
                case rel => exact ⟨j + 1, by go_num, by omega, by omega, S9⟩
                case measure => simp [intOf]; omega
      · have hj40 : j + 1 ≤ 60 := by omega
        have hj4 : j + 1 ≤ 40 := by omega
        have S1 := hide (Bx.startP hPw a)
        have hpi := hide hpi
        clear hPw S c0 c1 c2 c3
        generalize World.alloc _ _ = w1 at S1 ⊢
        generalize wr.heap.size = B at *
        have r0 := S1.out.c0
        have r1 := S1.out.c1
        have r2 := S1.out.c2
        have r3 := S1.out.c3
        go_upto_if 76 with (first | (go_at_call 19; (with_reducible refine (lightq hok.out S1.out.lowP).mono ?_); rintro e w5 ⟨t, rfl, ht, hb5⟩; (have S2 := hide (S1.out.belowP hb5)); have ht := hide ht))
        clear r0 r1 r2 r3 S1
        cases t
        · have S3 := hide ((S2.out.swP hpi.out).wider)
          go_wp2
          go_roundw
          case rel => exact ⟨j + 1, by go_num, by omega, by omega, S3⟩
          case measure => simp [intOf]; omega
        · have hl9 := hide (ht.out rfl)
          have r0 := S2.out.c0
          go_upto_block 2 with (fail)
          go_cut [10, 12, 13, 15, 18, 19] from 60 to 185 (fun s10 _ s13 _ _ _ wx => Sw W wx p r (j + 2) s10 s13)
          case first =>
            by_cases k1 : a.k = 1
            · as_aux_lemma =>
                rw [k1] at r0
                go_upto_region 15 with (fail)
                clear r0
                have QQ := hide S2.out.drewP
                clear S2
                go_region_held3 (fun w' => w'.cell? ⟨B, 2, none⟩ = some (.slice a.A a.m a.c)) ((with_reducible exact QQ.out.c2))
                  (first
                    | (go_at_call 12; (with_reducible refine (QQ.out.padd hok.out hl9.out.1 hpi.out hj4).mono ?_); rintro e w' ⟨rfl, h⟩; (have QN := hide h); clear QQ h; (have QQ := QN); clear QN)
                    | (go_at_call 20; (with_reducible refine (QQ.out.radd hok.out hl9.out.1 hpi.out hj4).mono ?_); rintro e w' ⟨rfl, h⟩; (have QN := hide h); clear QQ h; (have QQ := QN); clear QN))
                go_wp2_with fail
                go_meet
                exact QQ.out.swP (hpi.out.add (by omega))
            have e1 : (a.k == 1) = false := by simp [k1]
            by_cases k2 : a.k = 2
            · as_aux_lemma =>
                rw [k2] at r0
                go_upto_region 18 with (fail)
                clear r0
                have QQ := hide S2.out.drewP
                clear S2
                go_region_held3 (fun w' => w'.cell? ⟨B, 2, none⟩ = some (.slice a.A a.m a.c)) ((with_reducible exact QQ.out.c2))
                  (first
                    | (go_at_call 13; (with_reducible refine (QQ.out.panew hok.out hl9.out.1 hpi.out hj4).mono ?_); rintro e w' ⟨rfl, h⟩; (have QN := hide h); clear QQ h; (have QQ := QN); clear QN)
                    | (go_at_call 21; (with_reducible refine (QQ.out.ranew hok.out hl9.out.1 hpi.out hj4).mono ?_); rintro e w' ⟨rfl, h⟩; (have QN := hide h); clear QQ h; (have QQ := QN); clear QN))
                go_wp2_with fail
                go_meet
                exact QQ.out.swP (hpi.out.anew (by omega))
            have e2 : (a.k == 2) = false := by simp [k2]
            by_cases k4 : a.k = 4
            · as_aux_lemma =>
                rw [k4] at r0
                have r1 := S2.out.c1
                have hnn := hide hok.out.n
                go_upto_region 22 with (first | (go_at_call 22; (with_reducible refine (S2.out.parmP hnn.out).mono ?_); rintro e w6 ⟨rfl, h⟩; (have S3 := hide h); clear h))
                have r4 := S3.out.c1
                go_wp2_with (first | (go_at_call 23; (with_reducible refine (S3.out.rarmP hnn.out).mono ?_); rintro e w7 ⟨rfl, h⟩; (have S4 := hide h); clear h))
                go_meet
                exact S4.out.swP (hpi.out.arm a.n).wider
            have e4 : (a.k == 4) = false := by simp [k4]
            by_cases k3 : a.k = 3
            · as_aux_lemma =>
                rw [k3] at r0
                have QQ := hide S2.out.toL
                have hsm := hide hpi.out.sm
                have hup := hide hpi.out.up
                clear S2
                by_cases hE : opE d = 0
                · have H1 := hide (QQ.out.open1 hsm.out hj40 hE)
                  have H2 := hide (fun w2 P A c (h : Mw (fun k => k < W.heap.size) W w2 p r P (opS d) d ⟨opG d, (opZ d).k, false⟩ A c (opL d)) => open2 h hsm.out hup.out hj40 hE)
                  clear hE
                  generalize (opL d).length = ln at *
                  go_upto_region 31 with (first
                    | (go_at_call 11; (with_reducible refine H1.out.mono ?_); rintro e w7 ⟨P2, A5, c5, rfl, hM⟩; (have M0 := hide (H2.out _ _ _ _ hM)); clear hM)
                    | (go_at_call 18; (with_reducible refine M0.out.mono ?_); rintro e w8 ⟨R2, A6, c6, rfl, hT⟩; (have T8 := hide hT); clear hT M0))
                  clear H1 H2 QQ
                  go_wp2_with (first | (go_at_call 26; (with_reducible refine T8.out.lists0.mono ?_); rintro e w9 ⟨rfl, k9, rfl⟩))
                  go_meet
                  exact (T8.out.drewN k9).1
                · have H1 := hide (QQ.out.openE1 hsm.out hj40 hE)
                  have H2 := hide (fun w2 (h : Lb W (fun k => k < W.heap.size) w2 p (opS d) r d) => openE2 h hsm.out hup.out hj40 hE)
                  clear hE
                  generalize opE d = eo at *
                  go_upto_region 31 with (first
                    | (go_at_call 11; (with_reducible refine H1.out.mono ?_); rintro e w7 ⟨rfl, hM⟩; (have M0 := hide (H2.out _ hM)); clear hM)
                    | (go_at_call 18; (with_reducible refine M0.out.mono ?_); rintro e w8 ⟨rfl, hT⟩; (have T8 := hide hT); clear hT M0))
                  clear H1 H2 QQ
                  have HL := hide lists_nil0
                  go_wp2_with (first | (go_at_call 26; (with_reducible refine (HL.out _).mono ?_); rintro e w9 ⟨rfl, k9, rfl⟩))
                  go_meet
                  exact T8.out k9
            have e3 : (a.k == 3) = false := by simp [k3]
            by_cases k5 : a.k = 5
            · as_aux_lemma =>
                rw [k5] at r0
                have QA := hide S2.out.toL
                have hdl := hide (show d.l.length ≤ 1000000 by have := hpi.out.sm.len; omega)
                have r3 := QA.out.c3
                clear S2
                go_upto_region 27 with (first | (go_at_call 24; (with_reducible refine (QA.out.pcraL hok.out hl9.out.2 hdl.out).mono ?_); rintro e w6 ⟨rfl, h⟩; (have QB := hide h); clear h))
                have r6 := QB.out.c3
                clear r0 r3 QA
                go_upto_region 28 with (first | (go_at_call 25; (with_reducible refine (QB.out.rcraL hok.out hl9.out.2 hdl.out).mono ?_); rintro e w7 ⟨rfl, h⟩; (have QQ := hide h); clear h))
                have hsm := hide (hpi.out.sm.cra a.p.zs)
                have hup := hide QQ.out.upL
                clear r6 QB
                generalize craS d a.p.zs = d5 at *
                by_cases hE : opE d5 = 0
                · have H1 := hide (QQ.out.open1 hsm.out hj40 hE)
                  have H2 := hide (fun w2 P A c (h : Mw (fun k => k < W.heap.size) W w2 p r P (opS d5) d5 ⟨opG d5, (opZ d5).k, false⟩ A c (opL d5)) => open2 h hsm.out hup.out hj40 hE)
                  clear hE
                  generalize (opL d5).length = ln at *
                  go_upto_region 31 with (first
                    | (go_at_call 11; (with_reducible refine H1.out.mono ?_); rintro e w7 ⟨P2, A5, c5, rfl, hM⟩; (have M0 := hide (H2.out _ _ _ _ hM)); clear hM)
                    | (go_at_call 18; (with_reducible refine M0.out.mono ?_); rintro e w8 ⟨R2, A6, c6, rfl, hT⟩; (have T8 := hide hT); clear hT M0))
                  clear H1 H2 QQ
                  go_wp2_with (first | (go_at_call 26; (with_reducible refine T8.out.lists0.mono ?_); rintro e w9 ⟨rfl, k9, rfl⟩))
                  go_meet
                  exact (T8.out.drewN k9).1
                · have H1 := hide (QQ.out.openE1 hsm.out hj40 hE)
                  have H2 := hide (fun w2 (h : Lb W (fun k => k < W.heap.size) w2 p (opS d5) r d5) => openE2 h hsm.out hup.out hj40 hE)
                  clear hE
                  generalize opE d5 = eo at *
                  go_upto_region 31 with (first
                    | (go_at_call 11; (with_reducible refine H1.out.mono ?_); rintro e w7 ⟨rfl, hM⟩; (have M0 := hide (H2.out _ hM)); clear hM)
                    | (go_at_call 18; (with_reducible refine M0.out.mono ?_); rintro e w8 ⟨rfl, hT⟩; (have T8 := hide hT); clear hT M0))
                  clear H1 H2 QQ
                  have HL := hide lists_nil0
                  go_wp2_with (first | (go_at_call 26; (with_reducible refine (HL.out _).mono ?_); rintro e w9 ⟨rfl, k9, rfl⟩))
                  go_meet
                  exact T8.out k9
            have e5 : (a.k == 5) = false := by simp [k5]
            go_wp2_with fail
            go_meet
            exact (S2.out.swP hpi.out).wider
          case rest => as_aux_lemma =>
            have SW := hide hcut
            clear hcut
            have hal := hide (SW.out.alike (by omega))
            go_upto_if 164 with (first | (go_at_call 27; (with_reducible refine hal.out.mono ?_); rintro e w8 ⟨rfl, h⟩; (have S8 := hide h); clear h))
            clear hal SW
            go_upto_region 35 with (fail)
            rcases S8.out with ⟨rfl, rfl, d9, g1, g2, g3⟩ | ⟨d9, x9, P9, R9, rfl, rfl, g1, g2⟩
            · clear g1 g2 g3
              go_wp2_with fail
              go_roundw
              case rel => exact ⟨j + 1, by go_num, by omega, by omega, S8⟩
              case measure => simp [intOf]; omega
            · as_aux_lemma =>
                have hwh := hide (where_any g2.wq)
                have q1 := hide (fun (w2 : World) (hb : Below w8.heap.size w8 w2) => (g2.row.below hb g2.row.lt).cell 1)
                have q2 := hide (fun (w2 : World) (hb : Below w8.heap.size w8 w2) => (g2.row.below hb g2.row.lt).cell 2)
                clear g1 g2
                go_upto_region 37 with (first | (go_at_call 15; (with_reducible refine hwh.out.mono ?_); rintro e w9 ⟨rfl, hb9⟩; (have S9 := hide (S8.out.below hb9)); (have q3 := q1.out _ hb9); (have q4 := q2.out _ hb9)))
                simp only [rwRow, List.getElem?_toArray, List.getElem?_cons_zero, List.getElem?_cons_succ] at q3 q4
                clear q1 q2 hwh S8
                go_wp2_with fail
                go_roundw
                case rel => exact ⟨j + 1, by go_num, by omega, by omega, S9⟩
                case measure => simp [intOf]; omega
    · have hend := hide (fun (w2 : World) => (hruns.out w2))
      by_cases hjm2 : j < m
      · have t1 : decide ((j : Int) < (m : Int)) = true := by simp; omega
        have t2 : decide (j < m) = true := by simp; omega
        have t3 : decide ((j : Int) < 25) = false := by simp; omega
        have t4 : decide (j < 25) = false := by simp; omega
        clear hlt
        go_wp2_with (first | (go_at_call 3; (with_reducible refine (hruns.out _).mono ?_); rintro e w4 ⟨rfl, hb4⟩; have B9 := hide (kept_trans S.out.low hb4)))
        go_ret
        exact ⟨rfl, B9.out⟩
      · have t1 : decide ((j : Int) < (m : Int)) = false := by simp; omega
        have t2 : decide (j < m) = false := by simp; omega
        clear hlt
        go_wp2_with (first | (go_at_call 3; (with_reducible refine (hruns.out _).mono ?_); rintro e w4 ⟨rfl, hb4⟩; have B9 := hide (kept_trans S.out.low hb4)))
        go_ret
        exact ⟨rfl, B9.out⟩
end Go.Proofs.YtkmcnhjfnjikaaaGreatDoor
