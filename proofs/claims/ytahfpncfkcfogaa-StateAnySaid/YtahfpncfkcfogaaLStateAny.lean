/- Proved: the law StateAny returns true. Conditions: none beyond the row's own. -/
import Derived.Test.YtahfpncfkcfogaaGa
import Derived.Test.YtahfpncfkcfogaaGx
import Derived.Deep.DeepCutAuto
namespace Go.Proofs.Ytahfpncfkcfogaa.stateAny
open Go.ChangeShapes Go.WideShapes Go.ChangeAt Go.RowKit
set_option maxRecDepth 100000 in
set_option maxHeartbeats 16000000 in
theorem walk (l : List Pr) (A : Option Addr) (c : Nat) (L : List Co) (x : Cm) (W : World) (h : StIn2 W l A c L) (hx : CmOk x) :
    Calls Try.prog 5 #[.agg (stc (.slice A l.length c) L), .agg #[.int .i64 x.k, .int .i64 x.c, .int .i64 x.q, .string x.key, .string x.en, .string x.old, .string x.val]] W fun e w' => e = .returned (.bool true) ∧ Below W.heap.size W w' := by
  obtain ⟨k, c', q, key, en, old, val⟩ := x
  dsimp only
  clear hx
  have RUN := hide (fun w => runs_any w)
  have HI := hide h.isS
  have HBD := hide h.bd
  have H8 := hide h.ow.len
  obtain ⟨_, _, hAe, hA, hlc, hcc, hz⟩ := h.ps.pin
  cases hAe
  have HLC := hide hlc
  have TN := two_new W (stc (.slice A l.length c) L) #[.int .i64 k, .int .i64 c', .int .i64 q, .string key, .string en, .string old, .string val] 30 35
  have HR0 := hide TN.1
  have HR1 := hide TN.2.1
  have HK1 := hide TN.2.2
  clear h hA hlc hcc hz TN
  go_enter Try.func5, Try.ntmps5
  go_upto_region 1 with (fail)
  generalize (W.alloc (.cells (stc (.slice A l.length c) L) 30)).alloc (.cells #[.int .i64 k, .int .i64 c', .int .i64 q, .string key, .string en, .string old, .string val] 35) = w1 at HR0 HR1 HK1 ⊢
  generalize hg : W.heap.size = g at HR0 HR1 ⊢
  have HGE : Hid (g = W.heap.size) := hide hg.symm
  clear hg
  have c0 := HR0.out.pairs49
  have f0 := HR0.out.free 0
  go_upto_if 13 with (fail)
  go_cut [13] (fun s13 wx => ∃ l' : List Pr, Hid (Row wx g 30 (stc (.slice A l'.length c) L)) ∧ Hid (Row wx (g + 1) 35 #[.int .i64 k, .int .i64 c', .int .i64 q, .string key, .string en, .string old, .string val]) ∧ Hid (Below W.heap.size W wx) ∧ Hid (l'.length ≤ 40) ∧ Hid (IsS W (.slice A l'.length c) L ⟨l', ows L⟩) ∧ Hid (Bd ⟨l', ows L⟩))
  case first =>
    by_cases h40 : 40 < l.length
    · have hb : decide ((40 : Int) < (l.length : Int)) = true := by simp; omega
      have hlc := HLC.out
      have h40c : (40 : Int) ≤ (c : Int) := by omega
      have hlc' : (l.length : Int) ≤ (c : Int) := by omega
      have e40 : Hid ((l.take 40).length = 40) := hide (by rw [List.length_take]; omega)
      clear hlc
      go_wp2
      go_meet
      refine ⟨l.take 40, ?_, ?_, ?_, ?_, ?_, ?_⟩
      · rw [e40.out]; exact HR0.out.putPairs _
      · exact HR1.out.putOff (by omega) _
      · exact HK1.out.grown (grown_setCell w1 g 0 _) HK1.out.size (fun k hk => by cases hk; rw [HGE.out]; exact Nat.le_refl _)
      · exact Nat.le_of_eq e40.out
      · refine ⟨?_, by rw [e40.out]; omega, HI.out.fine, rfl⟩
        obtain ⟨_, _, e, h1, h2, h3, h4⟩ := HI.out.pin
        cases e
        exact ⟨A, c, rfl, h1, by rw [e40.out]; omega, h3, h4.take 40⟩
      · exact ⟨fun p hp => HBD.out.l p (List.mem_of_mem_take hp), HBD.out.o⟩
    · have hb : decide ((40 : Int) < (l.length : Int)) = false := by simp; omega
      go_wp2
      go_meet
      exact ⟨l, HR0, HR1, HK1, hide (by omega), HI, HBD⟩
  case rest =>
    clear HR0 HR1 HK1 HI HBD HLC c0 f0
    obtain ⟨l', HR0, HR1, HK1, HL4, HI, HBD⟩ := hcut
    go_wp2
    go_loopw [5] (fun i wr => ∃ k : Nat, k ≤ 8 ∧ i = .int .i64 k ∧ Hid (wr = wc)) (fun i _ => 8 - (intOf i).toNat)
    case atStart => exact ⟨0, by omega, rfl, rfl⟩
    case round =>
      obtain ⟨n, hn, rfl, hw⟩ := hrel
      have hw := hw.out
      subst hw
      by_cases hlt : n < 8
      · obtain ⟨x, hx, hp, hpn⟩ := HI.out.fine.at_ hlt
        have hlt' : (n : Int) < 8 := by omega
        obtain ⟨c0, c1, c2, c3, c4, c5⟩ := HR0.out.owner49 hx
        clear hx hp hpn
        unfold Co.p at c5
        by_cases h12 : 12 < x.o.r.l.length
        · have hb : decide ((12 : Int) < (x.o.r.l.length : Int)) = true := by simp; omega
          go_wp2_with (go_at_call 3; (with_reducible refine (RUN.out _).mono ?_); rintro e w2 ⟨rfl, hb2⟩)
          go_ret
          exact ⟨rfl, kept_trans HK1.out hb2⟩
        · have hb : decide ((12 : Int) < (x.o.r.l.length : Int)) = false := by simp; omega
          go_wp2
          go_roundw
          case rel => exact ⟨n + 1, by omega, by go_num, by first | exact hide rfl | exact hide trivial⟩
          case measure => simp [intOf]; omega
      · obtain rfl : n = 8 := by omega
        clear hlt hn
        have HN0 := hide (HI.out.below HK1.out)
        obtain ⟨t, ht⟩ : ∃ t, rightSB ⟨l', ows L⟩ = t := ⟨_, rfl⟩
        have HR := hide (show ∀ wq : World, Below wr.heap.size wr wq → Calls Try.prog 20 #[.agg (stc (.slice A l'.length c) L)] wq fun e w' => e = .returned (.bool t) ∧ Below wq.heap.size wq w' from fun wq hq => by
          have h := sright_any _ L _ wq (HN0.out.below hq)
          rw [ht] at h
          exact h)
        have HRR := hide (show ∀ wq : World, Below wr.heap.size wr wq → Calls Try.prog 21 #[.agg (stc (.slice A l'.length c) L)] wq fun e w' => e = .returned (.bool t) ∧ Below wq.heap.size wq w' from fun wq hq => by
          have k := HN0.out.below hq
          have h := rstate49_any (.slice A l'.length c) l' L wq k.fine k.pin k.room
          rw [show (rightO L && rightB l') = t by rw [← ht]; unfold rightSB; rw [all_ows, Bool.and_comm]] at h
          exact h)
        have HT := hide ht
        clear ht
        go_upto_region 8 with (fail)
        have HB0 : Below wr.heap.size wr wr := kept_refl wr
        refine wp_region_sp (fun w' => Below wr.heap.size wr w') (by kernel_rfl) (by kernel_rfl) (show Below wr.heap.size wr wr.drew from kept_drewN HB0 1) ?_
        generalize hS : (fun w' => Below wr.heap.size wr w') = S
        have ne : Nonempty (Sp S) := by subst hS; exact ⟨⟨_, HB0⟩⟩
        have STEP := hide (show ∀ w w', S w → Below w.heap.size w w' → S w' by subst hS; exact fun _ _ h hb => kept_trans h hb)
        have OLD := hide (show ∀ z : Sp S, Below wr.heap.size wr z.w by subst hS; exact fun z => z.ok)
        have LR := hide (show ∀ z : Sp S, Row z.w g 30 (stc (.slice A l'.length c) L) by subst hS; exact fun z => HR0.out.below z.ok HR0.out.lt)
        clear HB0 hS
        repeat (first | ((with_reducible refine wpQuiet_load49 ?_ ?_ LR.out H8.out ?_); rfl; rfl; simp only [Act.put, List.setIfInBounds_toArray, List.set_cons_zero, List.set_cons_succ]) | go_big_quiet_step ((first | (go_at_call 20; with_reducible exact sp_call STEP.out _ (HR.out _ (OLD.out _))) | (go_at_call 21; with_reducible exact sp_call STEP.out _ (HRR.out _ (OLD.out _))))))
        refine wpQuiet_nil ?_
        intro kk
        have OK := hide (OLD.out kk)
        generalize kk.w = wk at OK ⊢
        clear ne OLD STEP LR
        have R0k := hide (HR0.out.below OK.out HR0.out.lt)
        have R1k := hide (HR1.out.below OK.out HR1.out.lt)
        have HKk := hide (kept_trans HK1.out OK.out)
        have HNk := hide (HN0.out.below OK.out)
        have HRRk := hide (HRR.out wk OK.out)
        clear HR0 HR1 HK1 HN0 HR HRR OK HI
        cases t
        case false =>
          have HP0 := hide (fun wq (hq : Below wk.heap.size wk wq) => show Calls Try.prog 22 #[.agg (stc (.slice A l'.length c) L)] wq (MadeB wq []) from by
            have h := putS_any _ L _ wq (HNk.out.below hq) HBD.out
            rw [show encS ⟨l', ows L⟩ = [] by unfold encS; rw [HT.out]; rfl] at h
            exact h)
          go_wp2_with (first
            | ((with_reducible refine wpList_load49 ?_ RK2.out H8.out ?_); rfl)
            | ((with_reducible refine wpList_load49 ?_ R0k.out H8.out ?_); rfl)
            | (go_at_call 21; (with_reducible refine HRRk.out.mono ?_); rintro e w2 ⟨rfl, hb2⟩; have RK2 := hide (R0k.out.below hb2 R0k.out.lt))
            | (go_at_call 22; (with_reducible refine (HP0.out _ hb2).mono ?_); rintro e w3 ⟨u3, rfl, hu3, hb3⟩; obtain ⟨A3, c3, e3, _⟩ := hu3.form; subst e3)
            | (go_at_call 3; (with_reducible refine (RUN.out _).mono ?_); rintro e w4 ⟨rfl, hb4⟩))
          go_ret
          exact ⟨rfl, kept_trans HKk.out (kept_trans hb2 (kept_trans hb3 hb4))⟩
        case true =>
          have HTR := hide (state_may HT.out rfl)
          have HUP := hide (right_up HTR.out.1)
          obtain ⟨T, hT⟩ : ∃ T, applyP ⟨l', ows L⟩ ⟨k, c', q, key, en, old, val⟩ = T := ⟨_, rfl⟩
          obtain ⟨s6, r6⟩ := T
          have HAP := hide (fun wq (hq : IsS wq (.slice A l'.length c) L ⟨l', ows L⟩) => show Calls Try.prog 16 #[.agg (stc (.slice A l'.length c) L), .agg #[.int .i64 k, .int .i64 c', .int .i64 q, .string key, .string en, .string old, .string val]] wq (fun e w' => ∃ p M u, e = .returned (.tuple #[.agg (stc p M), .agg #[.int .i64 r6.why, .bool r6.fnd, .string r6.val, .int .i64 r6.ver, u]]) ∧ NewS wq.heap.size w' p M s6 ∧ Mine wq.heap.size w' u r6.l ∧ r6.l.length ≤ 3518437208780 ∧ Below wq.heap.size wq w') from by
            have h := apply_any _ L _ ⟨k, c', q, key, en, old, val⟩ wq hq HUP.out (by have := HL4.out; show l'.length ≤ 1000; omega)
            rw [hT] at h
            exact h.mono fun _ _ ⟨p, M, u, h1, h2, h3, h4, _, h5⟩ => ⟨p, M, u, h1, h2, h3, h4, h5⟩)
          have HRAP := hide (fun wq (hq : IsS wq (.slice A l'.length c) L ⟨l', ows L⟩) => show Calls Try.prog 17 #[.agg (stc (.slice A l'.length c) L), .agg #[.int .i64 k, .int .i64 c', .int .i64 q, .string key, .string en, .string old, .string val]] wq (fun e w' => ∃ p M u, e = .returned (.tuple #[.agg (stc p M), .agg #[.int .i64 r6.why, .bool r6.fnd, .string r6.val, .int .i64 r6.ver, u]]) ∧ NewS wq.heap.size w' p M s6 ∧ Mine wq.heap.size w' u r6.l ∧ r6.l.length ≤ 3518437208780 ∧ Below wq.heap.size wq w') from by
            have h := rapply_any _ L _ ⟨k, c', q, key, en, old, val⟩ wq hq HUP.out (by have := HL4.out; show l'.length ≤ 1000; omega)
            rw [hT] at h
            exact h.mono fun _ _ ⟨p, M, u, h1, h2, h3, h4, _, h5⟩ => ⟨p, M, u, h1, h2, h3, h4, h5⟩)
          clear hT
          go_upto_region 12 with (first
            | ((with_reducible refine wpList_load49 ?_ R0k.out H8.out ?_); rfl)
            | (go_at_call 21; (with_reducible refine HRRk.out.mono ?_); rintro e w2 ⟨rfl, hb2⟩))
          have R02 := hide (R0k.out.below hb2 R0k.out.lt)
          have R12 := hide (R1k.out.below hb2 R1k.out.lt)
          have HK2 := hide (kept_trans HKk.out hb2)
          have HN2 := hide (HNk.out.below hb2)
          clear hb2 R0k R1k HKk HNk HRRk HT
          have HA2 := hide (HAP.out w2 HN2.out)
          obtain ⟨a0, a1, a2, a3, a4, a5, a6⟩ := (seven_of (x := ⟨k, c', q, key, en, old, val⟩) R12.out).cells
          dsimp only at a0 a1 a2 a3 a4 a5 a6
          go_upto_region 13 with (first
            | ((with_reducible refine wpList_load49 ?_ R02.out H8.out ?_); rfl)
            | (go_at_call 16; (with_reducible refine HA2.out.mono ?_); rintro e w3 ⟨p6, M6, u6, rfl, hn6, hm6, hl6, hb6⟩; have H86 := hide hn6.eight; have H16 := hide hn6.one; obtain ⟨A6, c6, e6, _⟩ := hm6.pin; subst e6)
            | ((with_reducible refine wpList_store49m ?_ ?_ H16.out H86.out ?_); rfl; rfl))
          have TN := two_new w3 (stc p6 M6) #[.int .i64 r6.why, .bool r6.fnd, .string r6.val, .int .i64 r6.ver, .slice A6 r6.l.length c6] 30 25
          have kb := kept_trans hb6 TN.2.2
          have R03 := hide (R02.out.below kb R02.out.lt)
          have R13 := hide (R12.out.below kb R12.out.lt)
          have HK3 := hide (kept_trans HK2.out kb)
          have HN3 := hide (HN2.out.below kb)
          have R6 := hide TN.1
          have R7 := hide TN.2.1
          have N6 := hide (hn6.below TN.2.2).isS
          have P6 := hide (hm6.pin.below TN.2.2)
          have L6 := hide hl6
          clear hn6 hm6 hl6 hb6 TN kb R02 R12 HK2 HN2 HA2 H16 a0 a1 a2 a3 a4 a5 a6
          generalize (w3.alloc (.cells (stc p6 M6) 30)).alloc (.cells #[.int .i64 r6.why, .bool r6.fnd, .string r6.val, .int .i64 r6.ver, .slice A6 r6.l.length c6] 25) = w4 at R03 R13 HK3 HN3 R6 R7 N6 P6 ⊢
          generalize w3.heap.size = g6 at R6 R7 ⊢
          have HA4 := hide (HRAP.out w4 HN3.out)
          obtain ⟨a0, a1, a2, a3, a4, a5, a6⟩ := (seven_of (x := ⟨k, c', q, key, en, old, val⟩) R13.out).cells
          dsimp only at a0 a1 a2 a3 a4 a5 a6
          go_upto_region 14 with (first
            | ((with_reducible refine wpList_load49 ?_ R03.out H8.out ?_); rfl)
            | (go_at_call 17; (with_reducible refine HA4.out.mono ?_); rintro e w5 ⟨p8, M8, u8, rfl, hn8, hm8, hl8, hb8⟩; have H88 := hide hn8.eight; have H18 := hide hn8.one; obtain ⟨A8, c8, e8, _⟩ := hm8.pin; subst e8)
            | ((with_reducible refine wpList_store49m ?_ ?_ H18.out H88.out ?_); rfl; rfl))
          have TN := two_new w5 (stc p8 M8) #[.int .i64 r6.why, .bool r6.fnd, .string r6.val, .int .i64 r6.ver, .slice A8 r6.l.length c8] 30 25
          have kb := kept_trans hb8 TN.2.2
          have R04 := hide (R03.out.below kb R03.out.lt)
          have HK4 := hide (kept_trans HK3.out kb)
          have HN4 := hide (HN3.out.below kb)
          have R64 := hide (R6.out.below kb R6.out.lt)
          have R74 := hide (R7.out.below kb R7.out.lt)
          have N64 := hide (N6.out.below kb)
          have P64 := hide (P6.out.below kb)
          have R8 := hide TN.1
          have R9 := hide TN.2.1
          have N8 := hide (hn8.below TN.2.2).isS
          have P8 := hide (hm8.pin.below TN.2.2)
          clear hn8 hm8 hl8 hb8 TN kb R03 R13 HK3 HN3 HA4 R6 R7 N6 P6 H18 a0 a1 a2 a3 a4 a5 a6
          generalize (w5.alloc (.cells (stc p8 M8) 30)).alloc (.cells #[.int .i64 r6.why, .bool r6.fnd, .string r6.val, .int .i64 r6.ver, .slice A8 r6.l.length c8] 25) = w6 at R04 HK4 HN4 R64 R74 N64 P64 R8 R9 N8 P8 ⊢
          generalize w5.heap.size = g8 at R8 R9 ⊢
          refine wp_region_noPanic ?_
          refine wp_region_T 18 (fun w' => Row w' g 30 (stc (.slice A l'.length c) L) ∧ Row w' g6 30 (stc p6 M6) ∧ Row w' g8 30 (stc p8 M8) ∧ Row w' (g6 + 1) 25 #[.int .i64 r6.why, .bool r6.fnd, .string r6.val, .int .i64 r6.ver, .slice A6 r6.l.length c6] ∧ Row w' (g8 + 1) 25 #[.int .i64 r6.why, .bool r6.fnd, .string r6.val, .int .i64 r6.ver, .slice A8 r6.l.length c8]) (by kernel_rfl) ?_
          have kd := kept_drewN (kept_refl w6) 1
          have HD := hide (show (Row (World.drew w6) g 30 (stc (.slice A l'.length c) L) ∧ Row (World.drew w6) g6 30 (stc p6 M6) ∧ Row (World.drew w6) g8 30 (stc p8 M8) ∧ Row (World.drew w6) (g6 + 1) 25 #[.int .i64 r6.why, .bool r6.fnd, .string r6.val, .int .i64 r6.ver, .slice A6 r6.l.length c6] ∧ Row (World.drew w6) (g8 + 1) 25 #[.int .i64 r6.why, .bool r6.fnd, .string r6.val, .int .i64 r6.ver, .slice A8 r6.l.length c8]) ∧ Below w6.heap.size w6 (World.drew w6) from ⟨⟨R04.out.below kd R04.out.lt, R64.out.below kd R64.out.lt, R8.out.below kd R8.out.lt, R74.out.below kd R74.out.lt, R9.out.below kd R9.out.lt⟩, kd⟩)
          clear kd
          generalize World.drew _ = wd at HD ⊢
          refine anyT_take (i := 0) (v := .agg (stc p6 M6)) (by simp only [List.getElem?_toArray, List.getElem?_cons_zero]; exact rfl) (by kernel_rfl) (by kernel_rfl) (fun _ _ _ h => h) (by kernel_rfl) (by kernel_rfl) (yields_load49 (x := .tmp 6) (by rfl) (by rfl) (by rfl) H86.out (fun _ h => h.2.1)) (by with_reducible exact HD.out.1) ?_
          try simp only [Act.put, List.setIfInBounds_toArray, List.set_cons_zero, List.set_cons_succ]
          refine anyT_take (i := 1) (v := .agg (stc p8 M8)) (by simp only [List.getElem?_toArray, List.getElem?_cons_succ, List.getElem?_cons_zero]; exact rfl) (by kernel_rfl) (by kernel_rfl) (fun _ _ _ h => h) (by kernel_rfl) (by kernel_rfl) (yields_load49 (x := .tmp 8) (by rfl) (by rfl) (by rfl) H88.out (fun _ h => h.2.2.1)) (by with_reducible exact HD.out.1) ?_
          try simp only [Act.put, List.setIfInBounds_toArray, List.set_cons_zero, List.set_cons_succ]
          refine anyT_one (i := 2) (by kernel_rfl) (by simp only [List.getElem?_toArray, List.getElem?_cons_succ, List.getElem?_cons_zero]; exact rfl) (fun K hK => ?_)
          try go_simp
          have hst := states_any p6 p8 M6 M8 s6 s6 wd (N64.out.below HD.out.2) (N8.out.below HD.out.2)
          rw [(eqS_iff s6 s6).2 rfl] at hst
          refine hst.mono ?_
          rintro e x2 ⟨rfl, hb⟩
          clear hst
          have HD2 := hide (show (Row x2 g 30 (stc (.slice A l'.length c) L) ∧ Row x2 g6 30 (stc p6 M6) ∧ Row x2 g8 30 (stc p8 M8) ∧ Row x2 (g6 + 1) 25 #[.int .i64 r6.why, .bool r6.fnd, .string r6.val, .int .i64 r6.ver, .slice A6 r6.l.length c6] ∧ Row x2 (g8 + 1) 25 #[.int .i64 r6.why, .bool r6.fnd, .string r6.val, .int .i64 r6.ver, .slice A8 r6.l.length c8]) ∧ Below w6.heap.size w6 x2 from ⟨⟨HD.out.1.1.below hb HD.out.1.1.lt, HD.out.1.2.1.below hb HD.out.1.2.1.lt, HD.out.1.2.2.1.below hb HD.out.1.2.2.1.lt, HD.out.1.2.2.2.1.below hb HD.out.1.2.2.2.1.lt, HD.out.1.2.2.2.2.below hb HD.out.1.2.2.2.2.lt⟩, kept_trans HD.out.2 hb⟩)
          clear hb
          refine hK.out _ _ (fun e => HD2.out.1) ?_
          clear hK K
          try simp only [Act.put, List.setIfInBounds_toArray, List.set_cons_zero, List.set_cons_succ]
          refine anyT_take (i := 3) (v := ?ov3_a) (by simp only [List.getElem?_toArray, List.getElem?_cons_succ, List.getElem?_cons_zero]; exact rfl) (by kernel_rfl) (by kernel_rfl) (fun _ _ _ h => h) (by kernel_rfl) (by kernel_rfl) (Or.inl ⟨by rfl, ?oy3_a⟩) (by with_reducible exact HD2.out.1) ?or3_a
          case oy3_a => (intro w hSw; skip; go_simp; try with_reducible rfl)
          try simp only [Act.put, List.setIfInBounds_toArray, List.set_cons_zero, List.set_cons_succ]
          refine anyT_take (i := 4) (v := ?ov4_a) (by simp only [List.getElem?_toArray, List.getElem?_cons_succ, List.getElem?_cons_zero]; exact rfl) (by kernel_rfl) (by kernel_rfl) (fun _ _ _ h => h) (by kernel_rfl) (by kernel_rfl) (Or.inl ⟨by rfl, ?oy4_a⟩) (by with_reducible exact HD2.out.1) ?or4_a
          case oy4_a => (intro w hSw; obtain ⟨e0, e1, e2, e3, e4⟩ := Row.five hSw.2.2.2.1; (try dsimp only at e0 e1 e2 e3 e4); go_simp; try with_reducible rfl)
          try simp only [Act.put, List.setIfInBounds_toArray, List.set_cons_zero, List.set_cons_succ]
          refine anyT_take (i := 5) (v := ?ov5_a) (by simp only [List.getElem?_toArray, List.getElem?_cons_succ, List.getElem?_cons_zero]; exact rfl) (by kernel_rfl) (by kernel_rfl) (fun _ _ _ h => h) (by kernel_rfl) (by kernel_rfl) (Or.inl ⟨by rfl, ?oy5_a⟩) (by with_reducible exact HD2.out.1) ?or5_a
          case oy5_a => (intro w hSw; obtain ⟨e0, e1, e2, e3, e4⟩ := Row.five hSw.2.2.2.2; (try dsimp only at e0 e1 e2 e3 e4); go_simp; try with_reducible rfl)
          try simp only [Act.put, List.setIfInBounds_toArray, List.set_cons_zero, List.set_cons_succ]
          refine anyT_one (i := 6) (by kernel_rfl) (by simp only [List.getElem?_toArray, List.getElem?_cons_succ, List.getElem?_cons_zero]; exact rfl) (fun K hK => ?_)
          try go_simp
          have hre := replies_any r6 r6 (.slice A6 r6.l.length c6) (.slice A8 r6.l.length c8) x2 (P64.out.below HD2.out.2) (P8.out.below HD2.out.2) (by have := L6.out; omega) (by have := L6.out; omega)
          rw [decide_eq_true rfl] at hre
          refine hre.mono ?_
          rintro e x6 ⟨rfl, hb⟩
          clear hre
          have HD6 := hide (show (Row x6 g 30 (stc (.slice A l'.length c) L) ∧ Row x6 g6 30 (stc p6 M6) ∧ Row x6 g8 30 (stc p8 M8) ∧ Row x6 (g6 + 1) 25 #[.int .i64 r6.why, .bool r6.fnd, .string r6.val, .int .i64 r6.ver, .slice A6 r6.l.length c6] ∧ Row x6 (g8 + 1) 25 #[.int .i64 r6.why, .bool r6.fnd, .string r6.val, .int .i64 r6.ver, .slice A8 r6.l.length c8]) ∧ Below w6.heap.size w6 x6 from ⟨⟨HD2.out.1.1.below hb HD2.out.1.1.lt, HD2.out.1.2.1.below hb HD2.out.1.2.1.lt, HD2.out.1.2.2.1.below hb HD2.out.1.2.2.1.lt, HD2.out.1.2.2.2.1.below hb HD2.out.1.2.2.2.1.lt, HD2.out.1.2.2.2.2.below hb HD2.out.1.2.2.2.2.lt⟩, kept_trans HD2.out.2 hb⟩)
          clear hb
          refine hK.out _ _ (fun e => HD6.out.1) ?_
          clear hK K
          try simp only [Act.put, List.setIfInBounds_toArray, List.set_cons_zero, List.set_cons_succ]
          refine anyT_take (i := 7) (v := ?ov7_a) (by simp only [List.getElem?_toArray, List.getElem?_cons_succ, List.getElem?_cons_zero]; exact rfl) (by kernel_rfl) (by kernel_rfl) (fun _ _ _ h => h) (by kernel_rfl) (by kernel_rfl) (Or.inl ⟨by rfl, ?oy7_a⟩) (by with_reducible exact HD6.out.1) ?or7_a
          case oy7_a => (intro w hSw; skip; go_simp; try with_reducible rfl)
          try simp only [Act.put, List.setIfInBounds_toArray, List.set_cons_zero, List.set_cons_succ]
          refine anyT_take (i := 8) (v := ?ov8_a) (by simp only [List.getElem?_toArray, List.getElem?_cons_succ, List.getElem?_cons_zero]; exact rfl) (by kernel_rfl) (by kernel_rfl) (fun _ _ _ h => h) (by kernel_rfl) (by kernel_rfl) (Or.inl ⟨by rfl, ?oy8_a⟩) (by with_reducible exact HD6.out.1) ?or8_a
          case oy8_a => (intro w hSw; skip; go_simp; try with_reducible rfl)
          try simp only [Act.put, List.setIfInBounds_toArray, List.set_cons_zero, List.set_cons_succ]
          refine anyT_take (i := 9) (v := .agg (stc (.slice A l'.length c) L)) (by simp only [List.getElem?_toArray, List.getElem?_cons_succ, List.getElem?_cons_zero]; exact rfl) (by kernel_rfl) (by kernel_rfl) (fun _ _ _ h => h) (by kernel_rfl) (by kernel_rfl) (yields_load49 (x := .tmp 2) (by rfl) (by rfl) (by rfl) H8.out (fun _ h => h.1)) (by with_reducible exact HD6.out.1) ?_
          try simp only [Act.put, List.setIfInBounds_toArray, List.set_cons_zero, List.set_cons_succ]
          refine anyT_take (i := 11) (v := .agg (stc (.slice A l'.length c) L)) (by simp only [List.getElem?_toArray, List.getElem?_cons_succ, List.getElem?_cons_zero]; exact rfl) (by kernel_rfl) (by kernel_rfl) (fun _ _ _ h => h) (by kernel_rfl) (by kernel_rfl) (yields_load49 (x := .tmp 2) (by rfl) (by rfl) (by rfl) H8.out (fun _ h => h.1)) (by with_reducible exact HD6.out.1) ?_
          try simp only [Act.put, List.setIfInBounds_toArray, List.set_cons_zero, List.set_cons_succ]
          refine anyT_one (i := 10) (by kernel_rfl) (by simp only [List.getElem?_toArray, List.getElem?_cons_succ, List.getElem?_cons_zero]; exact rfl) (fun K hK => ?_)
          try go_simp
          refine (putS_any _ L _ x6 (HN4.out.below HD6.out.2) HBD.out).mono ?_
          rintro e x10 ⟨ua, rfl, hu, hb⟩
          obtain ⟨Aua, cua, eu, _, _, _, hl⟩ := hu.form
          subst eu
          have HLua := hide hl
          have HD10 := hide (show (Row x10 g 30 (stc (.slice A l'.length c) L) ∧ Row x10 g6 30 (stc p6 M6) ∧ Row x10 g8 30 (stc p8 M8) ∧ Row x10 (g6 + 1) 25 #[.int .i64 r6.why, .bool r6.fnd, .string r6.val, .int .i64 r6.ver, .slice A6 r6.l.length c6] ∧ Row x10 (g8 + 1) 25 #[.int .i64 r6.why, .bool r6.fnd, .string r6.val, .int .i64 r6.ver, .slice A8 r6.l.length c8]) ∧ Below w6.heap.size w6 x10 from ⟨⟨HD6.out.1.1.below hb HD6.out.1.1.lt, HD6.out.1.2.1.below hb HD6.out.1.2.1.lt, HD6.out.1.2.2.1.below hb HD6.out.1.2.2.1.lt, HD6.out.1.2.2.2.1.below hb HD6.out.1.2.2.2.1.lt, HD6.out.1.2.2.2.2.below hb HD6.out.1.2.2.2.2.lt⟩, kept_trans HD6.out.2 hb⟩)
          clear hl hu hb
          refine hK.out _ _ (fun e => HD10.out.1) ?_
          clear hK K
          try simp only [Act.put, List.setIfInBounds_toArray, List.set_cons_zero, List.set_cons_succ]
          refine anyT_one (i := 12) (by kernel_rfl) (by simp only [List.getElem?_toArray, List.getElem?_cons_succ, List.getElem?_cons_zero]; exact rfl) (fun K hK => ?_)
          try go_simp
          refine (rputS_any _ L _ x10 (HN4.out.below HD10.out.2) HBD.out).mono ?_
          rintro e x12 ⟨ub, rfl, hu, hb⟩
          obtain ⟨Aub, cub, eu, _, _, _, hl⟩ := hu.form
          subst eu
          have HLub := hide hl
          have HD12 := hide (show (Row x12 g 30 (stc (.slice A l'.length c) L) ∧ Row x12 g6 30 (stc p6 M6) ∧ Row x12 g8 30 (stc p8 M8) ∧ Row x12 (g6 + 1) 25 #[.int .i64 r6.why, .bool r6.fnd, .string r6.val, .int .i64 r6.ver, .slice A6 r6.l.length c6] ∧ Row x12 (g8 + 1) 25 #[.int .i64 r6.why, .bool r6.fnd, .string r6.val, .int .i64 r6.ver, .slice A8 r6.l.length c8]) ∧ Below w6.heap.size w6 x12 from ⟨⟨HD10.out.1.1.below hb HD10.out.1.1.lt, HD10.out.1.2.1.below hb HD10.out.1.2.1.lt, HD10.out.1.2.2.1.below hb HD10.out.1.2.2.1.lt, HD10.out.1.2.2.2.1.below hb HD10.out.1.2.2.2.1.lt, HD10.out.1.2.2.2.2.below hb HD10.out.1.2.2.2.2.lt⟩, kept_trans HD10.out.2 hb⟩)
          have HMua := hide (HLua.out.below hb)
          have HMub := hide hl
          clear hl hu hb
          refine hK.out _ _ (fun e => HD12.out.1) ?_
          clear hK K
          try simp only [Act.put, List.setIfInBounds_toArray, List.set_cons_zero, List.set_cons_succ]
          refine anyT_one (i := 13) (by kernel_rfl) (by simp only [List.getElem?_toArray, List.getElem?_cons_succ, List.getElem?_cons_zero]; exact rfl) (fun K hK => ?_)
          try go_simp
          have hsa := same_any Aua Aub (encS ⟨l', ows L⟩).length (encS ⟨l', ows L⟩).length cua cub (encS ⟨l', ows L⟩) (encS ⟨l', ows L⟩) x12 rfl rfl HMua.out HMub.out (by have := encS_len (s := ⟨l', ows L⟩) (by show (ows L).length = 8; rw [ows_len]; exact H8.out); omega) (by have := encS_len (s := ⟨l', ows L⟩) (by show (ows L).length = 8; rw [ows_len]; exact H8.out); omega)
          rw [decide_eq_true rfl] at hsa
          refine hsa.mono ?_
          rintro e x13 ⟨rfl, nd, hd⟩
          have hb : Below x12.heap.size x12 x13 := by rw [hd]; exact kept_drewN (kept_refl _) nd
          clear hsa hd
          have HD13 := hide (show (Row x13 g 30 (stc (.slice A l'.length c) L) ∧ Row x13 g6 30 (stc p6 M6) ∧ Row x13 g8 30 (stc p8 M8) ∧ Row x13 (g6 + 1) 25 #[.int .i64 r6.why, .bool r6.fnd, .string r6.val, .int .i64 r6.ver, .slice A6 r6.l.length c6] ∧ Row x13 (g8 + 1) 25 #[.int .i64 r6.why, .bool r6.fnd, .string r6.val, .int .i64 r6.ver, .slice A8 r6.l.length c8]) ∧ Below w6.heap.size w6 x13 from ⟨⟨HD12.out.1.1.below hb HD12.out.1.1.lt, HD12.out.1.2.1.below hb HD12.out.1.2.1.lt, HD12.out.1.2.2.1.below hb HD12.out.1.2.2.1.lt, HD12.out.1.2.2.2.1.below hb HD12.out.1.2.2.2.1.lt, HD12.out.1.2.2.2.2.below hb HD12.out.1.2.2.2.2.lt⟩, kept_trans HD12.out.2 hb⟩)
          clear hb
          refine hK.out _ _ (fun e => HD13.out.1) ?_
          clear hK K
          try simp only [Act.put, List.setIfInBounds_toArray, List.set_cons_zero, List.set_cons_succ]
          refine anyT_take (i := 14) (v := ?ov14_b) (by simp only [List.getElem?_toArray, List.getElem?_cons_succ, List.getElem?_cons_zero]; exact rfl) (by kernel_rfl) (by kernel_rfl) (fun _ _ _ h => h) (by kernel_rfl) (by kernel_rfl) (Or.inl ⟨by rfl, ?oy14_b⟩) (by with_reducible exact HD13.out.1) ?or14_b
          case oy14_b => (intro w hSw; skip; go_simp; try with_reducible rfl)
          try simp only [Act.put, List.setIfInBounds_toArray, List.set_cons_zero, List.set_cons_succ]
          refine anyT_take (i := 15) (v := ?ov15_b) (by simp only [List.getElem?_toArray, List.getElem?_cons_succ, List.getElem?_cons_zero]; exact rfl) (by kernel_rfl) (by kernel_rfl) (fun _ _ _ h => h) (by kernel_rfl) (by kernel_rfl) (Or.inl ⟨by rfl, ?oy15_b⟩) (by with_reducible exact HD13.out.1) ?or15_b
          case oy15_b => (intro w hSw; skip; go_simp; try with_reducible rfl)
          try simp only [Act.put, List.setIfInBounds_toArray, List.set_cons_zero, List.set_cons_succ]
          refine anyT_one (i := 16) (by kernel_rfl) (by simp only [List.getElem?_toArray, List.getElem?_cons_succ, List.getElem?_cons_zero]; exact rfl) (fun K hK => ?_)
          try go_simp
          refine (RUN.out x13).mono ?_
          rintro e x16 ⟨rfl, hb⟩
          have HD16 := hide (show (Row x16 g 30 (stc (.slice A l'.length c) L) ∧ Row x16 g6 30 (stc p6 M6) ∧ Row x16 g8 30 (stc p8 M8) ∧ Row x16 (g6 + 1) 25 #[.int .i64 r6.why, .bool r6.fnd, .string r6.val, .int .i64 r6.ver, .slice A6 r6.l.length c6] ∧ Row x16 (g8 + 1) 25 #[.int .i64 r6.why, .bool r6.fnd, .string r6.val, .int .i64 r6.ver, .slice A8 r6.l.length c8]) ∧ Below w6.heap.size w6 x16 from ⟨⟨HD13.out.1.1.below hb HD13.out.1.1.lt, HD13.out.1.2.1.below hb HD13.out.1.2.1.lt, HD13.out.1.2.2.1.below hb HD13.out.1.2.2.1.lt, HD13.out.1.2.2.2.1.below hb HD13.out.1.2.2.2.1.lt, HD13.out.1.2.2.2.2.below hb HD13.out.1.2.2.2.2.lt⟩, kept_trans HD13.out.2 hb⟩)
          clear hb
          refine hK.out _ _ (fun e => HD16.out.1) ?_
          clear hK K
          try simp only [Act.put, List.setIfInBounds_toArray, List.set_cons_zero, List.set_cons_succ]
          refine anyT_take (i := 17) (v := ?ov17_b) (by simp only [List.getElem?_toArray, List.getElem?_cons_succ, List.getElem?_cons_zero]; exact rfl) (by kernel_rfl) (by kernel_rfl) (fun _ _ _ h => h) (by kernel_rfl) (by kernel_rfl) (Or.inl ⟨by rfl, ?oy17_b⟩) (by with_reducible exact HD16.out.1) ?or17_b
          case oy17_b => (intro w hSw; skip; go_simp; try with_reducible rfl)
          try simp only [Act.put, List.setIfInBounds_toArray, List.set_cons_zero, List.set_cons_succ]
          refine anyT_one (i := 18) (by kernel_rfl) (by simp only [List.getElem?_toArray, List.getElem?_cons_succ, List.getElem?_cons_zero]; exact rfl) (fun K hK => ?_)
          try go_simp
          refine hK.out _ _ (fun e => absurd rfl e) ?_
          clear hK K
          refine anyT_done (by kernel_rfl) ?_
          refine NoPanic.normal ?_
          try simp only [Act.put]
          go_wp2
          go_ret
          exact ⟨rfl, kept_trans HK4.out HD16.out.2⟩
set_option maxRecDepth 100000 in
theorem lifted (os : Os) (started : os.Started) (H : Type) (enc : TypeId × Value → H) :
    ReturnsInHanded {} Try.checked os 5 .any (Rows.stateAnySpec.pre6 enc Try.prog Try.f5 Rows.stateAnyRow.domain false) (Rows.stateAnySpec.post enc Try.prog Try.f5 false true false false) := by
  refine returnsInHanded_of_change_sized (C := Try.checked) own started (by kernel_rfl) Try.func5
    (ChangeSpec.witness6 (enc := enc) (C := Try.checked) false ⟨#[], #[.agg #[.slice none 0 0, .int .i64 0, .int .i64 0, .bool false, .string ⟨#[]⟩, .int .i64 0, .slice none 0 0, .int .i64 0, .int .i64 0, .bool false, .string ⟨#[]⟩, .int .i64 0, .slice none 0 0, .int .i64 0, .int .i64 0, .bool false, .string ⟨#[]⟩, .int .i64 0, .slice none 0 0, .int .i64 0, .int .i64 0, .bool false, .string ⟨#[]⟩, .int .i64 0, .slice none 0 0, .int .i64 0, .int .i64 0, .bool false, .string ⟨#[]⟩, .int .i64 0, .slice none 0 0, .int .i64 0, .int .i64 0, .bool false, .string ⟨#[]⟩, .int .i64 0, .slice none 0 0, .int .i64 0, .int .i64 0, .bool false, .string ⟨#[]⟩, .int .i64 0, .slice none 0 0, .int .i64 0, .int .i64 0, .bool false, .string ⟨#[]⟩, .int .i64 0, .slice none 0 0], .agg #[.int .i64 0, .int .i64 0, .int .i64 0, .string ⟨#[]⟩, .string ⟨#[]⟩, .string ⟨#[]⟩, .string ⟨#[]⟩]], []⟩ 8 (by kernel_rfl) (by kernel_rfl) (by kernel_rfl) (by kernel_rfl)) ?_
  intro W base args ds gs before hval0 hW _ hsz0 _
  have hval : ∀ (j : Nat) t v, Try.f5.params[j]? = some t → args[j]? = some v → Value.okWide Try.prog W .any base t v := hval0
  have hW' := hW
  obtain ⟨p, q, hA0, hV, rfl, _, _⟩ := hW
  have hA : DataW.TrodAll enc Try.prog W 0 (fun _ => true) true Try.f5.params.toList args.toList ds p := hA0
  have hsz : (DataW.weightsEach Try.prog (Try.f5.params.toList ++ Rows.stateAnySpec.plain.varTypes Try.prog) (ds ++ gs)).all (· ≤ reachBytes) = true := hsz0
  rw [Try.params5] at hA hval hsz
  obtain ⟨v0, vs0, d0, ds0, p0, q0, hargs, rfl, rfl, h0, r0⟩ := trodAll_cons hA
  obtain ⟨v1, vs1, d1, ds1, p1, q1, rfl, rfl, rfl, h1, r1⟩ := trodAll_cons r0
  obtain ⟨rfl, rfl, rfl⟩ := trodAll_nil r1
  obtain rfl : args = #[v0, v1] := by cases args; simp_all
  obtain ⟨rfl, rfl⟩ := trodVars_none hV
  have k0 := h0
  have lt0 : ∀ x ∈ p0, x.block < W.heap.size := by obtain ⟨m, hm⟩ := k0; exact DataW.trod_lt m _ _ _ hm
  obtain ⟨x0, A0, c0, L0, rfl, s0⟩ := state_in2 (j := 0) (hval 0 30 v0 rfl rfl) h0 hsz rfl rfl
  have k1 := h1
  have lt1 : ∀ x ∈ p1, x.block < W.heap.size := by obtain ⟨m, hm⟩ := k1; exact DataW.trod_lt m _ _ _ hm
  obtain ⟨x1, rfl, s1⟩ := cmd_in (j := 1) (hval 1 35 v1 rfl rfl) h1 hsz rfl rfl
  clear hA0 hval0
  refine (walk x0 A0 c0 L0 x1 W s0 s1).mono fun e W' ⟨he, bel⟩ => ?_
  subst he
  exact ⟨_, rfl, _, _, _, [], _, [], hW', trodAll_mk1 (shut_bool Try.underlying4 _), (trodAll_cons_mk (Below.trod laidOut (by kernel_rfl) (of_decide_eq_true (by kernel_rfl)) k0 bel lt0) (trodAll_cons_mk (Below.trod laidOut (by kernel_rfl) (of_decide_eq_true (by kernel_rfl)) k1 bel lt1) trodAll_mk0)), rfl, bel.frame _, fun h => by cases h⟩
theorem over : Rows.stateAnyRow.holds Try.pinned (OpenSpec.ofChange Rows.stateAnySpec) :=
  OpenClaim.holds_of_wide 5 Try.f5 rfl rfl rfl rfl rfl rfl rfl ⟨rfl, rfl, rfl, rfl, rfl⟩ rfl rfl rfl rfl rfl (by kernel_rfl) Try.func5 (by kernel_rfl)
    (of_decide_eq_true (by kernel_rfl)) (by unfold Func.isWrapper; first | (rw [if_pos (by decide +kernel)]; kernel_rfl) | (rw [if_neg (by decide +kernel)]; exact ⟨rfl, rfl⟩))
    (fun os started H enc _ => lifted os started H enc)
theorem proved : Rows.StateAnySaid := over
end Go.Proofs.Ytahfpncfkcfogaa.stateAny
