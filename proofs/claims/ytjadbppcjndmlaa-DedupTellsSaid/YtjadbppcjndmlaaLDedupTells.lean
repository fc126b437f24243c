/- Proved: the law DedupTells returns true: any owners, any client and number, any reply. No condition. -/
import Derived.Test.YtjadbppcjndmlaaFrame
import Derived.Test.YtjadbppcjndmlaaTe
import Derived.Deep.DeepCutAuto
namespace Go.Proofs.Ytjadbppcjndmlaa.dedupTells
open Go.ChangeShapes Go.WideShapes Go.ChangeAt Go.RowKit
set_option maxRecDepth 100000 in
set_option maxHeartbeats 8000000 in
theorem walk (L : List Co) (c s : Int) (r : Re) (A : Option Addr) (q : Nat) (W : World) (hL : OwIn W L) (hc0 : -9223372036854775808 ≤ c ∧ c ≤ 9223372036854775807) (_ : -9223372036854775808 ≤ s ∧ s ≤ 9223372036854775807) (hr : ReOk W r A q) :
    Calls Try.prog 4 #[.agg (arr L), .int .i64 c, .int .i64 s, .agg #[.int .i64 r.why, .bool r.fnd, .string r.val, .int .i64 r.ver, .slice A r.l.length q]] W fun e w' => e = .returned (.bool true) ∧ Below W.heap.size W w' := by
  have HN := hide (B2.new W L r (.slice A r.l.length q))
  have HF := hide hL.fine
  have HP := hide hr.ps.pin
  have HL8 := hide hL.len
  have ln := hr.ps.room
  clear hL hr
  go_enter Try.func4, Try.ntmps4
  go_upto_region 1 with (fail)
  generalize ((W.alloc (.cells (arr L) 28)).alloc (.cells #[.int .i64 r.why, .bool r.fnd, .string r.val, .int .i64 r.ver, .slice A r.l.length q] 25)) = w1 at HN ⊢
  have R0 := hide HN.out.r0
  obtain ⟨V, hV⟩ : ∃ V, lookO (ows L) c s = V := ⟨_, rfl⟩
  have lV : V.2.l.length ≤ 3518437208780 := by rw [← hV]; exact look_room (fine_room HF.out) c s
  have HV := hide hV
  clear hV
  have HS := hide (rstate_any L w1 (HF.out.below HN.out.bel))
  go_upto_region 3 with (first | ((with_reducible refine wpList_load8 ?_ R0.out HL8.out ?_); rfl) | ((with_reducible refine wpList_build35 ?_ HL8.out ?_); rfl) | (go_at_call 11; (with_reducible refine HS.out.mono ?_); rintro e w2 ⟨rfl, hb⟩))
  have kb := kept_alloc (kept_refl w2) (.cells #[.int .i64 0, .bool false, .string { data := #[] }, .int .i64 0, .slice none 0 0] 25)
  have RZ := hide (Row.new w2 25 #[.int .i64 0, .bool false, .string { data := #[] }, .int .i64 0, .slice none 0 0])
  have HNo := hide (HN.out.below hb)
  have HN := hide ((HN.out.below hb).below kb)
  have h01 : W.heap.size + 1 < w2.heap.size := HNo.out.r1.lt
  clear HS R0 hb kb HNo
  generalize w2.alloc (.cells #[.int .i64 0, .bool false, .string { data := #[] }, .int .i64 0, .slice none 0 0] 25) = w3 at RZ HN ⊢
  generalize w2.heap.size = g1 at RZ h01 ⊢
  go_cut [27] (fun s27 wx => s27 = .bool (cliB c) ∧ w3 = wx)
  case first =>
    obtain ⟨t1, h1⟩ : ∃ t, decide (1 ≤ c) = t := ⟨_, rfl⟩
    obtain ⟨t2, h2⟩ : ∃ t, decide (c ≤ 8) = t := ⟨_, rfl⟩
    have e : cliB c = (t1 && t2) := by unfold cliB; rw [h1, h2]
    have HE := hide e
    clear e
    cases t1
    · go_wp2
      go_meet
      exact ⟨by rw [HE.out]; rfl, rfl⟩
    · go_wp2
      go_meet
      exact ⟨by rw [HE.out]; simp, rfl⟩
  obtain ⟨rfl, rfl⟩ := hcut
  go_upto_if 27 with (fail)
  go_cut [10] (fun s10 wx => ∃ A1 c1, s10 = .int .i64 V.1 ∧ Rb wx g1 V.2 A1 c1 ∧ B2 W wx L r (.slice A r.l.length q))
  case first =>
    cases hc : cliB c
    · have EV : V = (0, zeroR) := HV.out.symm.trans (by unfold lookO; rw [hc]; rfl)
      subst EV
      clear hc
      go_wp2
      go_meet
      exact ⟨none, 0, rfl, ⟨RZ.out, Pin.nil_ _⟩, HN.out⟩
    · obtain ⟨k, hk, hk1, hk2, hk3⟩ := cli_place hc
      obtain ⟨x, hx, hp, hn⟩ := HF.out.at_ hk
      have EO : V = seenO x.o s := HV.out.symm.trans (by unfold lookO; rw [if_pos hc, hk2, ows_at hx]; rfl)
      obtain ⟨d0, d1, d2, d3, d4, d5⟩ := HN.out.r0.owner hx
      have kb := kept_alloc (kept_refl w3) (.cells #[.int .i64 x.o.s, .int .i64 x.o.r.why, .bool x.o.r.fnd, .string x.o.r.val, .int .i64 x.o.r.ver, .slice x.A x.o.r.l.length x.c] 27)
      have PX := hide ((hp.below HN.out.bel).below kb)
      have PW := hide (show Pin W (.slice x.A x.o.r.l.length x.c) x.o.r.l from hp)
      have R3 := hide (Row.new w3 27 #[.int .i64 x.o.s, .int .i64 x.o.r.why, .bool x.o.r.fnd, .string x.o.r.val, .int .i64 x.o.r.ver, .slice x.A x.o.r.l.length x.c])
      have RZ4 := hide (RZ.out.below kb RZ.out.lt)
      have HN4 := hide (HN.out.below kb)
      have hne : g1 ≠ w3.heap.size := Nat.ne_of_lt RZ.out.lt
      unfold Co.p at d5 PX
      clear hc hk1 hk2 hx hp kb
      rcases Int.lt_trichotomy x.o.s s with h1 | h1 | h1
      · have EV : V = (1, zeroR) := EO.trans (by unfold seenO; rw [if_pos h1])
        subst EV
        have t1 : decide (x.o.s < s) = true := decide_eq_true h1
        have t2 : (s == x.o.s) = false := by simp; omega
        clear h1 EO
        go_upto_region 6 with (fail)
        generalize w3.alloc (.cells #[.int .i64 x.o.s, .int .i64 x.o.r.why, .bool x.o.r.fnd, .string x.o.r.val, .int .i64 x.o.r.ver, .slice x.A x.o.r.l.length x.c] 27) = w4 at R3 RZ4 HN4 PX ⊢
        generalize w3.heap.size = g12 at R3 hne ⊢
        obtain ⟨c0, c1, c2, c3, c4, c5⟩ := R3.out.six
        go_wp2
        go_meet
        exact ⟨none, 0, rfl, ⟨RZ4.out, Pin.nil_ _⟩, HN4.out⟩
      · have EV : V = (2, x.o.r) := EO.trans (by unfold seenO; rw [if_neg (by omega), if_neg (by omega)])
        subst EV
        have t1 : decide (x.o.s < s) = false := decide_eq_false (by omega)
        have t2 : (s == x.o.s) = true := by simp; omega
        clear h1 EO
        go_upto_region 6 with (fail)
        generalize w3.alloc (.cells #[.int .i64 x.o.s, .int .i64 x.o.r.why, .bool x.o.r.fnd, .string x.o.r.val, .int .i64 x.o.r.ver, .slice x.A x.o.r.l.length x.c] 27) = w4 at R3 RZ4 HN4 PX ⊢
        generalize w3.heap.size = g12 at R3 hne ⊢
        obtain ⟨c0, c1, c2, c3, c4, c5⟩ := R3.out.six
        go_upto_region 9 with (fail)
        clear d0 d1 d2 d3 d4 d5 hk3
        obtain ⟨e0, e1, e2, e3, e4⟩ := RZ4.out.five
        have f0 := RZ4.out.free 0
        have f1 := RZ4.out.free 1
        have f2 := RZ4.out.free 2
        have f3 := RZ4.out.free 3
        have f4 := RZ4.out.free 4
        go_region
        all_goals
          go_wp2
          go_meet
          exact ⟨x.A, x.c, rfl, ⟨(RZ4.out.five_put _ _ _ _ _).drew, PW.out.below (five_b2 HN4.out h01 _ _ _ _ _).bel⟩, five_b2 HN4.out h01 _ _ _ _ _⟩
      · have EV : V = (3, zeroR) := EO.trans (by unfold seenO; rw [if_neg (by omega), if_pos h1])
        subst EV
        have t1 : decide (x.o.s < s) = false := decide_eq_false (by omega)
        have t2 : (s == x.o.s) = false := by simp; omega
        clear h1 EO
        go_upto_region 6 with (fail)
        generalize w3.alloc (.cells #[.int .i64 x.o.s, .int .i64 x.o.r.why, .bool x.o.r.fnd, .string x.o.r.val, .int .i64 x.o.r.ver, .slice x.A x.o.r.l.length x.c] 27) = w4 at R3 RZ4 HN4 PX ⊢
        generalize w3.heap.size = g12 at R3 hne ⊢
        obtain ⟨c0, c1, c2, c3, c4, c5⟩ := R3.out.six
        go_wp2
        go_meet
        exact ⟨none, 0, rfl, ⟨RZ4.out, Pin.nil_ _⟩, HN4.out⟩
  case rest =>
    obtain ⟨A1, c1, rfl, E1, B1⟩ := hcut
    clear HN RZ h01
    have E1 := hide E1
    have B1 := hide B1
    have HLa := hide (look_any L c s wc (HF.out.below B1.out.bel))
    rw [HV.out] at HLa
    have R0 := hide B1.out.r0
    go_upto_region 11 with (first | ((with_reducible refine wpList_load8 ?_ R0.out HL8.out ?_); rfl) | (go_at_call 12; (with_reducible refine HLa.out.mono ?_); rintro e w5 ⟨p, rfl, ho5, hb5⟩; obtain ⟨A2, c2, rfl, _, _, _, _⟩ := ho5.pin))
    have kb := kept_alloc (kept_refl w5) (.cells #[.int .i64 V.2.why, .bool V.2.fnd, .string V.2.val, .int .i64 V.2.ver, .slice A2 V.2.l.length c2] 25)
    have E2 := hide (show Rb _ w5.heap.size V.2 A2 c2 from ⟨Row.new w5 25 #[.int .i64 V.2.why, .bool V.2.fnd, .string V.2.val, .int .i64 V.2.ver, .slice A2 V.2.l.length c2], ho5.pin.below kb⟩)
    have E1 := hide ((E1.out.below hb5).below kb)
    have B1 := hide ((B1.out.below hb5).below kb)
    clear HLa R0 ho5 hb5 kb
    generalize w5.alloc (.cells #[.int .i64 V.2.why, .bool V.2.fnd, .string V.2.val, .int .i64 V.2.ver, .slice A2 V.2.l.length c2] 25) = w6 at E1 E2 B1 ⊢
    generalize w5.heap.size = g2 at E2 ⊢
    have HT := hide (note_any L c s r A q w6 (HF.out.below B1.out.bel) (HP.out.below B1.out.bel) ln)
    have R0 := hide B1.out.r0
    obtain ⟨d0, d1, d2, d3, d4⟩ := B1.out.r1.five
    go_upto_region 12 with (first | ((with_reducible refine wpList_load8 ?_ R0.out HL8.out ?_); rfl) | (go_at_call 8; (with_reducible refine HT.out.mono ?_); rintro e w7 ⟨M, rfl, hM, h8, hf, hb⟩) | ((with_reducible refine wpList_store8n ?_ ?_ h8 ?_); rfl; rfl))
    have kb := kept_alloc (kept_refl w7) (.cells (arr M) 28)
    have TE := hide (show Te W _ L M r A q V.2 g1 A1 c1 g2 A2 c2 w7.heap.size from ⟨(B1.out.below hb).below kb, (E1.out.below hb).below kb, (E2.out.below hb).below kb, Row.new w7 28 (arr M), (fine_mine hf hM h8 (note_room (fine_room HF.out) ln)).below kb⟩)
    have HM := hide hM
    have M8 := hide h8
    clear HT R0 d0 d1 d2 d3 d4 E1 E2 B1 hb kb hM hf h8
    generalize w7.alloc (.cells (arr M) 28) = w8 at TE ⊢
    generalize w7.heap.size = g3 at TE ⊢
    go_wp2
    go_loopw [16] (fun i wr => ∃ k : Nat, k ≤ 8 ∧ i = .int .i64 k ∧ Hid (Te W wr L M r A q V.2 g1 A1 c1 g2 A2 c2 g3)) (fun i _ => 8 - (intOf i).toNat)
    case atStart => exact ⟨0, by omega, rfl, TE⟩
    case round =>
      obtain ⟨k, hk, rfl, TR⟩ := hrel
      by_cases hlt : k < 8
      · have hlt' : (k : Int) < 8 := by omega
        obtain ⟨x, hx, hp, hn⟩ := HF.out.at_ hlt
        obtain ⟨y, hy, hpy, hny⟩ := TR.out.f3.at_ hlt
        obtain ⟨d0, d1, d2, d3, d4, d5⟩ := TR.out.b.r0.owner hx
        have hyo : y.o = if (cliB c && decide ((c - 1).toNat = k)) = true then ⟨s, r⟩ else x.o := by
          have h1 := ows_at hy
          rw [HM.out, note_at hx] at h1
          exact (Option.some.inj h1).symm
        have hpw := place_wrap hc0 hlt
        have HYO := hide hyo
        have HY := hide hy
        have PX := hide hp
        unfold Co.p at d5 PX
        clear hx hp hn hy hpy hyo
        go_upto_region 16 with (fail)
        have kb := kept_alloc (kept_refl wr) (.cells #[.int .i64 x.o.s, .int .i64 x.o.r.why, .bool x.o.r.fnd, .string x.o.r.val, .int .i64 x.o.r.ver, .slice x.A x.o.r.l.length x.c] 27)
        have R4 := hide (Row.new wr 27 #[.int .i64 x.o.s, .int .i64 x.o.r.why, .bool x.o.r.fnd, .string x.o.r.val, .int .i64 x.o.r.ver, .slice x.A x.o.r.l.length x.c])
        have TA := hide (TR.out.below kb)
        have B9 := hide (show Below wr.heap.size wr (wr.alloc (.cells #[.int .i64 x.o.s, .int .i64 x.o.r.why, .bool x.o.r.fnd, .string x.o.r.val, .int .i64 x.o.r.ver, .slice x.A x.o.r.l.length x.c] 27)) from kb)
        clear kb d0 d1 d2 d3 d4 d5
        generalize wr.alloc (.cells #[.int .i64 x.o.s, .int .i64 x.o.r.why, .bool x.o.r.fnd, .string x.o.r.val, .int .i64 x.o.r.ver, .slice x.A x.o.r.l.length x.c] 27) = w9 at R4 TA B9 ⊢
        obtain ⟨g4, hg4⟩ : ∃ g, wr.heap.size = g := ⟨_, rfl⟩
        rw [hg4] at R4 B9 ⊢
        obtain ⟨t, ht⟩ : ∃ t, (cliB c && decide ((c - 1).toNat = k)) = t := ⟨_, rfl⟩
        rw [ht] at hpw HYO
        clear ht
        go_upto_if 64 with (fail)
        go_cut [65] (fun _ wx => ∃ Ao co, Tr W wx L M r A q V.2 g1 A1 c1 g2 A2 c2 g3 g4 y.o Ao co)
        case first =>
          cases t
          · have eo : x.o = y.o := HYO.out.symm
            rw [eo] at R4 PX
            go_wp2
            go_meet
            exact ⟨x.A, x.c, TA.out, R4.out, (PX.out.below TA.out.b.bel)⟩
          · have eo : y.o = ⟨s, r⟩ := HYO.out
            obtain ⟨d0, d1, d2, d3, d4⟩ := TA.out.b.r1.five
            obtain ⟨c0, c1', c2', c3, c4, c5⟩ := R4.out.six
            have f0 := R4.out.free 0
            have f1 := R4.out.free 1
            have f2 := R4.out.free 2
            have f3 := R4.out.free 3
            have f4 := R4.out.free 4
            have f5 := R4.out.free 5
            have HEO := hide eo
            have HG4 := hide hg4
            clear eo hg4
            go_wp2
            go_meet
            refine ⟨A, q, ?_, ?_, ?_⟩
            · exact TR.out.below (by rw [HG4.out]; exact six_below B9.out (Nat.le_refl _) _ _ _ _ _ _)
            · rw [HEO.out]; exact R4.out.six_put _ _ _ _ _ _
            · rw [HEO.out]; exact HP.out.below (TR.out.below (by rw [HG4.out]; exact six_below B9.out (Nat.le_refl _) _ _ _ _ _ _)).b.bel
        case rest =>
          obtain ⟨Ao, co, TT⟩ := hcut
          clear TA R4 B9 HYO hpw hg4 TR PX
          go_upto_region 18 with (fail)
          refine wp_region_sp (fun w' => Tr W w' L M r A q V.2 g1 A1 c1 g2 A2 c2 g3 g4 y.o Ao co) (by kernel_rfl) (by kernel_rfl) (TT.below (kept_refl wc).drew) ?_
          generalize hS : (fun w' => Tr W w' L M r A q V.2 g1 A1 c1 g2 A2 c2 g3 g4 y.o Ao co) = S
          have l0 : ∀ k' : Sp S, k'.w.cell? ⟨g3, k * 6, none⟩ = some (.int .i64 y.o.s) := by subst hS; exact fun k' => (k'.ok.te.r3.owner HY.out).1
          have l1 : ∀ k' : Sp S, k'.w.cell? ⟨g3, k * 6 + 1, none⟩ = some (.int .i64 y.o.r.why) := by subst hS; exact fun k' => (k'.ok.te.r3.owner HY.out).2.1
          have l2 : ∀ k' : Sp S, k'.w.cell? ⟨g3, k * 6 + 2, none⟩ = some (.bool y.o.r.fnd) := by subst hS; exact fun k' => (k'.ok.te.r3.owner HY.out).2.2.1
          have l3 : ∀ k' : Sp S, k'.w.cell? ⟨g3, k * 6 + 3, none⟩ = some (.string y.o.r.val) := by subst hS; exact fun k' => (k'.ok.te.r3.owner HY.out).2.2.2.1
          have l4 : ∀ k' : Sp S, k'.w.cell? ⟨g3, k * 6 + 4, none⟩ = some (.int .i64 y.o.r.ver) := by subst hS; exact fun k' => (k'.ok.te.r3.owner HY.out).2.2.2.2.1
          have l5 : ∀ k' : Sp S, k'.w.cell? ⟨g3, k * 6 + 5, none⟩ = some (.slice y.A y.o.r.l.length y.c) := by subst hS; exact fun k' => (k'.ok.te.r3.owner HY.out).2.2.2.2.2
          have m0 : ∀ k' : Sp S, k'.w.cell? ⟨g4, 0, none⟩ = some (.int .i64 y.o.s) := by subst hS; exact fun k' => k'.ok.row.six.1
          have m1 : ∀ k' : Sp S, k'.w.cell? ⟨g4, 1, none⟩ = some (.int .i64 y.o.r.why) := by subst hS; exact fun k' => k'.ok.row.six.2.1
          have m2 : ∀ k' : Sp S, k'.w.cell? ⟨g4, 2, none⟩ = some (.bool y.o.r.fnd) := by subst hS; exact fun k' => k'.ok.row.six.2.2.1
          have m3 : ∀ k' : Sp S, k'.w.cell? ⟨g4, 3, none⟩ = some (.string y.o.r.val) := by subst hS; exact fun k' => k'.ok.row.six.2.2.2.1
          have m4 : ∀ k' : Sp S, k'.w.cell? ⟨g4, 4, none⟩ = some (.int .i64 y.o.r.ver) := by subst hS; exact fun k' => k'.ok.row.six.2.2.2.2.1
          have m5 : ∀ k' : Sp S, k'.w.cell? ⟨g4, 5, none⟩ = some (.slice Ao y.o.r.l.length co) := by subst hS; exact fun k' => k'.ok.row.six.2.2.2.2.2
          have ne : Nonempty (Sp S) := by subst hS; exact ⟨⟨_, TT⟩⟩
          have STEP := hide (show ∀ w w', S w → Below w.heap.size w w' → S w' by subst hS; exact fun _ _ h hb => h.below hb)
          have OKS := hide (show ∀ k' : Sp S, Tr W k'.w L M r A q V.2 g1 A1 c1 g2 A2 c2 g3 g4 y.o Ao co by subst hS; exact fun k' => k'.ok)
          have HQ := hide (fun k' : Sp S => show Calls Try.prog 13 #[.agg #[.int .i64 y.o.r.why, .bool y.o.r.fnd, .string y.o.r.val, .int .i64 y.o.r.ver, .slice y.A y.o.r.l.length y.c], .agg #[.int .i64 y.o.r.why, .bool y.o.r.fnd, .string y.o.r.val, .int .i64 y.o.r.ver, .slice Ao y.o.r.l.length co]] k'.w (fun e w' => e = .returned (.bool true) ∧ Below k'.w.heap.size k'.w w') from by
            have h := replies_any y.o.r y.o.r _ _ k'.w ((OKS.out k').te.f3.2 y (List.mem_of_getElem? HY.out)).1 (OKS.out k').pin (by omega) (by omega)
            rw [decide_eq_true rfl] at h
            exact h)
          clear TT hS
          repeat (go_big_quiet_step (first | (go_at_call 13; with_reducible exact sp_call STEP.out _ (HQ.out _))))
          refine wpQuiet_nil ?_
          intro kk
          have OK := hide (OKS.out kk)
          generalize kk.w = wk at OK ⊢
          clear l0 l1 l2 l3 l4 l5 m0 m1 m2 m3 m4 m5 ne STEP OKS HQ
          go_wp2
          go_roundw
          case rel => exact ⟨k + 1, by omega, by go_num, OK.out.te⟩
          case measure => simp [intOf]; omega
      · obtain rfl : k = 8 := by omega
        have HB := hide TR.out.b.bel
        have R0 := hide TR.out.b.r0
        have HRO := hide (rightO_any L wr (HF.out.below HB.out))
        obtain ⟨c0, c1', c2', c3, c4⟩ := TR.out.e1.row.five
        obtain ⟨d0, d1, d2, d3, d4⟩ := TR.out.e2.row.five
        have HQ := hide (fun (wz : World) (hb : Below wr.heap.size wr wz) => show Calls Try.prog 13 #[.agg #[.int .i64 V.2.why, .bool V.2.fnd, .string V.2.val, .int .i64 V.2.ver, .slice A2 V.2.l.length c2], .agg #[.int .i64 V.2.why, .bool V.2.fnd, .string V.2.val, .int .i64 V.2.ver, .slice A1 V.2.l.length c1]] wz (fun e w' => e = .returned (.bool true) ∧ Below wz.heap.size wz w') from by
          have h := replies_any V.2 V.2 _ _ wz (TR.out.e2.below hb).pin (TR.out.e1.below hb).pin (by omega) (by omega)
          rw [decide_eq_true rfl] at h
          exact h)
        have T1 := hide TR.out.e1.row
        have T2 := hide TR.out.e2.row
        clear TR
        generalize rightO L = t at HRO ⊢
        go_wp2_with (first | ((with_reducible refine wpList_load8 ?_ R0.out HL8.out ?_); rfl) | (go_at_call 14; (with_reducible refine HRO.out.mono ?_); rintro e w20 ⟨rfl, hb20⟩; obtain ⟨c0, c1', c2', c3, c4⟩ := (T1.out.below hb20 T1.out.lt).five; obtain ⟨d0, d1, d2, d3, d4⟩ := (T2.out.below hb20 T2.out.lt).five) | (go_at_call 13; (with_reducible refine (HQ.out _ hb20).mono ?_); rintro e w21 ⟨rfl, hb21⟩) | (go_at_call 3; (with_reducible refine (runs_any _).mono ?_); rintro e w22 ⟨rfl, hb22⟩))
        go_ret
        exact ⟨rfl, kept_trans HB.out (kept_trans hb20 (kept_trans hb21 hb22))⟩
set_option maxRecDepth 100000 in
theorem lifted (os : Os) (started : os.Started) (H : Type) (enc : TypeId × Value → H) :
    ReturnsInHanded {} Try.checked os 4 .any (Rows.dedupTellsSpec.pre6 enc Try.prog Try.f4 Rows.dedupTellsRow.domain false) (Rows.dedupTellsSpec.post enc Try.prog Try.f4 false true false false) := by
  refine returnsInHanded_of_change_sized (C := Try.checked) own started (by kernel_rfl) Try.func4
    (ChangeSpec.witness6 (enc := enc) (C := Try.checked) false ⟨#[], #[.agg #[.int .i64 0, .int .i64 0, .bool false, .string ⟨#[]⟩, .int .i64 0, .slice none 0 0, .int .i64 0, .int .i64 0, .bool false, .string ⟨#[]⟩, .int .i64 0, .slice none 0 0, .int .i64 0, .int .i64 0, .bool false, .string ⟨#[]⟩, .int .i64 0, .slice none 0 0, .int .i64 0, .int .i64 0, .bool false, .string ⟨#[]⟩, .int .i64 0, .slice none 0 0, .int .i64 0, .int .i64 0, .bool false, .string ⟨#[]⟩, .int .i64 0, .slice none 0 0, .int .i64 0, .int .i64 0, .bool false, .string ⟨#[]⟩, .int .i64 0, .slice none 0 0, .int .i64 0, .int .i64 0, .bool false, .string ⟨#[]⟩, .int .i64 0, .slice none 0 0, .int .i64 0, .int .i64 0, .bool false, .string ⟨#[]⟩, .int .i64 0, .slice none 0 0], .int .i64 0, .int .i64 0, .agg #[.int .i64 0, .bool false, .string ⟨#[]⟩, .int .i64 0, .slice none 0 0]], []⟩ 8 (by kernel_rfl) (by kernel_rfl) (by kernel_rfl) (by kernel_rfl)) ?_
  intro W base args ds gs before hval0 hW _ hsz0 _
  have hval : ∀ (j : Nat) t v, Try.f4.params[j]? = some t → args[j]? = some v → Value.okWide Try.prog W .any base t v := hval0
  have hW' := hW
  obtain ⟨p, q, hA0, hV, rfl, _, _⟩ := hW
  have hA : DataW.TrodAll enc Try.prog W 0 (fun _ => true) true Try.f4.params.toList args.toList ds p := hA0
  have hsz : (DataW.weightsEach Try.prog (Try.f4.params.toList ++ Rows.dedupTellsSpec.plain.varTypes Try.prog) (ds ++ gs)).all (· ≤ reachBytes) = true := hsz0
  rw [Try.params4] at hA hval hsz
  obtain ⟨v0, vs0, d0, ds0, p0, q0, hargs, rfl, rfl, h0, r0⟩ := trodAll_cons hA
  obtain ⟨v1, vs1, d1, ds1, p1, q1, rfl, rfl, rfl, h1, r1⟩ := trodAll_cons r0
  obtain ⟨v2, vs2, d2, ds2, p2, q2, rfl, rfl, rfl, h2, r2⟩ := trodAll_cons r1
  obtain ⟨v3, vs3, d3, ds3, p3, q3, rfl, rfl, rfl, h3, r3⟩ := trodAll_cons r2
  obtain ⟨rfl, rfl, rfl⟩ := trodAll_nil r3
  obtain rfl : args = #[v0, v1, v2, v3] := by cases args; simp_all
  obtain ⟨rfl, rfl⟩ := trodVars_none hV
  have k0 := h0
  have lt0 : ∀ x ∈ p0, x.block < W.heap.size := by obtain ⟨m, hm⟩ := k0; exact DataW.trod_lt m _ _ _ hm
  obtain ⟨x0, rfl, s0⟩ := owners_in (j := 0) (hval 0 28 v0 rfl rfl) h0 hsz rfl rfl
  obtain ⟨a1, rfl, rfl, rfl, w1⟩ := open_int Try.underlying3 (hval 1 3 v1 rfl rfl) h1
  obtain ⟨a2, rfl, rfl, rfl, w2⟩ := open_int Try.underlying3 (hval 2 3 v2 rfl rfl) h2
  have k3 := h3
  have lt3 : ∀ x ∈ p3, x.block < W.heap.size := by obtain ⟨m, hm⟩ := k3; exact DataW.trod_lt m _ _ _ hm
  obtain ⟨x3, A3, c3, rfl, s3⟩ := reply_in (j := 3) (hval 3 25 v3 rfl rfl) h3 hsz rfl rfl
  clear hA0 hval0
  refine (walk x0 a1 a2 x3 A3 c3 W s0 (bounds_i64 w1) (bounds_i64 w2) s3).mono fun e W' ⟨he, bel⟩ => ?_
  subst he
  exact ⟨_, rfl, _, _, _, [], _, [], hW', trodAll_mk1 (shut_bool Try.underlying4 _), (trodAll_cons_mk (Below.trod laidOut (by kernel_rfl) (of_decide_eq_true (by kernel_rfl)) k0 bel lt0) (trodAll_cons_mk (shut_int Try.underlying3 w1) (trodAll_cons_mk (shut_int Try.underlying3 w2) (trodAll_cons_mk (Below.trod laidOut (by kernel_rfl) (of_decide_eq_true (by kernel_rfl)) k3 bel lt3) trodAll_mk0)))), rfl, bel.frame _, fun h => by cases h⟩
theorem over : Rows.dedupTellsRow.holds Try.pinned (OpenSpec.ofChange Rows.dedupTellsSpec) :=
  OpenClaim.holds_of_wide 4 Try.f4 rfl rfl rfl rfl rfl rfl rfl ⟨rfl, rfl, rfl, rfl, rfl⟩ rfl rfl rfl rfl rfl (by kernel_rfl) Try.func4 (by kernel_rfl)
    (of_decide_eq_true (by kernel_rfl)) (by unfold Func.isWrapper; first | (rw [if_pos (by decide +kernel)]; kernel_rfl) | (rw [if_neg (by decide +kernel)]; exact ⟨rfl, rfl⟩))
    (fun os started H enc _ => lifted os started H enc)
theorem proved : Rows.DedupTellsSaid := over
end Go.Proofs.Ytjadbppcjndmlaa.dedupTells
