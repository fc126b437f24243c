/- Proved: the law DiskKeeps returns true. Conditions: none beyond the row's own. -/
import Derived.Test.YtllgjbkmemheoaaFrame
import Derived.Test.YtllgjbkmemheoaaKeep
import Derived.Test.YtllgjbkmemheoaaSp
import Derived.Deep.DeepCutAuto
namespace Go.Proofs.Ytllgjbkmemheoaa.diskKeeps
open Go.ChangeShapes Go.WideShapes Go.ChangeAt Go.RowKit
set_option maxRecDepth 100000 in
set_option maxHeartbeats 4000000 in
theorem early1 (A : Option Addr) (m c : Nat) (A1 : Option Addr) (n1 c1 : Nat) (A2 : Option Addr) (n2 c2 : Nat) (A3 : Option Addr) (n3 c3 : Nat) (W : World) (hn : ¬ n1 ≤ 300) :
    Calls Try.prog 5 #[.slice A m c, .slice A1 n1 c1, .slice A2 n2 c2, .slice A3 n3 c3] W fun e w' => e = .returned (.bool true) ∧ Below W.heap.size W w' := by
  go_enter Try.func5, Try.ntmps5
  go_wp2_with (first
    | (go_at_call 10; (with_reducible refine (new_q 1048576 W (by omega)).mono ?_); rintro e w1 ⟨g, rfl, hq, hb⟩; have L1 := hide (show Lw W (fun k => k < W.heap.size) w1 g (newS 1048576) from Lw.start hq hb); clear hq hb)
    | (go_at_call 3; (with_reducible refine (run_run L1.out).mono ?_); rintro e wz ⟨rfl, hbw⟩))
  go_ret
  exact ⟨rfl, hbw⟩
set_option maxRecDepth 100000 in
set_option maxHeartbeats 4000000 in
theorem early2 (A : Option Addr) (m c : Nat) (A1 : Option Addr) (n1 c1 : Nat) (A2 : Option Addr) (n2 c2 : Nat) (A3 : Option Addr) (n3 c3 : Nat) (W : World) (ha : n1 ≤ 300) (hn : ¬ n2 ≤ 300) :
    Calls Try.prog 5 #[.slice A m c, .slice A1 n1 c1, .slice A2 n2 c2, .slice A3 n3 c3] W fun e w' => e = .returned (.bool true) ∧ Below W.heap.size W w' := by
  go_enter Try.func5, Try.ntmps5
  go_wp2_with (first
    | (go_at_call 10; (with_reducible refine (new_q 1048576 W (by omega)).mono ?_); rintro e w1 ⟨g, rfl, hq, hb⟩; have L1 := hide (show Lw W (fun k => k < W.heap.size) w1 g (newS 1048576) from Lw.start hq hb); clear hq hb)
    | (go_at_call 3; (with_reducible refine (run_run L1.out).mono ?_); rintro e wz ⟨rfl, hbw⟩))
  go_ret
  exact ⟨rfl, hbw⟩
set_option maxRecDepth 100000 in
set_option maxHeartbeats 4000000 in
theorem early3 (A : Option Addr) (m c : Nat) (A1 : Option Addr) (n1 c1 : Nat) (A2 : Option Addr) (n2 c2 : Nat) (A3 : Option Addr) (n3 c3 : Nat) (W : World) (ha : n1 ≤ 300) (hb : n2 ≤ 300) (hn : ¬ n3 ≤ 30) :
    Calls Try.prog 5 #[.slice A m c, .slice A1 n1 c1, .slice A2 n2 c2, .slice A3 n3 c3] W fun e w' => e = .returned (.bool true) ∧ Below W.heap.size W w' := by
  go_enter Try.func5, Try.ntmps5
  go_wp2_with (first
    | (go_at_call 10; (with_reducible refine (new_q 1048576 W (by omega)).mono ?_); rintro e w1 ⟨g, rfl, hq, hb⟩; have L1 := hide (show Lw W (fun k => k < W.heap.size) w1 g (newS 1048576) from Lw.start hq hb); clear hq hb)
    | (go_at_call 3; (with_reducible refine (run_run L1.out).mono ?_); rintro e wz ⟨rfl, hbw⟩))
  go_ret
  exact ⟨rfl, hbw⟩
set_option maxRecDepth 100000 in
set_option maxHeartbeats 8000000 in
theorem walk1 (A : Option Addr) (m c : Nat) (it : Nat → As) (A1 : Option Addr) (n1 c1 : Nat) (z1 : List Int) (A2 : Option Addr) (n2 c2 : Nat) (z2 : List Int) (A3 : Option Addr) (n3 c3 : Nat) (z3 : List Int) (W : World) (h : AsksIn W A m c it) (h1 : SliceIn W A1 n1 c1 z1) (h2 : SliceIn W A2 n2 c2 z2) (h3 : IntsIn W A3 n3 c3 z3) (hn : n1 ≤ 300 ∧ n2 ≤ 300 ∧ n3 ≤ 30) :
    Calls Try.prog 5 #[.slice A m c, .slice A1 n1 c1, .slice A2 n2 c2, .slice A3 n3 c3] W fun e w' => e = .returned (.bool true) ∧ Below W.heap.size W w' := by
  have hmx : (m : Int) ≤ 9223372036854775807 := by have := h.le; have := h.room; omega
  have hb1 : (n1 : Int) ≤ 300 := by omega
  have hb2 : (n2 : Int) ≤ 300 := by omega
  have hb3 : (n3 : Int) ≤ 30 := by omega
  have hz1 := h1.len
  have P1 := hide (kp1 (z := z1) (by omega))
  have P2 := hide (kp2 z1)
  have P3 := hide (kp3 (z := z1) (by omega))
  have HA := hide h
  have H1 := hide h1
  have H2 := hide h2
  have H3 := hide h3
  have HL1 := hide hz1
  have HLN := hide (show (newS 1048576).l.length < 9000000000 from by unfold newS; simp)
  clear hn h h1 h2 h3 hz1
  go_enter Try.func5, Try.ntmps5
  go_wp2_with (first
    | (go_at_call 10; (with_reducible refine (new_q 1048576 W (by omega)).mono ?_); rintro e w1 ⟨g, rfl, hq, hb⟩; have L1 := hide (show Lw W (fun k => k < W.heap.size) w1 g (newS 1048576) from Lw.start hq hb); clear hq hb)
    | (go_at_call 11; (with_reducible refine (own_app L1.out (H1.out.arg L1.out) P1.out HLN.out).mono ?_); rintro e w2 ⟨rfl, h2⟩; have L2 := hide h2; clear h2 L1)
    | (go_at_call 12; (with_reducible refine (own_syn L2.out P2.out).mono ?_); rintro e w3 ⟨rfl, h2⟩; have L3 := hide h2; clear h2 L2))
  go_loopw [11] (fun i wr => ∃ (j : Nat) (d : DS), j ≤ m ∧ j ≤ 30 ∧ i = .int .i64 j ∧ Hid (Lw W (fun k => k < W.heap.size) wr g d) ∧ Hid (Kp d ⟨nO, z1, z1.length⟩ j)) (fun i _ => m - (intOf i).toNat)
  case atStart => exact ⟨0, _, by omega, by omega, rfl, L3, P3⟩
  case round =>
    clear L3 P1 P2 P3
    obtain ⟨j, d, hj, hj30, rfl, hL, hK⟩ := hrel
    by_cases hlt : j < 30 ∧ j < m
    · obtain ⟨hlt1, hlt2⟩ := hlt
      obtain ⟨b, off, rfl, hbl, hat, hok⟩ := ask_at HA.out hL.out.low hlt2
      have q0 := hat.c0
      have q1 := hat.c1
      have q2 := hat.c2
      have q3 := hat.c3
      have q4 := hat.c4
      have q5 := hat.c5
      go_upto_region 10 with (fail)
      have R := Row.new wr 41 #[.int .i64 (it j).k, .int .i64 (it j).n, .string (it j).nm, .string (it j).tn, .slice (it j).d.A (it j).d.n (it j).d.c, .slice (it j).p.A (it j).p.n (it j).p.c]
      have L := hide (hL.out.below (kept_alloc (kept_refl wr) (.cells #[.int .i64 (it j).k, .int .i64 (it j).n, .string (it j).nm, .string (it j).tn, .slice (it j).d.A (it j).d.n (it j).d.c, .slice (it j).p.A (it j).p.n (it j).p.c] 41)))
      have hK2 := hide (hK.out.more)
      clear q0 q1 q2 q3 q4 q5 hat hbl hL HA
      generalize (wr.alloc (.cells #[.int .i64 (it j).k, .int .i64 (it j).n, .string (it j).nm, .string (it j).tn, .slice (it j).d.A (it j).d.n (it j).d.c, .slice (it j).p.A (it j).p.n (it j).p.c] 41)) = w1 at *
      generalize wr.heap.size = gb at *
      have r0 : w1.cell? ⟨gb, 0, none⟩ = some (.int .i64 (it j).k) := R.cell 0
      have r2 : w1.cell? ⟨gb, 2, none⟩ = some (.string (it j).nm) := R.cell 2
      have r3 : w1.cell? ⟨gb, 3, none⟩ = some (.string (it j).tn) := R.cell 3
      have r4 : w1.cell? ⟨gb, 4, none⟩ = some (.slice (it j).d.A (it j).d.n (it j).d.c) := R.cell 4
      have hdn := hok.d.len
      have hdr := hok.d.room
      have hdl := hok.d.le
      clear R
      by_cases e1 : (it j).nm = nO
      · have s1 : ((it j).nm.toList == [111, 119, 110]) = true := by rw [e1, own_list]; rfl
        clear e1
        clear hok hdn
        generalize (it j).nm = nm at *
        generalize (it j).tn = tn at *
        generalize (it j).d.A = DA at *
        generalize (it j).d.n = dn at *
        generalize (it j).d.c = dc at *
        generalize (it j).k = kk at *
        go_wp2
        go_roundw
        case rel => exact ⟨j + 1, d, by omega, by omega, by go_num, L, hK2⟩
        case measure => simp [intOf]; omega
      have s1 : ((it j).nm.toList == [111, 119, 110]) = false := by have := beq_no (b := nO) e1; rwa [own_list] at this
      by_cases e2 : (it j).tn = nO
      · have s2 : ((it j).tn.toList == [111, 119, 110]) = true := by rw [e2, own_list]; rfl
        clear e1 e2
        clear hok hdn
        generalize (it j).nm = nm at *
        generalize (it j).tn = tn at *
        generalize (it j).d.A = DA at *
        generalize (it j).d.n = dn at *
        generalize (it j).d.c = dc at *
        generalize (it j).k = kk at *
        go_wp2
        go_roundw
        case rel => exact ⟨j + 1, d, by omega, by omega, by go_num, L, hK2⟩
        case measure => simp [intOf]; omega
      have s2 : ((it j).tn.toList == [111, 119, 110]) = false := by have := beq_no (b := nO) e2; rwa [own_list] at this
      by_cases e3 : 300 < (it j).d.n
      · clear e1 e2
        clear hok hdn
        generalize (it j).nm = nm at *
        generalize (it j).tn = tn at *
        generalize (it j).d.A = DA at *
        generalize (it j).d.n = dn at *
        generalize (it j).d.c = dc at *
        generalize (it j).k = kk at *
        go_wp2
        go_roundw
        case rel => exact ⟨j + 1, d, by omega, by omega, by go_num, L, hK2⟩
        case measure => simp [intOf]; omega
      have e3' : (it j).d.n ≤ 300 := by omega
      have hlz : (it j).d.zs.length ≤ 300 := by omega
      have HAP := hide (app_k L.out hK.out hj30 (SliceIn.arg hok.d L.out) e1 hlz hok.nm)
      have HSY := hide (syn_k L.out hK.out e1 hok.nm)
      have HRN := hide (ren_k L.out hK.out hj30 e1 e2 hok.nm hok.tn)
      have HRM := hide (rem_k L.out hK.out e1 hok.nm)
      clear e1 e2 hlz hok hdn
      generalize (it j).nm = nm at *
      generalize (it j).tn = tn at *
      generalize (it j).d.A = DA at *
      generalize (it j).d.n = dn at *
      generalize (it j).d.c = dc at *
      generalize (it j).k = kk at *
      by_cases k1 : kk = 1
      · subst k1
        go_wp2_with (go_at_call 11; (with_reducible refine HAP.out.mono ?_); rintro e w2 ⟨x, d2, rfl, h2, k2⟩; have L2 := hide h2; have K2 := hide k2; clear h2 k2 HAP HSY HRN HRM)
        go_roundw
        case rel => exact ⟨j + 1, d2, by omega, by omega, by go_num, L2, K2⟩
        case measure => simp [intOf]; omega
      by_cases k2 : kk = 2
      · subst k2
        go_wp2_with (go_at_call 12; (with_reducible refine HSY.out.mono ?_); rintro e w2 ⟨x, d2, rfl, h2, k2⟩; have L2 := hide h2; have K2 := hide k2; clear h2 k2 HAP HSY HRN HRM)
        go_roundw
        case rel => exact ⟨j + 1, d2, by omega, by omega, by go_num, L2, K2⟩
        case measure => simp [intOf]; omega
      by_cases k4 : kk = 4
      · subst k4
        go_wp2_with (go_at_call 21; (with_reducible refine HRN.out.mono ?_); rintro e w2 ⟨x, d2, rfl, h2, k2⟩; have L2 := hide h2; have K2 := hide k2; clear h2 k2 HAP HSY HRN HRM)
        go_roundw
        case rel => exact ⟨j + 1, d2, by omega, by omega, by go_num, L2, K2⟩
        case measure => simp [intOf]; omega
      by_cases k5 : kk = 5
      · subst k5
        go_wp2_with (go_at_call 22; (with_reducible refine HRM.out.mono ?_); rintro e w2 ⟨x, d2, rfl, h2, k2⟩; have L2 := hide h2; have K2 := hide k2; clear h2 k2 HAP HSY HRN HRM)
        go_roundw
        case rel => exact ⟨j + 1, d2, by omega, by omega, by go_num, L2, K2⟩
        case measure => simp [intOf]; omega
      have b1 : (kk == 1) = false := by simpa using k1
      have b2 : (kk == 2) = false := by simpa using k2
      have b4 : (kk == 4) = false := by simpa using k4
      have b5 : (kk == 5) = false := by simpa using k5
      clear k1 k2 k4 k5
      go_wp2
      go_roundw
      case rel => exact ⟨j + 1, d, by omega, by omega, by go_num, L, hK2⟩
      case measure => simp [intOf]; omega
    · clear HA
      have hzl2 := H2.out.len
      have hzl1 := H1.out.len
      obtain ⟨E1, F1, G1⟩ := kp4 (p := z2) hK.out hj30 (by omega) hL.out.q.ok.up
      obtain ⟨d4, hd4⟩ : ∃ d4, appS d nO z2 = d4 := ⟨_, rfl⟩
      rw [hd4] at F1 G1
      obtain ⟨r, hr, F2⟩ := kp5 z3 z1 z2 F1
      obtain ⟨bs, hbs⟩ : ∃ bs, z1 ++ z2.take r = bs := ⟨_, rfl⟩
      obtain ⟨N, hN⟩ : ∃ N, n1 + r = N := ⟨_, rfl⟩
      have hbl : bs.length = N := by rw [← hbs, List.length_append, List.length_take]; omega
      have hb1t : bs.take n1 = z1 := by rw [← hbs, ← hzl1]; simp
      have hb1d : bs.drop n1 = z2.take r := by rw [← hbs, ← hzl1]; simp
      have hNr : N - n1 = r := by omega
      have hz2l : (z2.take r).length = r := by rw [List.length_take]; omega
      rw [hbs] at F2
      have F3 := kp6 z3 bs (show z1.length + r = bs.length by omega) F2
      obtain ⟨d5, hd5⟩ : ∃ d5, craS d4 z3 = d5 := ⟨_, rfl⟩
      obtain ⟨d6, hd6⟩ : ∃ d6, craS d5 z3 = d6 := ⟨_, rfl⟩
      have G2 : d5.l.length ≤ 100 := by rw [← hd5, cra_len]; exact G1
      have F2' : find nO d5.l = some ⟨nO, bs, z1.length + r⟩ := by rw [← hd5]; exact F2
      have F3' : find nO d6.l = some ⟨nO, bs, z1.length + r⟩ := by rw [← hd6, ← hd5]; exact F3
      have hNn : N ≤ n1 + n2 := by omega
      have hNn2 : n1 ≤ N := by omega
      have hn3 : n3 ≤ 30 := by omega
      have HAP := hide (own_app hL.out (H2.out.arg hL.out) ⟨E1, hd4⟩ (by have := hK.out.len; omega))
      have HXC := hide (fun w (L : Lw W (fun k => k < W.heap.size) w g d4) => crash_k L H3.out hn3 G1 hd5)
      have HXR := hide (fun w (L : Lw W (fun k => k < W.heap.size) w g d5) => own_read L F2' hbl)
      have HXC2 := hide (show ∀ w A, Lr W (fun k => k < W.heap.size) A bs w g d5 → Calls Try.prog 13 #[.pointer (some ⟨g, 0, none⟩), .slice A3 n3 c3] w fun e w' => e = .returned (.tuple #[]) ∧ Lr W (fun k => k < W.heap.size) A bs w' g d6 from
        fun w A R => (crash_k R.l H3.out hn3 G2 hd6).mono fun _ _ ⟨h1, h2, h3⟩ => ⟨h1, h2, R.lies.kx h3 (inX_plus _ A bs)⟩)
      have HXR2 := hide (show ∀ w A, Lr W (fun k => k < W.heap.size) A bs w g d6 → Calls Try.prog 14 #[.pointer (some ⟨g, 0, none⟩), .string ⟨#[111, 119, 110]⟩] w fun e w' => ∃ A' c', e = .returned (.tuple #[.slice A' N c', .bool true]) ∧ Lies w' A bs ∧ Lies w' A' bs ∧ Lw W (plus (fun k => k < W.heap.size) A) w' g d6 from
        fun w A R => (own_read R.l F3' hbl).mono fun _ _ ⟨A', c', h1, h2, _, hb⟩ => ⟨A', c', h1, R.lies.below hb, h2.lies, h2.drop R.l.xs⟩)
      have HSA := hide (show ∀ w A c (R : Lr W (fun k => k < W.heap.size) A bs w g d5), Calls Try.prog 16 #[.slice A n1 c, .slice A1 n1 c1] w fun e w' => e = .returned (.bool true) ∧ Below w.heap.size w w' from
        fun w A c R => (same_run (t := true) R.l (R.lies.take n1) (H1.out.arg R.l).lies (by rw [hb1t]; exact hzl1) hzl1 (by omega) (by omega) (decide_eq_true hb1t)).mono fun _ _ ⟨h1, _, h3⟩ => ⟨h1, h3⟩)
      have HSB := hide (show ∀ w A c (R : Lr W (fun k => k < W.heap.size) A bs w g d5), N ≤ c → Calls Try.prog 16 #[.slice (partA A c n1) (N - n1) (c - n1), .slice A2 (N - n1) c2] w fun e w' => e = .returned (.bool true) ∧ Below w.heap.size w w' from
        fun w A c R hc => (same_run (t := true) R.l (drop_lies (k := n1) R.lies hc hbl) ((H2.out.arg R.l).lies.take r) (by rw [hb1d, hz2l, hNr]) (by rw [hz2l, hNr]) (by omega) (by omega) (decide_eq_true hb1d)).mono fun _ _ ⟨h1, _, h3⟩ => ⟨h1, h3⟩)
      have hz2c := H2.out.le
      have HBL := hide hbl
      have hNb : N ≤ 4611686018427387904 := by omega
      clear hL hK hd4 hd5 hd6 hbs hN hb1t hb1d hNr hz2l F1 F2 F3 F2' F3' E1 G1 G2 hr hzl1 hzl2 hbl H1 H2 H3 HL1 HLN
      have hPA : ∀ (A : Option Addr) (c : Nat), (if c = n1 then A else Option.map (fun x => x.add n1) A) = partA A c n1 := fun _ _ => rfl
      have HPA := hide hPA
      clear hPA
      have t1 : decide ((n2 : Int) < (N : Int) - (n1 : Int)) = false := by simp; omega
      have t2 : decide ((N : Int) - (n1 : Int) < 0) = false := by simp; omega
      have t3 : (0 : Int) ≤ (N : Int) - (n1 : Int) := by omega
      have t4 : ((N : Int) - (n1 : Int)).toNat = N - n1 := by omega
      have t5 : (N : Int) - (n1 : Int) ≤ (c2 : Int) := by omega
      have t6 : (n1 : Int) ≤ (N : Int) := by omega
      have hcase : ¬ j < m ∨ (j < m ∧ 30 ≤ j) := by omega
      clear hlt
      rcases hcase with hjm | ⟨hjm, hjk⟩
      all_goals
        go_upto_region 25 with (first
          | (go_at_call 11; (with_reducible refine HAP.out.mono ?_); rintro e w4 ⟨rfl, h2⟩; have L4 := hide h2; clear h2 HAP)
          | (go_at_call 13; (with_reducible refine (HXC.out _ L4.out).mono ?_); rintro e w5 ⟨rfl, h2, _⟩; have L5 := hide h2; clear h2 L4 HXC)
          | (go_at_call 14; (with_reducible refine (HXR.out _ L5.out).mono ?_); rintro e w6 ⟨A5, c5, rfl, h2, hc5, _⟩; have L6 := hide h2; clear h2 L5 HXR))
        obtain ⟨S0, hS⟩ : ∃ S0 : World → Prop, (fun w' => Lr W (fun k => k < W.heap.size) A5 bs w' g d5) = S0 := ⟨_, rfl⟩
        have KSA := hide (show ∀ k : Sp S0, Calls Try.prog 16 #[.slice A5 n1 c5, .slice A1 n1 c1] k.w fun e w' => e = .returned (.bool true) ∧ Below k.w.heap.size k.w w' by subst hS; exact fun k => HSA.out k.w A5 c5 k.ok)
        have KSB := hide (show ∀ k : Sp S0, Calls Try.prog 16 #[.slice (partA A5 c5 n1) (N - n1) (c5 - n1), .slice A2 (N - n1) c2] k.w fun e w' => e = .returned (.bool true) ∧ Below k.w.heap.size k.w w' by subst hS; exact fun k => HSB.out k.w A5 c5 k.ok hc5)
        have STEP := hide (show ∀ w w', S0 w → Below w.heap.size w w' → S0 w' by subst hS; exact fun _ _ h1 hb => h1.below hb)
        have OLD := hide (show ∀ k : Sp S0, Lr W (fun k => k < W.heap.size) A5 bs k.w g d5 by subst hS; exact fun k => k.ok)
        have hst : S0 w6.drew := by subst hS; exact L6.out.below (kept_drewN (kept_refl w6) 1)
        have ne : Nonempty (Sp S0) := ⟨⟨_, hst⟩⟩
        have hPA := HPA.out A5 c5
        have t7 : (n1 : Int) ≤ (c5 : Int) := by omega
        have t8 : (N : Int) ≤ (c5 : Int) := by omega
        clear hS HSA HSB L6
        refine wp_region_sp S0 (by kernel_rfl) (by kernel_rfl) hst ?_
        clear hst
        repeat (quiet_step (first
          | (go_at_call 16; with_reducible exact sp_call STEP.out _ (KSA.out _))
          | (go_at_call 16; with_reducible exact sp_call STEP.out _ (KSB.out _))))
        refine wpQuiet_nil ?_
        intro kk
        have OK := hide (OLD.out kk)
        generalize kk.w = wk at OK ⊢
        clear ne OLD STEP KSA KSB hPA HPA
        go_wp2_with (first
          | (go_at_call 13; (with_reducible refine (HXC2.out _ _ OK.out).mono ?_); rintro e w7 ⟨rfl, h2⟩; have L7 := hide h2; clear h2 OK HXC2)
          | (go_at_call 14; (with_reducible refine (HXR2.out _ _ L7.out).mono ?_); rintro e w8 ⟨A8, c8, rfl, hz, hy, h2⟩; have HS := hide (same_run (c := c5) (k := c8) h2 hz hy HBL.out HBL.out hNb hNb (decide_eq_true rfl)); clear h2 hz hy L7 HXR2)
          | (go_at_call 16; (with_reducible refine HS.out.mono ?_); rintro e w9 ⟨rfl, h2, hb2⟩; have L9 := hide h2; clear h2 hb2 HS)
          | (go_at_call 3; (with_reducible refine (run_run L9.out).mono ?_); rintro e wz ⟨rfl, hbw⟩))
        go_ret
        exact ⟨rfl, hbw⟩
theorem walk (A : Option Addr) (m c : Nat) (it : Nat → As) (A1 : Option Addr) (n1 c1 : Nat) (z1 : List Int) (A2 : Option Addr) (n2 c2 : Nat) (z2 : List Int) (A3 : Option Addr) (n3 c3 : Nat) (z3 : List Int) (W : World) (h : AsksIn W A m c it) (h1 : SliceIn W A1 n1 c1 z1) (h2 : SliceIn W A2 n2 c2 z2) (h3 : IntsIn W A3 n3 c3 z3) :
    Calls Try.prog 5 #[.slice A m c, .slice A1 n1 c1, .slice A2 n2 c2, .slice A3 n3 c3] W fun e w' => e = .returned (.bool true) ∧ Below W.heap.size W w' := by
  by_cases ha : n1 ≤ 300
  · by_cases hb : n2 ≤ 300
    · by_cases hc : n3 ≤ 30
      · exact walk1 A m c it A1 n1 c1 z1 A2 n2 c2 z2 A3 n3 c3 z3 W h h1 h2 h3 ⟨ha, hb, hc⟩
      · exact early3 A m c A1 n1 c1 A2 n2 c2 A3 n3 c3 W ha hb hc
    · exact early2 A m c A1 n1 c1 A2 n2 c2 A3 n3 c3 W ha hb
  · exact early1 A m c A1 n1 c1 A2 n2 c2 A3 n3 c3 W ha
set_option maxRecDepth 100000 in
theorem lifted (os : Os) (started : os.Started) (H : Type) (enc : TypeId × Value → H) :
    ReturnsInHanded {} Try.checked os 5 .any (Rows.diskKeepsSpec.pre6 enc Try.prog Try.f5 Rows.diskKeepsRow.domain false) (Rows.diskKeepsSpec.post enc Try.prog Try.f5 false true false false) := by
  refine returnsInHanded_of_change_sized (C := Try.checked) own started (by kernel_rfl) Try.func5
    (ChangeSpec.witness6 (enc := enc) (C := Try.checked) false ⟨#[], #[.slice none 0 0, .slice none 0 0, .slice none 0 0, .slice none 0 0], []⟩ 8 (by kernel_rfl) (by kernel_rfl) (by kernel_rfl) (by kernel_rfl)) ?_
  intro W base args ds gs before hval0 hW _ hsz0 _
  have hval : ∀ (j : Nat) t v, Try.f5.params[j]? = some t → args[j]? = some v → Value.okWide Try.prog W .any base t v := hval0
  have hW' := hW
  obtain ⟨p, q, hA0, hV, rfl, _, _⟩ := hW
  have hA : DataW.TrodAll enc Try.prog W 0 (fun _ => true) true Try.f5.params.toList args.toList ds p := hA0
  have hsz : (DataW.weightsEach Try.prog (Try.f5.params.toList ++ Rows.diskKeepsSpec.plain.varTypes Try.prog) (ds ++ gs)).all (· ≤ reachBytes) = true := hsz0
  rw [Try.params5] at hA hval hsz
  obtain ⟨v0, vs0, d0, ds0, p0, q0, hargs, rfl, rfl, h0, r0⟩ := trodAll_cons hA
  obtain ⟨v1, vs1, d1, ds1, p1, q1, rfl, rfl, rfl, h1, r1⟩ := trodAll_cons r0
  obtain ⟨v2, vs2, d2, ds2, p2, q2, rfl, rfl, rfl, h2, r2⟩ := trodAll_cons r1
  obtain ⟨v3, vs3, d3, ds3, p3, q3, rfl, rfl, rfl, h3, r3⟩ := trodAll_cons r2
  obtain ⟨rfl, rfl, rfl⟩ := trodAll_nil r3
  obtain rfl : args = #[v0, v1, v2, v3] := by cases args; simp_all
  obtain ⟨rfl, rfl⟩ := trodVars_none hV
  have k0 := h0
  have lt0 : ∀ x ∈ p0, x.block < W.heap.size := by obtain ⟨m, hm⟩ := k0; exact DataW.trod_lt m _ _ _ hm
  obtain ⟨A0, n0, c0, rfl⟩ := okWide_slice Try.underlying35 (hval 0 35 v0 rfl rfl)
  obtain ⟨z0, s0⟩ := dasks_in (j := 0) h0 hsz rfl rfl
  have k1 := h1
  have lt1 : ∀ x ∈ p1, x.block < W.heap.size := by obtain ⟨m, hm⟩ := k1; exact DataW.trod_lt m _ _ _ hm
  obtain ⟨A1, n1, c1, rfl⟩ := okWide_slice Try.underlying27 (hval 1 27 v1 rfl rfl)
  obtain ⟨z1, s1⟩ := slice_in (j := 1) h1 hsz rfl rfl
  have k2 := h2
  have lt2 : ∀ x ∈ p2, x.block < W.heap.size := by obtain ⟨m, hm⟩ := k2; exact DataW.trod_lt m _ _ _ hm
  obtain ⟨A2, n2, c2, rfl⟩ := okWide_slice Try.underlying27 (hval 2 27 v2 rfl rfl)
  obtain ⟨z2, s2⟩ := slice_in (j := 2) h2 hsz rfl rfl
  have k3 := h3
  have lt3 : ∀ x ∈ p3, x.block < W.heap.size := by obtain ⟨m, hm⟩ := k3; exact DataW.trod_lt m _ _ _ hm
  obtain ⟨A3, n3, c3, rfl⟩ := okWide_slice Try.underlying39 (hval 3 39 v3 rfl rfl)
  obtain ⟨z3, s3⟩ := dints_in h3
  clear hA0 hval0
  refine (walk A0 n0 c0 z0 A1 n1 c1 z1 A2 n2 c2 z2 A3 n3 c3 z3 W s0 s1 s2 s3).mono fun e W' ⟨he, bel⟩ => ?_
  subst he
  exact ⟨_, rfl, _, _, _, [], _, [], hW', trodAll_mk1 (shut_bool Try.underlying4 _), (trodAll_cons_mk (Below.trod laidOut (by kernel_rfl) (of_decide_eq_true (by kernel_rfl)) k0 bel lt0) (trodAll_cons_mk (Below.trod laidOut (by kernel_rfl) (of_decide_eq_true (by kernel_rfl)) k1 bel lt1) (trodAll_cons_mk (Below.trod laidOut (by kernel_rfl) (of_decide_eq_true (by kernel_rfl)) k2 bel lt2) (trodAll_cons_mk (Below.trod laidOut (by kernel_rfl) (of_decide_eq_true (by kernel_rfl)) k3 bel lt3) trodAll_mk0)))), rfl, bel.frame _, fun h => by cases h⟩
theorem over : Rows.diskKeepsRow.holds Try.pinned (OpenSpec.ofChange Rows.diskKeepsSpec) :=
  OpenClaim.holds_of_wide 5 Try.f5 rfl rfl rfl rfl rfl rfl rfl ⟨rfl, rfl, rfl, rfl, rfl⟩ rfl rfl rfl rfl rfl (by kernel_rfl) Try.func5 (by kernel_rfl)
    (of_decide_eq_true (by kernel_rfl)) (by unfold Func.isWrapper; first | (rw [if_pos (by decide +kernel)]; kernel_rfl) | (rw [if_neg (by decide +kernel)]; exact ⟨rfl, rfl⟩))
    (fun os started H enc _ => lifted os started H enc)
theorem proved : Rows.DiskKeepsSaid := over
end Go.Proofs.Ytllgjbkmemheoaa.diskKeeps
