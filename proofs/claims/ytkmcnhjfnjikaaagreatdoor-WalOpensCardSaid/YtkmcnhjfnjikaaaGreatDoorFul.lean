/- WalFull: where the disk has no room for them, records are refused. No condition. -/
import Derived.Test.YtkmcnhjfnjikaaaGreatDoorWk
import Derived.Deep.RegionHeld3
namespace Go.Proofs.YtkmcnhjfnjikaaaGreatDoor
open Go.RowKit Go.Maps
/-- What holds at the head of round j. -/
structure Fu (q : Int) (j : Nat) (d : DS) (K : Nat) (F : Nat → List (List Int)) (L : List (List Int)) : Prop where
  g : Gd d 1 K F
  k : 1 ≤ K ∧ K ≤ j + 1
  q : d.q = q
  ct : (cat F K).tail = L
  ln : L.length ≤ j
  sz : ∀ p, p ∈ L → p.length ≤ 2000 ∧ Octets p
theorem Fu.more {q : Int} {j K K' : Nat} {d : DS} {F F' : Nat → List (List Int)} {L : List (List Int)} {p : List Int} (h : Fu q j d K F L) (hp : p.length ≤ 2000 ∧ Octets p) (ha : Added d 1 K F [p] K' F') : Fu q (j + 1) (adS d ⟨1, K, false⟩ [p]) K' F' (L ++ [p]) := by
  refine ⟨ha.g, by have := ha.k1; have := h.k; omega, by rw [ha.q]; exact h.q, ?_, by rw [List.length_append]; have := h.ln; simp; omega, fun x hx => ?_⟩
  · rw [ha.cat]
    have hne := cat_ne h.g.ne h.k.1
    cases hc : cat F K with
    | nil => exact absurd hc hne
    | cons a r =>
      have := h.ct
      rw [hc] at this
      simp only [List.cons_append, List.tail_cons] at this ⊢
      rw [this]
  · rcases List.mem_append.1 hx with h1 | h1
    · exact h.sz x h1
    · rcases List.mem_singleton.1 h1 with rfl; exact hp
theorem Fu.next {q : Int} {j K : Nat} {d : DS} {F : Nat → List (List Int)} {L : List (List Int)} (h : Fu q j d K F L) : Fu q (j + 1) d K F L := ⟨h.g, by have := h.k; omega, h.q, h.ct, by have := h.ln; omega, h.sz⟩
theorem enc_one_len (p : List Int) : (enc [p]).length = p.length + 6 := by rw [enc_one, length_frm]
theorem mayB_one {p : List Int} (h : 1 ≤ p.length ∧ p.length ≤ 16384) : mayB [p] = true := by unfold mayB; simp [h]
/-- What one Add of the round comes to. -/
theorem Fu.add {q : Int} {j K : Nat} {d : DS} {F : Nat → List (List Int)} {L : List (List Int)} {p : List Int} (h : Fu q j d K F L) (hj : j ≤ 40) (hp : p.length ≤ 2000 ∧ Octets p) (h1 : 1 ≤ p.length) :
    ((total d.l : Int) + p.length + 6 ≤ q → ∃ K' F', adE d ⟨1, K, false⟩ [p] = 0 ∧ adW d ⟨1, K, false⟩ [p] = ⟨1, K', false⟩ ∧ Fu q (j + 1) (adS d ⟨1, K, false⟩ [p]) K' F' (L ++ [p]) ∧ (total (adS d ⟨1, K, false⟩ [p]).l : Int) ≤ q) ∧
    (q < (total d.l : Int) + p.length + 6 → adE d ⟨1, K, false⟩ [p] = 7 ∧ adS d ⟨1, K, false⟩ [p] = d ∧ adW d ⟨1, K, false⟩ [p] = ⟨1, K, false⟩) := by
  have hk := h.k
  have hm := mayB_one (p := p) (by omega)
  have hl := enc_one_len p
  refine ⟨fun hf => ?_, fun hf => ?_⟩
  · obtain ⟨K', F', ha⟩ := h.g.add (new := [p]) (by omega) (by omega) hm (fun x hx => by rcases List.mem_singleton.1 hx with rfl; exact hp.2) (by rw [h.q, hl]; omega)
    exact ⟨K', F', ha.e, ha.w, h.more hp ha, by rw [ha.tot, hl]; omega⟩
  · exact h.g.full (by omega) (by omega) hm (by simp) (by rw [h.q, hl]; omega)
/-- The beginning. -/
theorem Fu.start (q : Int) (hq : 50 ≤ q ∧ q ≤ 3000) : anE (newS q) ⟨0, 0, false⟩ [] = 0 ∧ anW (newS q) ⟨0, 0, false⟩ [] = ⟨1, 1, false⟩ ∧ Fu q 0 (anS (newS q) ⟨0, 0, false⟩ []) 1 (fun _ => anF []) [] := by
  have l0 := num7_len (([] : List (List Int)).length : Nat)
  have e0 : (enc (anF [])).length = (num7 (([] : List (List Int)).length : Nat)).length + 6 := by
    unfold anF
    rw [enc_cons, enc_nil]
    simp only [List.length_append, length_frm, List.length_nil]
  have y := (Od.empty q).anew (new := []) (by omega) (by omega) (by decide) (fun p hp => by cases hp) (by decide) (by show ((0 : Nat) : Int) + _ ≤ q; omega)
  exact ⟨y.e, y.w, ⟨y.g, by omega, y.q, rfl, Nat.le_refl _, fun p hp => by cases hp⟩⟩
theorem room_w {W w : World} {Y : Nat → Prop} {p g : Nat} {d : DS} {x : WS} {v : Value} {L : List (List Int)} (h : Wk W w Y p g d x v L) : Calls Tryz.prog 34 #[.pointer (some ⟨g, 0, none⟩)] w fun e w' => e = .returned (.int .i64 (d.q - total d.l)) ∧ Below w.heap.size w w' := room_q h.disk
set_option maxRecDepth 100000 in
set_option maxHeartbeats 4000000 in
theorem full_any (a : Int) (A : Option Addr) (m c : Nat) (it : Nat → Sb) (W : World) (h : PartsIn W A m c it) :
    Calls Tryz.prog 8 #[.int .i64 a, .slice A m c] W fun e w' => e = .returned (.bool true) ∧ Below W.heap.size W w' := by
  have hmx : (m : Int) ≤ 9223372036854775807 := by have := h.le; have := h.room; omega
  have hwi := hide (fun w => within_any a 50 3000 w (by omega) (by omega) (by omega))
  have hq := withinI_bounds a 50 3000 (by omega)
  generalize withinI a 50 3000 = q at *
  have c0 := hide (new_q q W (by omega))
  have oe := op_empty q
  obtain ⟨st1, st2, st3⟩ := Fu.start q hq
  have c1 := hide (fun (w : World) (g : Nat) (h : Lw W (fun k => k < W.heap.size) w g (newS q)) => open_l (m := 60) (x := ⟨0, 0, false⟩) (L := []) h ⟨Nat.zero_le _, fun f hf => by (cases hf)⟩ (by omega) oe.1 oe.2.1 (by rw [oe.2.2.1, oe.2.2.2.1]) oe.2.2.2.2)
  have c2 := hide (fun (w : World) (p g : Nat) (h : Wl W w p g (newS q) ⟨0, 0, false⟩) => h.anew (n := 0) (Below.refl _ _) (recs0 (fun k => w.heap.size ≤ k ∧ k < w.heap.size) w) (fun k hk => .inr hk) rfl (by omega) (fun q hq => by (cases hq)) (by decide) (Nat.zero_le _) ⟨st1, rfl, st2⟩)
  have st3 := hide st3
  generalize anS (newS q) ⟨0, 0, false⟩ [] = d0 at *
  have hP := hide h
  have hruns := hide runs_any
  obtain ⟨i0, hi, hz0, hz1, hz2⟩ := info_parts Tryz.info31
  clear oe st1 st2 h
  go_enter Tryz.func8, Tryz.ntmps8
  go_upto_region 6 with (first
    | (go_at_call 16; (with_reducible refine (hwi.out _).mono ?_); rintro e w0 ⟨rfl, rfl⟩)
    | (go_at_call 10; (with_reducible refine c0.out.mono ?_); rintro e w1 ⟨g, rfl, hq1, hb1⟩; (have S0 := hide (Lw.start hq1 hb1)); clear hq1 hb1)
    | (go_at_call 11; (with_reducible refine (c1.out _ _ S0.out).mono ?_); rintro e w2 ⟨P, A1, n1, rfl, hS, -⟩; (have S1 := hide hS); clear hS S0)
    | (go_at_call 13; (with_reducible refine (c2.out _ _ _ S1.out).mono ?_); rintro e w3 ⟨rfl, hS⟩; (have S2 := hide (Wk.start hS)); clear hS S1))
  go_wp2
  go_loopw [10, 11] (fun v i wr => ∃ (vv : Value) (j K : Nat) (d : DS) (F : Nat → List (List Int)) (L : List (List Int)), vv = v ∧ i = .int .i64 j ∧ j ≤ 20 ∧ j ≤ m ∧ Hid (Fu q j d K F L) ∧ Hid (Wk W wr (fun k => k < W.heap.size) P g d ⟨1, K, false⟩ vv L)) (fun _ i _ => 20 - (intOf i).toNat)
  case atStart => exact ⟨_, 0, 1, d0, _, [], rfl, rfl, by omega, by omega, st3, S2⟩
  case round =>
    obtain ⟨v, j, K, d, F, L, rfl, rfl, hj, hjm, hF, S⟩ := hrel
    by_cases hlt : j < m ∧ j < 20
    · obtain ⟨hlt1, hlt2⟩ := hlt
      have t1 : decide ((j : Int) < (m : Int)) = true := by simp; omega
      have t2 : decide (j < m) = true := by simp; omega
      have t3 : decide ((j : Int) < 20) = true := by simp; omega
      have t4 : decide (j < 20) = true := by simp; omega
      obtain ⟨b, off, rfl, hbl, hc, hin⟩ := hP.out.at_ j hlt1
      have hcW := hc
      have hc0 := (S.out.low.cell (p := ⟨b, off + j, none⟩) hbl).trans hc
      have hj20 : j + 1 ≤ 20 := hlt2
      have hjm1 : j + 1 ≤ m := hlt1
      clear hc hlt1 hlt2
      generalize (it j).A = A' at *
      generalize (it j).c = c' at *
      generalize (it j).zs = zs at *
      generalize (it j).n = n at *
      have hnl := hin.len
      by_cases hn : n = 0 ∨ 2000 < n
      · have hcont := hide hF.out.next
        rcases hn with hn | hn
        · have e1 : ((n : Int) == 0) = true := by simp [hn]
          have e2 : decide (n = 0) = true := by simp [hn]
          clear hn
          go_wp2
          go_roundw
          case rel => exact ⟨v, j + 1, K, d, F, L, rfl, by simp; try omega, by omega, by omega, hcont, S⟩
          case measure => simp [intOf]; omega
        · have e1 : ((n : Int) == 0) = false := by simp; omega
          have e2 : decide (n = 0) = false := by simp; omega
          have e3 : decide ((2000 : Int) < (n : Int)) = true := by simp; omega
          have e4 : decide (2000 < n) = true := by simp; omega
          clear hn
          go_wp2
          go_roundw
          case rel => exact ⟨v, j + 1, K, d, F, L, rfl, by simp; try omega, by omega, by omega, hcont, S⟩
          case measure => simp [intOf]; omega
      · have e1 : ((n : Int) == 0) = false := by simp; omega
        have e2 : decide (n = 0) = false := by simp; omega
        have e3 : decide ((2000 : Int) < (n : Int)) = false := by simp; omega
        have e4 : decide (2000 < n) = false := by simp; omega
        have had := hF.out.add (p := zs) (by omega) ⟨by omega, hin.oct⟩ (by omega)
        have hfd := hF.out.g.len (by omega) (by have := hF.out.k; omega)
        have hkk := hF.out.k
        have hqd := hF.out.q
        have htot := hide (fun (w2 : World) (d2 : DS) (x2 : WS) (S2 : Wk W w2 (fun k => k < W.heap.size) P g d2 x2 v L) => total_q S2.disk)
        have hroo := hide (fun (w2 : World) (d2 : DS) (x2 : WS) (S2 : Wk W w2 (fun k => k < W.heap.size) P g d2 x2 v L) => room_w S2)
        have hin := hide hin
        by_cases hf : (total d.l : Int) + zs.length + 6 ≤ q
        · obtain ⟨K', F', f1, f2, hF2, hT2⟩ := had.1 hf
          have hadd := hide (fun (w2 : World) (S2 : Wk W w2 (fun k => k < W.heap.size) P g d ⟨1, K, false⟩ v L) => S2.add (n := 1) (y := 0) (below_alloc' w2 _) (recs_one hin.out S2.low (by omega)) (fun k hk => hk.imp id .inr) rfl (by omega) (fun x hx => by rcases List.mem_singleton.1 hx with rfl; omega) (by show (1 : Nat) < 99; omega) (by show K < 99; omega) (by omega) ⟨f1, rfl, f2⟩)
          have hF2 := hide hF2
          have hT := S.out.disk.ok.tot
          generalize adS d ⟨1, K, false⟩ [zs] = d' at *
          have hq2 := hF2.out.q
          have hlow := hide (fun (w2 : World) (hb : Below W.heap.size W w2) => (hb.cell (p := ⟨b, off + j, none⟩) hbl).trans hcW)
          have hroo2 := hide (fun (w2 : World) (S2 : Wk W w2 (fun k => k < W.heap.size) P g d' ⟨1, K', false⟩ v L) => hroo.out w2 d' _ S2)
          rw [hq2] at hroo2
          have htot1 := hide (fun (w2 : World) (S2 : Wk W w2 (fun k => k < W.heap.size) P g d ⟨1, K, false⟩ v L) => htot.out w2 d _ S2)
          have htot2 := hide (fun (w2 : World) (S2 : Wk W w2 (fun k => k < W.heap.size) P g d' ⟨1, K', false⟩ v L) => htot.out w2 d' _ S2)
          have hTT : (total d.l : Int) ≤ 3000 := by omega
          obtain ⟨T, hTe⟩ : ∃ T, total d.l = T := ⟨_, rfl⟩
          obtain ⟨T', hTe'⟩ : ∃ T, total d'.l = T := ⟨_, rfl⟩
          rw [hTe] at htot1 hT hf hTT
          rw [hTe'] at htot2 hroo2 hT2
          have g1 : IntKind.i64.wrap ((T : Int) + (n : Int)) = (T : Int) + (n : Int) := by rw [IntKind.wrap_i64]; omega
          have g2 : IntKind.i64.wrap ((T : Int) + (n : Int) + 6) = (T : Int) + (n : Int) + 6 := by rw [IntKind.wrap_i64]; omega
          have g3 : IntKind.i64.wrap ((T' : Int) + (q - (T' : Int))) = q := by rw [IntKind.wrap_i64]; omega
          have g4 : decide ((T : Int) + (n : Int) + 6 ≤ q) = true := by simp; omega
          have cw := hlow.out _ S.out.low
          clear hTe hTe' hT hf had hc0
          have QQ := S
          go_upto_region 12 with (first
            | (go_at_call 33; (with_reducible refine (htot1.out _ QQ.out).mono ?_); rintro e w4 ⟨rfl, hb4⟩; (have QN := hide (QQ.out.below hb4)); (have cw4 := hlow.out _ QN.out.low); clear QQ; (have QQ := QN); clear QN hb4)
            | (go_at_call 12; (with_reducible refine (hadd.out _ QQ.out).mono ?_); rintro e w5 ⟨rfl, hS5⟩; clear QQ; (have QQ := hide hS5); clear hS5))
          clear cw cw4
          have QD := hide (QQ.out.below (Below.refl _ _).drew)
          clear QQ
          have QQ := QD
          clear QD
          have cw := hlow.out _ QQ.out.low
          have hj0 : j < m := hjm1
          go_region_held3 (fun w2 => w2.cell? ⟨b, off + j, none⟩ = some (.slice A' n c')) ((with_reducible exact hlow.out _ QQ.out.low))
            (first
              | (go_at_call 33; (with_reducible refine (htot2.out _ QQ.out).mono ?_); rintro e w6 ⟨rfl, hb6⟩; (have QN := hide (QQ.out.below hb6)); clear QQ hb6; (have QQ := QN); clear QN)
              | (go_at_call 34; (with_reducible refine (hroo2.out _ QQ.out).mono ?_); rintro e w6 ⟨rfl, hb6⟩; (have QN := hide (QQ.out.below hb6)); clear QQ hb6; (have QQ := QN); clear QN))
          all_goals
            clear cw
            obtain ⟨vs, hvs, hvl⟩ := QQ.out.want.own
            have hvs := hide hvs
            have hvl := hide hvl
            have cw := hlow.out _ QQ.out.low
            have hLn := hF2.out.ln
            rw [List.length_append] at hLn
            go_wp2_with (at_builtin; refine wpList_append_own_at _ rfl (.tmp 112) (.tmp 117) 27 rfl 0 31 i0 (.slice none 0 0) 1 24 Tryz.underlying27 hi hz0 hz1 hz2 rfl (by omega) _ L.length vs rfl (own_below hvs.out (below_alloc' w6 _)) ⟨w6.heap.size, 0, none⟩ 1 1 [.slice A' n c'] rfl rfl (cell_one_new _ _ _) (by intro u hu; rw [List.mem_singleton] at hu; subst hu; rfl) (by unfold maxLen; omega) (by omega) (Nat.zero_le _) ?_)
            intro v2 w7 o7 k7 _ hat
            have hG := hide (QQ.out.grow (q := zs) (A := A') (c := c') (below_alloc' w6 (.cells #[.slice A' n c'] 31)) ⟨hin.out.lies.below QQ.out.low, by have := hin.out.le; omega, hin.out.nil⟩
              (fun x hx => by
                obtain ⟨b', off', e, hlt, _⟩ := hin.out.lies (by omega)
                rw [e] at hx; injection hx with hx; subst hx
                exact ⟨hlt, Nat.lt_of_lt_of_le hlt QQ.out.low.size⟩)
              (fun j p hj => by
                obtain ⟨A'', c'', e, h1, h2⟩ := hvl.out j p hj
                exact ⟨A'', c'', e, h1.alloc _, fun x hx => ⟨(h2 x hx).1, by have := (h2 x hx).2; simp; omega⟩⟩)
              (by have := hvs.out.1; omega) (fun k hk => by have := QQ.out.want.apart k hk; omega) (by rw [hnl]; exact o7) k7 (by simpa using hat))
            clear o7 k7 hat hvs hvl QQ
            go_wp2
            go_roundw
            case rel => exact ⟨v2, j + 1, K', d', F', L ++ [zs], rfl, by simp; try omega, by omega, by omega, hF2, hG⟩
            case measure => simp [intOf]; omega
        · obtain ⟨f1, f2, f3⟩ := had.2 (by omega)
          have hadd := hide (fun (w2 : World) (S2 : Wk W w2 (fun k => k < W.heap.size) P g d ⟨1, K, false⟩ v L) => S2.add (n := 1) (y := 7) (d' := d) (x' := ⟨1, K, false⟩) (below_alloc' w2 _) (recs_one hin.out S2.low (by omega)) (fun k hk => hk.imp id .inr) rfl (by omega) (fun x hx => by rcases List.mem_singleton.1 hx with rfl; omega) (by show (1 : Nat) < 99; omega) (by show K < 99; omega) (by omega) ⟨f1, f2, f3⟩)
          have hF2 := hide hF.out.next
          have hT := S.out.disk.ok.tot
          have hlow := hide (fun (w2 : World) (hb : Below W.heap.size W w2) => (hb.cell (p := ⟨b, off + j, none⟩) hbl).trans hcW)
          have hroo2 := hide (fun (w2 : World) (S2 : Wk W w2 (fun k => k < W.heap.size) P g d ⟨1, K, false⟩ v L) => hroo.out w2 d _ S2)
          rw [hqd] at hroo2 hT
          have htot1 := hide (fun (w2 : World) (S2 : Wk W w2 (fun k => k < W.heap.size) P g d ⟨1, K, false⟩ v L) => htot.out w2 d _ S2)
          have hTT : (total d.l : Int) ≤ 3000 := by omega
          obtain ⟨T, hTe⟩ : ∃ T, total d.l = T := ⟨_, rfl⟩
          rw [hTe] at htot1 hroo2 hT hf hTT
          have g1 : IntKind.i64.wrap ((T : Int) + (n : Int)) = (T : Int) + (n : Int) := by rw [IntKind.wrap_i64]; omega
          have g2 : IntKind.i64.wrap ((T : Int) + (n : Int) + 6) = (T : Int) + (n : Int) + 6 := by rw [IntKind.wrap_i64]; omega
          have g3 : IntKind.i64.wrap ((T : Int) + (q - (T : Int))) = q := by rw [IntKind.wrap_i64]; omega
          have g4 : decide ((T : Int) + (n : Int) + 6 ≤ q) = false := by simp; omega
          have cw := hlow.out _ S.out.low
          clear hTe hT hf had hc0
          have QQ := S
          go_upto_region 12 with (first
            | (go_at_call 33; (with_reducible refine (htot1.out _ QQ.out).mono ?_); rintro e w4 ⟨rfl, hb4⟩; (have QN := hide (QQ.out.below hb4)); (have cw4 := hlow.out _ QN.out.low); clear QQ; (have QQ := QN); clear QN hb4)
            | (go_at_call 12; (with_reducible refine (hadd.out _ QQ.out).mono ?_); rintro e w5 ⟨rfl, hS5⟩; clear QQ; (have QQ := hide hS5); clear hS5))
          clear cw cw4
          have QD := hide (QQ.out.below (Below.refl _ _).drew)
          clear QQ
          have QQ := QD
          clear QD
          have cw := hlow.out _ QQ.out.low
          have hj0 : j < m := hjm1
          go_region_held3 (fun w2 => w2.cell? ⟨b, off + j, none⟩ = some (.slice A' n c')) ((with_reducible exact hlow.out _ QQ.out.low))
            (first
              | (go_at_call 33; (with_reducible refine (htot1.out _ QQ.out).mono ?_); rintro e w6 ⟨rfl, hb6⟩; (have QN := hide (QQ.out.below hb6)); clear QQ hb6; (have QQ := QN); clear QN)
              | (go_at_call 34; (with_reducible refine (hroo2.out _ QQ.out).mono ?_); rintro e w6 ⟨rfl, hb6⟩; (have QN := hide (QQ.out.below hb6)); clear QQ hb6; (have QQ := QN); clear QN))
          all_goals
            clear cw
            go_wp2_with (first | (go_at_call 33; (with_reducible refine (htot1.out _ QQ.out).mono ?_); rintro e w8 ⟨rfl, hb8⟩; (have QN := hide (QQ.out.below hb8)); clear QQ hb8; (have QQ := QN); clear QN))
            go_roundw
            case rel => exact ⟨v, j + 1, K, d, F, L, rfl, by simp; try omega, by omega, by omega, hF2, QQ⟩
            case measure => simp [intOf]; omega
    · have hkk := hF.out.k
      have o5 := hF.out.g.open (by omega) (by omega)
      have hop := hide (S.out.open (m := 60) (M := L) (hF.out.g.sm (by omega) (by omega) (by omega)) (by omega) o5.1 (by rw [o5.2.2]; exact hF.out.ct))
      have hoct := hide (fun p (hp : p ∈ L) => (hF.out.sz p hp).2)
      have hsz := hide (fun p (hp : p ∈ L) => (show p.length ≤ 1000000 by have := (hF.out.sz p hp).1; omega))
      have hLn := hF.out.ln
      obtain ⟨Aw, cw, rfl, -⟩ := S.out.want.recs hoct.out
      have hli := hide (fun (w2 : World) (Y1 Y2 : Nat → Prop) (A2 : Option Addr) (c2 : Nat) (r1 : Recs Y1 w2 A2 c2 L) (r2 : Recs Y2 w2 Aw cw L) => lists_any (n := L.length) (m := L.length) r1 r2 rfl rfl (by omega) (by omega) hsz.out hsz.out)
      rw [decide_eq_true rfl] at hli
      clear o5
      obtain ⟨ln, hln⟩ : ∃ n, L.length = n := ⟨_, rfl⟩
      rw [hln] at hop hli
      rw [hln]
      by_cases hjm2 : j < m
      · have t1 : decide ((j : Int) < (m : Int)) = true := by simp; omega
        have t2 : decide (j < m) = true := by simp; omega
        have t3 : decide ((j : Int) < 20) = false := by simp; omega
        have t4 : decide (j < 20) = false := by simp; omega
        clear hlt
        go_wp2_with (first
          | (go_at_call 11; (with_reducible refine hop.out.mono ?_); rintro e w2 ⟨P2, A2, c2, rfl, hS2, hr2⟩; (have S9 := hide hS2); (have R9 := hide hr2); clear hS2 hr2)
          | (go_at_call 26; obtain ⟨Y9, r9⟩ := S9.out.want.recs_at hoct.out; (with_reducible refine (hli.out _ _ _ _ _ R9.out r9).mono ?_); rintro e w3 ⟨rfl, q3, rfl⟩)
          | (go_at_call 3; (with_reducible refine (hruns.out _).mono ?_); rintro e w4 ⟨rfl, hb4⟩; have B9 := hide (kept_trans (kept_drewN S9.out.low q3) hb4)))
        go_ret
        exact ⟨rfl, B9.out⟩
      · have t1 : decide ((j : Int) < (m : Int)) = false := by simp; omega
        have t2 : decide (j < m) = false := by simp; omega
        clear hlt
        go_wp2_with (first
          | (go_at_call 11; (with_reducible refine hop.out.mono ?_); rintro e w2 ⟨P2, A2, c2, rfl, hS2, hr2⟩; (have S9 := hide hS2); (have R9 := hide hr2); clear hS2 hr2)
          | (go_at_call 26; obtain ⟨Y9, r9⟩ := S9.out.want.recs_at hoct.out; (with_reducible refine (hli.out _ _ _ _ _ R9.out r9).mono ?_); rintro e w3 ⟨rfl, q3, rfl⟩)
          | (go_at_call 3; (with_reducible refine (hruns.out _).mono ?_); rintro e w4 ⟨rfl, hb4⟩; have B9 := hide (kept_trans (kept_drewN S9.out.low q3) hb4)))
        go_ret
        exact ⟨rfl, B9.out⟩
end Go.Proofs.YtkmcnhjfnjikaaaGreatDoor
