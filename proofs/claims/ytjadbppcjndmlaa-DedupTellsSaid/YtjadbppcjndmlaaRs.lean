/- The document's RightState, of eight owners and no pairs. Conditions: the lists of pairs lie in memory, none is great. -/
import Derived.Test.YtjadbppcjndmlaaBu
namespace Go.Proofs.Ytjadbppcjndmlaa
open Go.RowKit
/-- May it not be a client's, as the document says. -/
noncomputable def badO (o : Ow) : Bool := decide (o.s < 0) || (decide (1099511627776 < o.s) || (!okR o.r || ((o.s == 0) && !decide (o.r = zeroR))))
theorem right_nil : rightB [] = true := right_true ⟨Nat.zero_le _, fun j hj => absurd hj (by simp)⟩
theorem nilB_iff (a : ByteArray) : nilB a = true ↔ a = nilT := by
  unfold nilB
  rw [List.isEmpty_iff]
  constructor
  · intro h
    exact (eq_iff a nilT).1 (by unfold eqB; rw [h, nil_list]; rfl)
  · rintro rfl; exact nil_list
theorem ok_zeroR : okR zeroR = true := by
  unfold okR zeroR
  dsimp only
  rw [right_nil]
  have : nilT.size = 0 := rfl
  rw [this]; rfl
theorem null_iff (r : Re) : nullR r = decide (r = zeroR) := by
  rw [Bool.eq_iff_iff, decide_eq_true_iff]
  obtain ⟨why, fnd, val, ver, l⟩ := r
  unfold nullR zeroR
  simp only [Bool.and_eq_true, beq_iff_eq, Bool.not_eq_true', nilB_iff, decide_eq_true_eq, List.length_eq_zero_iff, Re.mk.injEq]
theorem may_bad (o : Ow) : mayO o = !badO o := by
  unfold mayO badO
  by_cases h0 : o.s = 0
  · rw [if_pos h0, null_iff, h0]
    by_cases hz : o.r = zeroR
    · rw [decide_eq_true hz, hz, ok_zeroR]; rfl
    · rw [decide_eq_false hz]
      cases okR o.r <;> rfl
  · rw [if_neg h0]
    have e : (o.s == 0) = false := by simpa using h0
    rw [e]
    cases okR o.r
    · simp
    · by_cases h1 : o.s < 0
      · rw [decide_eq_true h1, decide_eq_false (show ¬ 1 ≤ o.s by omega)]; rfl
      · rw [decide_eq_false h1, decide_eq_true (show 1 ≤ o.s by omega)]
        by_cases h2 : 1099511627776 < o.s
        · rw [decide_eq_true h2, decide_eq_false (show ¬ o.s ≤ 1099511627776 by omega)]; rfl
        · rw [decide_eq_false h2, decide_eq_true (show o.s ≤ 1099511627776 by omega)]; rfl
theorem Row.owner1 {w : World} {g : Nat} {t : TypeId} {L : List Co} (h : Row w g t (stA L)) {k : Nat} {x : Co} (hx : L[k]? = some x) :
    w.cell? ⟨g, 1 + k * 6, none⟩ = some (.int .i64 x.o.s) ∧ w.cell? ⟨g, 1 + k * 6 + 1, none⟩ = some (.int .i64 x.o.r.why) ∧ w.cell? ⟨g, 1 + k * 6 + 2, none⟩ = some (.bool x.o.r.fnd) ∧ w.cell? ⟨g, 1 + k * 6 + 3, none⟩ = some (.string x.o.r.val) ∧ w.cell? ⟨g, 1 + k * 6 + 4, none⟩ = some (.int .i64 x.o.r.ver) ∧ w.cell? ⟨g, 1 + k * 6 + 5, none⟩ = some x.p := by
  have hc : ∀ i, i < 6 → w.cell? ⟨g, 1 + k * 6 + i, none⟩ = x.cs[i]? := fun i hi => by
    rw [h.cell, Nat.add_assoc, stA_at, arr_at hx i hi]
  exact ⟨hc 0 (by omega), hc 1 (by omega), hc 2 (by omega), hc 3 (by omega), hc 4 (by omega), hc 5 (by omega)⟩
theorem right_bad {L : List Co} {k : Nat} {x : Co} (hx : L[k]? = some x) (hb : badO x.o = true) : rightO L = false := by
  unfold rightO
  rw [List.all_eq_false]
  exact ⟨x, List.mem_of_getElem? hx, by rw [may_bad, hb]; simp⟩
theorem Row.six {w : World} {g : Nat} {t : TypeId} {c0 c1 c2 c3 c4 c5 : Value} (h : Row w g t #[c0, c1, c2, c3, c4, c5]) : w.cell? ⟨g, 0, none⟩ = some c0 ∧ w.cell? ⟨g, 1, none⟩ = some c1 ∧ w.cell? ⟨g, 2, none⟩ = some c2 ∧ w.cell? ⟨g, 3, none⟩ = some c3 ∧ w.cell? ⟨g, 4, none⟩ = some c4 ∧ w.cell? ⟨g, 5, none⟩ = some c5 := ⟨h.cell 0, h.cell 1, h.cell 2, h.cell 3, h.cell 4, h.cell 5⟩
set_option maxRecDepth 100000 in
set_option maxHeartbeats 8000000 in
theorem rstate_any (L : List Co) (w : World) (h : Fine w L) :
    Calls Try.prog 11 #[.agg (stA L)] w fun e w' => e = .returned (.bool (rightO L)) ∧ Below w.heap.size w w' := by
  have HF := hide (h.below (kept_alloc (kept_refl w) (.cells (stA L) 35)))
  have HW := hide (kept_alloc (kept_refl w) (.cells (stA L) 35))
  have HR := hide (Row.new w 35 (stA L))
  have H8 := hide h.1
  clear h
  go_enter Try.func11, Try.ntmps11
  go_upto_region 1 with (fail)
  generalize w.alloc (.cells (stA L) 35) = w1 at HF HW HR ⊢
  have g0 := HR.out.lt
  generalize w.heap.size = g at HR g0 ⊢
  go_wp2
  go_loopw [3] (fun i wr => ∃ k : Nat, k ≤ 8 ∧ i = .int .i64 k ∧ Hid (∀ j x, j < k → L[j]? = some x → mayO x.o = true) ∧ Hid (Below w1.heap.size w1 wr)) (fun i _ => 8 - (intOf i).toNat)
  case atStart => exact ⟨0, by omega, rfl, (fun j x hj => absurd hj (by omega)), Below.refl _ _⟩
  case round =>
    obtain ⟨k, hk, rfl, hs, hb⟩ := hrel
    by_cases hlt : k < 8
    · obtain ⟨x, hx, hp, hn⟩ := HF.out.at_ hlt
      have hlt' : (k : Int) < 8 := by omega
      obtain ⟨c0, c1, c2, c3, c4, c5⟩ := (HR.out.below hb.out g0).owner1 hx
      have HX := hide hx
      have HP := hide hp
      unfold Co.p at c5 HP
      clear hx hp
      go_upto_region 5 with (fail)
      have HO := hide (Row.new wr 27 #[.int .i64 x.o.s, .int .i64 x.o.r.why, .bool x.o.r.fnd, .string x.o.r.val, .int .i64 x.o.r.ver, .slice x.A x.o.r.l.length x.c])
      have HB2 := hide (kept_trans hb.out (kept_alloc (kept_refl wr) (.cells #[.int .i64 x.o.s, .int .i64 x.o.r.why, .bool x.o.r.fnd, .string x.o.r.val, .int .i64 x.o.r.ver, .slice x.A x.o.r.l.length x.c] 27)))
      clear c0 c1 c2 c3 c4 c5
      generalize wr.alloc (.cells #[.int .i64 x.o.s, .int .i64 x.o.r.why, .bool x.o.r.fnd, .string x.o.r.val, .int .i64 x.o.r.ver, .slice x.A x.o.r.l.length x.c] 27) = w2 at HO HB2 ⊢
      generalize wr.heap.size = go at HO ⊢
      have hgo := HO.out.lt
      obtain ⟨d0, d1, d2, d3, d4, d5⟩ := HO.out.six
      have HQ := hide (rreply_any x.o.r _ w2 (HP.out.below HB2.out) hn)
      have HE0 := hide (fun (wz : World) (hz : Below w1.heap.size w1 wz) => show Calls Try.prog 13 #[.agg #[.int .i64 x.o.r.why, .bool x.o.r.fnd, .string x.o.r.val, .int .i64 x.o.r.ver, .slice x.A x.o.r.l.length x.c], .agg #[.int .i64 0, .bool false, .string { data := #[] }, .int .i64 0, .slice none 0 0]] wz (fun e w' => e = .returned (.bool (decide (x.o.r = zeroR))) ∧ Below wz.heap.size wz w') from replies_any x.o.r zeroR _ _ wz (HP.out.below hz) (Pin.nil_ wz) (by omega) (Nat.zero_le _))
      have hbad : badO x.o = (decide (x.o.s < 0) || (decide (1099511627776 < x.o.s) || (!okR x.o.r || ((x.o.s == 0) && !decide (x.o.r = zeroR))))) := rfl
      obtain ⟨t1, h1⟩ : ∃ t, decide (x.o.s < 0) = t := ⟨_, rfl⟩
      obtain ⟨t2, h2⟩ : ∃ t, decide (1099511627776 < x.o.s) = t := ⟨_, rfl⟩
      obtain ⟨t3, h3⟩ : ∃ t, okR x.o.r = t := ⟨_, rfl⟩
      obtain ⟨t4, h4⟩ : ∃ t, (x.o.s == 0) = t := ⟨_, rfl⟩
      obtain ⟨t5, h5⟩ : ∃ t, decide (x.o.r = zeroR) = t := ⟨_, rfl⟩
      rw [h1, h2, h3, h4, h5] at hbad
      rw [h3] at HQ
      rw [h5] at HE0
      clear h3 h5
      cases t1
      case true =>
        have HE := hide (right_bad HX.out (hbad.trans (by rfl)))
        clear hbad
        go_wp2_with (first | (go_at_call 19; (with_reducible refine HQ.out.mono ?_); rintro e w3 ⟨rfl, hb3⟩; have S := HO.out.below hb3 hgo; obtain ⟨d0, d1, d2, d3, d4, d5⟩ := S.six) | (go_at_call 13; (with_reducible refine (HE0.out _ (kept_trans HB2.out hb3)).mono ?_); rintro e w4 ⟨rfl, hb4⟩))
        go_ret
        exact ⟨by rw [HE.out]; rfl, kept_trans HW.out HB2.out⟩
      cases t2
      case true =>
        have HE := hide (right_bad HX.out (hbad.trans (by rfl)))
        clear hbad
        go_wp2_with (first | (go_at_call 19; (with_reducible refine HQ.out.mono ?_); rintro e w3 ⟨rfl, hb3⟩; have S := HO.out.below hb3 hgo; obtain ⟨d0, d1, d2, d3, d4, d5⟩ := S.six) | (go_at_call 13; (with_reducible refine (HE0.out _ (kept_trans HB2.out hb3)).mono ?_); rintro e w4 ⟨rfl, hb4⟩))
        go_ret
        exact ⟨by rw [HE.out]; rfl, kept_trans HW.out HB2.out⟩
      cases t3
      case false =>
        have HE := hide (right_bad HX.out (hbad.trans (by rfl)))
        clear hbad
        go_wp2_with (first | (go_at_call 19; (with_reducible refine HQ.out.mono ?_); rintro e w3 ⟨rfl, hb3⟩; have S := HO.out.below hb3 hgo; obtain ⟨d0, d1, d2, d3, d4, d5⟩ := S.six) | (go_at_call 13; (with_reducible refine (HE0.out _ (kept_trans HB2.out hb3)).mono ?_); rintro e w4 ⟨rfl, hb4⟩))
        go_ret
        exact ⟨by rw [HE.out]; rfl, kept_trans HW.out (kept_trans HB2.out hb3)⟩
      cases t4
      case false =>
        have HE : Hid (mayO x.o = true) := hide (by rw [may_bad, hbad]; rfl)
        clear hbad
        go_wp2_with (first | (go_at_call 19; (with_reducible refine HQ.out.mono ?_); rintro e w3 ⟨rfl, hb3⟩; have S := HO.out.below hb3 hgo; obtain ⟨d0, d1, d2, d3, d4, d5⟩ := S.six) | (go_at_call 13; (with_reducible refine (HE0.out _ (kept_trans HB2.out hb3)).mono ?_); rintro e w4 ⟨rfl, hb4⟩))
        go_roundw
        case rel => exact ⟨k + 1, by omega, by go_num, hide (fun j y hj hy => by
          rcases Nat.lt_or_ge j k with q1 | q1
          · exact hs.out j y q1 hy
          · obtain rfl : j = k := by omega
            cases HX.out.symm.trans hy
            exact HE.out), hide (kept_trans HB2.out hb3)⟩
        case measure => simp [intOf]; omega
      cases t5
      case false =>
        have HE := hide (right_bad HX.out (hbad.trans (by rfl)))
        clear hbad
        go_wp2_with (first | (go_at_call 19; (with_reducible refine HQ.out.mono ?_); rintro e w3 ⟨rfl, hb3⟩; have S := HO.out.below hb3 hgo; obtain ⟨d0, d1, d2, d3, d4, d5⟩ := S.six) | (go_at_call 13; (with_reducible refine (HE0.out _ (kept_trans HB2.out hb3)).mono ?_); rintro e w4 ⟨rfl, hb4⟩))
        go_ret
        exact ⟨by rw [HE.out]; rfl, kept_trans HW.out (kept_trans HB2.out (kept_trans hb3 hb4))⟩
      have HE : Hid (mayO x.o = true) := hide (by rw [may_bad, hbad]; rfl)
      clear hbad
      go_wp2_with (first | (go_at_call 19; (with_reducible refine HQ.out.mono ?_); rintro e w3 ⟨rfl, hb3⟩; have S := HO.out.below hb3 hgo; obtain ⟨d0, d1, d2, d3, d4, d5⟩ := S.six) | (go_at_call 13; (with_reducible refine (HE0.out _ (kept_trans HB2.out hb3)).mono ?_); rintro e w4 ⟨rfl, hb4⟩))
      go_roundw
      case rel => exact ⟨k + 1, by omega, by go_num, hide (fun j y hj hy => by
        rcases Nat.lt_or_ge j k with q1 | q1
        · exact hs.out j y q1 hy
        · obtain rfl : j = k := by omega
          cases HX.out.symm.trans hy
          exact HE.out), hide (kept_trans HB2.out (kept_trans hb3 hb4))⟩
      case measure => simp [intOf]; omega
    · obtain rfl : k = 8 := by omega
      have HE : Hid (rightO L = true) := hide (by
        unfold rightO
        rw [List.all_eq_true]
        intro x hx
        obtain ⟨j, hj⟩ := List.getElem?_of_mem hx
        have hl : j < L.length := by
          rcases Nat.lt_or_ge j L.length with h1 | h1
          · exact h1
          · rw [List.getElem?_eq_none h1] at hj; cases hj
        exact hs.out j x (by rw [H8.out] at hl; exact hl) hj)
      have c0 := (HR.out.below hb.out g0).cell 0
      replace c0 : wr.cell? ⟨g, 0, none⟩ = some (.slice none 0 0) := c0.trans (by unfold stA; rw [Array.getElem?_append_left (by simp)]; rfl)
      have HQ := hide (rright_below (.slice none 0 0) [] wr (Pin.nil_ wr) (Nat.zero_le _))
      rw [right_nil] at HQ
      go_wp2_with (go_at_call 20; (with_reducible refine HQ.out.mono ?_); rintro e w3 ⟨rfl, hb3⟩)
      go_ret
      exact ⟨by rw [HE.out]; rfl, kept_trans HW.out (kept_trans hb.out hb3)⟩
end Go.Proofs.Ytjadbppcjndmlaa
