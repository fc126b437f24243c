/- concordbook.Same of instances and of attributes. Conditions: the slices' lengths have room. -/
import Derived.Test.YtpngcocmjbkfgaaEq8
namespace Go.Proofs.Ytpngcocmjbkfgaa
open Go.RowKit
theorem len2 {x : List Int} (h : x.length = 2) : ∃ a b, x = [a, b] := by
  match x, h with
  | [a, b], _ => exact ⟨a, b, rfl⟩
set_option maxHeartbeats 1000000 in
theorem same_inst (A B : Option Addr) (n m c d : Nat) (zs ys : List (List Int)) (w : World) (hn : zs.length = n) (hm : ys.length = m) (az : All 2 zs) (ay : All 2 ys) (hz : Its 2 w A zs) (hy : Its 2 w B ys) (ln : n ≤ 4611686018427387904) (lm : m ≤ 4611686018427387904) :
    Calls Try.prog 15 #[.slice A n c, .slice B m d] w fun e w' => e = .returned (.bool (decide (zs = ys))) ∧ ∃ q, w' = w.drewN q := by
  subst hn hm
  have heq := fun a b c d w => neq_inst a b c d w
  by_cases hl : zs.length = ys.length
  · have hb : ((zs.length : Int) != (ys.length : Int)) = false := by rw [hl]; simp
    have HL := hide hl
    clear hl
    go_enter Try.func15, Try.ntmps15
    go_wp2
    go_loopw [5] (fun i wr => ∃ k q : Nat, k ≤ zs.length ∧ i = .int .i64 k ∧ wr = w.drewN q ∧ Hid (∀ j, j < k → zs[j]? = ys[j]?)) (fun i _ => zs.length - (intOf i).toNat)
    case atStart => exact ⟨0, 0, by omega, rfl, rfl, fun j hj => absurd hj (by omega)⟩
    case round =>
      obtain ⟨k, q, hk, rfl, rfl, hs⟩ := hrel
      by_cases hlt : k < zs.length
      · have hl := HL.out
        obtain ⟨x, hx⟩ : ∃ x, zs[k]? = some x := ⟨_, List.getElem?_eq_getElem hlt⟩
        obtain ⟨y, hyy⟩ : ∃ x, ys[k]? = some x := ⟨_, List.getElem?_eq_getElem (by omega)⟩
        obtain ⟨x1, x2, rfl⟩ := len2 (az.at_ hx)
        obtain ⟨y1, y2, rfl⟩ := len2 (ay.at_ hyy)
        obtain ⟨b1, o1, rfl, _, c⟩ := hz.at_ hx
        obtain ⟨b2, o2, rfl, _, d⟩ := hy.at_ hyy
        have c0 : w.cell? ⟨b1, o1 + k * 2, none⟩ = some (.int .i64 x1) := c 0 (by omega)
        have c1 : w.cell? ⟨b1, o1 + k * 2 + 1, none⟩ = some (.int .i64 x2) := c 1 (by omega)
        have d0 : w.cell? ⟨b2, o2 + k * 2, none⟩ = some (.int .i64 y1) := d 0 (by omega)
        have d1 : w.cell? ⟨b2, o2 + k * 2 + 1, none⟩ = some (.int .i64 y2) := d 1 (by omega)
        have lt1 : k < ys.length := by omega
        have Hz := hide hz; have Hy := hide hy; have HX := hide hx; have HY := hide hyy; clear hz hy hx hyy hl c d
        cases he : sameB x1 x2 y1 y2
        · go_wp2
          go_quiet (fail)
          go_wp2
          go_ret
          refine ⟨ret_bool ?_, _, World.drewN_drewN _ _ _⟩
          symm; rw [decide_eq_false_iff_not]; rintro rfl
          have := HX.out.symm.trans HY.out
          rw [same_iff, decide_eq_false_iff_not] at he
          exact he (Option.some.inj this)
        · go_wp2
          go_quiet (fail)
          go_wp2
          go_roundw
          case rel => exact ⟨k + 1, _, by omega, by go_num, rfl, fun j hj => by
            rcases Nat.lt_or_ge j k with h1 | h1
            · exact hs.out j h1
            · obtain rfl : j = k := by omega
              rw [HX.out, HY.out]
              rw [same_iff, decide_eq_true_iff] at he
              rw [he]⟩
          case measure => simp [intOf]; omega
      · go_wp2
        go_ret
        refine ⟨ret_bool ?_, _, rfl⟩
        symm; rw [decide_eq_true_iff]
        apply List.ext_getElem?
        intro j
        rcases Nat.lt_or_ge j k with h1 | h1
        · exact hs.out j h1
        · have hl := HL.out
          rw [List.getElem?_eq_none (by omega), List.getElem?_eq_none (by omega)]
  · have hb : ((zs.length : Int) != (ys.length : Int)) = true := by simp; omega
    have HL := hide hl
    clear hl
    go_enter Try.func15, Try.ntmps15
    go_wp2
    go_ret
    exact ⟨ret_bool (by symm; rw [decide_eq_false_iff_not]; intro h; exact HL.out (by rw [h])), 0, rfl⟩
set_option maxHeartbeats 2000000 in
theorem same_attr (A B : Option Addr) (n m c d : Nat) (zs ys : List (List Int)) (w : World) (hn : zs.length = n) (hm : ys.length = m) (az : All 8 zs) (ay : All 8 ys) (hz : Its 8 w A zs) (hy : Its 8 w B ys) (ln : n ≤ 4611686018427387904) (lm : m ≤ 4611686018427387904) :
    Calls Try.prog 33 #[.slice A n c, .slice B m d] w fun e w' => e = .returned (.bool (decide (zs = ys))) ∧ ∃ q, w' = w.drewN q := by
  subst hn hm
  by_cases hl : zs.length = ys.length
  · have hb : ((zs.length : Int) != (ys.length : Int)) = false := by rw [hl]; simp
    have HL := hide hl
    clear hl
    go_enter Try.func33, Try.ntmps33
    go_wp2
    go_loopw [5] (fun i wr => ∃ k q : Nat, k ≤ zs.length ∧ i = .int .i64 k ∧ wr = w.drewN q ∧ Hid (∀ j, j < k → zs[j]? = ys[j]?)) (fun i _ => zs.length - (intOf i).toNat)
    case atStart => exact ⟨0, 0, by omega, rfl, rfl, fun j hj => absurd hj (by omega)⟩
    case round =>
      obtain ⟨k, q, hk, rfl, rfl, hs⟩ := hrel
      by_cases hlt : k < zs.length
      · have hl := HL.out
        obtain ⟨x, hx⟩ : ∃ x, zs[k]? = some x := ⟨_, List.getElem?_eq_getElem hlt⟩
        obtain ⟨y, hyy⟩ : ∃ x, ys[k]? = some x := ⟨_, List.getElem?_eq_getElem (by omega)⟩
        obtain ⟨x0, x1, x2, x3, x4, x5, x6, x7, rfl⟩ := len8 (az.at_ hx)
        obtain ⟨y0, y1, y2, y3, y4, y5, y6, y7, rfl⟩ := len8 (ay.at_ hyy)
        obtain ⟨b1, o1, rfl, _, c⟩ := hz.at_ hx
        obtain ⟨b2, o2, rfl, _, d⟩ := hy.at_ hyy
        obtain ⟨c0, c1, c2, c3, c4, c5, c6, c7⟩ := eight_lit (eight_at c)
        obtain ⟨d0, d1, d2, d3, d4, d5, d6, d7⟩ := eight_lit (eight_at d)
        have heq := fun w => neq_attr x0 x1 x2 x3 x4 x5 x6 x7 y0 y1 y2 y3 y4 y5 y6 y7 w
        obtain ⟨p, hp⟩ : ∃ p, decide ([x0, x1, x2, x3, x4, x5, x6, x7] = [y0, y1, y2, y3, y4, y5, y6, y7]) = p := ⟨_, rfl⟩
        rw [hp] at heq
        have HP := hide hp
        have lt1 : k < ys.length := by omega
        have Hz := hide hz; have Hy := hide hy; have HX := hide hx; have HY := hide hyy; clear hz hy hx hyy hl c d hp
        cases p
        · go_wp2
          go_quiet (fail)
          go_wp2
          go_ret
          refine ⟨ret_bool ?_, _, World.drewN_drewN _ _ _⟩
          symm; rw [decide_eq_false_iff_not]; rintro rfl
          have := HX.out.symm.trans HY.out
          exact of_decide_eq_false HP.out (Option.some.inj this)
        · go_wp2
          go_quiet (fail)
          go_wp2
          go_roundw
          case rel => exact ⟨k + 1, _, by omega, by go_num, rfl, fun j hj => by
            rcases Nat.lt_or_ge j k with h1 | h1
            · exact hs.out j h1
            · obtain rfl : j = k := by omega
              rw [HX.out, HY.out, of_decide_eq_true HP.out]⟩
          case measure => simp [intOf]; omega
      · go_wp2
        go_ret
        refine ⟨ret_bool ?_, _, rfl⟩
        symm; rw [decide_eq_true_iff]
        apply List.ext_getElem?
        intro j
        rcases Nat.lt_or_ge j k with h1 | h1
        · exact hs.out j h1
        · have hl := HL.out
          rw [List.getElem?_eq_none (by omega), List.getElem?_eq_none (by omega)]
  · have hb : ((zs.length : Int) != (ys.length : Int)) = true := by simp; omega
    have HL := hide hl
    clear hl
    go_enter Try.func33, Try.ntmps33
    go_wp2
    go_ret
    exact ⟨ret_bool (by symm; rw [decide_eq_false_iff_not]; intro h; exact HL.out (by rw [h])), 0, rfl⟩
end Go.Proofs.Ytpngcocmjbkfgaa
