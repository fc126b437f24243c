/- Proved: the law InterfReads returns true. Conditions: none beyond the row's own. -/
import Derived.Test.YtfihcgimgngmhaaVa
import Derived.Test.YtfihcgimgngmhaaQr
import Derived.Deep.DeepCutAuto
namespace Go.Proofs.Ytfihcgimgngmhaa.interfReads
open Go.ChangeShapes Go.WideShapes Go.ChangeAt Go.RowKit
set_option maxRecDepth 100000 in
set_option maxHeartbeats 16000000 in
theorem walk (A : Option Addr) (n c : Nat) (l : List Ia) (r s : Int) (W : World) (h : IasIn W A n c l) (_ : -9223372036854775808 ≤ r ∧ r ≤ 9223372036854775807) (_ : -9223372036854775808 ≤ s ∧ s ≤ 9223372036854775807) :
    Calls Try.prog 7 #[.slice A n c, .agg #[.int .i64 r, .int .i64 s]] W fun e w' => e = .returned (.bool true) ∧ Below W.heap.size W w' := by
  have RUN := hide (fun w => runs_any w)
  have HNW := hide (fun w => pnew_any w)
  have HRI := hide (fun w => right_any r s w)
  have BI := hide (Row.new W 26 #[.int .i64 r, .int .i64 s])
  have K0 := hide (kept_alloc (kept_refl W) (.cells #[.int .i64 r, .int .i64 s] 26))
  have hn := h.len
  have hnc := h.le
  have hcr := h.room
  subst hn
  have HA := hide h.lies
  clear h
  go_enter Try.func7, Try.ntmps7
  go_upto_region 1 with (fail)
  generalize W.alloc (.cells #[.int .i64 r, .int .i64 s] 26) = w1 at BI K0 ⊢
  go_upto_region 2 with (first
    | (go_at_call 8; (with_reducible refine (HNW.out _).mono ?_); rintro e w2 ⟨g, b, rfl, hp, hb, hg1, hb1⟩))
  have HR := hide (show Qn W w2 W.heap.size r s g b zeroX from ⟨⟨kept_trans K0.out hb, hp, Nat.le_trans K0.out.size hg1, Nat.le_trans K0.out.size hb1⟩, BI.out.below hb BI.out.lt⟩)
  clear hp hb hg1 hb1 BI K0
  obtain ⟨tr, htr⟩ : ∃ t, rightI r s = t := ⟨_, rfl⟩
  rw [htr] at HRI
  have HTR := hide htr
  clear htr
  have y0 : w2.cell? ⟨W.heap.size, 0, none⟩ = some (.int .i64 r) := HR.out.bi.cell 0
  have y1 : w2.cell? ⟨W.heap.size, 1, none⟩ = some (.int .i64 s) := HR.out.bi.cell 1
  cases tr
  case false =>
    go_wp2_with (first
      | (go_at_call 22; (with_reducible refine (HRI.out _).mono ?_); rintro e w3 ⟨rfl, hb⟩; have HR3 := hide (HR.out.below hb); clear hb)
      | (go_at_call 3; (with_reducible refine (RUN.out _).mono ?_); rintro e w4 ⟨rfl, hb⟩; have HR4 := hide (HR3.out.below hb); clear hb)
      | go_in)
    go_ret
    exact ⟨rfl, HR4.out.rn.low⟩
  case true =>
    obtain ⟨tz, htz⟩ : ∃ t, (r == (0 : Int)) = t := ⟨_, rfl⟩
    have HTZ := hide htz
    cases tz
    case true =>
      go_wp2_with (first
        | (go_at_call 22; (with_reducible refine (HRI.out _).mono ?_); rintro e w3 ⟨rfl, hb⟩; have HR3 := hide (HR.out.below hb); have y0 : w3.cell? ⟨W.heap.size, 0, none⟩ = some (.int .i64 r) := HR3.out.bi.cell 0; clear hb)
        | (go_at_call 3; (with_reducible refine (RUN.out _).mono ?_); rintro e w4 ⟨rfl, hb⟩; have HR4 := hide (HR3.out.below hb); clear hb)
        | go_in)
      go_ret
      exact ⟨rfl, HR4.out.rn.low⟩
    case false =>
      go_upto_region 4 with (first
        | (go_at_call 22; (with_reducible refine (HRI.out _).mono ?_); rintro e w3 ⟨rfl, hb⟩; replace HR := hide (HR.out.below hb); have y0 : w3.cell? ⟨W.heap.size, 0, none⟩ = some (.int .i64 r) := HR.out.bi.cell 0; clear hb))
      clear y0 y1
      have HNE := hide (show r ≠ 0 by simpa using htz)
      clear htz
      obtain ⟨q, hq⟩ : ∃ q, W.heap.size = q := ⟨_, rfl⟩
      have HQ := hide hq
      rw [hq] at HR ⊢
      clear hq
      go_wp2
      go_loopw [6, 7] (fun nn k wr => ∃ (m j : Nat) (x : Ix), j ≤ l.length ∧ j ≤ 20 ∧ m ≤ j ∧ nn = .int .i64 m ∧ k = .int .i64 j ∧ Hid (RdX x m) ∧ Hid (Qn W wr q r s g b x)) (fun _ k _ => l.length - (intOf k).toNat)
      case atStart => exact ⟨0, 0, zeroX, by omega, by omega, by omega, rfl, rfl, RdX.zero, HR⟩
      case round =>
        clear HR
        obtain ⟨m, j, x, hj, hj20, hmj, rfl, rfl, HX, HR⟩ := hrel
        by_cases hlt : j < l.length ∧ j < 20
        · obtain ⟨hlt, hlt20⟩ := hlt
          have hlt20' : decide ((j : Int) < 20) = true := decide_eq_true (by omega)
          obtain ⟨y, hy⟩ : ∃ y, l[j]? = some y := ⟨_, List.getElem?_eq_getElem hlt⟩
          obtain ⟨b0, off, rfl, hbs, ha⟩ := Els.ia (HA.out.below HR.out.rn.low) hy
          have c7 : wr.cell? ⟨b0, off + j * 18 + 7, none⟩ = some (.string y.c.key) := ha 7 (by omega)
          have hnil : (y.c.key.toList == []) = nilB y.c.key := by unfold nilB; cases y.c.key.toList <;> rfl
          clear hy ha
          obtain ⟨tn, htn⟩ : ∃ t, nilB y.c.key = t := ⟨_, rfl⟩
          rw [htn] at hnil
          have HTN := hide htn
          clear htn
          have hjl : (j : Int) < (l.length : Int) := by omega
          go_upto_region 9 with (fail)
          clear c7
          cases tn
          case true =>
            go_wp2
            go_roundw
            case rel => exact ⟨m, j + 1, x, by omega, by omega, by omega, rfl, by go_num, HX, HR⟩
            case measure => simp [intOf]; omega
          case false =>
            by_cases h16 : 16 < y.c.key.size
            · have hd : decide ((16 : Int) < (y.c.key.size : Int)) = true := decide_eq_true (by omega)
              go_wp2
              go_roundw
              case rel => exact ⟨m, j + 1, x, by omega, by omega, by omega, rfl, by go_num, HX, HR⟩
              case measure => simp [intOf]; omega
            · have hd : decide ((16 : Int) < (y.c.key.size : Int)) = false := decide_eq_false (by omega)
              have HNT := hide (rd_note HR.out HX.out (by omega) HTN.out (by omega))
              go_wp2_with (first
                | (go_at_call 9; (with_reducible refine HNT.out.mono ?_); rintro e w5 ⟨rfl, hr5, hx5⟩; have HR5 := hide hr5; have HX5 := hide hx5; clear hr5 hx5)
                | go_in)
              exact ⟨⟨m + 1, j + 1, _, by omega, by omega, by omega, by go_num, by go_num, HX5, HR5⟩, by simp [intOf]; omega⟩
        · by_cases hjl : j < l.length
          · obtain rfl : j = 20 := by omega
            have hjl' : ((20 : Nat) : Int) < (l.length : Int) := by omega
            by_cases hm0 : 0 < m
            · have HA1 := hide (fun wz (hz : Qn W wz q r s g b x) => rd_attr1 hz HX.out HNE.out)
              have HA2 := hide (fun wz (hz : Qn W wz q r s g b x) => rd_attr2 hz HX.out HNE.out)
              rw [if_pos hm0] at HA2
              have hd0 : decide ((0 : Int) < (m : Int)) = true := decide_eq_true (by omega)
              have y0 : wr.cell? ⟨q, 0, none⟩ = some (.int .i64 r) := HR.out.bi.cell 0
              have y1 : wr.cell? ⟨q, 1, none⟩ = some (.int .i64 s) := HR.out.bi.cell 1
              go_upto_region 14 with (first
                | (go_at_call 12; (with_reducible refine (HA1.out _ HR.out).mono ?_); rintro e w7 ⟨⟨a2, a3, a4, a5, a6, a7, rfl⟩, hb⟩; replace HR := hide (HR.out.below hb); clear hb y0 y1))
              have RA := hide (Row.new w7 34 #[.int .i64 0, .int .i64 0, .int .i64 a2, .int .i64 a3, .int .i64 a4, .int .i64 a5, .int .i64 a6, .int .i64 a7])
              replace HR := hide (HR.out.below (kept_alloc (kept_refl w7) (.cells #[.int .i64 0, .int .i64 0, .int .i64 a2, .int .i64 a3, .int .i64 a4, .int .i64 a5, .int .i64 a6, .int .i64 a7] 34)))
              generalize w7.alloc (.cells #[.int .i64 0, .int .i64 0, .int .i64 a2, .int .i64 a3, .int .i64 a4, .int .i64 a5, .int .i64 a6, .int .i64 a7] 34) = w8 at RA HR ⊢
              generalize w7.heap.size = ga at RA ⊢
              have y0 : w8.cell? ⟨q, 0, none⟩ = some (.int .i64 r) := HR.out.bi.cell 0
              have y1 : w8.cell? ⟨q, 1, none⟩ = some (.int .i64 s) := HR.out.bi.cell 1
              go_upto_region 15 with (first
                | (go_at_call 12; (with_reducible refine (HA2.out _ HR.out).mono ?_); rintro e w9 ⟨⟨b2, b3, b4, b5, b6, b7, rfl⟩, hb⟩; replace HR := hide (HR.out.below hb); replace RA := hide (RA.out.below hb RA.out.lt); clear hb y0 y1))
              have KB := kept_alloc (kept_refl w9) (.cells #[.int .i64 1, .int .i64 (m : Int), .int .i64 b2, .int .i64 b3, .int .i64 b4, .int .i64 b5, .int .i64 b6, .int .i64 b7] 34)
              have RB := hide (Row.new w9 34 #[.int .i64 1, .int .i64 (m : Int), .int .i64 b2, .int .i64 b3, .int .i64 b4, .int .i64 b5, .int .i64 b6, .int .i64 b7])
              replace HR := hide (HR.out.below KB)
              replace RA := hide (RA.out.below KB RA.out.lt)
              clear KB
              generalize w9.alloc (.cells #[.int .i64 1, .int .i64 (m : Int), .int .i64 b2, .int .i64 b3, .int .i64 b4, .int .i64 b5, .int .i64 b6, .int .i64 b7] 34) = w10 at RA RB HR ⊢
              generalize w9.heap.size = gb at RB ⊢
              have p0 : w10.cell? ⟨ga, 0, none⟩ = some (.int .i64 0) := RA.out.cell 0
              have p1 : w10.cell? ⟨ga, 1, none⟩ = some (.int .i64 0) := RA.out.cell 1
              have p2 : w10.cell? ⟨gb, 0, none⟩ = some (.int .i64 1) := RB.out.cell 0
              have p3 : w10.cell? ⟨gb, 1, none⟩ = some (.int .i64 (m : Int)) := RB.out.cell 1
              go_wp2_with (first
                | (go_at_call 3; (with_reducible refine (RUN.out _).mono ?_); rintro e w11 ⟨rfl, hb⟩; have HR11 := hide (HR.out.below hb); clear hb)
                | go_in)
              go_ret
              exact ⟨rfl, HR11.out.rn.low⟩
            · have HA1 := hide (fun wz (hz : Qn W wz q r s g b x) => rd_attr1 hz HX.out HNE.out)
              have HA2 := hide (fun wz (hz : Qn W wz q r s g b x) => rd_attr2 hz HX.out HNE.out)
              rw [if_neg hm0] at HA2
              have hd0 : decide ((0 : Int) < (m : Int)) = false := decide_eq_false (by omega)
              have y0 : wr.cell? ⟨q, 0, none⟩ = some (.int .i64 r) := HR.out.bi.cell 0
              have y1 : wr.cell? ⟨q, 1, none⟩ = some (.int .i64 s) := HR.out.bi.cell 1
              go_upto_region 14 with (first
                | (go_at_call 12; (with_reducible refine (HA1.out _ HR.out).mono ?_); rintro e w7 ⟨⟨a2, a3, a4, a5, a6, a7, rfl⟩, hb⟩; replace HR := hide (HR.out.below hb); clear hb y0 y1))
              have RA := hide (Row.new w7 34 #[.int .i64 0, .int .i64 0, .int .i64 a2, .int .i64 a3, .int .i64 a4, .int .i64 a5, .int .i64 a6, .int .i64 a7])
              replace HR := hide (HR.out.below (kept_alloc (kept_refl w7) (.cells #[.int .i64 0, .int .i64 0, .int .i64 a2, .int .i64 a3, .int .i64 a4, .int .i64 a5, .int .i64 a6, .int .i64 a7] 34)))
              generalize w7.alloc (.cells #[.int .i64 0, .int .i64 0, .int .i64 a2, .int .i64 a3, .int .i64 a4, .int .i64 a5, .int .i64 a6, .int .i64 a7] 34) = w8 at RA HR ⊢
              generalize w7.heap.size = ga at RA ⊢
              have y0 : w8.cell? ⟨q, 0, none⟩ = some (.int .i64 r) := HR.out.bi.cell 0
              have y1 : w8.cell? ⟨q, 1, none⟩ = some (.int .i64 s) := HR.out.bi.cell 1
              go_upto_region 15 with (first
                | (go_at_call 12; (with_reducible refine (HA2.out _ HR.out).mono ?_); rintro e w9 ⟨⟨b2, b3, b4, b5, b6, b7, rfl⟩, hb⟩; replace HR := hide (HR.out.below hb); replace RA := hide (RA.out.below hb RA.out.lt); clear hb y0 y1))
              have KB := kept_alloc (kept_refl w9) (.cells #[.int .i64 0, .int .i64 (m : Int), .int .i64 b2, .int .i64 b3, .int .i64 b4, .int .i64 b5, .int .i64 b6, .int .i64 b7] 34)
              have RB := hide (Row.new w9 34 #[.int .i64 0, .int .i64 (m : Int), .int .i64 b2, .int .i64 b3, .int .i64 b4, .int .i64 b5, .int .i64 b6, .int .i64 b7])
              replace HR := hide (HR.out.below KB)
              replace RA := hide (RA.out.below KB RA.out.lt)
              clear KB
              generalize w9.alloc (.cells #[.int .i64 0, .int .i64 (m : Int), .int .i64 b2, .int .i64 b3, .int .i64 b4, .int .i64 b5, .int .i64 b6, .int .i64 b7] 34) = w10 at RA RB HR ⊢
              generalize w9.heap.size = gb at RB ⊢
              have p0 : w10.cell? ⟨ga, 0, none⟩ = some (.int .i64 0) := RA.out.cell 0
              have p1 : w10.cell? ⟨ga, 1, none⟩ = some (.int .i64 0) := RA.out.cell 1
              have p2 : w10.cell? ⟨gb, 0, none⟩ = some (.int .i64 0) := RB.out.cell 0
              have p3 : w10.cell? ⟨gb, 1, none⟩ = some (.int .i64 (m : Int)) := RB.out.cell 1
              go_wp2_with (first
                | (go_at_call 3; (with_reducible refine (RUN.out _).mono ?_); rintro e w11 ⟨rfl, hb⟩; have HR11 := hide (HR.out.below hb); clear hb)
                | go_in)
              go_ret
              exact ⟨rfl, HR11.out.rn.low⟩
          · obtain rfl : j = l.length := by omega
            by_cases hm0 : 0 < m
            · have HA1 := hide (fun wz (hz : Qn W wz q r s g b x) => rd_attr1 hz HX.out HNE.out)
              have HA2 := hide (fun wz (hz : Qn W wz q r s g b x) => rd_attr2 hz HX.out HNE.out)
              rw [if_pos hm0] at HA2
              have hd0 : decide ((0 : Int) < (m : Int)) = true := decide_eq_true (by omega)
              have y0 : wr.cell? ⟨q, 0, none⟩ = some (.int .i64 r) := HR.out.bi.cell 0
              have y1 : wr.cell? ⟨q, 1, none⟩ = some (.int .i64 s) := HR.out.bi.cell 1
              go_upto_region 14 with (first
                | (go_at_call 12; (with_reducible refine (HA1.out _ HR.out).mono ?_); rintro e w7 ⟨⟨a2, a3, a4, a5, a6, a7, rfl⟩, hb⟩; replace HR := hide (HR.out.below hb); clear hb y0 y1))
              have RA := hide (Row.new w7 34 #[.int .i64 0, .int .i64 0, .int .i64 a2, .int .i64 a3, .int .i64 a4, .int .i64 a5, .int .i64 a6, .int .i64 a7])
              replace HR := hide (HR.out.below (kept_alloc (kept_refl w7) (.cells #[.int .i64 0, .int .i64 0, .int .i64 a2, .int .i64 a3, .int .i64 a4, .int .i64 a5, .int .i64 a6, .int .i64 a7] 34)))
              generalize w7.alloc (.cells #[.int .i64 0, .int .i64 0, .int .i64 a2, .int .i64 a3, .int .i64 a4, .int .i64 a5, .int .i64 a6, .int .i64 a7] 34) = w8 at RA HR ⊢
              generalize w7.heap.size = ga at RA ⊢
              have y0 : w8.cell? ⟨q, 0, none⟩ = some (.int .i64 r) := HR.out.bi.cell 0
              have y1 : w8.cell? ⟨q, 1, none⟩ = some (.int .i64 s) := HR.out.bi.cell 1
              go_upto_region 15 with (first
                | (go_at_call 12; (with_reducible refine (HA2.out _ HR.out).mono ?_); rintro e w9 ⟨⟨b2, b3, b4, b5, b6, b7, rfl⟩, hb⟩; replace HR := hide (HR.out.below hb); replace RA := hide (RA.out.below hb RA.out.lt); clear hb y0 y1))
              have KB := kept_alloc (kept_refl w9) (.cells #[.int .i64 1, .int .i64 (m : Int), .int .i64 b2, .int .i64 b3, .int .i64 b4, .int .i64 b5, .int .i64 b6, .int .i64 b7] 34)
              have RB := hide (Row.new w9 34 #[.int .i64 1, .int .i64 (m : Int), .int .i64 b2, .int .i64 b3, .int .i64 b4, .int .i64 b5, .int .i64 b6, .int .i64 b7])
              replace HR := hide (HR.out.below KB)
              replace RA := hide (RA.out.below KB RA.out.lt)
              clear KB
              generalize w9.alloc (.cells #[.int .i64 1, .int .i64 (m : Int), .int .i64 b2, .int .i64 b3, .int .i64 b4, .int .i64 b5, .int .i64 b6, .int .i64 b7] 34) = w10 at RA RB HR ⊢
              generalize w9.heap.size = gb at RB ⊢
              have p0 : w10.cell? ⟨ga, 0, none⟩ = some (.int .i64 0) := RA.out.cell 0
              have p1 : w10.cell? ⟨ga, 1, none⟩ = some (.int .i64 0) := RA.out.cell 1
              have p2 : w10.cell? ⟨gb, 0, none⟩ = some (.int .i64 1) := RB.out.cell 0
              have p3 : w10.cell? ⟨gb, 1, none⟩ = some (.int .i64 (m : Int)) := RB.out.cell 1
              go_wp2_with (first
                | (go_at_call 3; (with_reducible refine (RUN.out _).mono ?_); rintro e w11 ⟨rfl, hb⟩; have HR11 := hide (HR.out.below hb); clear hb)
                | go_in)
              go_ret
              exact ⟨rfl, HR11.out.rn.low⟩
            · have HA1 := hide (fun wz (hz : Qn W wz q r s g b x) => rd_attr1 hz HX.out HNE.out)
              have HA2 := hide (fun wz (hz : Qn W wz q r s g b x) => rd_attr2 hz HX.out HNE.out)
              rw [if_neg hm0] at HA2
              have hd0 : decide ((0 : Int) < (m : Int)) = false := decide_eq_false (by omega)
              have y0 : wr.cell? ⟨q, 0, none⟩ = some (.int .i64 r) := HR.out.bi.cell 0
              have y1 : wr.cell? ⟨q, 1, none⟩ = some (.int .i64 s) := HR.out.bi.cell 1
              go_upto_region 14 with (first
                | (go_at_call 12; (with_reducible refine (HA1.out _ HR.out).mono ?_); rintro e w7 ⟨⟨a2, a3, a4, a5, a6, a7, rfl⟩, hb⟩; replace HR := hide (HR.out.below hb); clear hb y0 y1))
              have RA := hide (Row.new w7 34 #[.int .i64 0, .int .i64 0, .int .i64 a2, .int .i64 a3, .int .i64 a4, .int .i64 a5, .int .i64 a6, .int .i64 a7])
              replace HR := hide (HR.out.below (kept_alloc (kept_refl w7) (.cells #[.int .i64 0, .int .i64 0, .int .i64 a2, .int .i64 a3, .int .i64 a4, .int .i64 a5, .int .i64 a6, .int .i64 a7] 34)))
              generalize w7.alloc (.cells #[.int .i64 0, .int .i64 0, .int .i64 a2, .int .i64 a3, .int .i64 a4, .int .i64 a5, .int .i64 a6, .int .i64 a7] 34) = w8 at RA HR ⊢
              generalize w7.heap.size = ga at RA ⊢
              have y0 : w8.cell? ⟨q, 0, none⟩ = some (.int .i64 r) := HR.out.bi.cell 0
              have y1 : w8.cell? ⟨q, 1, none⟩ = some (.int .i64 s) := HR.out.bi.cell 1
              go_upto_region 15 with (first
                | (go_at_call 12; (with_reducible refine (HA2.out _ HR.out).mono ?_); rintro e w9 ⟨⟨b2, b3, b4, b5, b6, b7, rfl⟩, hb⟩; replace HR := hide (HR.out.below hb); replace RA := hide (RA.out.below hb RA.out.lt); clear hb y0 y1))
              have KB := kept_alloc (kept_refl w9) (.cells #[.int .i64 0, .int .i64 (m : Int), .int .i64 b2, .int .i64 b3, .int .i64 b4, .int .i64 b5, .int .i64 b6, .int .i64 b7] 34)
              have RB := hide (Row.new w9 34 #[.int .i64 0, .int .i64 (m : Int), .int .i64 b2, .int .i64 b3, .int .i64 b4, .int .i64 b5, .int .i64 b6, .int .i64 b7])
              replace HR := hide (HR.out.below KB)
              replace RA := hide (RA.out.below KB RA.out.lt)
              clear KB
              generalize w9.alloc (.cells #[.int .i64 0, .int .i64 (m : Int), .int .i64 b2, .int .i64 b3, .int .i64 b4, .int .i64 b5, .int .i64 b6, .int .i64 b7] 34) = w10 at RA RB HR ⊢
              generalize w9.heap.size = gb at RB ⊢
              have p0 : w10.cell? ⟨ga, 0, none⟩ = some (.int .i64 0) := RA.out.cell 0
              have p1 : w10.cell? ⟨ga, 1, none⟩ = some (.int .i64 0) := RA.out.cell 1
              have p2 : w10.cell? ⟨gb, 0, none⟩ = some (.int .i64 0) := RB.out.cell 0
              have p3 : w10.cell? ⟨gb, 1, none⟩ = some (.int .i64 (m : Int)) := RB.out.cell 1
              go_wp2_with (first
                | (go_at_call 3; (with_reducible refine (RUN.out _).mono ?_); rintro e w11 ⟨rfl, hb⟩; have HR11 := hide (HR.out.below hb); clear hb)
                | go_in)
              go_ret
              exact ⟨rfl, HR11.out.rn.low⟩
set_option maxRecDepth 100000 in
theorem lifted (os : Os) (started : os.Started) (H : Type) (enc : TypeId × Value → H) :
    ReturnsInHanded {} Try.checked os 7 .any (Rows.interfReadsSpec.pre6 enc Try.prog Try.f7 Rows.interfReadsRow.domain false) (Rows.interfReadsSpec.post enc Try.prog Try.f7 false true false false) := by
  refine returnsInHanded_of_change_sized (C := Try.checked) own started (by kernel_rfl) Try.func7
    (ChangeSpec.witness6 (enc := enc) (C := Try.checked) false ⟨#[], #[.slice none 0 0, .agg #[.int .i64 0, .int .i64 0]], []⟩ 8 (by kernel_rfl) (by kernel_rfl) (by kernel_rfl) (by kernel_rfl)) ?_
  intro W base args ds gs before hval0 hW _ hsz0 _
  have hval : ∀ (j : Nat) t v, Try.f7.params[j]? = some t → args[j]? = some v → Value.okWide Try.prog W .any base t v := hval0
  have hW' := hW
  obtain ⟨p, q, hA0, hV, rfl, _, _⟩ := hW
  have hA : DataW.TrodAll enc Try.prog W 0 (fun _ => true) true Try.f7.params.toList args.toList ds p := hA0
  have hsz : (DataW.weightsEach Try.prog (Try.f7.params.toList ++ Rows.interfReadsSpec.plain.varTypes Try.prog) (ds ++ gs)).all (· ≤ reachBytes) = true := hsz0
  rw [Try.params7] at hA hval hsz
  obtain ⟨v0, vs0, d0, ds0, p0, q0, hargs, rfl, rfl, h0, r0⟩ := trodAll_cons hA
  obtain ⟨v1, vs1, d1, ds1, p1, q1, rfl, rfl, rfl, h1, r1⟩ := trodAll_cons r0
  obtain ⟨rfl, rfl, rfl⟩ := trodAll_nil r1
  obtain rfl : args = #[v0, v1] := by cases args; simp_all
  obtain ⟨rfl, rfl⟩ := trodVars_none hV
  have k0 := h0
  have lt0 : ∀ x ∈ p0, x.block < W.heap.size := by obtain ⟨m, hm⟩ := k0; exact DataW.trod_lt m _ _ _ hm
  obtain ⟨A0, n0, c0, rfl⟩ := okWide_slice Try.underlying40 (hval 0 40 v0 rfl rfl)
  obtain ⟨z0, s0⟩ := iasks_in (j := 0) h0 hsz rfl rfl
  have k1 := h1
  have lt1 : ∀ x ∈ p1, x.block < W.heap.size := by obtain ⟨m, hm⟩ := k1; exact DataW.trod_lt m _ _ _ hm
  obtain ⟨x1, y1, rfl, bx1, by1⟩ := inst_in (hval 1 26 v1 rfl rfl) h1
  clear hA0 hval0
  refine (walk A0 n0 c0 z0 x1 y1 W s0 bx1 by1).mono fun e W' ⟨he, bel⟩ => ?_
  subst he
  exact ⟨_, rfl, _, _, _, [], _, [], hW', trodAll_mk1 (shut_bool Try.underlying4 _), (trodAll_cons_mk (Below.trod laidOut (by kernel_rfl) (of_decide_eq_true (by kernel_rfl)) k0 bel lt0) (trodAll_cons_mk (Below.trod laidOut (by kernel_rfl) (of_decide_eq_true (by kernel_rfl)) k1 bel lt1) trodAll_mk0)), rfl, bel.frame _, fun h => by cases h⟩
theorem over : Rows.interfReadsRow.holds Try.pinned (OpenSpec.ofChange Rows.interfReadsSpec) :=
  OpenClaim.holds_of_wide 7 Try.f7 rfl rfl rfl rfl rfl rfl rfl ⟨rfl, rfl, rfl, rfl, rfl⟩ rfl rfl rfl rfl rfl (by kernel_rfl) Try.func7 (by kernel_rfl)
    (of_decide_eq_true (by kernel_rfl)) (by unfold Func.isWrapper; first | (rw [if_pos (by decide +kernel)]; kernel_rfl) | (rw [if_neg (by decide +kernel)]; exact ⟨rfl, rfl⟩))
    (fun os started H enc _ => lifted os started H enc)
theorem proved : Rows.InterfReadsSaid := over
end Go.Proofs.Ytfihcgimgngmhaa.interfReads
