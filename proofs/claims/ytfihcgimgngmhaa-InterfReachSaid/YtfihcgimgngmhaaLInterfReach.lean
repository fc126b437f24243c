/- Proved: the law InterfReach returns true. Conditions: none beyond the row's own. -/
import Derived.Test.YtfihcgimgngmhaaVa
import Derived.Test.YtfihcgimgngmhaaVj
import Derived.Deep.DeepCutAuto
import Derived.BigQuiet
namespace Go.Proofs.Ytfihcgimgngmhaa.interfReach
open Go.ChangeShapes Go.WideShapes Go.ChangeAt Go.RowKit
set_option maxRecDepth 100000 in
set_option maxHeartbeats 16000000 in
theorem walk (A : Option Addr) (n cc : Nat) (l : List Ia) (r s : Int) (c : Cm) (u0 u1 u2 u3 u4 u5 u6 : Int) (W : World) (h : IasIn W A n cc l) (_ : -9223372036854775808 ≤ r ∧ r ≤ 9223372036854775807) (_ : -9223372036854775808 ≤ s ∧ s ≤ 9223372036854775807) (hc : CmOk c) (_ : ∀ n, n ∈ [u0, u1, u2, u3, u4, u5, u6] → I64 n) :
    Calls Try.prog 5 #[.slice A n cc, .agg #[.int .i64 r, .int .i64 s], .agg #[.int .i64 c.k, .int .i64 c.c, .int .i64 c.q, .string c.key, .string c.en, .string c.old, .string c.val], .agg #[.int .i64 u0, .int .i64 u1, .int .i64 u2, .int .i64 u3, .int .i64 u4, .int .i64 u5, .int .i64 u6]] W fun e w' => e = .returned (.bool true) ∧ Below W.heap.size W w' := by
  have RUN := hide (fun w => runs_any w)
  have HNW := hide (fun w => pnew_any w)
  have hn := h.len
  have hnc := h.le
  have hcr := h.room
  subst hn
  have HA := hide h.lies
  have HOK := hide h.ok
  have B0 := hide (kept_alloc (kept_alloc (kept_alloc (kept_refl W) (.cells #[.int .i64 r, .int .i64 s] 26)) (.cells #[.int .i64 c.k, .int .i64 c.c, .int .i64 c.q, .string c.key, .string c.en, .string c.old, .string c.val] 29)) (.cells #[.int .i64 u0, .int .i64 u1, .int .i64 u2, .int .i64 u3, .int .i64 u4, .int .i64 u5, .int .i64 u6] 32))
  have R5 := hide (((Row.new W 26 #[.int .i64 r, .int .i64 s]).alloc (.cells #[.int .i64 c.k, .int .i64 c.c, .int .i64 c.q, .string c.key, .string c.en, .string c.old, .string c.val] 29)).alloc (.cells #[.int .i64 u0, .int .i64 u1, .int .i64 u2, .int .i64 u3, .int .i64 u4, .int .i64 u5, .int .i64 u6] 32))
  have R6 := hide ((Row.new (W.alloc (.cells #[.int .i64 r, .int .i64 s] 26)) 29 #[.int .i64 c.k, .int .i64 c.c, .int .i64 c.q, .string c.key, .string c.en, .string c.old, .string c.val]).alloc (.cells #[.int .i64 u0, .int .i64 u1, .int .i64 u2, .int .i64 u3, .int .i64 u4, .int .i64 u5, .int .i64 u6] 32))
  rw [show (W.alloc (.cells #[.int .i64 r, .int .i64 s] 26)).heap.size = W.heap.size + 1 by simp] at R6
  have R7 := hide (Row.new ((W.alloc (.cells #[.int .i64 r, .int .i64 s] 26)).alloc (.cells #[.int .i64 c.k, .int .i64 c.c, .int .i64 c.q, .string c.key, .string c.en, .string c.old, .string c.val] 29)) 32 #[.int .i64 u0, .int .i64 u1, .int .i64 u2, .int .i64 u3, .int .i64 u4, .int .i64 u5, .int .i64 u6])
  rw [show ((W.alloc (.cells #[.int .i64 r, .int .i64 s] 26)).alloc (.cells #[.int .i64 c.k, .int .i64 c.c, .int .i64 c.q, .string c.key, .string c.en, .string c.old, .string c.val] 29)).heap.size = W.heap.size + 2 by simp] at R7
  have HLC := hide (fun w => light_any c w (Nat.le_trans hc.key (by omega)) (Nat.le_trans hc.en (by omega)) (Nat.le_trans hc.old (by omega)) (Nat.le_trans hc.val (by omega)))
  obtain ⟨tc, htc⟩ : ∃ t, lightC c = t := ⟨_, rfl⟩
  rw [htc] at HLC
  have HTC := hide htc
  have HRC := hide (fun w => c_right_any c.k c.c c.q c.key c.en c.old c.val w)
  obtain ⟨trc, htrc⟩ : ∃ t, rightC ⟨c.k, c.c, c.q, c.key, c.en, c.old, c.val⟩ = t := ⟨_, rfl⟩
  rw [htrc] at HRC
  have HRI := hide (fun w => right_any r s w)
  obtain ⟨tri, htri⟩ : ∃ t, rightI r s = t := ⟨_, rfl⟩
  rw [htri] at HRI
  have HTRI := hide htri
  clear h hc htc htrc htri
  go_enter Try.func5, Try.ntmps5
  go_upto_region 1 with (fail)
  generalize ((W.alloc (.cells #[.int .i64 r, .int .i64 s] 26)).alloc (.cells #[.int .i64 c.k, .int .i64 c.c, .int .i64 c.q, .string c.key, .string c.en, .string c.old, .string c.val] 29)).alloc (.cells #[.int .i64 u0, .int .i64 u1, .int .i64 u2, .int .i64 u3, .int .i64 u4, .int .i64 u5, .int .i64 u6] 32) = w0 at B0 R5 R6 R7 ⊢
  go_upto_region 2 with (first
    | (go_at_call 8; (with_reducible refine (HNW.out _).mono ?_); rintro e w1 ⟨g, b, rfl, hp, hb, hg1, hb1⟩))
  have HQ := hide (show Qh W w1 W.heap.size r s c [u0, u1, u2, u3, u4, u5, u6] g b zeroX (.slice none 0 0) [] from
    ⟨kept_trans B0.out hb, hp, Nat.le_trans B0.out.size hg1, Nat.le_trans B0.out.size hb1, R5.out.below hb R5.out.lt, R6.out.below hb R6.out.lt, R7.out.below hb R7.out.lt, rw_nil _ _ _ _⟩)
  clear hp hb hg1 hb1 B0 R5 R6 R7
  obtain ⟨q, hq⟩ : ∃ q, W.heap.size = q := ⟨_, rfl⟩
  replace HQ : Hid (Qh W w1 q r s c [u0, u1, u2, u3, u4, u5, u6] g b zeroX (.slice none 0 0) []) := hide (hq ▸ HQ.out)
  rw [hq]
  clear hq
  cases tc
  case false =>
    as_aux_lemma =>
    have i0 : w1.cell? ⟨q + 1, 0, none⟩ = some (.int .i64 c.k) := HQ.out.bc.cell 0
    have i1 : w1.cell? ⟨q + 1, 1, none⟩ = some (.int .i64 c.c) := HQ.out.bc.cell 1
    have i2 : w1.cell? ⟨q + 1, 2, none⟩ = some (.int .i64 c.q) := HQ.out.bc.cell 2
    have i3 : w1.cell? ⟨q + 1, 3, none⟩ = some (.string c.key) := HQ.out.bc.cell 3
    have i4 : w1.cell? ⟨q + 1, 4, none⟩ = some (.string c.en) := HQ.out.bc.cell 4
    have i5 : w1.cell? ⟨q + 1, 5, none⟩ = some (.string c.old) := HQ.out.bc.cell 5
    have i6 : w1.cell? ⟨q + 1, 6, none⟩ = some (.string c.val) := HQ.out.bc.cell 6
    have y0 : w1.cell? ⟨q, 0, none⟩ = some (.int .i64 r) := HQ.out.bi.cell 0
    have y1 : w1.cell? ⟨q, 1, none⟩ = some (.int .i64 s) := HQ.out.bi.cell 1
    go_wp2_with (first
      | (go_at_call 16; (with_reducible refine (HLC.out _).mono ?_); rintro e w2 ⟨rfl, hb⟩; replace HQ := hide (HQ.out.below hb); clear hb; clear i0 i1 i2 i3 i4 i5 i6 y0 y1; have i0 : w2.cell? ⟨q + 1, 0, none⟩ = some (.int .i64 c.k) := HQ.out.bc.cell 0; have i1 : w2.cell? ⟨q + 1, 1, none⟩ = some (.int .i64 c.c) := HQ.out.bc.cell 1; have i2 : w2.cell? ⟨q + 1, 2, none⟩ = some (.int .i64 c.q) := HQ.out.bc.cell 2; have i3 : w2.cell? ⟨q + 1, 3, none⟩ = some (.string c.key) := HQ.out.bc.cell 3; have i4 : w2.cell? ⟨q + 1, 4, none⟩ = some (.string c.en) := HQ.out.bc.cell 4; have i5 : w2.cell? ⟨q + 1, 5, none⟩ = some (.string c.old) := HQ.out.bc.cell 5; have i6 : w2.cell? ⟨q + 1, 6, none⟩ = some (.string c.val) := HQ.out.bc.cell 6; have y0 : w2.cell? ⟨q, 0, none⟩ = some (.int .i64 r) := HQ.out.bi.cell 0; have y1 : w2.cell? ⟨q, 1, none⟩ = some (.int .i64 s) := HQ.out.bi.cell 1)
      | (go_at_call 21; (with_reducible refine (HRC.out _).mono ?_); rintro e w3 ⟨rfl, hb⟩; replace HQ := hide (HQ.out.below hb); clear hb; clear i0 i1 i2 i3 i4 i5 i6 y0 y1; have i0 : w3.cell? ⟨q + 1, 0, none⟩ = some (.int .i64 c.k) := HQ.out.bc.cell 0; have i1 : w3.cell? ⟨q + 1, 1, none⟩ = some (.int .i64 c.c) := HQ.out.bc.cell 1; have i2 : w3.cell? ⟨q + 1, 2, none⟩ = some (.int .i64 c.q) := HQ.out.bc.cell 2; have i3 : w3.cell? ⟨q + 1, 3, none⟩ = some (.string c.key) := HQ.out.bc.cell 3; have i4 : w3.cell? ⟨q + 1, 4, none⟩ = some (.string c.en) := HQ.out.bc.cell 4; have i5 : w3.cell? ⟨q + 1, 5, none⟩ = some (.string c.old) := HQ.out.bc.cell 5; have i6 : w3.cell? ⟨q + 1, 6, none⟩ = some (.string c.val) := HQ.out.bc.cell 6; have y0 : w3.cell? ⟨q, 0, none⟩ = some (.int .i64 r) := HQ.out.bi.cell 0; have y1 : w3.cell? ⟨q, 1, none⟩ = some (.int .i64 s) := HQ.out.bi.cell 1)
      | (go_at_call 22; (with_reducible refine (HRI.out _).mono ?_); rintro e w4 ⟨rfl, hb⟩; replace HQ := hide (HQ.out.below hb); clear hb; clear i0 i1 i2 i3 i4 i5 i6 y0 y1; have i0 : w4.cell? ⟨q + 1, 0, none⟩ = some (.int .i64 c.k) := HQ.out.bc.cell 0; have i1 : w4.cell? ⟨q + 1, 1, none⟩ = some (.int .i64 c.c) := HQ.out.bc.cell 1; have i2 : w4.cell? ⟨q + 1, 2, none⟩ = some (.int .i64 c.q) := HQ.out.bc.cell 2; have i3 : w4.cell? ⟨q + 1, 3, none⟩ = some (.string c.key) := HQ.out.bc.cell 3; have i4 : w4.cell? ⟨q + 1, 4, none⟩ = some (.string c.en) := HQ.out.bc.cell 4; have i5 : w4.cell? ⟨q + 1, 5, none⟩ = some (.string c.old) := HQ.out.bc.cell 5; have i6 : w4.cell? ⟨q + 1, 6, none⟩ = some (.string c.val) := HQ.out.bc.cell 6; have y0 : w4.cell? ⟨q, 0, none⟩ = some (.int .i64 r) := HQ.out.bi.cell 0; have y1 : w4.cell? ⟨q, 1, none⟩ = some (.int .i64 s) := HQ.out.bi.cell 1)
      | (go_at_call 3; (with_reducible refine (RUN.out _).mono ?_); rintro e w5 ⟨rfl, hb⟩; replace HQ := hide (HQ.out.below hb); clear hb)
      | go_in)
    go_ret
    exact ⟨rfl, HQ.out.low⟩
  case true =>
    as_aux_lemma =>
    cases trc
    case false =>
      as_aux_lemma =>
      have i0 : w1.cell? ⟨q + 1, 0, none⟩ = some (.int .i64 c.k) := HQ.out.bc.cell 0
      have i1 : w1.cell? ⟨q + 1, 1, none⟩ = some (.int .i64 c.c) := HQ.out.bc.cell 1
      have i2 : w1.cell? ⟨q + 1, 2, none⟩ = some (.int .i64 c.q) := HQ.out.bc.cell 2
      have i3 : w1.cell? ⟨q + 1, 3, none⟩ = some (.string c.key) := HQ.out.bc.cell 3
      have i4 : w1.cell? ⟨q + 1, 4, none⟩ = some (.string c.en) := HQ.out.bc.cell 4
      have i5 : w1.cell? ⟨q + 1, 5, none⟩ = some (.string c.old) := HQ.out.bc.cell 5
      have i6 : w1.cell? ⟨q + 1, 6, none⟩ = some (.string c.val) := HQ.out.bc.cell 6
      have y0 : w1.cell? ⟨q, 0, none⟩ = some (.int .i64 r) := HQ.out.bi.cell 0
      have y1 : w1.cell? ⟨q, 1, none⟩ = some (.int .i64 s) := HQ.out.bi.cell 1
      go_wp2_with (first
        | (go_at_call 16; (with_reducible refine (HLC.out _).mono ?_); rintro e w2 ⟨rfl, hb⟩; replace HQ := hide (HQ.out.below hb); clear hb; clear i0 i1 i2 i3 i4 i5 i6 y0 y1; have i0 : w2.cell? ⟨q + 1, 0, none⟩ = some (.int .i64 c.k) := HQ.out.bc.cell 0; have i1 : w2.cell? ⟨q + 1, 1, none⟩ = some (.int .i64 c.c) := HQ.out.bc.cell 1; have i2 : w2.cell? ⟨q + 1, 2, none⟩ = some (.int .i64 c.q) := HQ.out.bc.cell 2; have i3 : w2.cell? ⟨q + 1, 3, none⟩ = some (.string c.key) := HQ.out.bc.cell 3; have i4 : w2.cell? ⟨q + 1, 4, none⟩ = some (.string c.en) := HQ.out.bc.cell 4; have i5 : w2.cell? ⟨q + 1, 5, none⟩ = some (.string c.old) := HQ.out.bc.cell 5; have i6 : w2.cell? ⟨q + 1, 6, none⟩ = some (.string c.val) := HQ.out.bc.cell 6; have y0 : w2.cell? ⟨q, 0, none⟩ = some (.int .i64 r) := HQ.out.bi.cell 0; have y1 : w2.cell? ⟨q, 1, none⟩ = some (.int .i64 s) := HQ.out.bi.cell 1)
        | (go_at_call 21; (with_reducible refine (HRC.out _).mono ?_); rintro e w3 ⟨rfl, hb⟩; replace HQ := hide (HQ.out.below hb); clear hb; clear i0 i1 i2 i3 i4 i5 i6 y0 y1; have i0 : w3.cell? ⟨q + 1, 0, none⟩ = some (.int .i64 c.k) := HQ.out.bc.cell 0; have i1 : w3.cell? ⟨q + 1, 1, none⟩ = some (.int .i64 c.c) := HQ.out.bc.cell 1; have i2 : w3.cell? ⟨q + 1, 2, none⟩ = some (.int .i64 c.q) := HQ.out.bc.cell 2; have i3 : w3.cell? ⟨q + 1, 3, none⟩ = some (.string c.key) := HQ.out.bc.cell 3; have i4 : w3.cell? ⟨q + 1, 4, none⟩ = some (.string c.en) := HQ.out.bc.cell 4; have i5 : w3.cell? ⟨q + 1, 5, none⟩ = some (.string c.old) := HQ.out.bc.cell 5; have i6 : w3.cell? ⟨q + 1, 6, none⟩ = some (.string c.val) := HQ.out.bc.cell 6; have y0 : w3.cell? ⟨q, 0, none⟩ = some (.int .i64 r) := HQ.out.bi.cell 0; have y1 : w3.cell? ⟨q, 1, none⟩ = some (.int .i64 s) := HQ.out.bi.cell 1)
        | (go_at_call 22; (with_reducible refine (HRI.out _).mono ?_); rintro e w4 ⟨rfl, hb⟩; replace HQ := hide (HQ.out.below hb); clear hb; clear i0 i1 i2 i3 i4 i5 i6 y0 y1; have i0 : w4.cell? ⟨q + 1, 0, none⟩ = some (.int .i64 c.k) := HQ.out.bc.cell 0; have i1 : w4.cell? ⟨q + 1, 1, none⟩ = some (.int .i64 c.c) := HQ.out.bc.cell 1; have i2 : w4.cell? ⟨q + 1, 2, none⟩ = some (.int .i64 c.q) := HQ.out.bc.cell 2; have i3 : w4.cell? ⟨q + 1, 3, none⟩ = some (.string c.key) := HQ.out.bc.cell 3; have i4 : w4.cell? ⟨q + 1, 4, none⟩ = some (.string c.en) := HQ.out.bc.cell 4; have i5 : w4.cell? ⟨q + 1, 5, none⟩ = some (.string c.old) := HQ.out.bc.cell 5; have i6 : w4.cell? ⟨q + 1, 6, none⟩ = some (.string c.val) := HQ.out.bc.cell 6; have y0 : w4.cell? ⟨q, 0, none⟩ = some (.int .i64 r) := HQ.out.bi.cell 0; have y1 : w4.cell? ⟨q, 1, none⟩ = some (.int .i64 s) := HQ.out.bi.cell 1)
        | (go_at_call 3; (with_reducible refine (RUN.out _).mono ?_); rintro e w5 ⟨rfl, hb⟩; replace HQ := hide (HQ.out.below hb); clear hb)
        | go_in)
      go_ret
      exact ⟨rfl, HQ.out.low⟩
    case true =>
      as_aux_lemma =>
      cases tri
      case false =>
        as_aux_lemma =>
        have i0 : w1.cell? ⟨q + 1, 0, none⟩ = some (.int .i64 c.k) := HQ.out.bc.cell 0
        have i1 : w1.cell? ⟨q + 1, 1, none⟩ = some (.int .i64 c.c) := HQ.out.bc.cell 1
        have i2 : w1.cell? ⟨q + 1, 2, none⟩ = some (.int .i64 c.q) := HQ.out.bc.cell 2
        have i3 : w1.cell? ⟨q + 1, 3, none⟩ = some (.string c.key) := HQ.out.bc.cell 3
        have i4 : w1.cell? ⟨q + 1, 4, none⟩ = some (.string c.en) := HQ.out.bc.cell 4
        have i5 : w1.cell? ⟨q + 1, 5, none⟩ = some (.string c.old) := HQ.out.bc.cell 5
        have i6 : w1.cell? ⟨q + 1, 6, none⟩ = some (.string c.val) := HQ.out.bc.cell 6
        have y0 : w1.cell? ⟨q, 0, none⟩ = some (.int .i64 r) := HQ.out.bi.cell 0
        have y1 : w1.cell? ⟨q, 1, none⟩ = some (.int .i64 s) := HQ.out.bi.cell 1
        go_wp2_with (first
          | (go_at_call 16; (with_reducible refine (HLC.out _).mono ?_); rintro e w2 ⟨rfl, hb⟩; replace HQ := hide (HQ.out.below hb); clear hb; clear i0 i1 i2 i3 i4 i5 i6 y0 y1; have i0 : w2.cell? ⟨q + 1, 0, none⟩ = some (.int .i64 c.k) := HQ.out.bc.cell 0; have i1 : w2.cell? ⟨q + 1, 1, none⟩ = some (.int .i64 c.c) := HQ.out.bc.cell 1; have i2 : w2.cell? ⟨q + 1, 2, none⟩ = some (.int .i64 c.q) := HQ.out.bc.cell 2; have i3 : w2.cell? ⟨q + 1, 3, none⟩ = some (.string c.key) := HQ.out.bc.cell 3; have i4 : w2.cell? ⟨q + 1, 4, none⟩ = some (.string c.en) := HQ.out.bc.cell 4; have i5 : w2.cell? ⟨q + 1, 5, none⟩ = some (.string c.old) := HQ.out.bc.cell 5; have i6 : w2.cell? ⟨q + 1, 6, none⟩ = some (.string c.val) := HQ.out.bc.cell 6; have y0 : w2.cell? ⟨q, 0, none⟩ = some (.int .i64 r) := HQ.out.bi.cell 0; have y1 : w2.cell? ⟨q, 1, none⟩ = some (.int .i64 s) := HQ.out.bi.cell 1)
          | (go_at_call 21; (with_reducible refine (HRC.out _).mono ?_); rintro e w3 ⟨rfl, hb⟩; replace HQ := hide (HQ.out.below hb); clear hb; clear i0 i1 i2 i3 i4 i5 i6 y0 y1; have i0 : w3.cell? ⟨q + 1, 0, none⟩ = some (.int .i64 c.k) := HQ.out.bc.cell 0; have i1 : w3.cell? ⟨q + 1, 1, none⟩ = some (.int .i64 c.c) := HQ.out.bc.cell 1; have i2 : w3.cell? ⟨q + 1, 2, none⟩ = some (.int .i64 c.q) := HQ.out.bc.cell 2; have i3 : w3.cell? ⟨q + 1, 3, none⟩ = some (.string c.key) := HQ.out.bc.cell 3; have i4 : w3.cell? ⟨q + 1, 4, none⟩ = some (.string c.en) := HQ.out.bc.cell 4; have i5 : w3.cell? ⟨q + 1, 5, none⟩ = some (.string c.old) := HQ.out.bc.cell 5; have i6 : w3.cell? ⟨q + 1, 6, none⟩ = some (.string c.val) := HQ.out.bc.cell 6; have y0 : w3.cell? ⟨q, 0, none⟩ = some (.int .i64 r) := HQ.out.bi.cell 0; have y1 : w3.cell? ⟨q, 1, none⟩ = some (.int .i64 s) := HQ.out.bi.cell 1)
          | (go_at_call 22; (with_reducible refine (HRI.out _).mono ?_); rintro e w4 ⟨rfl, hb⟩; replace HQ := hide (HQ.out.below hb); clear hb; clear i0 i1 i2 i3 i4 i5 i6 y0 y1; have i0 : w4.cell? ⟨q + 1, 0, none⟩ = some (.int .i64 c.k) := HQ.out.bc.cell 0; have i1 : w4.cell? ⟨q + 1, 1, none⟩ = some (.int .i64 c.c) := HQ.out.bc.cell 1; have i2 : w4.cell? ⟨q + 1, 2, none⟩ = some (.int .i64 c.q) := HQ.out.bc.cell 2; have i3 : w4.cell? ⟨q + 1, 3, none⟩ = some (.string c.key) := HQ.out.bc.cell 3; have i4 : w4.cell? ⟨q + 1, 4, none⟩ = some (.string c.en) := HQ.out.bc.cell 4; have i5 : w4.cell? ⟨q + 1, 5, none⟩ = some (.string c.old) := HQ.out.bc.cell 5; have i6 : w4.cell? ⟨q + 1, 6, none⟩ = some (.string c.val) := HQ.out.bc.cell 6; have y0 : w4.cell? ⟨q, 0, none⟩ = some (.int .i64 r) := HQ.out.bi.cell 0; have y1 : w4.cell? ⟨q, 1, none⟩ = some (.int .i64 s) := HQ.out.bi.cell 1)
          | (go_at_call 3; (with_reducible refine (RUN.out _).mono ?_); rintro e w5 ⟨rfl, hb⟩; replace HQ := hide (HQ.out.below hb); clear hb)
          | go_in)
        go_ret
        exact ⟨rfl, HQ.out.low⟩
      case true =>
        as_aux_lemma =>
        have i0 : w1.cell? ⟨q + 1, 0, none⟩ = some (.int .i64 c.k) := HQ.out.bc.cell 0
        have i1 : w1.cell? ⟨q + 1, 1, none⟩ = some (.int .i64 c.c) := HQ.out.bc.cell 1
        have i2 : w1.cell? ⟨q + 1, 2, none⟩ = some (.int .i64 c.q) := HQ.out.bc.cell 2
        have i3 : w1.cell? ⟨q + 1, 3, none⟩ = some (.string c.key) := HQ.out.bc.cell 3
        have i4 : w1.cell? ⟨q + 1, 4, none⟩ = some (.string c.en) := HQ.out.bc.cell 4
        have i5 : w1.cell? ⟨q + 1, 5, none⟩ = some (.string c.old) := HQ.out.bc.cell 5
        have i6 : w1.cell? ⟨q + 1, 6, none⟩ = some (.string c.val) := HQ.out.bc.cell 6
        have y0 : w1.cell? ⟨q, 0, none⟩ = some (.int .i64 r) := HQ.out.bi.cell 0
        have y1 : w1.cell? ⟨q, 1, none⟩ = some (.int .i64 s) := HQ.out.bi.cell 1
        go_upto_region 4 with (first
          | (go_at_call 16; (with_reducible refine (HLC.out _).mono ?_); rintro e w2 ⟨rfl, hb⟩; replace HQ := hide (HQ.out.below hb); clear hb; clear i0 i1 i2 i3 i4 i5 i6 y0 y1; have i0 : w2.cell? ⟨q + 1, 0, none⟩ = some (.int .i64 c.k) := HQ.out.bc.cell 0; have i1 : w2.cell? ⟨q + 1, 1, none⟩ = some (.int .i64 c.c) := HQ.out.bc.cell 1; have i2 : w2.cell? ⟨q + 1, 2, none⟩ = some (.int .i64 c.q) := HQ.out.bc.cell 2; have i3 : w2.cell? ⟨q + 1, 3, none⟩ = some (.string c.key) := HQ.out.bc.cell 3; have i4 : w2.cell? ⟨q + 1, 4, none⟩ = some (.string c.en) := HQ.out.bc.cell 4; have i5 : w2.cell? ⟨q + 1, 5, none⟩ = some (.string c.old) := HQ.out.bc.cell 5; have i6 : w2.cell? ⟨q + 1, 6, none⟩ = some (.string c.val) := HQ.out.bc.cell 6; have y0 : w2.cell? ⟨q, 0, none⟩ = some (.int .i64 r) := HQ.out.bi.cell 0; have y1 : w2.cell? ⟨q, 1, none⟩ = some (.int .i64 s) := HQ.out.bi.cell 1)
          | (go_at_call 21; (with_reducible refine (HRC.out _).mono ?_); rintro e w3 ⟨rfl, hb⟩; replace HQ := hide (HQ.out.below hb); clear hb; clear i0 i1 i2 i3 i4 i5 i6 y0 y1; have i0 : w3.cell? ⟨q + 1, 0, none⟩ = some (.int .i64 c.k) := HQ.out.bc.cell 0; have i1 : w3.cell? ⟨q + 1, 1, none⟩ = some (.int .i64 c.c) := HQ.out.bc.cell 1; have i2 : w3.cell? ⟨q + 1, 2, none⟩ = some (.int .i64 c.q) := HQ.out.bc.cell 2; have i3 : w3.cell? ⟨q + 1, 3, none⟩ = some (.string c.key) := HQ.out.bc.cell 3; have i4 : w3.cell? ⟨q + 1, 4, none⟩ = some (.string c.en) := HQ.out.bc.cell 4; have i5 : w3.cell? ⟨q + 1, 5, none⟩ = some (.string c.old) := HQ.out.bc.cell 5; have i6 : w3.cell? ⟨q + 1, 6, none⟩ = some (.string c.val) := HQ.out.bc.cell 6; have y0 : w3.cell? ⟨q, 0, none⟩ = some (.int .i64 r) := HQ.out.bi.cell 0; have y1 : w3.cell? ⟨q, 1, none⟩ = some (.int .i64 s) := HQ.out.bi.cell 1)
          | (go_at_call 22; (with_reducible refine (HRI.out _).mono ?_); rintro e w4 ⟨rfl, hb⟩; replace HQ := hide (HQ.out.below hb); clear hb; clear i0 i1 i2 i3 i4 i5 i6 y0 y1; have i0 : w4.cell? ⟨q + 1, 0, none⟩ = some (.int .i64 c.k) := HQ.out.bc.cell 0; have i1 : w4.cell? ⟨q + 1, 1, none⟩ = some (.int .i64 c.c) := HQ.out.bc.cell 1; have i2 : w4.cell? ⟨q + 1, 2, none⟩ = some (.int .i64 c.q) := HQ.out.bc.cell 2; have i3 : w4.cell? ⟨q + 1, 3, none⟩ = some (.string c.key) := HQ.out.bc.cell 3; have i4 : w4.cell? ⟨q + 1, 4, none⟩ = some (.string c.en) := HQ.out.bc.cell 4; have i5 : w4.cell? ⟨q + 1, 5, none⟩ = some (.string c.old) := HQ.out.bc.cell 5; have i6 : w4.cell? ⟨q + 1, 6, none⟩ = some (.string c.val) := HQ.out.bc.cell 6; have y0 : w4.cell? ⟨q, 0, none⟩ = some (.int .i64 r) := HQ.out.bi.cell 0; have y1 : w4.cell? ⟨q, 1, none⟩ = some (.int .i64 s) := HQ.out.bi.cell 1))
        go_upto_block 0 with fail
        go_cut [10] from 11 to 113 (fun s10 wx => ∃ own : List Ia, Hid (own.length ≤ 40) ∧ Hid (Ko r s own) ∧ Hid (Qh W wx q r s c [u0, u1, u2, u3, u4, u5, u6] g b (noteL zeroX own) s10 own))
        case first =>
          as_aux_lemma =>
          clear i0 i1 i2 i3 i4 i5 i6 y0 y1
          go_wp2_with fail
          go_loopw [10, 11] (fun ov k wr => ∃ (j : Nat) (own : List Ia), j ≤ l.length ∧ j ≤ 40 ∧ k = .int .i64 j ∧ Hid (own.length ≤ j) ∧ Hid (Ko r s own) ∧ Hid (Qh W wr q r s c [u0, u1, u2, u3, u4, u5, u6] g b (noteL zeroX own) ov own)) (fun _ k _ => l.length - (intOf k).toNat)
          case atStart => exact ⟨0, [], by omega, by omega, rfl, hide (Nat.le_refl _), hide ⟨fun y hy => (by cases hy), fun y hy => (by cases hy)⟩, HQ⟩
          case round =>
            as_aux_lemma =>
            clear HQ
            obtain ⟨j, own, hj, hj40, rfl, HN, HKO, HQ⟩ := hrel
            obtain ⟨A1, c1, rfl, hA1, hA2⟩ := HQ.out.ow.ia_form
            by_cases hlt : j < l.length ∧ j < 40
            · obtain ⟨hlt, hlt40⟩ := hlt
              have hlt40' : decide ((j : Int) < 40) = true := decide_eq_true (by omega)
              obtain ⟨y, hy⟩ : ∃ y, l[j]? = some y := ⟨_, List.getElem?_eq_getElem hlt⟩
              have HY := hide (HOK.out y (List.mem_of_getElem? hy))
              have HYA := hide (fun (wz : World) (hz : Below W.heap.size W wz) => Els.ia (HA.out.below hz) hy)
              obtain ⟨b0, off, rfl, hbs, ha⟩ := HYA.out _ HQ.out.low
              replace HYA := hide (show ∀ wz, Below W.heap.size W wz → IaAt wz b0 off j y from fun wz hz => by
                obtain ⟨b1, off1, e1, _, h1⟩ := HYA.out wz hz
                injection e1 with e1
                injection e1 with e1 e2 _
                subst e1 e2
                exact h1)
              have hjl : (j : Int) < (l.length : Int) := by omega
              clear hy ha hbs
              have HLI := hide (fun w => light_any y.c w (Nat.le_trans HY.out.c.key (by omega)) (Nat.le_trans HY.out.c.en (by omega)) (Nat.le_trans HY.out.c.old (by omega)) (Nat.le_trans HY.out.c.val (by omega)))
              obtain ⟨tl, htl⟩ : ∃ t, lightC y.c = t := ⟨_, rfl⟩
              rw [htl] at HLI
              clear htl
              have HSM := hide (show (noteL zeroX own).k.length ≤ 1000 by
                have h1 := noteL_len own zeroX
                have h2 : zeroX.k.length = 0 := rfl
                have h3 := HN.out
                omega)
              have HXD := hide (noteL_d own zeroX)
              go_upto_region 8 with (fail)
              go_cut [106] from 50 to 105 (fun s106 wx => ∃ t : Bool, s106 = .bool t ∧ Hid (t = true → mayA zeroX.d y = true ∧ sameA y ⟨0, 0, r, s, ⟨0, 0, 0, ⟨#[]⟩, ⟨#[]⟩, ⟨#[]⟩, ⟨#[]⟩⟩, 0, 0, 0, 0, 0, 0, 0⟩ = false ∧ (y.r == r && decide (s < y.s)) = false) ∧ Hid (Qh W wx q r s c [u0, u1, u2, u3, u4, u5, u6] g b (if t = true then noteX (noteL zeroX own) y.r y.s y.c y.q else noteL zeroX own) (.slice A1 own.length c1) own))
              case first =>
                as_aux_lemma =>
                have hne := fun w => neq_inst y.r y.s r s w
                obtain ⟨e1, he1⟩ : ∃ e, (y.r == r && y.s == s) = e := ⟨_, rfl⟩
                have HE1 := hide he1
                simp only [he1] at hne
                clear he1
                cases tl
                case false =>
                  as_aux_lemma =>
                  have HB0 : Below wr.heap.size wr wr := kept_refl wr
                  refine wp_region_sp (fun w' => Below wr.heap.size wr w') (by kernel_rfl) (by kernel_rfl) (show Below wr.heap.size wr wr.drew from kept_drewN HB0 1) ?_
                  generalize hS : (fun w' => Below wr.heap.size wr w') = S
                  have l0 : ∀ z : Sp S, z.w.cell? ⟨b0, off + j * 18 + 1, none⟩ = some (.int .i64 y.q) := by subst hS; exact fun z => HYA.out _ (kept_trans HQ.out.low z.ok) 1 (by omega)
                  have l1 : ∀ z : Sp S, z.w.cell? ⟨b0, off + j * 18 + 2, none⟩ = some (.int .i64 y.r) := by subst hS; exact fun z => HYA.out _ (kept_trans HQ.out.low z.ok) 2 (by omega)
                  have l2 : ∀ z : Sp S, z.w.cell? ⟨b0, off + j * 18 + 3, none⟩ = some (.int .i64 y.s) := by subst hS; exact fun z => HYA.out _ (kept_trans HQ.out.low z.ok) 3 (by omega)
                  have l3 : ∀ z : Sp S, z.w.cell? ⟨b0, off + j * 18 + 4, none⟩ = some (.int .i64 y.c.k) := by subst hS; exact fun z => HYA.out _ (kept_trans HQ.out.low z.ok) 4 (by omega)
                  have l4 : ∀ z : Sp S, z.w.cell? ⟨b0, off + j * 18 + 5, none⟩ = some (.int .i64 y.c.c) := by subst hS; exact fun z => HYA.out _ (kept_trans HQ.out.low z.ok) 5 (by omega)
                  have l5 : ∀ z : Sp S, z.w.cell? ⟨b0, off + j * 18 + 6, none⟩ = some (.int .i64 y.c.q) := by subst hS; exact fun z => HYA.out _ (kept_trans HQ.out.low z.ok) 6 (by omega)
                  have l6 : ∀ z : Sp S, z.w.cell? ⟨b0, off + j * 18 + 7, none⟩ = some (.string y.c.key) := by subst hS; exact fun z => HYA.out _ (kept_trans HQ.out.low z.ok) 7 (by omega)
                  have l7 : ∀ z : Sp S, z.w.cell? ⟨b0, off + j * 18 + 8, none⟩ = some (.string y.c.en) := by subst hS; exact fun z => HYA.out _ (kept_trans HQ.out.low z.ok) 8 (by omega)
                  have l8 : ∀ z : Sp S, z.w.cell? ⟨b0, off + j * 18 + 9, none⟩ = some (.string y.c.old) := by subst hS; exact fun z => HYA.out _ (kept_trans HQ.out.low z.ok) 9 (by omega)
                  have l9 : ∀ z : Sp S, z.w.cell? ⟨b0, off + j * 18 + 10, none⟩ = some (.string y.c.val) := by subst hS; exact fun z => HYA.out _ (kept_trans HQ.out.low z.ok) 10 (by omega)
                  have l10 : ∀ z : Sp S, z.w.cell? ⟨q, 0, none⟩ = some (.int .i64 r) := by subst hS; exact fun z => (HQ.out.bi.below z.ok HQ.out.bi.lt).cell 0
                  have l11 : ∀ z : Sp S, z.w.cell? ⟨q, 1, none⟩ = some (.int .i64 s) := by subst hS; exact fun z => (HQ.out.bi.below z.ok HQ.out.bi.lt).cell 1
                  have ne : Nonempty (Sp S) := by subst hS; exact ⟨⟨_, HB0⟩⟩
                  have STEP := hide (show ∀ w w', S w → Below w.heap.size w w' → S w' by subst hS; exact fun _ _ h hb => kept_trans h hb)
                  have OLD := hide (show ∀ z : Sp S, Below wr.heap.size wr z.w by subst hS; exact fun z => z.ok)
                  clear HB0 hS
                  repeat (go_big_quiet_step ((first | (go_at_call 16; with_reducible exact sp_call STEP.out _ (HLI.out _)))))
                  refine wpQuiet_nil ?_
                  intro kk
                  have OK := hide (OLD.out kk)
                  generalize kk.w = wk at OK ⊢
                  clear l0 l1 l2 l3 l4 l5 l6 l7 l8 l9 l10 l11 ne OLD STEP
                  go_wp2
                  go_meet
                  exact ⟨false, rfl, hide (fun e => by cases e), HQ.out.below OK.out⟩
                case true =>
                  as_aux_lemma =>
                  cases e1
                  case true =>
                    as_aux_lemma =>
                    have HB0 : Below wr.heap.size wr wr := kept_refl wr
                    refine wp_region_sp (fun w' => Below wr.heap.size wr w') (by kernel_rfl) (by kernel_rfl) (show Below wr.heap.size wr wr.drew from kept_drewN HB0 1) ?_
                    generalize hS : (fun w' => Below wr.heap.size wr w') = S
                    have l0 : ∀ z : Sp S, z.w.cell? ⟨b0, off + j * 18 + 1, none⟩ = some (.int .i64 y.q) := by subst hS; exact fun z => HYA.out _ (kept_trans HQ.out.low z.ok) 1 (by omega)
                    have l1 : ∀ z : Sp S, z.w.cell? ⟨b0, off + j * 18 + 2, none⟩ = some (.int .i64 y.r) := by subst hS; exact fun z => HYA.out _ (kept_trans HQ.out.low z.ok) 2 (by omega)
                    have l2 : ∀ z : Sp S, z.w.cell? ⟨b0, off + j * 18 + 3, none⟩ = some (.int .i64 y.s) := by subst hS; exact fun z => HYA.out _ (kept_trans HQ.out.low z.ok) 3 (by omega)
                    have l3 : ∀ z : Sp S, z.w.cell? ⟨b0, off + j * 18 + 4, none⟩ = some (.int .i64 y.c.k) := by subst hS; exact fun z => HYA.out _ (kept_trans HQ.out.low z.ok) 4 (by omega)
                    have l4 : ∀ z : Sp S, z.w.cell? ⟨b0, off + j * 18 + 5, none⟩ = some (.int .i64 y.c.c) := by subst hS; exact fun z => HYA.out _ (kept_trans HQ.out.low z.ok) 5 (by omega)
                    have l5 : ∀ z : Sp S, z.w.cell? ⟨b0, off + j * 18 + 6, none⟩ = some (.int .i64 y.c.q) := by subst hS; exact fun z => HYA.out _ (kept_trans HQ.out.low z.ok) 6 (by omega)
                    have l6 : ∀ z : Sp S, z.w.cell? ⟨b0, off + j * 18 + 7, none⟩ = some (.string y.c.key) := by subst hS; exact fun z => HYA.out _ (kept_trans HQ.out.low z.ok) 7 (by omega)
                    have l7 : ∀ z : Sp S, z.w.cell? ⟨b0, off + j * 18 + 8, none⟩ = some (.string y.c.en) := by subst hS; exact fun z => HYA.out _ (kept_trans HQ.out.low z.ok) 8 (by omega)
                    have l8 : ∀ z : Sp S, z.w.cell? ⟨b0, off + j * 18 + 9, none⟩ = some (.string y.c.old) := by subst hS; exact fun z => HYA.out _ (kept_trans HQ.out.low z.ok) 9 (by omega)
                    have l9 : ∀ z : Sp S, z.w.cell? ⟨b0, off + j * 18 + 10, none⟩ = some (.string y.c.val) := by subst hS; exact fun z => HYA.out _ (kept_trans HQ.out.low z.ok) 10 (by omega)
                    have l10 : ∀ z : Sp S, z.w.cell? ⟨q, 0, none⟩ = some (.int .i64 r) := by subst hS; exact fun z => (HQ.out.bi.below z.ok HQ.out.bi.lt).cell 0
                    have l11 : ∀ z : Sp S, z.w.cell? ⟨q, 1, none⟩ = some (.int .i64 s) := by subst hS; exact fun z => (HQ.out.bi.below z.ok HQ.out.bi.lt).cell 1
                    have ne : Nonempty (Sp S) := by subst hS; exact ⟨⟨_, HB0⟩⟩
                    have STEP := hide (show ∀ w w', S w → Below w.heap.size w w' → S w' by subst hS; exact fun _ _ h hb => kept_trans h hb)
                    have OLD := hide (show ∀ z : Sp S, Below wr.heap.size wr z.w by subst hS; exact fun z => z.ok)
                    clear HB0 hS
                    repeat (go_big_quiet_step ((first | (go_at_call 16; with_reducible exact sp_call STEP.out _ (HLI.out _)))))
                    refine wpQuiet_nil ?_
                    intro kk
                    have OK := hide (OLD.out kk)
                    generalize kk.w = wk at OK ⊢
                    clear l0 l1 l2 l3 l4 l5 l6 l7 l8 l9 l10 l11 ne OLD STEP
                    go_wp2
                    go_meet
                    exact ⟨false, rfl, hide (fun e => by cases e), HQ.out.below OK.out⟩
                  case false =>
                    as_aux_lemma =>
                    have HNT := hide (fun wz (hq : Qh W wz q r s c [u0, u1, u2, u3, u4, u5, u6] g b (noteL zeroX own) (.slice A1 own.length c1) own) => qh_note hq HSM.out y)
                    have HFIN := hide (fun (hid : (y.r == r && decide (s < y.s)) = false) (wz : World) (hq : Qh W wz q r s c [u0, u1, u2, u3, u4, u5, u6] g b (noteX (noteL zeroX own) y.r y.s y.c y.q) (.slice A1 own.length c1) own) =>
                      (show ∃ t : Bool, Value.bool (mayN (noteL zeroX own).d y.r y.s y.c y.q) = .bool t ∧ Hid (t = true → mayA zeroX.d y = true ∧ sameA y ⟨0, 0, r, s, ⟨0, 0, 0, ⟨#[]⟩, ⟨#[]⟩, ⟨#[]⟩, ⟨#[]⟩⟩, 0, 0, 0, 0, 0, 0, 0⟩ = false ∧ (y.r == r && decide (s < y.s)) = false) ∧ Hid (Qh W wz q r s c [u0, u1, u2, u3, u4, u5, u6] g b (if t = true then noteX (noteL zeroX own) y.r y.s y.c y.q else noteL zeroX own) (.slice A1 own.length c1) own) from by
                        refine ⟨mayN (noteL zeroX own).d y.r y.s y.c y.q, rfl, hide (fun ht => ⟨?_, HE1.out, hid⟩), hide ?_⟩
                        · rw [HXD.out] at ht
                          exact ht
                        · cases hm : mayN (noteL zeroX own).d y.r y.s y.c y.q
                          · rw [note_not hm] at hq
                            exact hq
                          · exact hq))
                    obtain ⟨tm, htm⟩ : ∃ t, mayN (noteL zeroX own).d y.r y.s y.c y.q = t := ⟨_, rfl⟩
                    rw [htm] at HNT HFIN
                    clear htm
                    obtain ⟨tr, htr⟩ : ∃ t, (y.r == r) = t := ⟨_, rfl⟩
                    obtain ⟨tg, htg⟩ : ∃ t, decide (s < y.s) = t := ⟨_, rfl⟩
                    cases tr
                    case true =>
                      as_aux_lemma =>
                      cases tg
                      case true =>
                        as_aux_lemma =>
                        have HB0 : Below wr.heap.size wr wr := kept_refl wr
                        refine wp_region_sp (fun w' => Below wr.heap.size wr w') (by kernel_rfl) (by kernel_rfl) (show Below wr.heap.size wr wr.drew from kept_drewN HB0 1) ?_
                        generalize hS : (fun w' => Below wr.heap.size wr w') = S
                        have l0 : ∀ z : Sp S, z.w.cell? ⟨b0, off + j * 18 + 1, none⟩ = some (.int .i64 y.q) := by subst hS; exact fun z => HYA.out _ (kept_trans HQ.out.low z.ok) 1 (by omega)
                        have l1 : ∀ z : Sp S, z.w.cell? ⟨b0, off + j * 18 + 2, none⟩ = some (.int .i64 y.r) := by subst hS; exact fun z => HYA.out _ (kept_trans HQ.out.low z.ok) 2 (by omega)
                        have l2 : ∀ z : Sp S, z.w.cell? ⟨b0, off + j * 18 + 3, none⟩ = some (.int .i64 y.s) := by subst hS; exact fun z => HYA.out _ (kept_trans HQ.out.low z.ok) 3 (by omega)
                        have l3 : ∀ z : Sp S, z.w.cell? ⟨b0, off + j * 18 + 4, none⟩ = some (.int .i64 y.c.k) := by subst hS; exact fun z => HYA.out _ (kept_trans HQ.out.low z.ok) 4 (by omega)
                        have l4 : ∀ z : Sp S, z.w.cell? ⟨b0, off + j * 18 + 5, none⟩ = some (.int .i64 y.c.c) := by subst hS; exact fun z => HYA.out _ (kept_trans HQ.out.low z.ok) 5 (by omega)
                        have l5 : ∀ z : Sp S, z.w.cell? ⟨b0, off + j * 18 + 6, none⟩ = some (.int .i64 y.c.q) := by subst hS; exact fun z => HYA.out _ (kept_trans HQ.out.low z.ok) 6 (by omega)
                        have l6 : ∀ z : Sp S, z.w.cell? ⟨b0, off + j * 18 + 7, none⟩ = some (.string y.c.key) := by subst hS; exact fun z => HYA.out _ (kept_trans HQ.out.low z.ok) 7 (by omega)
                        have l7 : ∀ z : Sp S, z.w.cell? ⟨b0, off + j * 18 + 8, none⟩ = some (.string y.c.en) := by subst hS; exact fun z => HYA.out _ (kept_trans HQ.out.low z.ok) 8 (by omega)
                        have l8 : ∀ z : Sp S, z.w.cell? ⟨b0, off + j * 18 + 9, none⟩ = some (.string y.c.old) := by subst hS; exact fun z => HYA.out _ (kept_trans HQ.out.low z.ok) 9 (by omega)
                        have l9 : ∀ z : Sp S, z.w.cell? ⟨b0, off + j * 18 + 10, none⟩ = some (.string y.c.val) := by subst hS; exact fun z => HYA.out _ (kept_trans HQ.out.low z.ok) 10 (by omega)
                        have l10 : ∀ z : Sp S, z.w.cell? ⟨q, 0, none⟩ = some (.int .i64 r) := by subst hS; exact fun z => (HQ.out.bi.below z.ok HQ.out.bi.lt).cell 0
                        have l11 : ∀ z : Sp S, z.w.cell? ⟨q, 1, none⟩ = some (.int .i64 s) := by subst hS; exact fun z => (HQ.out.bi.below z.ok HQ.out.bi.lt).cell 1
                        have ne : Nonempty (Sp S) := by subst hS; exact ⟨⟨_, HB0⟩⟩
                        have STEP := hide (show ∀ w w', S w → Below w.heap.size w w' → S w' by subst hS; exact fun _ _ h hb => kept_trans h hb)
                        have OLD := hide (show ∀ z : Sp S, Below wr.heap.size wr z.w by subst hS; exact fun z => z.ok)
                        clear HB0 hS
                        repeat (go_big_quiet_step ((first | (go_at_call 16; with_reducible exact sp_call STEP.out _ (HLI.out _)))))
                        refine wpQuiet_nil ?_
                        intro kk
                        have OK := hide (OLD.out kk)
                        generalize kk.w = wk at OK ⊢
                        clear l0 l1 l2 l3 l4 l5 l6 l7 l8 l9 l10 l11 ne OLD STEP
                        go_wp2
                        go_meet
                        exact ⟨false, rfl, hide (fun e => by cases e), HQ.out.below OK.out⟩
                      case false =>
                        as_aux_lemma =>
                        replace HFIN := hide (HFIN.out (by rw [htr, htg]; rfl))
                        refine wp_region_noPanic ?_
                        refine wp_region_U 55 (fun w' => Below W.heap.size W w' ∧ Row w' q 26 #[.int .i64 r, .int .i64 s]) (by kernel_rfl) ?_
                        have HD0 := hide (show Qh W wr.drew q r s c [u0, u1, u2, u3, u4, u5, u6] g b (noteL zeroX own) (.slice A1 own.length c1) own from HQ.out.below (kept_drewN (kept_refl wr) 1))
                        generalize World.drew _ = wd0 at HD0 ⊢
                        have HS0 := hide (show Below W.heap.size W wd0 ∧ Row wd0 q 26 #[.int .i64 r, .int .i64 s] from ⟨HD0.out.low, HD0.out.bi⟩)
                        refine anyU_pure (i := 0) (v := ?ov0t) (by simp only [List.getElem?_toArray, List.getElem?_cons_zero]; exact rfl) (by kernel_rfl) (by kernel_rfl) (fun _ _ _ h => h) (fun _ => by with_reducible exact HS0.out) (by kernel_rfl) (by kernel_rfl) (Or.inl ⟨by rfl, ?oy0t⟩) ?or0t
                        case oy0t => (intro w hSw; go_simp; try with_reducible rfl)
                        try simp only [Act.put, List.setIfInBounds_toArray, List.set_cons_zero, List.set_cons_succ]
                        refine anyU_pure (i := 1) (v := ?ov1t) (by simp only [List.getElem?_toArray, List.getElem?_cons_succ, List.getElem?_cons_zero]; exact rfl) (by kernel_rfl) (by kernel_rfl) (fun _ _ _ h => h) (fun _ => by with_reducible exact HS0.out) (by kernel_rfl) (by kernel_rfl) (Or.inl ⟨by rfl, ?oy1t⟩) ?or1t
                        case oy1t => (intro w hSw; go_simp; try with_reducible rfl)
                        try simp only [Act.put, List.setIfInBounds_toArray, List.set_cons_zero, List.set_cons_succ]
                        refine anyU_pure (i := 2) (v := ?ov2t) (by simp only [List.getElem?_toArray, List.getElem?_cons_succ, List.getElem?_cons_zero]; exact rfl) (by kernel_rfl) (by kernel_rfl) (fun _ _ _ h => h) (fun _ => by with_reducible exact HS0.out) (by kernel_rfl) (by kernel_rfl) (Or.inl ⟨by rfl, ?oy2t⟩) ?or2t
                        case oy2t => (intro w hSw; go_simp; try with_reducible rfl)
                        try simp only [Act.put, List.setIfInBounds_toArray, List.set_cons_zero, List.set_cons_succ]
                        refine anyU_pure (i := 3) (v := ?ov3t) (by simp only [List.getElem?_toArray, List.getElem?_cons_succ, List.getElem?_cons_zero]; exact rfl) (by kernel_rfl) (by kernel_rfl) (fun _ _ _ h => h) (fun _ => by with_reducible exact HS0.out) (by kernel_rfl) (by kernel_rfl) (Or.inl ⟨by rfl, ?oy3t⟩) ?or3t
                        case oy3t => (intro w hSw; go_simp; try with_reducible rfl)
                        try simp only [Act.put, List.setIfInBounds_toArray, List.set_cons_zero, List.set_cons_succ]
                        refine anyU_take2 (i := 4) (v := ?ov4t) (by simp only [List.getElem?_toArray, List.getElem?_cons_succ, List.getElem?_cons_zero]; exact rfl) (by kernel_rfl) 8 (by kernel_rfl) (by kernel_rfl) (fun _ _ _ h => h) (by kernel_rfl) (by kernel_rfl) (by kernel_rfl) (by kernel_rfl) (Or.inl ⟨by rfl, ?oy4t⟩) (by with_reducible exact HS0.out) ?or4t
                        case oy4t => (intro w hSw; have c4 := show w.cell? ⟨b0, off + j * 18 + 4, none⟩ = some (.int .i64 y.c.k) from HYA.out _ hSw.1 4 (by omega); have c5 := show w.cell? ⟨b0, off + j * 18 + 5, none⟩ = some (.int .i64 y.c.c) from HYA.out _ hSw.1 5 (by omega); have c6 := show w.cell? ⟨b0, off + j * 18 + 6, none⟩ = some (.int .i64 y.c.q) from HYA.out _ hSw.1 6 (by omega); have c7 := show w.cell? ⟨b0, off + j * 18 + 7, none⟩ = some (.string y.c.key) from HYA.out _ hSw.1 7 (by omega); have c8 := show w.cell? ⟨b0, off + j * 18 + 8, none⟩ = some (.string y.c.en) from HYA.out _ hSw.1 8 (by omega); have c9 := show w.cell? ⟨b0, off + j * 18 + 9, none⟩ = some (.string y.c.old) from HYA.out _ hSw.1 9 (by omega); have c10 := show w.cell? ⟨b0, off + j * 18 + 10, none⟩ = some (.string y.c.val) from HYA.out _ hSw.1 10 (by omega); go_simp; try with_reducible rfl)
                        try simp only [Act.put, List.setIfInBounds_toArray, List.set_cons_zero, List.set_cons_succ]
                        refine anyU_one (i := 5) (by kernel_rfl) (by simp only [List.getElem?_toArray, List.getElem?_cons_succ, List.getElem?_cons_zero]; exact rfl) (fun K hK => ?_)
                        try go_simp
                        refine (HLI.out _).mono ?_
                        rintro e wn ⟨rfl, hb⟩
                        have HD1 := hide (HD0.out.below hb)
                        clear hb
                        refine hK.out _ _ (fun e _ => (show Below W.heap.size W wn ∧ Row wn q 26 #[.int .i64 r, .int .i64 s] from ⟨HD1.out.low, HD1.out.bi⟩)) ?_
                        clear hK K
                        try simp only [Act.put, List.setIfInBounds_toArray, List.set_cons_zero, List.set_cons_succ]
                        have HS1 := hide (show Below W.heap.size W wn ∧ Row wn q 26 #[.int .i64 r, .int .i64 s] from ⟨HD1.out.low, HD1.out.bi⟩)
                        refine anyU_pure (i := 6) (v := ?ov6t) (by simp only [List.getElem?_toArray, List.getElem?_cons_succ, List.getElem?_cons_zero]; exact rfl) (by kernel_rfl) (by kernel_rfl) (fun _ _ _ h => h) (fun _ => by with_reducible exact HS1.out) (by kernel_rfl) (by kernel_rfl) (Or.inl ⟨by rfl, ?oy6t⟩) ?or6t
                        case oy6t => (intro w hSw; go_simp; try with_reducible rfl)
                        try simp only [Act.put, List.setIfInBounds_toArray, List.set_cons_zero, List.set_cons_succ]
                        refine anyU_pure (i := 7) (v := ?ov7t) (by simp only [List.getElem?_toArray, List.getElem?_cons_succ, List.getElem?_cons_zero]; exact rfl) (by kernel_rfl) (by kernel_rfl) (fun _ _ _ h => h) (fun _ => by with_reducible exact HS1.out) (by kernel_rfl) (by kernel_rfl) (Or.inl ⟨by rfl, ?oy7t⟩) ?or7t
                        case oy7t => (intro w hSw; go_simp; try with_reducible rfl)
                        try simp only [Act.put, List.setIfInBounds_toArray, List.set_cons_zero, List.set_cons_succ]
                        refine anyU_pure (i := 8) (v := ?ov8t) (by simp only [List.getElem?_toArray, List.getElem?_cons_succ, List.getElem?_cons_zero]; exact rfl) (by kernel_rfl) (by kernel_rfl) (fun _ _ _ h => h) (fun _ => by with_reducible exact HS1.out) (by kernel_rfl) (by kernel_rfl) (Or.inl ⟨by rfl, ?oy8t⟩) ?or8t
                        case oy8t => (intro w hSw; go_simp; try with_reducible rfl)
                        try simp only [Act.put, List.setIfInBounds_toArray, List.set_cons_zero, List.set_cons_succ]
                        refine anyU_pure (i := 9) (v := ?ov9t) (by simp only [List.getElem?_toArray, List.getElem?_cons_succ, List.getElem?_cons_zero]; exact rfl) (by kernel_rfl) (by kernel_rfl) (fun _ _ _ h => h) (fun _ => by with_reducible exact HS1.out) (by kernel_rfl) (by kernel_rfl) (Or.inl ⟨by rfl, ?oy9t⟩) ?or9t
                        case oy9t => (intro w hSw; go_simp; try with_reducible rfl)
                        try simp only [Act.put, List.setIfInBounds_toArray, List.set_cons_zero, List.set_cons_succ]
                        refine anyU_pure (i := 10) (v := ?ov10t) (by simp only [List.getElem?_toArray, List.getElem?_cons_succ, List.getElem?_cons_zero]; exact rfl) (by kernel_rfl) (by kernel_rfl) (fun _ _ _ h => h) (fun _ => by with_reducible exact HS1.out) (by kernel_rfl) (by kernel_rfl) (Or.inl ⟨by rfl, ?oy10t⟩) ?or10t
                        case oy10t => (intro w hSw; go_simp; try with_reducible rfl)
                        try simp only [Act.put, List.setIfInBounds_toArray, List.set_cons_zero, List.set_cons_succ]
                        refine anyU_take2 (i := 11) (v := ?ov11t) (by simp only [List.getElem?_toArray, List.getElem?_cons_succ, List.getElem?_cons_zero]; exact rfl) (by kernel_rfl) 8 (by kernel_rfl) (by kernel_rfl) (fun _ _ _ h => h) (by kernel_rfl) (by kernel_rfl) (by kernel_rfl) (by kernel_rfl) (Or.inl ⟨by rfl, ?oy11t⟩) (by with_reducible exact HS1.out) ?or11t
                        case oy11t => (intro w hSw; have c2 := show w.cell? ⟨b0, off + j * 18 + 2, none⟩ = some (.int .i64 y.r) from HYA.out _ hSw.1 2 (by omega); have c3 := show w.cell? ⟨b0, off + j * 18 + 3, none⟩ = some (.int .i64 y.s) from HYA.out _ hSw.1 3 (by omega); go_simp; try with_reducible rfl)
                        try simp only [Act.put, List.setIfInBounds_toArray, List.set_cons_zero, List.set_cons_succ]
                        refine anyU_take2 (i := 12) (v := ?ov12t) (by simp only [List.getElem?_toArray, List.getElem?_cons_succ, List.getElem?_cons_zero]; exact rfl) (by kernel_rfl) 8 (by kernel_rfl) (by kernel_rfl) (fun _ _ _ h => h) (by kernel_rfl) (by kernel_rfl) (by kernel_rfl) (by kernel_rfl) (Or.inl ⟨by rfl, ?oy12t⟩) (by with_reducible exact HS1.out) ?or12t
                        case oy12t => (intro w hSw; have d0 := show w.cell? ⟨q, 0, none⟩ = some (.int .i64 r) from Row.cell hSw.2 0; have d1 := show w.cell? ⟨q, 1, none⟩ = some (.int .i64 s) from Row.cell hSw.2 1; go_simp; try with_reducible rfl)
                        try simp only [Act.put, List.setIfInBounds_toArray, List.set_cons_zero, List.set_cons_succ]
                        refine anyU_pure (i := 13) (v := ?ov13t) (by simp only [List.getElem?_toArray, List.getElem?_cons_succ, List.getElem?_cons_zero]; exact rfl) (by kernel_rfl) (by kernel_rfl) (fun _ _ _ h => h) (fun _ => by with_reducible exact HS1.out) (by kernel_rfl) (by kernel_rfl) (Or.inl ⟨by rfl, ?oy13t⟩) ?or13t
                        case oy13t => (intro w hSw; go_simp; try with_reducible rfl)
                        try simp only [Act.put, List.setIfInBounds_toArray, List.set_cons_zero, List.set_cons_succ]
                        refine anyU_pure (i := 14) (v := ?ov14t) (by simp only [List.getElem?_toArray, List.getElem?_cons_succ, List.getElem?_cons_zero]; exact rfl) (by kernel_rfl) (by kernel_rfl) (fun _ _ _ h => h) (fun _ => by with_reducible exact HS1.out) (by kernel_rfl) (by kernel_rfl) (Or.inl ⟨by rfl, ?oy14t⟩) ?or14t
                        case oy14t => (intro w hSw; go_simp; try with_reducible rfl)
                        try simp only [Act.put, List.setIfInBounds_toArray, List.set_cons_zero, List.set_cons_succ]
                        refine anyU_pure (i := 15) (v := ?ov15t) (by simp only [List.getElem?_toArray, List.getElem?_cons_succ, List.getElem?_cons_zero]; exact rfl) (by kernel_rfl) (by kernel_rfl) (fun _ _ _ h => h) (fun _ => by with_reducible exact HS1.out) (by kernel_rfl) (by kernel_rfl) (Or.inl ⟨by rfl, ?oy15t⟩) ?or15t
                        case oy15t => (intro w hSw; go_simp; try with_reducible rfl)
                        try simp only [Act.put, List.setIfInBounds_toArray, List.set_cons_zero, List.set_cons_succ]
                        refine anyU_pure (i := 16) (v := ?ov16t) (by simp only [List.getElem?_toArray, List.getElem?_cons_succ, List.getElem?_cons_zero]; exact rfl) (by kernel_rfl) (by kernel_rfl) (fun _ _ _ h => h) (fun _ => by with_reducible exact HS1.out) (by kernel_rfl) (by kernel_rfl) (Or.inl ⟨by rfl, ?oy16t⟩) ?or16t
                        case oy16t => (intro w hSw; go_simp; try with_reducible rfl)
                        try simp only [Act.put, List.setIfInBounds_toArray, List.set_cons_zero, List.set_cons_succ]
                        refine anyU_pure (i := 17) (v := ?ov17t) (by simp only [List.getElem?_toArray, List.getElem?_cons_succ, List.getElem?_cons_zero]; exact rfl) (by kernel_rfl) (by kernel_rfl) (fun _ _ _ h => h) (fun _ => by with_reducible exact HS1.out) (by kernel_rfl) (by kernel_rfl) (Or.inl ⟨by rfl, ?oy17t⟩) ?or17t
                        case oy17t => (intro w hSw; go_simp; try with_reducible rfl)
                        try simp only [Act.put, List.setIfInBounds_toArray, List.set_cons_zero, List.set_cons_succ]
                        refine anyU_pure (i := 18) (v := ?ov18t) (by simp only [List.getElem?_toArray, List.getElem?_cons_succ, List.getElem?_cons_zero]; exact rfl) (by kernel_rfl) (by kernel_rfl) (fun _ _ _ h => h) (fun _ => by with_reducible exact HS1.out) (by kernel_rfl) (by kernel_rfl) (Or.inl ⟨by rfl, ?oy18t⟩) ?or18t
                        case oy18t => (intro w hSw; go_simp; try with_reducible rfl)
                        try simp only [Act.put, List.setIfInBounds_toArray, List.set_cons_zero, List.set_cons_succ]
                        refine anyU_pure (i := 19) (v := ?ov19t) (by simp only [List.getElem?_toArray, List.getElem?_cons_succ, List.getElem?_cons_zero]; exact rfl) (by kernel_rfl) (by kernel_rfl) (fun _ _ _ h => h) (fun _ => by with_reducible exact HS1.out) (by kernel_rfl) (by kernel_rfl) (Or.inl ⟨by rfl, ?oy19t⟩) ?or19t
                        case oy19t => (intro w hSw; go_simp; try with_reducible rfl)
                        try simp only [Act.put, List.setIfInBounds_toArray, List.set_cons_zero, List.set_cons_succ]
                        refine anyU_pure (i := 20) (v := ?ov20t) (by simp only [List.getElem?_toArray, List.getElem?_cons_succ, List.getElem?_cons_zero]; exact rfl) (by kernel_rfl) (by kernel_rfl) (fun _ _ _ h => h) (fun _ => by with_reducible exact HS1.out) (by kernel_rfl) (by kernel_rfl) (Or.inl ⟨by rfl, ?oy20t⟩) ?or20t
                        case oy20t => (intro w hSw; go_simp; try with_reducible rfl)
                        try simp only [Act.put, List.setIfInBounds_toArray, List.set_cons_zero, List.set_cons_succ]
                        refine anyU_take2 (i := 21) (v := ?ov21t) (by simp only [List.getElem?_toArray, List.getElem?_cons_succ, List.getElem?_cons_zero]; exact rfl) (by kernel_rfl) 8 (by kernel_rfl) (by kernel_rfl) (fun _ _ _ h => h) (by kernel_rfl) (by kernel_rfl) (by kernel_rfl) (by kernel_rfl) (Or.inl ⟨by rfl, ?oy21t⟩) (by with_reducible exact HS1.out) ?or21t
                        case oy21t => (intro w hSw; have c2 := show w.cell? ⟨b0, off + j * 18 + 2, none⟩ = some (.int .i64 y.r) from HYA.out _ hSw.1 2 (by omega); go_simp; try with_reducible rfl)
                        try simp only [Act.put, List.setIfInBounds_toArray, List.set_cons_zero, List.set_cons_succ]
                        refine anyU_pure (i := 22) (v := ?ov22t) (by simp only [List.getElem?_toArray, List.getElem?_cons_succ, List.getElem?_cons_zero]; exact rfl) (by kernel_rfl) (by kernel_rfl) (fun _ _ _ h => h) (fun _ => by with_reducible exact HS1.out) (by kernel_rfl) (by kernel_rfl) (Or.inl ⟨by rfl, ?oy22t⟩) ?or22t
                        case oy22t => (intro w hSw; go_simp; try with_reducible rfl)
                        try simp only [Act.put, List.setIfInBounds_toArray, List.set_cons_zero, List.set_cons_succ]
                        refine anyU_take2 (i := 23) (v := ?ov23t) (by simp only [List.getElem?_toArray, List.getElem?_cons_succ, List.getElem?_cons_zero]; exact rfl) (by kernel_rfl) 8 (by kernel_rfl) (by kernel_rfl) (fun _ _ _ h => h) (by kernel_rfl) (by kernel_rfl) (by kernel_rfl) (by kernel_rfl) (Or.inl ⟨by rfl, ?oy23t⟩) (by with_reducible exact HS1.out) ?or23t
                        case oy23t => (intro w hSw; have d0 := show w.cell? ⟨q, 0, none⟩ = some (.int .i64 r) from Row.cell hSw.2 0; go_simp; try with_reducible rfl)
                        try simp only [Act.put, List.setIfInBounds_toArray, List.set_cons_zero, List.set_cons_succ]
                        refine anyU_pure (i := 24) (v := ?ov24t) (by simp only [List.getElem?_toArray, List.getElem?_cons_succ, List.getElem?_cons_zero]; exact rfl) (by kernel_rfl) (by kernel_rfl) (fun _ _ _ h => h) (fun _ => by with_reducible exact HS1.out) (by kernel_rfl) (by kernel_rfl) (Or.inl ⟨by rfl, ?oy24t⟩) ?or24t
                        case oy24t => (intro w hSw; go_simp; try with_reducible rfl)
                        try simp only [Act.put, List.setIfInBounds_toArray, List.set_cons_zero, List.set_cons_succ]
                        refine anyU_pure (i := 25) (v := ?ov25t) (by simp only [List.getElem?_toArray, List.getElem?_cons_succ, List.getElem?_cons_zero]; exact rfl) (by kernel_rfl) (by kernel_rfl) (fun _ _ _ h => h) (fun _ => by with_reducible exact HS1.out) (by kernel_rfl) (by kernel_rfl) (Or.inl ⟨by rfl, ?oy25t⟩) ?or25t
                        case oy25t => (intro w hSw; go_simp; try with_reducible rfl)
                        try simp only [Act.put, List.setIfInBounds_toArray, List.set_cons_zero, List.set_cons_succ]
                        refine anyU_pure (i := 26) (v := ?ov26t) (by simp only [List.getElem?_toArray, List.getElem?_cons_succ, List.getElem?_cons_zero]; exact rfl) (by kernel_rfl) (by kernel_rfl) (fun _ _ _ h => h) (fun _ => by with_reducible exact HS1.out) (by kernel_rfl) (by kernel_rfl) (Or.inl ⟨by rfl, ?oy26t⟩) ?or26t
                        case oy26t => (intro w hSw; go_simp; try with_reducible rfl)
                        try simp only [Act.put, List.setIfInBounds_toArray, List.set_cons_zero, List.set_cons_succ]
                        refine anyU_pure (i := 27) (v := ?ov27t) (by simp only [List.getElem?_toArray, List.getElem?_cons_succ, List.getElem?_cons_zero]; exact rfl) (by kernel_rfl) (by kernel_rfl) (fun _ _ _ h => h) (fun _ => by with_reducible exact HS1.out) (by kernel_rfl) (by kernel_rfl) (Or.inl ⟨by rfl, ?oy27t⟩) ?or27t
                        case oy27t => (intro w hSw; go_simp; try with_reducible rfl)
                        try simp only [Act.put, List.setIfInBounds_toArray, List.set_cons_zero, List.set_cons_succ]
                        refine anyU_pure (i := 28) (v := ?ov28t) (by simp only [List.getElem?_toArray, List.getElem?_cons_succ, List.getElem?_cons_zero]; exact rfl) (by kernel_rfl) (by kernel_rfl) (fun _ _ _ h => h) (fun _ => by with_reducible exact HS1.out) (by kernel_rfl) (by kernel_rfl) (Or.inl ⟨by rfl, ?oy28t⟩) ?or28t
                        case oy28t => (intro w hSw; go_simp; try with_reducible rfl)
                        try simp only [Act.put, List.setIfInBounds_toArray, List.set_cons_zero, List.set_cons_succ]
                        refine anyU_pure (i := 29) (v := ?ov29t) (by simp only [List.getElem?_toArray, List.getElem?_cons_succ, List.getElem?_cons_zero]; exact rfl) (by kernel_rfl) (by kernel_rfl) (fun _ _ _ h => h) (fun _ => by with_reducible exact HS1.out) (by kernel_rfl) (by kernel_rfl) (Or.inl ⟨by rfl, ?oy29t⟩) ?or29t
                        case oy29t => (intro w hSw; go_simp; try with_reducible rfl)
                        try simp only [Act.put, List.setIfInBounds_toArray, List.set_cons_zero, List.set_cons_succ]
                        refine anyU_pure (i := 30) (v := ?ov30t) (by simp only [List.getElem?_toArray, List.getElem?_cons_succ, List.getElem?_cons_zero]; exact rfl) (by kernel_rfl) (by kernel_rfl) (fun _ _ _ h => h) (fun _ => by with_reducible exact HS1.out) (by kernel_rfl) (by kernel_rfl) (Or.inl ⟨by rfl, ?oy30t⟩) ?or30t
                        case oy30t => (intro w hSw; go_simp; try with_reducible rfl)
                        try simp only [Act.put, List.setIfInBounds_toArray, List.set_cons_zero, List.set_cons_succ]
                        refine anyU_take2 (i := 31) (v := ?ov31t) (by simp only [List.getElem?_toArray, List.getElem?_cons_succ, List.getElem?_cons_zero]; exact rfl) (by kernel_rfl) 8 (by kernel_rfl) (by kernel_rfl) (fun _ _ _ h => h) (by kernel_rfl) (by kernel_rfl) (by kernel_rfl) (by kernel_rfl) (Or.inl ⟨by rfl, ?oy31t⟩) (by with_reducible exact HS1.out) ?or31t
                        case oy31t => (intro w hSw; have c3 := show w.cell? ⟨b0, off + j * 18 + 3, none⟩ = some (.int .i64 y.s) from HYA.out _ hSw.1 3 (by omega); go_simp; try with_reducible rfl)
                        try simp only [Act.put, List.setIfInBounds_toArray, List.set_cons_zero, List.set_cons_succ]
                        refine anyU_pure (i := 32) (v := ?ov32t) (by simp only [List.getElem?_toArray, List.getElem?_cons_succ, List.getElem?_cons_zero]; exact rfl) (by kernel_rfl) (by kernel_rfl) (fun _ _ _ h => h) (fun _ => by with_reducible exact HS1.out) (by kernel_rfl) (by kernel_rfl) (Or.inl ⟨by rfl, ?oy32t⟩) ?or32t
                        case oy32t => (intro w hSw; go_simp; try with_reducible rfl)
                        try simp only [Act.put, List.setIfInBounds_toArray, List.set_cons_zero, List.set_cons_succ]
                        refine anyU_take2 (i := 33) (v := ?ov33t) (by simp only [List.getElem?_toArray, List.getElem?_cons_succ, List.getElem?_cons_zero]; exact rfl) (by kernel_rfl) 8 (by kernel_rfl) (by kernel_rfl) (fun _ _ _ h => h) (by kernel_rfl) (by kernel_rfl) (by kernel_rfl) (by kernel_rfl) (Or.inl ⟨by rfl, ?oy33t⟩) (by with_reducible exact HS1.out) ?or33t
                        case oy33t => (intro w hSw; have d1 := show w.cell? ⟨q, 1, none⟩ = some (.int .i64 s) from Row.cell hSw.2 1; go_simp; try with_reducible rfl)
                        try simp only [Act.put, List.setIfInBounds_toArray, List.set_cons_zero, List.set_cons_succ]
                        refine anyU_pure (i := 34) (v := ?ov34t) (by simp only [List.getElem?_toArray, List.getElem?_cons_succ, List.getElem?_cons_zero]; exact rfl) (by kernel_rfl) (by kernel_rfl) (fun _ _ _ h => h) (fun _ => by with_reducible exact HS1.out) (by kernel_rfl) (by kernel_rfl) (Or.inl ⟨by rfl, ?oy34t⟩) ?or34t
                        case oy34t => (intro w hSw; go_simp; try with_reducible rfl)
                        try simp only [Act.put, List.setIfInBounds_toArray, List.set_cons_zero, List.set_cons_succ]
                        refine anyU_pure (i := 35) (v := ?ov35t) (by simp only [List.getElem?_toArray, List.getElem?_cons_succ, List.getElem?_cons_zero]; exact rfl) (by kernel_rfl) (by kernel_rfl) (fun _ _ _ h => h) (fun _ => by with_reducible exact HS1.out) (by kernel_rfl) (by kernel_rfl) (Or.inl ⟨by rfl, ?oy35t⟩) ?or35t
                        case oy35t => (intro w hSw; go_simp; try with_reducible rfl)
                        try simp only [Act.put, List.setIfInBounds_toArray, List.set_cons_zero, List.set_cons_succ]
                        refine anyU_pure (i := 36) (v := ?ov36t) (by simp only [List.getElem?_toArray, List.getElem?_cons_succ, List.getElem?_cons_zero]; exact rfl) (by kernel_rfl) (by kernel_rfl) (fun _ _ _ h => h) (fun _ => by with_reducible exact HS1.out) (by kernel_rfl) (by kernel_rfl) (Or.inl ⟨by rfl, ?oy36t⟩) ?or36t
                        case oy36t => (intro w hSw; go_simp; try with_reducible rfl)
                        try simp only [Act.put, List.setIfInBounds_toArray, List.set_cons_zero, List.set_cons_succ]
                        refine anyU_pure (i := 37) (v := ?ov37t) (by simp only [List.getElem?_toArray, List.getElem?_cons_succ, List.getElem?_cons_zero]; exact rfl) (by kernel_rfl) (by kernel_rfl) (fun _ _ _ h => h) (fun _ => by with_reducible exact HS1.out) (by kernel_rfl) (by kernel_rfl) (Or.inl ⟨by rfl, ?oy37t⟩) ?or37t
                        case oy37t => (intro w hSw; go_simp; try with_reducible rfl)
                        try simp only [Act.put, List.setIfInBounds_toArray, List.set_cons_zero, List.set_cons_succ]
                        refine anyU_pure (i := 38) (v := ?ov38t) (by simp only [List.getElem?_toArray, List.getElem?_cons_succ, List.getElem?_cons_zero]; exact rfl) (by kernel_rfl) (by kernel_rfl) (fun _ _ _ h => h) (fun _ => by with_reducible exact HS1.out) (by kernel_rfl) (by kernel_rfl) (Or.inl ⟨by rfl, ?oy38t⟩) ?or38t
                        case oy38t => (intro w hSw; go_simp; try with_reducible rfl)
                        try simp only [Act.put, List.setIfInBounds_toArray, List.set_cons_zero, List.set_cons_succ]
                        refine anyU_pure (i := 39) (v := ?ov39t) (by simp only [List.getElem?_toArray, List.getElem?_cons_succ, List.getElem?_cons_zero]; exact rfl) (by kernel_rfl) (by kernel_rfl) (fun _ _ _ h => h) (fun _ => by with_reducible exact HS1.out) (by kernel_rfl) (by kernel_rfl) (Or.inl ⟨by rfl, ?oy39t⟩) ?or39t
                        case oy39t => (intro w hSw; go_simp; try with_reducible rfl)
                        try simp only [Act.put, List.setIfInBounds_toArray, List.set_cons_zero, List.set_cons_succ]
                        refine anyU_pure (i := 40) (v := ?ov40t) (by simp only [List.getElem?_toArray, List.getElem?_cons_succ, List.getElem?_cons_zero]; exact rfl) (by kernel_rfl) (by kernel_rfl) (fun _ _ _ h => h) (fun _ => by with_reducible exact HS1.out) (by kernel_rfl) (by kernel_rfl) (Or.inl ⟨by rfl, ?oy40t⟩) ?or40t
                        case oy40t => (intro w hSw; go_simp; try with_reducible rfl)
                        try simp only [Act.put, List.setIfInBounds_toArray, List.set_cons_zero, List.set_cons_succ]
                        refine anyU_pure (i := 41) (v := ?ov41t) (by simp only [List.getElem?_toArray, List.getElem?_cons_succ, List.getElem?_cons_zero]; exact rfl) (by kernel_rfl) (by kernel_rfl) (fun _ _ _ h => h) (fun _ => by with_reducible exact HS1.out) (by kernel_rfl) (by kernel_rfl) (Or.inl ⟨by rfl, ?oy41t⟩) ?or41t
                        case oy41t => (intro w hSw; go_simp; try with_reducible rfl)
                        try simp only [Act.put, List.setIfInBounds_toArray, List.set_cons_zero, List.set_cons_succ]
                        refine anyU_pure (i := 42) (v := ?ov42t) (by simp only [List.getElem?_toArray, List.getElem?_cons_succ, List.getElem?_cons_zero]; exact rfl) (by kernel_rfl) (by kernel_rfl) (fun _ _ _ h => h) (fun _ => by with_reducible exact HS1.out) (by kernel_rfl) (by kernel_rfl) (Or.inl ⟨by rfl, ?oy42t⟩) ?or42t
                        case oy42t => (intro w hSw; go_simp; try with_reducible rfl)
                        try simp only [Act.put, List.setIfInBounds_toArray, List.set_cons_zero, List.set_cons_succ]
                        refine anyU_pure (i := 43) (v := ?ov43t) (by simp only [List.getElem?_toArray, List.getElem?_cons_succ, List.getElem?_cons_zero]; exact rfl) (by kernel_rfl) (by kernel_rfl) (fun _ _ _ h => h) (fun _ => by with_reducible exact HS1.out) (by kernel_rfl) (by kernel_rfl) (Or.inl ⟨by rfl, ?oy43t⟩) ?or43t
                        case oy43t => (intro w hSw; go_simp; try with_reducible rfl)
                        try simp only [Act.put, List.setIfInBounds_toArray, List.set_cons_zero, List.set_cons_succ]
                        refine anyU_take2 (i := 44) (v := ?ov44t) (by simp only [List.getElem?_toArray, List.getElem?_cons_succ, List.getElem?_cons_zero]; exact rfl) (by kernel_rfl) 8 (by kernel_rfl) (by kernel_rfl) (fun _ _ _ h => h) (by kernel_rfl) (by kernel_rfl) (by kernel_rfl) (by kernel_rfl) (Or.inl ⟨by rfl, ?oy44t⟩) (by with_reducible exact HS1.out) ?or44t
                        case oy44t => (intro w hSw; have c2 := show w.cell? ⟨b0, off + j * 18 + 2, none⟩ = some (.int .i64 y.r) from HYA.out _ hSw.1 2 (by omega); have c3 := show w.cell? ⟨b0, off + j * 18 + 3, none⟩ = some (.int .i64 y.s) from HYA.out _ hSw.1 3 (by omega); go_simp; try with_reducible rfl)
                        try simp only [Act.put, List.setIfInBounds_toArray, List.set_cons_zero, List.set_cons_succ]
                        refine anyU_pure (i := 45) (v := ?ov45t) (by simp only [List.getElem?_toArray, List.getElem?_cons_succ, List.getElem?_cons_zero]; exact rfl) (by kernel_rfl) (by kernel_rfl) (fun _ _ _ h => h) (fun _ => by with_reducible exact HS1.out) (by kernel_rfl) (by kernel_rfl) (Or.inl ⟨by rfl, ?oy45t⟩) ?or45t
                        case oy45t => (intro w hSw; go_simp; try with_reducible rfl)
                        try simp only [Act.put, List.setIfInBounds_toArray, List.set_cons_zero, List.set_cons_succ]
                        refine anyU_pure (i := 46) (v := ?ov46t) (by simp only [List.getElem?_toArray, List.getElem?_cons_succ, List.getElem?_cons_zero]; exact rfl) (by kernel_rfl) (by kernel_rfl) (fun _ _ _ h => h) (fun _ => by with_reducible exact HS1.out) (by kernel_rfl) (by kernel_rfl) (Or.inl ⟨by rfl, ?oy46t⟩) ?or46t
                        case oy46t => (intro w hSw; go_simp; try with_reducible rfl)
                        try simp only [Act.put, List.setIfInBounds_toArray, List.set_cons_zero, List.set_cons_succ]
                        refine anyU_pure (i := 47) (v := ?ov47t) (by simp only [List.getElem?_toArray, List.getElem?_cons_succ, List.getElem?_cons_zero]; exact rfl) (by kernel_rfl) (by kernel_rfl) (fun _ _ _ h => h) (fun _ => by with_reducible exact HS1.out) (by kernel_rfl) (by kernel_rfl) (Or.inl ⟨by rfl, ?oy47t⟩) ?or47t
                        case oy47t => (intro w hSw; go_simp; try with_reducible rfl)
                        try simp only [Act.put, List.setIfInBounds_toArray, List.set_cons_zero, List.set_cons_succ]
                        refine anyU_pure (i := 48) (v := ?ov48t) (by simp only [List.getElem?_toArray, List.getElem?_cons_succ, List.getElem?_cons_zero]; exact rfl) (by kernel_rfl) (by kernel_rfl) (fun _ _ _ h => h) (fun _ => by with_reducible exact HS1.out) (by kernel_rfl) (by kernel_rfl) (Or.inl ⟨by rfl, ?oy48t⟩) ?or48t
                        case oy48t => (intro w hSw; go_simp; try with_reducible rfl)
                        try simp only [Act.put, List.setIfInBounds_toArray, List.set_cons_zero, List.set_cons_succ]
                        refine anyU_take2 (i := 49) (v := ?ov49t) (by simp only [List.getElem?_toArray, List.getElem?_cons_succ, List.getElem?_cons_zero]; exact rfl) (by kernel_rfl) 8 (by kernel_rfl) (by kernel_rfl) (fun _ _ _ h => h) (by kernel_rfl) (by kernel_rfl) (by kernel_rfl) (by kernel_rfl) (Or.inl ⟨by rfl, ?oy49t⟩) (by with_reducible exact HS1.out) ?or49t
                        case oy49t => (intro w hSw; have c4 := show w.cell? ⟨b0, off + j * 18 + 4, none⟩ = some (.int .i64 y.c.k) from HYA.out _ hSw.1 4 (by omega); have c5 := show w.cell? ⟨b0, off + j * 18 + 5, none⟩ = some (.int .i64 y.c.c) from HYA.out _ hSw.1 5 (by omega); have c6 := show w.cell? ⟨b0, off + j * 18 + 6, none⟩ = some (.int .i64 y.c.q) from HYA.out _ hSw.1 6 (by omega); have c7 := show w.cell? ⟨b0, off + j * 18 + 7, none⟩ = some (.string y.c.key) from HYA.out _ hSw.1 7 (by omega); have c8 := show w.cell? ⟨b0, off + j * 18 + 8, none⟩ = some (.string y.c.en) from HYA.out _ hSw.1 8 (by omega); have c9 := show w.cell? ⟨b0, off + j * 18 + 9, none⟩ = some (.string y.c.old) from HYA.out _ hSw.1 9 (by omega); have c10 := show w.cell? ⟨b0, off + j * 18 + 10, none⟩ = some (.string y.c.val) from HYA.out _ hSw.1 10 (by omega); go_simp; try with_reducible rfl)
                        try simp only [Act.put, List.setIfInBounds_toArray, List.set_cons_zero, List.set_cons_succ]
                        refine anyU_pure (i := 50) (v := ?ov50t) (by simp only [List.getElem?_toArray, List.getElem?_cons_succ, List.getElem?_cons_zero]; exact rfl) (by kernel_rfl) (by kernel_rfl) (fun _ _ _ h => h) (fun _ => by with_reducible exact HS1.out) (by kernel_rfl) (by kernel_rfl) (Or.inl ⟨by rfl, ?oy50t⟩) ?or50t
                        case oy50t => (intro w hSw; go_simp; try with_reducible rfl)
                        try simp only [Act.put, List.setIfInBounds_toArray, List.set_cons_zero, List.set_cons_succ]
                        refine anyU_pure (i := 51) (v := ?ov51t) (by simp only [List.getElem?_toArray, List.getElem?_cons_succ, List.getElem?_cons_zero]; exact rfl) (by kernel_rfl) (by kernel_rfl) (fun _ _ _ h => h) (fun _ => by with_reducible exact HS1.out) (by kernel_rfl) (by kernel_rfl) (Or.inl ⟨by rfl, ?oy51t⟩) ?or51t
                        case oy51t => (intro w hSw; go_simp; try with_reducible rfl)
                        try simp only [Act.put, List.setIfInBounds_toArray, List.set_cons_zero, List.set_cons_succ]
                        refine anyU_pure (i := 52) (v := ?ov52t) (by simp only [List.getElem?_toArray, List.getElem?_cons_succ, List.getElem?_cons_zero]; exact rfl) (by kernel_rfl) (by kernel_rfl) (fun _ _ _ h => h) (fun _ => by with_reducible exact HS1.out) (by kernel_rfl) (by kernel_rfl) (Or.inl ⟨by rfl, ?oy52t⟩) ?or52t
                        case oy52t => (intro w hSw; go_simp; try with_reducible rfl)
                        try simp only [Act.put, List.setIfInBounds_toArray, List.set_cons_zero, List.set_cons_succ]
                        refine anyU_pure (i := 53) (v := ?ov53t) (by simp only [List.getElem?_toArray, List.getElem?_cons_succ, List.getElem?_cons_zero]; exact rfl) (by kernel_rfl) (by kernel_rfl) (fun _ _ _ h => h) (fun _ => by with_reducible exact HS1.out) (by kernel_rfl) (by kernel_rfl) (Or.inl ⟨by rfl, ?oy53t⟩) ?or53t
                        case oy53t => (intro w hSw; go_simp; try with_reducible rfl)
                        try simp only [Act.put, List.setIfInBounds_toArray, List.set_cons_zero, List.set_cons_succ]
                        refine anyU_take2 (i := 54) (v := ?ov54t) (by simp only [List.getElem?_toArray, List.getElem?_cons_succ, List.getElem?_cons_zero]; exact rfl) (by kernel_rfl) 8 (by kernel_rfl) (by kernel_rfl) (fun _ _ _ h => h) (by kernel_rfl) (by kernel_rfl) (by kernel_rfl) (by kernel_rfl) (Or.inl ⟨by rfl, ?oy54t⟩) (by with_reducible exact HS1.out) ?or54t
                        case oy54t => (intro w hSw; have c1 := show w.cell? ⟨b0, off + j * 18 + 1, none⟩ = some (.int .i64 y.q) from HYA.out _ hSw.1 1 (by omega); go_simp; try with_reducible rfl)
                        try simp only [Act.put, List.setIfInBounds_toArray, List.set_cons_zero, List.set_cons_succ]
                        refine anyU_one (i := 55) (by kernel_rfl) (by simp only [List.getElem?_toArray, List.getElem?_cons_succ, List.getElem?_cons_zero]; exact rfl) (fun K hK => ?_)
                        try go_simp
                        refine (HNT.out _ HD1.out).mono ?_
                        rintro e wm ⟨rfl, hk⟩
                        have HD2 := hide hk
                        clear hk
                        refine hK.out _ _ (fun e _ => absurd rfl e) ?_
                        clear hK K
                        try simp only [Act.put, List.setIfInBounds_toArray, List.set_cons_zero, List.set_cons_succ]
                        refine anyU_one (i := 56) (by kernel_rfl) (by simp only [List.getElem?_toArray, List.getElem?_cons_succ, List.getElem?_cons_zero]; exact rfl) (fun K hK => ?_)
                        try go_simp
                        refine hK.out _ _ (fun _ l => absurd (l.symm.trans (show _ = true by kernel_rfl)) (by decide)) ?_
                        clear hK K
                        try simp only [Act.put, List.setIfInBounds_toArray, List.set_cons_zero, List.set_cons_succ]
                        refine anyU_done (by kernel_rfl) ?_
                        refine NoPanic.normal ?_
                        try simp only [Act.put]
                        go_wp2
                        go_meet
                        exact HFIN.out _ HD2.out
                    case false =>
                      as_aux_lemma =>
                      replace HFIN := hide (HFIN.out (by rw [htr]; rfl))
                      refine wp_region_noPanic ?_
                      refine wp_region_U 55 (fun w' => Below W.heap.size W w' ∧ Row w' q 26 #[.int .i64 r, .int .i64 s]) (by kernel_rfl) ?_
                      have HD0 := hide (show Qh W wr.drew q r s c [u0, u1, u2, u3, u4, u5, u6] g b (noteL zeroX own) (.slice A1 own.length c1) own from HQ.out.below (kept_drewN (kept_refl wr) 1))
                      generalize World.drew _ = wd0 at HD0 ⊢
                      have HS0 := hide (show Below W.heap.size W wd0 ∧ Row wd0 q 26 #[.int .i64 r, .int .i64 s] from ⟨HD0.out.low, HD0.out.bi⟩)
                      refine anyU_pure (i := 0) (v := ?ov0f) (by simp only [List.getElem?_toArray, List.getElem?_cons_zero]; exact rfl) (by kernel_rfl) (by kernel_rfl) (fun _ _ _ h => h) (fun _ => by with_reducible exact HS0.out) (by kernel_rfl) (by kernel_rfl) (Or.inl ⟨by rfl, ?oy0f⟩) ?or0f
                      case oy0f => (intro w hSw; go_simp; try with_reducible rfl)
                      try simp only [Act.put, List.setIfInBounds_toArray, List.set_cons_zero, List.set_cons_succ]
                      refine anyU_pure (i := 1) (v := ?ov1f) (by simp only [List.getElem?_toArray, List.getElem?_cons_succ, List.getElem?_cons_zero]; exact rfl) (by kernel_rfl) (by kernel_rfl) (fun _ _ _ h => h) (fun _ => by with_reducible exact HS0.out) (by kernel_rfl) (by kernel_rfl) (Or.inl ⟨by rfl, ?oy1f⟩) ?or1f
                      case oy1f => (intro w hSw; go_simp; try with_reducible rfl)
                      try simp only [Act.put, List.setIfInBounds_toArray, List.set_cons_zero, List.set_cons_succ]
                      refine anyU_pure (i := 2) (v := ?ov2f) (by simp only [List.getElem?_toArray, List.getElem?_cons_succ, List.getElem?_cons_zero]; exact rfl) (by kernel_rfl) (by kernel_rfl) (fun _ _ _ h => h) (fun _ => by with_reducible exact HS0.out) (by kernel_rfl) (by kernel_rfl) (Or.inl ⟨by rfl, ?oy2f⟩) ?or2f
                      case oy2f => (intro w hSw; go_simp; try with_reducible rfl)
                      try simp only [Act.put, List.setIfInBounds_toArray, List.set_cons_zero, List.set_cons_succ]
                      refine anyU_pure (i := 3) (v := ?ov3f) (by simp only [List.getElem?_toArray, List.getElem?_cons_succ, List.getElem?_cons_zero]; exact rfl) (by kernel_rfl) (by kernel_rfl) (fun _ _ _ h => h) (fun _ => by with_reducible exact HS0.out) (by kernel_rfl) (by kernel_rfl) (Or.inl ⟨by rfl, ?oy3f⟩) ?or3f
                      case oy3f => (intro w hSw; go_simp; try with_reducible rfl)
                      try simp only [Act.put, List.setIfInBounds_toArray, List.set_cons_zero, List.set_cons_succ]
                      refine anyU_take2 (i := 4) (v := ?ov4f) (by simp only [List.getElem?_toArray, List.getElem?_cons_succ, List.getElem?_cons_zero]; exact rfl) (by kernel_rfl) 8 (by kernel_rfl) (by kernel_rfl) (fun _ _ _ h => h) (by kernel_rfl) (by kernel_rfl) (by kernel_rfl) (by kernel_rfl) (Or.inl ⟨by rfl, ?oy4f⟩) (by with_reducible exact HS0.out) ?or4f
                      case oy4f => (intro w hSw; have c4 := show w.cell? ⟨b0, off + j * 18 + 4, none⟩ = some (.int .i64 y.c.k) from HYA.out _ hSw.1 4 (by omega); have c5 := show w.cell? ⟨b0, off + j * 18 + 5, none⟩ = some (.int .i64 y.c.c) from HYA.out _ hSw.1 5 (by omega); have c6 := show w.cell? ⟨b0, off + j * 18 + 6, none⟩ = some (.int .i64 y.c.q) from HYA.out _ hSw.1 6 (by omega); have c7 := show w.cell? ⟨b0, off + j * 18 + 7, none⟩ = some (.string y.c.key) from HYA.out _ hSw.1 7 (by omega); have c8 := show w.cell? ⟨b0, off + j * 18 + 8, none⟩ = some (.string y.c.en) from HYA.out _ hSw.1 8 (by omega); have c9 := show w.cell? ⟨b0, off + j * 18 + 9, none⟩ = some (.string y.c.old) from HYA.out _ hSw.1 9 (by omega); have c10 := show w.cell? ⟨b0, off + j * 18 + 10, none⟩ = some (.string y.c.val) from HYA.out _ hSw.1 10 (by omega); go_simp; try with_reducible rfl)
                      try simp only [Act.put, List.setIfInBounds_toArray, List.set_cons_zero, List.set_cons_succ]
                      refine anyU_one (i := 5) (by kernel_rfl) (by simp only [List.getElem?_toArray, List.getElem?_cons_succ, List.getElem?_cons_zero]; exact rfl) (fun K hK => ?_)
                      try go_simp
                      refine (HLI.out _).mono ?_
                      rintro e wn ⟨rfl, hb⟩
                      have HD1 := hide (HD0.out.below hb)
                      clear hb
                      refine hK.out _ _ (fun e _ => (show Below W.heap.size W wn ∧ Row wn q 26 #[.int .i64 r, .int .i64 s] from ⟨HD1.out.low, HD1.out.bi⟩)) ?_
                      clear hK K
                      try simp only [Act.put, List.setIfInBounds_toArray, List.set_cons_zero, List.set_cons_succ]
                      have HS1 := hide (show Below W.heap.size W wn ∧ Row wn q 26 #[.int .i64 r, .int .i64 s] from ⟨HD1.out.low, HD1.out.bi⟩)
                      refine anyU_pure (i := 6) (v := ?ov6f) (by simp only [List.getElem?_toArray, List.getElem?_cons_succ, List.getElem?_cons_zero]; exact rfl) (by kernel_rfl) (by kernel_rfl) (fun _ _ _ h => h) (fun _ => by with_reducible exact HS1.out) (by kernel_rfl) (by kernel_rfl) (Or.inl ⟨by rfl, ?oy6f⟩) ?or6f
                      case oy6f => (intro w hSw; go_simp; try with_reducible rfl)
                      try simp only [Act.put, List.setIfInBounds_toArray, List.set_cons_zero, List.set_cons_succ]
                      refine anyU_pure (i := 7) (v := ?ov7f) (by simp only [List.getElem?_toArray, List.getElem?_cons_succ, List.getElem?_cons_zero]; exact rfl) (by kernel_rfl) (by kernel_rfl) (fun _ _ _ h => h) (fun _ => by with_reducible exact HS1.out) (by kernel_rfl) (by kernel_rfl) (Or.inl ⟨by rfl, ?oy7f⟩) ?or7f
                      case oy7f => (intro w hSw; go_simp; try with_reducible rfl)
                      try simp only [Act.put, List.setIfInBounds_toArray, List.set_cons_zero, List.set_cons_succ]
                      refine anyU_pure (i := 8) (v := ?ov8f) (by simp only [List.getElem?_toArray, List.getElem?_cons_succ, List.getElem?_cons_zero]; exact rfl) (by kernel_rfl) (by kernel_rfl) (fun _ _ _ h => h) (fun _ => by with_reducible exact HS1.out) (by kernel_rfl) (by kernel_rfl) (Or.inl ⟨by rfl, ?oy8f⟩) ?or8f
                      case oy8f => (intro w hSw; go_simp; try with_reducible rfl)
                      try simp only [Act.put, List.setIfInBounds_toArray, List.set_cons_zero, List.set_cons_succ]
                      refine anyU_pure (i := 9) (v := ?ov9f) (by simp only [List.getElem?_toArray, List.getElem?_cons_succ, List.getElem?_cons_zero]; exact rfl) (by kernel_rfl) (by kernel_rfl) (fun _ _ _ h => h) (fun _ => by with_reducible exact HS1.out) (by kernel_rfl) (by kernel_rfl) (Or.inl ⟨by rfl, ?oy9f⟩) ?or9f
                      case oy9f => (intro w hSw; go_simp; try with_reducible rfl)
                      try simp only [Act.put, List.setIfInBounds_toArray, List.set_cons_zero, List.set_cons_succ]
                      refine anyU_pure (i := 10) (v := ?ov10f) (by simp only [List.getElem?_toArray, List.getElem?_cons_succ, List.getElem?_cons_zero]; exact rfl) (by kernel_rfl) (by kernel_rfl) (fun _ _ _ h => h) (fun _ => by with_reducible exact HS1.out) (by kernel_rfl) (by kernel_rfl) (Or.inl ⟨by rfl, ?oy10f⟩) ?or10f
                      case oy10f => (intro w hSw; go_simp; try with_reducible rfl)
                      try simp only [Act.put, List.setIfInBounds_toArray, List.set_cons_zero, List.set_cons_succ]
                      refine anyU_take2 (i := 11) (v := ?ov11f) (by simp only [List.getElem?_toArray, List.getElem?_cons_succ, List.getElem?_cons_zero]; exact rfl) (by kernel_rfl) 8 (by kernel_rfl) (by kernel_rfl) (fun _ _ _ h => h) (by kernel_rfl) (by kernel_rfl) (by kernel_rfl) (by kernel_rfl) (Or.inl ⟨by rfl, ?oy11f⟩) (by with_reducible exact HS1.out) ?or11f
                      case oy11f => (intro w hSw; have c2 := show w.cell? ⟨b0, off + j * 18 + 2, none⟩ = some (.int .i64 y.r) from HYA.out _ hSw.1 2 (by omega); have c3 := show w.cell? ⟨b0, off + j * 18 + 3, none⟩ = some (.int .i64 y.s) from HYA.out _ hSw.1 3 (by omega); go_simp; try with_reducible rfl)
                      try simp only [Act.put, List.setIfInBounds_toArray, List.set_cons_zero, List.set_cons_succ]
                      refine anyU_take2 (i := 12) (v := ?ov12f) (by simp only [List.getElem?_toArray, List.getElem?_cons_succ, List.getElem?_cons_zero]; exact rfl) (by kernel_rfl) 8 (by kernel_rfl) (by kernel_rfl) (fun _ _ _ h => h) (by kernel_rfl) (by kernel_rfl) (by kernel_rfl) (by kernel_rfl) (Or.inl ⟨by rfl, ?oy12f⟩) (by with_reducible exact HS1.out) ?or12f
                      case oy12f => (intro w hSw; have d0 := show w.cell? ⟨q, 0, none⟩ = some (.int .i64 r) from Row.cell hSw.2 0; have d1 := show w.cell? ⟨q, 1, none⟩ = some (.int .i64 s) from Row.cell hSw.2 1; go_simp; try with_reducible rfl)
                      try simp only [Act.put, List.setIfInBounds_toArray, List.set_cons_zero, List.set_cons_succ]
                      refine anyU_pure (i := 13) (v := ?ov13f) (by simp only [List.getElem?_toArray, List.getElem?_cons_succ, List.getElem?_cons_zero]; exact rfl) (by kernel_rfl) (by kernel_rfl) (fun _ _ _ h => h) (fun _ => by with_reducible exact HS1.out) (by kernel_rfl) (by kernel_rfl) (Or.inl ⟨by rfl, ?oy13f⟩) ?or13f
                      case oy13f => (intro w hSw; go_simp; try with_reducible rfl)
                      try simp only [Act.put, List.setIfInBounds_toArray, List.set_cons_zero, List.set_cons_succ]
                      refine anyU_pure (i := 14) (v := ?ov14f) (by simp only [List.getElem?_toArray, List.getElem?_cons_succ, List.getElem?_cons_zero]; exact rfl) (by kernel_rfl) (by kernel_rfl) (fun _ _ _ h => h) (fun _ => by with_reducible exact HS1.out) (by kernel_rfl) (by kernel_rfl) (Or.inl ⟨by rfl, ?oy14f⟩) ?or14f
                      case oy14f => (intro w hSw; go_simp; try with_reducible rfl)
                      try simp only [Act.put, List.setIfInBounds_toArray, List.set_cons_zero, List.set_cons_succ]
                      refine anyU_pure (i := 15) (v := ?ov15f) (by simp only [List.getElem?_toArray, List.getElem?_cons_succ, List.getElem?_cons_zero]; exact rfl) (by kernel_rfl) (by kernel_rfl) (fun _ _ _ h => h) (fun _ => by with_reducible exact HS1.out) (by kernel_rfl) (by kernel_rfl) (Or.inl ⟨by rfl, ?oy15f⟩) ?or15f
                      case oy15f => (intro w hSw; go_simp; try with_reducible rfl)
                      try simp only [Act.put, List.setIfInBounds_toArray, List.set_cons_zero, List.set_cons_succ]
                      refine anyU_pure (i := 16) (v := ?ov16f) (by simp only [List.getElem?_toArray, List.getElem?_cons_succ, List.getElem?_cons_zero]; exact rfl) (by kernel_rfl) (by kernel_rfl) (fun _ _ _ h => h) (fun _ => by with_reducible exact HS1.out) (by kernel_rfl) (by kernel_rfl) (Or.inl ⟨by rfl, ?oy16f⟩) ?or16f
                      case oy16f => (intro w hSw; go_simp; try with_reducible rfl)
                      try simp only [Act.put, List.setIfInBounds_toArray, List.set_cons_zero, List.set_cons_succ]
                      refine anyU_pure (i := 17) (v := ?ov17f) (by simp only [List.getElem?_toArray, List.getElem?_cons_succ, List.getElem?_cons_zero]; exact rfl) (by kernel_rfl) (by kernel_rfl) (fun _ _ _ h => h) (fun _ => by with_reducible exact HS1.out) (by kernel_rfl) (by kernel_rfl) (Or.inl ⟨by rfl, ?oy17f⟩) ?or17f
                      case oy17f => (intro w hSw; go_simp; try with_reducible rfl)
                      try simp only [Act.put, List.setIfInBounds_toArray, List.set_cons_zero, List.set_cons_succ]
                      refine anyU_pure (i := 18) (v := ?ov18f) (by simp only [List.getElem?_toArray, List.getElem?_cons_succ, List.getElem?_cons_zero]; exact rfl) (by kernel_rfl) (by kernel_rfl) (fun _ _ _ h => h) (fun _ => by with_reducible exact HS1.out) (by kernel_rfl) (by kernel_rfl) (Or.inl ⟨by rfl, ?oy18f⟩) ?or18f
                      case oy18f => (intro w hSw; go_simp; try with_reducible rfl)
                      try simp only [Act.put, List.setIfInBounds_toArray, List.set_cons_zero, List.set_cons_succ]
                      refine anyU_pure (i := 19) (v := ?ov19f) (by simp only [List.getElem?_toArray, List.getElem?_cons_succ, List.getElem?_cons_zero]; exact rfl) (by kernel_rfl) (by kernel_rfl) (fun _ _ _ h => h) (fun _ => by with_reducible exact HS1.out) (by kernel_rfl) (by kernel_rfl) (Or.inl ⟨by rfl, ?oy19f⟩) ?or19f
                      case oy19f => (intro w hSw; go_simp; try with_reducible rfl)
                      try simp only [Act.put, List.setIfInBounds_toArray, List.set_cons_zero, List.set_cons_succ]
                      refine anyU_pure (i := 20) (v := ?ov20f) (by simp only [List.getElem?_toArray, List.getElem?_cons_succ, List.getElem?_cons_zero]; exact rfl) (by kernel_rfl) (by kernel_rfl) (fun _ _ _ h => h) (fun _ => by with_reducible exact HS1.out) (by kernel_rfl) (by kernel_rfl) (Or.inl ⟨by rfl, ?oy20f⟩) ?or20f
                      case oy20f => (intro w hSw; go_simp; try with_reducible rfl)
                      try simp only [Act.put, List.setIfInBounds_toArray, List.set_cons_zero, List.set_cons_succ]
                      refine anyU_take2 (i := 21) (v := ?ov21f) (by simp only [List.getElem?_toArray, List.getElem?_cons_succ, List.getElem?_cons_zero]; exact rfl) (by kernel_rfl) 8 (by kernel_rfl) (by kernel_rfl) (fun _ _ _ h => h) (by kernel_rfl) (by kernel_rfl) (by kernel_rfl) (by kernel_rfl) (Or.inl ⟨by rfl, ?oy21f⟩) (by with_reducible exact HS1.out) ?or21f
                      case oy21f => (intro w hSw; have c2 := show w.cell? ⟨b0, off + j * 18 + 2, none⟩ = some (.int .i64 y.r) from HYA.out _ hSw.1 2 (by omega); go_simp; try with_reducible rfl)
                      try simp only [Act.put, List.setIfInBounds_toArray, List.set_cons_zero, List.set_cons_succ]
                      refine anyU_pure (i := 22) (v := ?ov22f) (by simp only [List.getElem?_toArray, List.getElem?_cons_succ, List.getElem?_cons_zero]; exact rfl) (by kernel_rfl) (by kernel_rfl) (fun _ _ _ h => h) (fun _ => by with_reducible exact HS1.out) (by kernel_rfl) (by kernel_rfl) (Or.inl ⟨by rfl, ?oy22f⟩) ?or22f
                      case oy22f => (intro w hSw; go_simp; try with_reducible rfl)
                      try simp only [Act.put, List.setIfInBounds_toArray, List.set_cons_zero, List.set_cons_succ]
                      refine anyU_take2 (i := 23) (v := ?ov23f) (by simp only [List.getElem?_toArray, List.getElem?_cons_succ, List.getElem?_cons_zero]; exact rfl) (by kernel_rfl) 8 (by kernel_rfl) (by kernel_rfl) (fun _ _ _ h => h) (by kernel_rfl) (by kernel_rfl) (by kernel_rfl) (by kernel_rfl) (Or.inl ⟨by rfl, ?oy23f⟩) (by with_reducible exact HS1.out) ?or23f
                      case oy23f => (intro w hSw; have d0 := show w.cell? ⟨q, 0, none⟩ = some (.int .i64 r) from Row.cell hSw.2 0; go_simp; try with_reducible rfl)
                      try simp only [Act.put, List.setIfInBounds_toArray, List.set_cons_zero, List.set_cons_succ]
                      refine anyU_pure (i := 24) (v := ?ov24f) (by simp only [List.getElem?_toArray, List.getElem?_cons_succ, List.getElem?_cons_zero]; exact rfl) (by kernel_rfl) (by kernel_rfl) (fun _ _ _ h => h) (fun _ => by with_reducible exact HS1.out) (by kernel_rfl) (by kernel_rfl) (Or.inl ⟨by rfl, ?oy24f⟩) ?or24f
                      case oy24f => (intro w hSw; go_simp; try with_reducible rfl)
                      try simp only [Act.put, List.setIfInBounds_toArray, List.set_cons_zero, List.set_cons_succ]
                      refine anyU_pure (i := 25) (v := ?ov25f) (by simp only [List.getElem?_toArray, List.getElem?_cons_succ, List.getElem?_cons_zero]; exact rfl) (by kernel_rfl) (by kernel_rfl) (fun _ _ _ h => h) (fun _ => by with_reducible exact HS1.out) (by kernel_rfl) (by kernel_rfl) (Or.inl ⟨by rfl, ?oy25f⟩) ?or25f
                      case oy25f => (intro w hSw; go_simp; try with_reducible rfl)
                      try simp only [Act.put, List.setIfInBounds_toArray, List.set_cons_zero, List.set_cons_succ]
                      refine anyU_pure (i := 26) (v := undef) (by simp only [List.getElem?_toArray, List.getElem?_cons_succ, List.getElem?_cons_zero]; exact rfl) (by kernel_rfl) (by kernel_rfl) (fun _ _ _ h => h) (fun _ => by with_reducible exact HS1.out) (by kernel_rfl) (by kernel_rfl) (Or.inr ⟨by rfl, rfl⟩) ?_
                      try simp only [Act.put, List.setIfInBounds_toArray, List.set_cons_zero, List.set_cons_succ]
                      refine anyU_pure (i := 27) (v := undef) (by simp only [List.getElem?_toArray, List.getElem?_cons_succ, List.getElem?_cons_zero]; exact rfl) (by kernel_rfl) (by kernel_rfl) (fun _ _ _ h => h) (fun _ => by with_reducible exact HS1.out) (by kernel_rfl) (by kernel_rfl) (Or.inr ⟨by rfl, rfl⟩) ?_
                      try simp only [Act.put, List.setIfInBounds_toArray, List.set_cons_zero, List.set_cons_succ]
                      refine anyU_pure (i := 28) (v := undef) (by simp only [List.getElem?_toArray, List.getElem?_cons_succ, List.getElem?_cons_zero]; exact rfl) (by kernel_rfl) (by kernel_rfl) (fun _ _ _ h => h) (fun _ => by with_reducible exact HS1.out) (by kernel_rfl) (by kernel_rfl) (Or.inr ⟨by rfl, rfl⟩) ?_
                      try simp only [Act.put, List.setIfInBounds_toArray, List.set_cons_zero, List.set_cons_succ]
                      refine anyU_pure (i := 29) (v := undef) (by simp only [List.getElem?_toArray, List.getElem?_cons_succ, List.getElem?_cons_zero]; exact rfl) (by kernel_rfl) (by kernel_rfl) (fun _ _ _ h => h) (fun _ => by with_reducible exact HS1.out) (by kernel_rfl) (by kernel_rfl) (Or.inr ⟨by rfl, rfl⟩) ?_
                      try simp only [Act.put, List.setIfInBounds_toArray, List.set_cons_zero, List.set_cons_succ]
                      refine anyU_pure (i := 30) (v := undef) (by simp only [List.getElem?_toArray, List.getElem?_cons_succ, List.getElem?_cons_zero]; exact rfl) (by kernel_rfl) (by kernel_rfl) (fun _ _ _ h => h) (fun _ => by with_reducible exact HS1.out) (by kernel_rfl) (by kernel_rfl) (Or.inr ⟨by rfl, rfl⟩) ?_
                      try simp only [Act.put, List.setIfInBounds_toArray, List.set_cons_zero, List.set_cons_succ]
                      refine anyU_pure (i := 31) (v := undef) (by simp only [List.getElem?_toArray, List.getElem?_cons_succ, List.getElem?_cons_zero]; exact rfl) (by kernel_rfl) (by kernel_rfl) (fun _ _ _ h => h) (fun _ => by with_reducible exact HS1.out) (by kernel_rfl) (by kernel_rfl) (Or.inr ⟨by rfl, rfl⟩) ?_
                      try simp only [Act.put, List.setIfInBounds_toArray, List.set_cons_zero, List.set_cons_succ]
                      refine anyU_pure (i := 32) (v := undef) (by simp only [List.getElem?_toArray, List.getElem?_cons_succ, List.getElem?_cons_zero]; exact rfl) (by kernel_rfl) (by kernel_rfl) (fun _ _ _ h => h) (fun _ => by with_reducible exact HS1.out) (by kernel_rfl) (by kernel_rfl) (Or.inr ⟨by rfl, rfl⟩) ?_
                      try simp only [Act.put, List.setIfInBounds_toArray, List.set_cons_zero, List.set_cons_succ]
                      refine anyU_pure (i := 33) (v := undef) (by simp only [List.getElem?_toArray, List.getElem?_cons_succ, List.getElem?_cons_zero]; exact rfl) (by kernel_rfl) (by kernel_rfl) (fun _ _ _ h => h) (fun _ => by with_reducible exact HS1.out) (by kernel_rfl) (by kernel_rfl) (Or.inr ⟨by rfl, rfl⟩) ?_
                      try simp only [Act.put, List.setIfInBounds_toArray, List.set_cons_zero, List.set_cons_succ]
                      refine anyU_pure (i := 34) (v := undef) (by simp only [List.getElem?_toArray, List.getElem?_cons_succ, List.getElem?_cons_zero]; exact rfl) (by kernel_rfl) (by kernel_rfl) (fun _ _ _ h => h) (fun _ => by with_reducible exact HS1.out) (by kernel_rfl) (by kernel_rfl) (Or.inr ⟨by rfl, rfl⟩) ?_
                      try simp only [Act.put, List.setIfInBounds_toArray, List.set_cons_zero, List.set_cons_succ]
                      refine anyU_pure (i := 35) (v := ?ov35f) (by simp only [List.getElem?_toArray, List.getElem?_cons_succ, List.getElem?_cons_zero]; exact rfl) (by kernel_rfl) (by kernel_rfl) (fun _ _ _ h => h) (fun _ => by with_reducible exact HS1.out) (by kernel_rfl) (by kernel_rfl) (Or.inl ⟨by rfl, ?oy35f⟩) ?or35f
                      case oy35f => (intro w hSw; go_simp; try with_reducible rfl)
                      try simp only [Act.put, List.setIfInBounds_toArray, List.set_cons_zero, List.set_cons_succ]
                      refine anyU_pure (i := 36) (v := ?ov36f) (by simp only [List.getElem?_toArray, List.getElem?_cons_succ, List.getElem?_cons_zero]; exact rfl) (by kernel_rfl) (by kernel_rfl) (fun _ _ _ h => h) (fun _ => by with_reducible exact HS1.out) (by kernel_rfl) (by kernel_rfl) (Or.inl ⟨by rfl, ?oy36f⟩) ?or36f
                      case oy36f => (intro w hSw; go_simp; try with_reducible rfl)
                      try simp only [Act.put, List.setIfInBounds_toArray, List.set_cons_zero, List.set_cons_succ]
                      refine anyU_pure (i := 37) (v := ?ov37f) (by simp only [List.getElem?_toArray, List.getElem?_cons_succ, List.getElem?_cons_zero]; exact rfl) (by kernel_rfl) (by kernel_rfl) (fun _ _ _ h => h) (fun _ => by with_reducible exact HS1.out) (by kernel_rfl) (by kernel_rfl) (Or.inl ⟨by rfl, ?oy37f⟩) ?or37f
                      case oy37f => (intro w hSw; go_simp; try with_reducible rfl)
                      try simp only [Act.put, List.setIfInBounds_toArray, List.set_cons_zero, List.set_cons_succ]
                      refine anyU_pure (i := 38) (v := ?ov38f) (by simp only [List.getElem?_toArray, List.getElem?_cons_succ, List.getElem?_cons_zero]; exact rfl) (by kernel_rfl) (by kernel_rfl) (fun _ _ _ h => h) (fun _ => by with_reducible exact HS1.out) (by kernel_rfl) (by kernel_rfl) (Or.inl ⟨by rfl, ?oy38f⟩) ?or38f
                      case oy38f => (intro w hSw; go_simp; try with_reducible rfl)
                      try simp only [Act.put, List.setIfInBounds_toArray, List.set_cons_zero, List.set_cons_succ]
                      refine anyU_pure (i := 39) (v := ?ov39f) (by simp only [List.getElem?_toArray, List.getElem?_cons_succ, List.getElem?_cons_zero]; exact rfl) (by kernel_rfl) (by kernel_rfl) (fun _ _ _ h => h) (fun _ => by with_reducible exact HS1.out) (by kernel_rfl) (by kernel_rfl) (Or.inl ⟨by rfl, ?oy39f⟩) ?or39f
                      case oy39f => (intro w hSw; go_simp; try with_reducible rfl)
                      try simp only [Act.put, List.setIfInBounds_toArray, List.set_cons_zero, List.set_cons_succ]
                      refine anyU_pure (i := 40) (v := ?ov40f) (by simp only [List.getElem?_toArray, List.getElem?_cons_succ, List.getElem?_cons_zero]; exact rfl) (by kernel_rfl) (by kernel_rfl) (fun _ _ _ h => h) (fun _ => by with_reducible exact HS1.out) (by kernel_rfl) (by kernel_rfl) (Or.inl ⟨by rfl, ?oy40f⟩) ?or40f
                      case oy40f => (intro w hSw; go_simp; try with_reducible rfl)
                      try simp only [Act.put, List.setIfInBounds_toArray, List.set_cons_zero, List.set_cons_succ]
                      refine anyU_pure (i := 41) (v := ?ov41f) (by simp only [List.getElem?_toArray, List.getElem?_cons_succ, List.getElem?_cons_zero]; exact rfl) (by kernel_rfl) (by kernel_rfl) (fun _ _ _ h => h) (fun _ => by with_reducible exact HS1.out) (by kernel_rfl) (by kernel_rfl) (Or.inl ⟨by rfl, ?oy41f⟩) ?or41f
                      case oy41f => (intro w hSw; go_simp; try with_reducible rfl)
                      try simp only [Act.put, List.setIfInBounds_toArray, List.set_cons_zero, List.set_cons_succ]
                      refine anyU_pure (i := 42) (v := ?ov42f) (by simp only [List.getElem?_toArray, List.getElem?_cons_succ, List.getElem?_cons_zero]; exact rfl) (by kernel_rfl) (by kernel_rfl) (fun _ _ _ h => h) (fun _ => by with_reducible exact HS1.out) (by kernel_rfl) (by kernel_rfl) (Or.inl ⟨by rfl, ?oy42f⟩) ?or42f
                      case oy42f => (intro w hSw; go_simp; try with_reducible rfl)
                      try simp only [Act.put, List.setIfInBounds_toArray, List.set_cons_zero, List.set_cons_succ]
                      refine anyU_pure (i := 43) (v := ?ov43f) (by simp only [List.getElem?_toArray, List.getElem?_cons_succ, List.getElem?_cons_zero]; exact rfl) (by kernel_rfl) (by kernel_rfl) (fun _ _ _ h => h) (fun _ => by with_reducible exact HS1.out) (by kernel_rfl) (by kernel_rfl) (Or.inl ⟨by rfl, ?oy43f⟩) ?or43f
                      case oy43f => (intro w hSw; go_simp; try with_reducible rfl)
                      try simp only [Act.put, List.setIfInBounds_toArray, List.set_cons_zero, List.set_cons_succ]
                      refine anyU_take2 (i := 44) (v := ?ov44f) (by simp only [List.getElem?_toArray, List.getElem?_cons_succ, List.getElem?_cons_zero]; exact rfl) (by kernel_rfl) 8 (by kernel_rfl) (by kernel_rfl) (fun _ _ _ h => h) (by kernel_rfl) (by kernel_rfl) (by kernel_rfl) (by kernel_rfl) (Or.inl ⟨by rfl, ?oy44f⟩) (by with_reducible exact HS1.out) ?or44f
                      case oy44f => (intro w hSw; have c2 := show w.cell? ⟨b0, off + j * 18 + 2, none⟩ = some (.int .i64 y.r) from HYA.out _ hSw.1 2 (by omega); have c3 := show w.cell? ⟨b0, off + j * 18 + 3, none⟩ = some (.int .i64 y.s) from HYA.out _ hSw.1 3 (by omega); go_simp; try with_reducible rfl)
                      try simp only [Act.put, List.setIfInBounds_toArray, List.set_cons_zero, List.set_cons_succ]
                      refine anyU_pure (i := 45) (v := ?ov45f) (by simp only [List.getElem?_toArray, List.getElem?_cons_succ, List.getElem?_cons_zero]; exact rfl) (by kernel_rfl) (by kernel_rfl) (fun _ _ _ h => h) (fun _ => by with_reducible exact HS1.out) (by kernel_rfl) (by kernel_rfl) (Or.inl ⟨by rfl, ?oy45f⟩) ?or45f
                      case oy45f => (intro w hSw; go_simp; try with_reducible rfl)
                      try simp only [Act.put, List.setIfInBounds_toArray, List.set_cons_zero, List.set_cons_succ]
                      refine anyU_pure (i := 46) (v := ?ov46f) (by simp only [List.getElem?_toArray, List.getElem?_cons_succ, List.getElem?_cons_zero]; exact rfl) (by kernel_rfl) (by kernel_rfl) (fun _ _ _ h => h) (fun _ => by with_reducible exact HS1.out) (by kernel_rfl) (by kernel_rfl) (Or.inl ⟨by rfl, ?oy46f⟩) ?or46f
                      case oy46f => (intro w hSw; go_simp; try with_reducible rfl)
                      try simp only [Act.put, List.setIfInBounds_toArray, List.set_cons_zero, List.set_cons_succ]
                      refine anyU_pure (i := 47) (v := ?ov47f) (by simp only [List.getElem?_toArray, List.getElem?_cons_succ, List.getElem?_cons_zero]; exact rfl) (by kernel_rfl) (by kernel_rfl) (fun _ _ _ h => h) (fun _ => by with_reducible exact HS1.out) (by kernel_rfl) (by kernel_rfl) (Or.inl ⟨by rfl, ?oy47f⟩) ?or47f
                      case oy47f => (intro w hSw; go_simp; try with_reducible rfl)
                      try simp only [Act.put, List.setIfInBounds_toArray, List.set_cons_zero, List.set_cons_succ]
                      refine anyU_pure (i := 48) (v := ?ov48f) (by simp only [List.getElem?_toArray, List.getElem?_cons_succ, List.getElem?_cons_zero]; exact rfl) (by kernel_rfl) (by kernel_rfl) (fun _ _ _ h => h) (fun _ => by with_reducible exact HS1.out) (by kernel_rfl) (by kernel_rfl) (Or.inl ⟨by rfl, ?oy48f⟩) ?or48f
                      case oy48f => (intro w hSw; go_simp; try with_reducible rfl)
                      try simp only [Act.put, List.setIfInBounds_toArray, List.set_cons_zero, List.set_cons_succ]
                      refine anyU_take2 (i := 49) (v := ?ov49f) (by simp only [List.getElem?_toArray, List.getElem?_cons_succ, List.getElem?_cons_zero]; exact rfl) (by kernel_rfl) 8 (by kernel_rfl) (by kernel_rfl) (fun _ _ _ h => h) (by kernel_rfl) (by kernel_rfl) (by kernel_rfl) (by kernel_rfl) (Or.inl ⟨by rfl, ?oy49f⟩) (by with_reducible exact HS1.out) ?or49f
                      case oy49f => (intro w hSw; have c4 := show w.cell? ⟨b0, off + j * 18 + 4, none⟩ = some (.int .i64 y.c.k) from HYA.out _ hSw.1 4 (by omega); have c5 := show w.cell? ⟨b0, off + j * 18 + 5, none⟩ = some (.int .i64 y.c.c) from HYA.out _ hSw.1 5 (by omega); have c6 := show w.cell? ⟨b0, off + j * 18 + 6, none⟩ = some (.int .i64 y.c.q) from HYA.out _ hSw.1 6 (by omega); have c7 := show w.cell? ⟨b0, off + j * 18 + 7, none⟩ = some (.string y.c.key) from HYA.out _ hSw.1 7 (by omega); have c8 := show w.cell? ⟨b0, off + j * 18 + 8, none⟩ = some (.string y.c.en) from HYA.out _ hSw.1 8 (by omega); have c9 := show w.cell? ⟨b0, off + j * 18 + 9, none⟩ = some (.string y.c.old) from HYA.out _ hSw.1 9 (by omega); have c10 := show w.cell? ⟨b0, off + j * 18 + 10, none⟩ = some (.string y.c.val) from HYA.out _ hSw.1 10 (by omega); go_simp; try with_reducible rfl)
                      try simp only [Act.put, List.setIfInBounds_toArray, List.set_cons_zero, List.set_cons_succ]
                      refine anyU_pure (i := 50) (v := ?ov50f) (by simp only [List.getElem?_toArray, List.getElem?_cons_succ, List.getElem?_cons_zero]; exact rfl) (by kernel_rfl) (by kernel_rfl) (fun _ _ _ h => h) (fun _ => by with_reducible exact HS1.out) (by kernel_rfl) (by kernel_rfl) (Or.inl ⟨by rfl, ?oy50f⟩) ?or50f
                      case oy50f => (intro w hSw; go_simp; try with_reducible rfl)
                      try simp only [Act.put, List.setIfInBounds_toArray, List.set_cons_zero, List.set_cons_succ]
                      refine anyU_pure (i := 51) (v := ?ov51f) (by simp only [List.getElem?_toArray, List.getElem?_cons_succ, List.getElem?_cons_zero]; exact rfl) (by kernel_rfl) (by kernel_rfl) (fun _ _ _ h => h) (fun _ => by with_reducible exact HS1.out) (by kernel_rfl) (by kernel_rfl) (Or.inl ⟨by rfl, ?oy51f⟩) ?or51f
                      case oy51f => (intro w hSw; go_simp; try with_reducible rfl)
                      try simp only [Act.put, List.setIfInBounds_toArray, List.set_cons_zero, List.set_cons_succ]
                      refine anyU_pure (i := 52) (v := ?ov52f) (by simp only [List.getElem?_toArray, List.getElem?_cons_succ, List.getElem?_cons_zero]; exact rfl) (by kernel_rfl) (by kernel_rfl) (fun _ _ _ h => h) (fun _ => by with_reducible exact HS1.out) (by kernel_rfl) (by kernel_rfl) (Or.inl ⟨by rfl, ?oy52f⟩) ?or52f
                      case oy52f => (intro w hSw; go_simp; try with_reducible rfl)
                      try simp only [Act.put, List.setIfInBounds_toArray, List.set_cons_zero, List.set_cons_succ]
                      refine anyU_pure (i := 53) (v := ?ov53f) (by simp only [List.getElem?_toArray, List.getElem?_cons_succ, List.getElem?_cons_zero]; exact rfl) (by kernel_rfl) (by kernel_rfl) (fun _ _ _ h => h) (fun _ => by with_reducible exact HS1.out) (by kernel_rfl) (by kernel_rfl) (Or.inl ⟨by rfl, ?oy53f⟩) ?or53f
                      case oy53f => (intro w hSw; go_simp; try with_reducible rfl)
                      try simp only [Act.put, List.setIfInBounds_toArray, List.set_cons_zero, List.set_cons_succ]
                      refine anyU_take2 (i := 54) (v := ?ov54f) (by simp only [List.getElem?_toArray, List.getElem?_cons_succ, List.getElem?_cons_zero]; exact rfl) (by kernel_rfl) 8 (by kernel_rfl) (by kernel_rfl) (fun _ _ _ h => h) (by kernel_rfl) (by kernel_rfl) (by kernel_rfl) (by kernel_rfl) (Or.inl ⟨by rfl, ?oy54f⟩) (by with_reducible exact HS1.out) ?or54f
                      case oy54f => (intro w hSw; have c1 := show w.cell? ⟨b0, off + j * 18 + 1, none⟩ = some (.int .i64 y.q) from HYA.out _ hSw.1 1 (by omega); go_simp; try with_reducible rfl)
                      try simp only [Act.put, List.setIfInBounds_toArray, List.set_cons_zero, List.set_cons_succ]
                      refine anyU_one (i := 55) (by kernel_rfl) (by simp only [List.getElem?_toArray, List.getElem?_cons_succ, List.getElem?_cons_zero]; exact rfl) (fun K hK => ?_)
                      try go_simp
                      refine (HNT.out _ HD1.out).mono ?_
                      rintro e wm ⟨rfl, hk⟩
                      have HD2 := hide hk
                      clear hk
                      refine hK.out _ _ (fun e _ => absurd rfl e) ?_
                      clear hK K
                      try simp only [Act.put, List.setIfInBounds_toArray, List.set_cons_zero, List.set_cons_succ]
                      refine anyU_one (i := 56) (by kernel_rfl) (by simp only [List.getElem?_toArray, List.getElem?_cons_succ, List.getElem?_cons_zero]; exact rfl) (fun K hK => ?_)
                      try go_simp
                      refine hK.out _ _ (fun _ l => absurd (l.symm.trans (show _ = true by kernel_rfl)) (by decide)) ?_
                      clear hK K
                      try simp only [Act.put, List.setIfInBounds_toArray, List.set_cons_zero, List.set_cons_succ]
                      refine anyU_done (by kernel_rfl) ?_
                      refine NoPanic.normal ?_
                      try simp only [Act.put]
                      go_wp2
                      go_meet
                      exact HFIN.out _ HD2.out
              case rest =>
                as_aux_lemma =>
                obtain ⟨t, rfl, HT, HQ3⟩ := hcut
                clear HQ
                cases t
                case false =>
                  as_aux_lemma =>
                  go_wp2
                  go_roundw
                  case rel => exact ⟨j + 1, own, by omega, by omega, by go_num, hide (by have := HN.out; omega), HKO, HQ3⟩
                  case measure => simp [intOf]; omega
                case true =>
                  as_aux_lemma =>
                  obtain ⟨hm1, hm2, hm3⟩ := HT.out rfl
                  have HQ4 := hide (show Qh W wc q r s c [u0, u1, u2, u3, u4, u5, u6] g b (noteL zeroX (own ++ [y])) (.slice A1 own.length c1) own by rw [noteL_snoc]; exact HQ3.out)
                  have HKO2 := hide (show Ko r s (own ++ [y]) from ⟨fun z hz => by
                    rcases List.mem_append.1 hz with hz | hz
                    · exact HKO.out.may z hz
                    · rw [List.mem_singleton.1 hz]; exact hm1, fun z hz => by
                    rcases List.mem_append.1 hz with hz | hz
                    · exact HKO.out.apart z hz
                    · rw [List.mem_singleton.1 hz]; exact ⟨hm2, hm3⟩⟩)
                  clear hm1 hm2 hm3 HQ3 HT
                  have RNG := hide (HYA.out _ HQ4.out.low).range
                  have HQ5 := hide (HQ4.out.below (kept_alloc (kept_refl wc) (.cells (askC y) 48)))
                  have RY := hide (Row.new wc 48 (askC y))
                  have HLB := hide (show own.length ≤ 100000 by have := HN.out; omega)
                  have HBA := hide HQ5.out.low.size
                  go_wp2_with (first
                    | ((with_reducible refine wpList_load_ia ?_ RNG.out ?_); rfl)
                    | ((with_reducible refine wpList_lit_ask (y := y) ?_ ?_); rfl)
                    | ((with_reducible refine wpList_append_ask (y := y) ?_ (.tmp 107) (.tmp 112) ?_ ?_ HQ5.out.ow ?_ RY.out HLB.out HBA.out ?_); rfl; rfl; rfl; rfl; intro v9 w9 ho hg; have HQ6 := hide (HQ5.out.more ho hg); clear ho hg)
                    | go_in)
                  have HN6 := hide (show (own ++ [y]).length ≤ j + 1 by rw [List.length_append]; have := HN.out; simp; omega)
                  go_roundw
                  case rel => exact ⟨j + 1, own ++ [y], by omega, by omega, by go_num, HN6, HKO2, HQ6⟩
                  case measure => simp [intOf]; omega
            · by_cases hjl : j < l.length
              · obtain rfl : j = 40 := by omega
                have hjl' : ((40 : Nat) : Int) < (l.length : Int) := by omega
                go_wp2
                go_meet
                exact ⟨own, HN, HKO, HQ⟩
              · obtain rfl : j = l.length := by omega
                go_wp2
                go_meet
                exact ⟨own, hide (by have := HN.out; omega), HKO, HQ⟩
        case rest =>
          as_aux_lemma =>
          obtain ⟨own, HN, HKO, HQ2⟩ := hcut
          clear HQ i0 i1 i2 i3 i4 i5 i6 y0 y1
          obtain ⟨A1, c1, rfl, hA1, hA2⟩ := HQ2.out.ow.ia_form
          have hn40 : own.length ≤ 40 := HN.out
          have HKX := hide (noteL_kn own Kn.zero)
          have HRL := hide (show ∀ (k : Nat) (y : Ia), own[k]? = some y → (∀ j z, k < j → own[j]? = some z → sameA z y = false) → clashC y.c c = true → reachB (attrX (noteL zeroX own) r s c).2 y.r y.s = true ∧ y.q < (attrX (noteL zeroX own) r s c).1 from fun k y hk hl hc => reach_last HKO.out hk hl hc)
          have HOW := hide (own_row HKX.out c HTRI.out)
          have HCV := hide (prune_covers HKX.out [u0, u1, u2, u3, u4, u5, u6] c HTRI.out)
          have HAT := hide (fun wz (hz : Qh W wz q r s c [u0, u1, u2, u3, u4, u5, u6] g b (noteL zeroX own) (.slice A1 own.length c1) own) => pattr_any g b (noteL zeroX own) r s c wz hz.px HKX.out (light_key HTC.out) (kn_small HKX.out))
          have HAT2 := hide (fun wz (hz : Qh W wz q r s c [u0, u1, u2, u3, u4, u5, u6] g b (pruneX (noteL zeroX own) [u0, u1, u2, u3, u4, u5, u6]) (.slice A1 own.length c1) own) => pattr_any g b (pruneX (noteL zeroX own) [u0, u1, u2, u3, u4, u5, u6]) r s c wz hz.px (HKX.out.prune [u0, u1, u2, u3, u4, u5, u6]) (light_key HTC.out) (kn_small (HKX.out.prune [u0, u1, u2, u3, u4, u5, u6])))
          have HT7 := hide (attr_len (noteL zeroX own) r s c)
          have HU7 := hide (attr_len (pruneX (noteL zeroX own) [u0, u1, u2, u3, u4, u5, u6]) r s c)
          obtain ⟨T, hT⟩ : ∃ T, attrX (noteL zeroX own) r s c = T := ⟨_, rfl⟩
          rw [hT] at HRL HOW HCV HAT HT7
          clear hT
          obtain ⟨U, hU⟩ : ∃ T, attrX (pruneX (noteL zeroX own) [u0, u1, u2, u3, u4, u5, u6]) r s c = T := ⟨_, rfl⟩
          rw [hU] at HCV HAT2 HU7
          clear hU
          obtain ⟨m0, a⟩ := T
          obtain ⟨n0, bb⟩ := U
          obtain ⟨a0, a1, a2, a3, a4, a5, a6, rfl⟩ := len7 HT7.out
          obtain ⟨b0, b1, b2, b3, b4, b5, b6, rfl⟩ := len7 HU7.out
          simp only at HRL HOW HCV
          replace HAT : Hid (∀ wz, Qh W wz q r s c [u0, u1, u2, u3, u4, u5, u6] g b (noteL zeroX own) (.slice A1 own.length c1) own → Calls Try.prog 12 #[.pointer (some ⟨g, 0, none⟩), .agg #[.int .i64 r, .int .i64 s], .agg #[.int .i64 c.k, .int .i64 c.c, .int .i64 c.q, .string c.key, .string c.en, .string c.old, .string c.val]] wz fun e w' => e = .returned (.agg #[.int .i64 m0, .int .i64 a0, .int .i64 a1, .int .i64 a2, .int .i64 a3, .int .i64 a4, .int .i64 a5, .int .i64 a6]) ∧ Below wz.heap.size wz w') := HAT
          replace HAT2 : Hid (∀ wz, Qh W wz q r s c [u0, u1, u2, u3, u4, u5, u6] g b (pruneX (noteL zeroX own) [u0, u1, u2, u3, u4, u5, u6]) (.slice A1 own.length c1) own → Calls Try.prog 12 #[.pointer (some ⟨g, 0, none⟩), .agg #[.int .i64 r, .int .i64 s], .agg #[.int .i64 c.k, .int .i64 c.c, .int .i64 c.q, .string c.key, .string c.en, .string c.old, .string c.val]] wz fun e w' => e = .returned (.agg #[.int .i64 n0, .int .i64 b0, .int .i64 b1, .int .i64 b2, .int .i64 b3, .int .i64 b4, .int .i64 b5, .int .i64 b6]) ∧ Below wz.heap.size wz w') := HAT2
          have i0 : wc.cell? ⟨q + 1, 0, none⟩ = some (.int .i64 c.k) := HQ2.out.bc.cell 0
          have i1 : wc.cell? ⟨q + 1, 1, none⟩ = some (.int .i64 c.c) := HQ2.out.bc.cell 1
          have i2 : wc.cell? ⟨q + 1, 2, none⟩ = some (.int .i64 c.q) := HQ2.out.bc.cell 2
          have i3 : wc.cell? ⟨q + 1, 3, none⟩ = some (.string c.key) := HQ2.out.bc.cell 3
          have i4 : wc.cell? ⟨q + 1, 4, none⟩ = some (.string c.en) := HQ2.out.bc.cell 4
          have i5 : wc.cell? ⟨q + 1, 5, none⟩ = some (.string c.old) := HQ2.out.bc.cell 5
          have i6 : wc.cell? ⟨q + 1, 6, none⟩ = some (.string c.val) := HQ2.out.bc.cell 6
          have y0 : wc.cell? ⟨q, 0, none⟩ = some (.int .i64 r) := HQ2.out.bi.cell 0
          have y1 : wc.cell? ⟨q, 1, none⟩ = some (.int .i64 s) := HQ2.out.bi.cell 1
          go_upto_region 11 with (first
            | (go_at_call 12; (with_reducible refine (HAT.out _ HQ2.out).mono ?_); rintro e w5 ⟨rfl, hb⟩; replace HQ2 := hide (HQ2.out.below hb); clear hb i0 i1 i2 i3 i4 i5 i6 y0 y1))
          have RA := hide (Row.new w5 34 #[.int .i64 m0, .int .i64 a0, .int .i64 a1, .int .i64 a2, .int .i64 a3, .int .i64 a4, .int .i64 a5, .int .i64 a6])
          replace HQ2 := hide (HQ2.out.below (kept_alloc (kept_refl w5) (.cells #[.int .i64 m0, .int .i64 a0, .int .i64 a1, .int .i64 a2, .int .i64 a3, .int .i64 a4, .int .i64 a5, .int .i64 a6] 34)))
          generalize w5.alloc (.cells #[.int .i64 m0, .int .i64 a0, .int .i64 a1, .int .i64 a2, .int .i64 a3, .int .i64 a4, .int .i64 a5, .int .i64 a6] 34) = w6 at RA HQ2 ⊢
          generalize w5.heap.size = ga at RA ⊢
          go_upto_block 2 with fail
          go_cut [] from 13 to 176 (fun wx => Hid (Qh W wx q r s c [u0, u1, u2, u3, u4, u5, u6] g b (noteL zeroX own) (.slice A1 own.length c1) own) ∧ Hid (Row wx ga 34 #[.int .i64 m0, .int .i64 a0, .int .i64 a1, .int .i64 a2, .int .i64 a3, .int .i64 a4, .int .i64 a5, .int .i64 a6]))
          case first =>
            as_aux_lemma =>
            go_wp2_with fail
            go_loopw [13] (fun k wr => ∃ m : Nat, m ≤ own.length ∧ k = .int .i64 m ∧ Hid (Qh W wr q r s c [u0, u1, u2, u3, u4, u5, u6] g b (noteL zeroX own) (.slice A1 own.length c1) own) ∧ Hid (Row wr ga 34 #[.int .i64 m0, .int .i64 a0, .int .i64 a1, .int .i64 a2, .int .i64 a3, .int .i64 a4, .int .i64 a5, .int .i64 a6])) (fun k _ => own.length - (intOf k).toNat)
            case atStart => exact ⟨0, by omega, rfl, HQ2, RA⟩
            case round =>
              as_aux_lemma =>
              clear HQ2 RA
              obtain ⟨m, hm, rfl, HQ, HRA⟩ := hrel
              by_cases hmo : m < own.length
              · obtain ⟨y, hy⟩ : ∃ y, own[m]? = some y := ⟨_, List.getElem?_eq_getElem hmo⟩
                have HRM := hide (HRL.out m y hy)
                have HMY := hide (may_iff.1 (HKO.out.may y (List.mem_of_getElem? hy)))
                obtain ⟨A2, c2, hv, _, _, go, rfl, hgo, hyy⟩ := HQ.out.ow.ia hy
                injection hv with hv1 _ hv3
                subst hv1 hv3
                have HAA := hide (fun (k : Nat) (z : Ia) (hz : own[k]? = some z) (wz : World) (hq : Qh W wz q r s c [u0, u1, u2, u3, u4, u5, u6] g b (noteL zeroX own) (.slice (some ⟨go, 0, none⟩) own.length c1) own) => (show IaAt wz go 0 k z from by
                  obtain ⟨A3, c3, hv, _, _, go3, rfl, _, h3⟩ := hq.ow.ia hz
                  injection hv with hv1 _ _
                  injection hv1 with hv1
                  injection hv1 with hv1 _ _
                  subst hv1
                  exact h3))
                have HYY := hide (HAA.out m y hy)
                have hmo' : (m : Int) < (own.length : Int) := by omega
                clear hyy hgo
                go_upto_block 4 with fail
                go_cut [14, 15] from 126 to 145 (fun s14 _ wx => ∃ t : Bool, s14 = .bool t ∧ Hid (t = true → ∀ j z, m < j → own[j]? = some z → sameA z y = false) ∧ Hid (Qh W wx q r s c [u0, u1, u2, u3, u4, u5, u6] g b (noteL zeroX own) (.slice (some ⟨go, 0, none⟩) own.length c1) own) ∧ Hid (Row wx ga 34 #[.int .i64 m0, .int .i64 a0, .int .i64 a1, .int .i64 a2, .int .i64 a3, .int .i64 a4, .int .i64 a5, .int .i64 a6]))
                case first =>
                  as_aux_lemma =>
                  go_wp2_with fail
                  go_loopw [14, 15] (fun f k wr => ∃ (mm : Nat) (t : Bool), mm ≤ own.length ∧ k = .int .i64 mm ∧ f = .bool t ∧ Hid (t = true → ∀ j z, m < j → j < mm → own[j]? = some z → sameA z y = false) ∧ Hid (Qh W wr q r s c [u0, u1, u2, u3, u4, u5, u6] g b (noteL zeroX own) (.slice (some ⟨go, 0, none⟩) own.length c1) own) ∧ Hid (Row wr ga 34 #[.int .i64 m0, .int .i64 a0, .int .i64 a1, .int .i64 a2, .int .i64 a3, .int .i64 a4, .int .i64 a5, .int .i64 a6])) (fun _ k _ => own.length - (intOf k).toNat)
                  case atStart => exact ⟨m + 1, true, by omega, by go_num, rfl, hide (fun _ j z h1 h2 _ => absurd h2 (by omega)), HQ, HRA⟩
                  case round =>
                    as_aux_lemma =>
                    clear HQ HRA
                    obtain ⟨mm, t, hmm, rfl, rfl, HF, HQ, HRA⟩ := hrel
                    by_cases hml : mm < own.length
                    · obtain ⟨z, hz⟩ : ∃ z, own[mm]? = some z := ⟨_, List.getElem?_eq_getElem hml⟩
                      have HZ := hide hz
                      have hml' : (mm : Int) < (own.length : Int) := by omega
                      have z2 : wr.cell? ⟨go, mm * 18 + 2, none⟩ = some (.int .i64 z.r) := (HAA.out mm z hz wr HQ.out).zero_ 2 (by omega)
                      have z3 : wr.cell? ⟨go, mm * 18 + 3, none⟩ = some (.int .i64 z.s) := (HAA.out mm z hz wr HQ.out).zero_ 3 (by omega)
                      have y2 : wr.cell? ⟨go, m * 18 + 2, none⟩ = some (.int .i64 y.r) := (HYY.out wr HQ.out).zero_ 2 (by omega)
                      have y3 : wr.cell? ⟨go, m * 18 + 3, none⟩ = some (.int .i64 y.s) := (HYY.out wr HQ.out).zero_ 3 (by omega)
                      have hne := fun w => neq_inst z.r z.s y.r y.s w
                      obtain ⟨e, he⟩ : ∃ u, sameA z y = u := ⟨_, rfl⟩
                      have HE := hide he
                      unfold sameA at he
                      simp only [he] at hne
                      clear he hz
                      have HFN := hide (show (t && !e) = true → ∀ j z', m < j → j < mm + 1 → own[j]? = some z' → sameA z' y = false from fun ht j z' h1 h2 h3 => by
                        rw [Bool.and_eq_true] at ht
                        rcases Nat.lt_or_ge j mm with h4 | h4
                        · exact HF.out ht.1 j z' h1 h4 h3
                        · obtain rfl : j = mm := by omega
                          rw [HZ.out] at h3
                          injection h3 with h3
                          subst h3
                          rw [HE.out]
                          simpa using ht.2)
                      clear HF HZ HE
                      go_upto_region 18 with (fail)
                      cases t
                      case false =>
                        as_aux_lemma =>
                        go_quiet (fail)
                        replace HQ := hide (HQ.out.below (kept_drewN (kept_refl wr) nq))
                        replace HRA := hide (HRA.out.below (kept_drewN (kept_refl wr) nq) HRA.out.lt)
                        clear z2 z3 y2 y3 hne
                        generalize wr.drewN nq = wy at HQ HRA ⊢
                        go_wp2
                        exact ⟨⟨mm + 1, _, by omega, by go_num, rfl, HFN, HQ, HRA⟩, by simp [intOf]; omega⟩
                      case true =>
                        as_aux_lemma =>
                        go_quiet (fail)
                        replace HQ := hide (HQ.out.below (kept_drewN (kept_refl wr) nq))
                        replace HRA := hide (HRA.out.below (kept_drewN (kept_refl wr) nq) HRA.out.lt)
                        clear z2 z3 y2 y3 hne
                        generalize wr.drewN nq = wy at HQ HRA ⊢
                        go_wp2
                        exact ⟨⟨mm + 1, _, by omega, by go_num, rfl, HFN, HQ, HRA⟩, by simp [intOf]; omega⟩
                    · obtain rfl : mm = own.length := by omega
                      go_wp2
                      go_meet
                      exact ⟨t, rfl, hide (fun ht j z h1 h2 => HF.out ht j z h1 (by
                        rcases Nat.lt_or_ge j own.length with h3 | h3
                        · exact h3
                        · rw [List.getElem?_eq_none h3] at h2; cases h2) h2), HQ, HRA⟩
                case rest =>
                  as_aux_lemma =>
                  obtain ⟨t, rfl, HF, HQ3, HRA3⟩ := hcut
                  clear HQ HRA
                  have HQ := HQ3
                  have HRA := HRA3
                  clear HQ3 HRA3
                  have HCL := hide (fun w => clash_any y.c.k y.c.c y.c.q y.c.key y.c.en y.c.old y.c.val c.k c.c c.q c.key c.en c.old c.val w (right_key HMY.out.2.2.1) (light_key HTC.out))
                  obtain ⟨tk, htk⟩ : ∃ t, clashC ⟨y.c.k, y.c.c, y.c.q, y.c.key, y.c.en, y.c.old, y.c.val⟩ ⟨c.k, c.c, c.q, c.key, c.en, c.old, c.val⟩ = t := ⟨_, rfl⟩
                  rw [htk] at HCL
                  have HTK := hide htk
                  clear htk
                  have HRE := hide (fun w => reach_any a0 a1 a2 a3 a4 a5 a6 y.r y.s w)
                  go_upto_region 19 with (fail)
                  cases t
                  case false =>
                    as_aux_lemma =>
                    have HB0 : Below wc.heap.size wc wc := kept_refl wc
                    refine wp_region_sp (fun w' => Below wc.heap.size wc w') (by kernel_rfl) (by kernel_rfl) (show Below wc.heap.size wc wc.drew from kept_drewN HB0 1) ?_
                    generalize hS : (fun w' => Below wc.heap.size wc w') = S
                    have l0 : ∀ z : Sp S, z.w.cell? ⟨go, m * 18 + 1, none⟩ = some (.int .i64 y.q) := by subst hS; exact fun z => (HYY.out _ (HQ.out.below z.ok)).zero_ 1 (by omega)
                    have l1 : ∀ z : Sp S, z.w.cell? ⟨go, m * 18 + 2, none⟩ = some (.int .i64 y.r) := by subst hS; exact fun z => (HYY.out _ (HQ.out.below z.ok)).zero_ 2 (by omega)
                    have l2 : ∀ z : Sp S, z.w.cell? ⟨go, m * 18 + 3, none⟩ = some (.int .i64 y.s) := by subst hS; exact fun z => (HYY.out _ (HQ.out.below z.ok)).zero_ 3 (by omega)
                    have l3 : ∀ z : Sp S, z.w.cell? ⟨go, m * 18 + 4, none⟩ = some (.int .i64 y.c.k) := by subst hS; exact fun z => (HYY.out _ (HQ.out.below z.ok)).zero_ 4 (by omega)
                    have l4 : ∀ z : Sp S, z.w.cell? ⟨go, m * 18 + 5, none⟩ = some (.int .i64 y.c.c) := by subst hS; exact fun z => (HYY.out _ (HQ.out.below z.ok)).zero_ 5 (by omega)
                    have l5 : ∀ z : Sp S, z.w.cell? ⟨go, m * 18 + 6, none⟩ = some (.int .i64 y.c.q) := by subst hS; exact fun z => (HYY.out _ (HQ.out.below z.ok)).zero_ 6 (by omega)
                    have l6 : ∀ z : Sp S, z.w.cell? ⟨go, m * 18 + 7, none⟩ = some (.string y.c.key) := by subst hS; exact fun z => (HYY.out _ (HQ.out.below z.ok)).zero_ 7 (by omega)
                    have l7 : ∀ z : Sp S, z.w.cell? ⟨go, m * 18 + 8, none⟩ = some (.string y.c.en) := by subst hS; exact fun z => (HYY.out _ (HQ.out.below z.ok)).zero_ 8 (by omega)
                    have l8 : ∀ z : Sp S, z.w.cell? ⟨go, m * 18 + 9, none⟩ = some (.string y.c.old) := by subst hS; exact fun z => (HYY.out _ (HQ.out.below z.ok)).zero_ 9 (by omega)
                    have l9 : ∀ z : Sp S, z.w.cell? ⟨go, m * 18 + 10, none⟩ = some (.string y.c.val) := by subst hS; exact fun z => (HYY.out _ (HQ.out.below z.ok)).zero_ 10 (by omega)
                    have l10 : ∀ z : Sp S, z.w.cell? ⟨q + 1, 0, none⟩ = some (.int .i64 c.k) := by subst hS; exact fun z => (HQ.out.bc.below z.ok HQ.out.bc.lt).cell 0
                    have l11 : ∀ z : Sp S, z.w.cell? ⟨q + 1, 1, none⟩ = some (.int .i64 c.c) := by subst hS; exact fun z => (HQ.out.bc.below z.ok HQ.out.bc.lt).cell 1
                    have l12 : ∀ z : Sp S, z.w.cell? ⟨q + 1, 2, none⟩ = some (.int .i64 c.q) := by subst hS; exact fun z => (HQ.out.bc.below z.ok HQ.out.bc.lt).cell 2
                    have l13 : ∀ z : Sp S, z.w.cell? ⟨q + 1, 3, none⟩ = some (.string c.key) := by subst hS; exact fun z => (HQ.out.bc.below z.ok HQ.out.bc.lt).cell 3
                    have l14 : ∀ z : Sp S, z.w.cell? ⟨q + 1, 4, none⟩ = some (.string c.en) := by subst hS; exact fun z => (HQ.out.bc.below z.ok HQ.out.bc.lt).cell 4
                    have l15 : ∀ z : Sp S, z.w.cell? ⟨q + 1, 5, none⟩ = some (.string c.old) := by subst hS; exact fun z => (HQ.out.bc.below z.ok HQ.out.bc.lt).cell 5
                    have l16 : ∀ z : Sp S, z.w.cell? ⟨q + 1, 6, none⟩ = some (.string c.val) := by subst hS; exact fun z => (HQ.out.bc.below z.ok HQ.out.bc.lt).cell 6
                    have l17 : ∀ z : Sp S, z.w.cell? ⟨ga, 0, none⟩ = some (.int .i64 m0) := by subst hS; exact fun z => (HRA.out.below z.ok HRA.out.lt).cell 0
                    have l18 : ∀ z : Sp S, z.w.cell? ⟨ga, 1, none⟩ = some (.int .i64 a0) := by subst hS; exact fun z => (HRA.out.below z.ok HRA.out.lt).cell 1
                    have l19 : ∀ z : Sp S, z.w.cell? ⟨ga, 2, none⟩ = some (.int .i64 a1) := by subst hS; exact fun z => (HRA.out.below z.ok HRA.out.lt).cell 2
                    have l20 : ∀ z : Sp S, z.w.cell? ⟨ga, 3, none⟩ = some (.int .i64 a2) := by subst hS; exact fun z => (HRA.out.below z.ok HRA.out.lt).cell 3
                    have l21 : ∀ z : Sp S, z.w.cell? ⟨ga, 4, none⟩ = some (.int .i64 a3) := by subst hS; exact fun z => (HRA.out.below z.ok HRA.out.lt).cell 4
                    have l22 : ∀ z : Sp S, z.w.cell? ⟨ga, 5, none⟩ = some (.int .i64 a4) := by subst hS; exact fun z => (HRA.out.below z.ok HRA.out.lt).cell 5
                    have l23 : ∀ z : Sp S, z.w.cell? ⟨ga, 6, none⟩ = some (.int .i64 a5) := by subst hS; exact fun z => (HRA.out.below z.ok HRA.out.lt).cell 6
                    have l24 : ∀ z : Sp S, z.w.cell? ⟨ga, 7, none⟩ = some (.int .i64 a6) := by subst hS; exact fun z => (HRA.out.below z.ok HRA.out.lt).cell 7
                    have ne : Nonempty (Sp S) := by subst hS; exact ⟨⟨_, HB0⟩⟩
                    have STEP := hide (show ∀ w w', S w → Below w.heap.size w w' → S w' by subst hS; exact fun _ _ h hb => kept_trans h hb)
                    have OLD := hide (show ∀ z : Sp S, Below wc.heap.size wc z.w by subst hS; exact fun z => z.ok)
                    clear HB0 hS
                    repeat (go_big_quiet_step ((first | (go_at_call 23; with_reducible exact sp_call STEP.out _ (HCL.out _)) | (go_at_call 24; with_reducible exact sp_call STEP.out _ (HRE.out _)))))
                    refine wpQuiet_nil ?_
                    intro kk
                    have OK := hide (OLD.out kk)
                    generalize kk.w = wk at OK ⊢
                    clear l0 l1 l2 l3 l4 l5 l6 l7 l8 l9 l10 l11 l12 l13 l14 l15 l16 l17 l18 l19 l20 l21 l22 l23 l24 ne OLD STEP
                    go_wp2
                    exact ⟨⟨m + 1, by omega, by go_num, HQ.out.below OK.out, hide (HRA.out.below OK.out HRA.out.lt)⟩, by simp [intOf]; omega⟩
                  case true =>
                    as_aux_lemma =>
                    cases tk
                    case false =>
                      as_aux_lemma =>
                      have HB0 : Below wc.heap.size wc wc := kept_refl wc
                      refine wp_region_sp (fun w' => Below wc.heap.size wc w') (by kernel_rfl) (by kernel_rfl) (show Below wc.heap.size wc wc.drew from kept_drewN HB0 1) ?_
                      generalize hS : (fun w' => Below wc.heap.size wc w') = S
                      have l0 : ∀ z : Sp S, z.w.cell? ⟨go, m * 18 + 1, none⟩ = some (.int .i64 y.q) := by subst hS; exact fun z => (HYY.out _ (HQ.out.below z.ok)).zero_ 1 (by omega)
                      have l1 : ∀ z : Sp S, z.w.cell? ⟨go, m * 18 + 2, none⟩ = some (.int .i64 y.r) := by subst hS; exact fun z => (HYY.out _ (HQ.out.below z.ok)).zero_ 2 (by omega)
                      have l2 : ∀ z : Sp S, z.w.cell? ⟨go, m * 18 + 3, none⟩ = some (.int .i64 y.s) := by subst hS; exact fun z => (HYY.out _ (HQ.out.below z.ok)).zero_ 3 (by omega)
                      have l3 : ∀ z : Sp S, z.w.cell? ⟨go, m * 18 + 4, none⟩ = some (.int .i64 y.c.k) := by subst hS; exact fun z => (HYY.out _ (HQ.out.below z.ok)).zero_ 4 (by omega)
                      have l4 : ∀ z : Sp S, z.w.cell? ⟨go, m * 18 + 5, none⟩ = some (.int .i64 y.c.c) := by subst hS; exact fun z => (HYY.out _ (HQ.out.below z.ok)).zero_ 5 (by omega)
                      have l5 : ∀ z : Sp S, z.w.cell? ⟨go, m * 18 + 6, none⟩ = some (.int .i64 y.c.q) := by subst hS; exact fun z => (HYY.out _ (HQ.out.below z.ok)).zero_ 6 (by omega)
                      have l6 : ∀ z : Sp S, z.w.cell? ⟨go, m * 18 + 7, none⟩ = some (.string y.c.key) := by subst hS; exact fun z => (HYY.out _ (HQ.out.below z.ok)).zero_ 7 (by omega)
                      have l7 : ∀ z : Sp S, z.w.cell? ⟨go, m * 18 + 8, none⟩ = some (.string y.c.en) := by subst hS; exact fun z => (HYY.out _ (HQ.out.below z.ok)).zero_ 8 (by omega)
                      have l8 : ∀ z : Sp S, z.w.cell? ⟨go, m * 18 + 9, none⟩ = some (.string y.c.old) := by subst hS; exact fun z => (HYY.out _ (HQ.out.below z.ok)).zero_ 9 (by omega)
                      have l9 : ∀ z : Sp S, z.w.cell? ⟨go, m * 18 + 10, none⟩ = some (.string y.c.val) := by subst hS; exact fun z => (HYY.out _ (HQ.out.below z.ok)).zero_ 10 (by omega)
                      have l10 : ∀ z : Sp S, z.w.cell? ⟨q + 1, 0, none⟩ = some (.int .i64 c.k) := by subst hS; exact fun z => (HQ.out.bc.below z.ok HQ.out.bc.lt).cell 0
                      have l11 : ∀ z : Sp S, z.w.cell? ⟨q + 1, 1, none⟩ = some (.int .i64 c.c) := by subst hS; exact fun z => (HQ.out.bc.below z.ok HQ.out.bc.lt).cell 1
                      have l12 : ∀ z : Sp S, z.w.cell? ⟨q + 1, 2, none⟩ = some (.int .i64 c.q) := by subst hS; exact fun z => (HQ.out.bc.below z.ok HQ.out.bc.lt).cell 2
                      have l13 : ∀ z : Sp S, z.w.cell? ⟨q + 1, 3, none⟩ = some (.string c.key) := by subst hS; exact fun z => (HQ.out.bc.below z.ok HQ.out.bc.lt).cell 3
                      have l14 : ∀ z : Sp S, z.w.cell? ⟨q + 1, 4, none⟩ = some (.string c.en) := by subst hS; exact fun z => (HQ.out.bc.below z.ok HQ.out.bc.lt).cell 4
                      have l15 : ∀ z : Sp S, z.w.cell? ⟨q + 1, 5, none⟩ = some (.string c.old) := by subst hS; exact fun z => (HQ.out.bc.below z.ok HQ.out.bc.lt).cell 5
                      have l16 : ∀ z : Sp S, z.w.cell? ⟨q + 1, 6, none⟩ = some (.string c.val) := by subst hS; exact fun z => (HQ.out.bc.below z.ok HQ.out.bc.lt).cell 6
                      have l17 : ∀ z : Sp S, z.w.cell? ⟨ga, 0, none⟩ = some (.int .i64 m0) := by subst hS; exact fun z => (HRA.out.below z.ok HRA.out.lt).cell 0
                      have l18 : ∀ z : Sp S, z.w.cell? ⟨ga, 1, none⟩ = some (.int .i64 a0) := by subst hS; exact fun z => (HRA.out.below z.ok HRA.out.lt).cell 1
                      have l19 : ∀ z : Sp S, z.w.cell? ⟨ga, 2, none⟩ = some (.int .i64 a1) := by subst hS; exact fun z => (HRA.out.below z.ok HRA.out.lt).cell 2
                      have l20 : ∀ z : Sp S, z.w.cell? ⟨ga, 3, none⟩ = some (.int .i64 a2) := by subst hS; exact fun z => (HRA.out.below z.ok HRA.out.lt).cell 3
                      have l21 : ∀ z : Sp S, z.w.cell? ⟨ga, 4, none⟩ = some (.int .i64 a3) := by subst hS; exact fun z => (HRA.out.below z.ok HRA.out.lt).cell 4
                      have l22 : ∀ z : Sp S, z.w.cell? ⟨ga, 5, none⟩ = some (.int .i64 a4) := by subst hS; exact fun z => (HRA.out.below z.ok HRA.out.lt).cell 5
                      have l23 : ∀ z : Sp S, z.w.cell? ⟨ga, 6, none⟩ = some (.int .i64 a5) := by subst hS; exact fun z => (HRA.out.below z.ok HRA.out.lt).cell 6
                      have l24 : ∀ z : Sp S, z.w.cell? ⟨ga, 7, none⟩ = some (.int .i64 a6) := by subst hS; exact fun z => (HRA.out.below z.ok HRA.out.lt).cell 7
                      have ne : Nonempty (Sp S) := by subst hS; exact ⟨⟨_, HB0⟩⟩
                      have STEP := hide (show ∀ w w', S w → Below w.heap.size w w' → S w' by subst hS; exact fun _ _ h hb => kept_trans h hb)
                      have OLD := hide (show ∀ z : Sp S, Below wc.heap.size wc z.w by subst hS; exact fun z => z.ok)
                      clear HB0 hS
                      repeat (go_big_quiet_step ((first | (go_at_call 23; with_reducible exact sp_call STEP.out _ (HCL.out _)) | (go_at_call 24; with_reducible exact sp_call STEP.out _ (HRE.out _)))))
                      refine wpQuiet_nil ?_
                      intro kk
                      have OK := hide (OLD.out kk)
                      generalize kk.w = wk at OK ⊢
                      clear l0 l1 l2 l3 l4 l5 l6 l7 l8 l9 l10 l11 l12 l13 l14 l15 l16 l17 l18 l19 l20 l21 l22 l23 l24 ne OLD STEP
                      go_wp2
                      exact ⟨⟨m + 1, by omega, by go_num, HQ.out.below OK.out, hide (HRA.out.below OK.out HRA.out.lt)⟩, by simp [intOf]; omega⟩
                    case true =>
                      as_aux_lemma =>
                      obtain ⟨h1, h2⟩ := HRM.out (HF.out rfl) HTK.out
                      rw [h1] at HRE
                      have hle : decide (m0 ≤ y.q) = false := decide_eq_false (by omega)
                      clear h1 h2
                      have HB0 : Below wc.heap.size wc wc := kept_refl wc
                      refine wp_region_sp (fun w' => Below wc.heap.size wc w') (by kernel_rfl) (by kernel_rfl) (show Below wc.heap.size wc wc.drew from kept_drewN HB0 1) ?_
                      generalize hS : (fun w' => Below wc.heap.size wc w') = S
                      have l0 : ∀ z : Sp S, z.w.cell? ⟨go, m * 18 + 1, none⟩ = some (.int .i64 y.q) := by subst hS; exact fun z => (HYY.out _ (HQ.out.below z.ok)).zero_ 1 (by omega)
                      have l1 : ∀ z : Sp S, z.w.cell? ⟨go, m * 18 + 2, none⟩ = some (.int .i64 y.r) := by subst hS; exact fun z => (HYY.out _ (HQ.out.below z.ok)).zero_ 2 (by omega)
                      have l2 : ∀ z : Sp S, z.w.cell? ⟨go, m * 18 + 3, none⟩ = some (.int .i64 y.s) := by subst hS; exact fun z => (HYY.out _ (HQ.out.below z.ok)).zero_ 3 (by omega)
                      have l3 : ∀ z : Sp S, z.w.cell? ⟨go, m * 18 + 4, none⟩ = some (.int .i64 y.c.k) := by subst hS; exact fun z => (HYY.out _ (HQ.out.below z.ok)).zero_ 4 (by omega)
                      have l4 : ∀ z : Sp S, z.w.cell? ⟨go, m * 18 + 5, none⟩ = some (.int .i64 y.c.c) := by subst hS; exact fun z => (HYY.out _ (HQ.out.below z.ok)).zero_ 5 (by omega)
                      have l5 : ∀ z : Sp S, z.w.cell? ⟨go, m * 18 + 6, none⟩ = some (.int .i64 y.c.q) := by subst hS; exact fun z => (HYY.out _ (HQ.out.below z.ok)).zero_ 6 (by omega)
                      have l6 : ∀ z : Sp S, z.w.cell? ⟨go, m * 18 + 7, none⟩ = some (.string y.c.key) := by subst hS; exact fun z => (HYY.out _ (HQ.out.below z.ok)).zero_ 7 (by omega)
                      have l7 : ∀ z : Sp S, z.w.cell? ⟨go, m * 18 + 8, none⟩ = some (.string y.c.en) := by subst hS; exact fun z => (HYY.out _ (HQ.out.below z.ok)).zero_ 8 (by omega)
                      have l8 : ∀ z : Sp S, z.w.cell? ⟨go, m * 18 + 9, none⟩ = some (.string y.c.old) := by subst hS; exact fun z => (HYY.out _ (HQ.out.below z.ok)).zero_ 9 (by omega)
                      have l9 : ∀ z : Sp S, z.w.cell? ⟨go, m * 18 + 10, none⟩ = some (.string y.c.val) := by subst hS; exact fun z => (HYY.out _ (HQ.out.below z.ok)).zero_ 10 (by omega)
                      have l10 : ∀ z : Sp S, z.w.cell? ⟨q + 1, 0, none⟩ = some (.int .i64 c.k) := by subst hS; exact fun z => (HQ.out.bc.below z.ok HQ.out.bc.lt).cell 0
                      have l11 : ∀ z : Sp S, z.w.cell? ⟨q + 1, 1, none⟩ = some (.int .i64 c.c) := by subst hS; exact fun z => (HQ.out.bc.below z.ok HQ.out.bc.lt).cell 1
                      have l12 : ∀ z : Sp S, z.w.cell? ⟨q + 1, 2, none⟩ = some (.int .i64 c.q) := by subst hS; exact fun z => (HQ.out.bc.below z.ok HQ.out.bc.lt).cell 2
                      have l13 : ∀ z : Sp S, z.w.cell? ⟨q + 1, 3, none⟩ = some (.string c.key) := by subst hS; exact fun z => (HQ.out.bc.below z.ok HQ.out.bc.lt).cell 3
                      have l14 : ∀ z : Sp S, z.w.cell? ⟨q + 1, 4, none⟩ = some (.string c.en) := by subst hS; exact fun z => (HQ.out.bc.below z.ok HQ.out.bc.lt).cell 4
                      have l15 : ∀ z : Sp S, z.w.cell? ⟨q + 1, 5, none⟩ = some (.string c.old) := by subst hS; exact fun z => (HQ.out.bc.below z.ok HQ.out.bc.lt).cell 5
                      have l16 : ∀ z : Sp S, z.w.cell? ⟨q + 1, 6, none⟩ = some (.string c.val) := by subst hS; exact fun z => (HQ.out.bc.below z.ok HQ.out.bc.lt).cell 6
                      have l17 : ∀ z : Sp S, z.w.cell? ⟨ga, 0, none⟩ = some (.int .i64 m0) := by subst hS; exact fun z => (HRA.out.below z.ok HRA.out.lt).cell 0
                      have l18 : ∀ z : Sp S, z.w.cell? ⟨ga, 1, none⟩ = some (.int .i64 a0) := by subst hS; exact fun z => (HRA.out.below z.ok HRA.out.lt).cell 1
                      have l19 : ∀ z : Sp S, z.w.cell? ⟨ga, 2, none⟩ = some (.int .i64 a1) := by subst hS; exact fun z => (HRA.out.below z.ok HRA.out.lt).cell 2
                      have l20 : ∀ z : Sp S, z.w.cell? ⟨ga, 3, none⟩ = some (.int .i64 a2) := by subst hS; exact fun z => (HRA.out.below z.ok HRA.out.lt).cell 3
                      have l21 : ∀ z : Sp S, z.w.cell? ⟨ga, 4, none⟩ = some (.int .i64 a3) := by subst hS; exact fun z => (HRA.out.below z.ok HRA.out.lt).cell 4
                      have l22 : ∀ z : Sp S, z.w.cell? ⟨ga, 5, none⟩ = some (.int .i64 a4) := by subst hS; exact fun z => (HRA.out.below z.ok HRA.out.lt).cell 5
                      have l23 : ∀ z : Sp S, z.w.cell? ⟨ga, 6, none⟩ = some (.int .i64 a5) := by subst hS; exact fun z => (HRA.out.below z.ok HRA.out.lt).cell 6
                      have l24 : ∀ z : Sp S, z.w.cell? ⟨ga, 7, none⟩ = some (.int .i64 a6) := by subst hS; exact fun z => (HRA.out.below z.ok HRA.out.lt).cell 7
                      have ne : Nonempty (Sp S) := by subst hS; exact ⟨⟨_, HB0⟩⟩
                      have STEP := hide (show ∀ w w', S w → Below w.heap.size w w' → S w' by subst hS; exact fun _ _ h hb => kept_trans h hb)
                      have OLD := hide (show ∀ z : Sp S, Below wc.heap.size wc z.w by subst hS; exact fun z => z.ok)
                      clear HB0 hS
                      repeat (go_big_quiet_step ((first | (go_at_call 23; with_reducible exact sp_call STEP.out _ (HCL.out _)) | (go_at_call 24; with_reducible exact sp_call STEP.out _ (HRE.out _)))))
                      refine wpQuiet_nil ?_
                      intro kk
                      have OK := hide (OLD.out kk)
                      generalize kk.w = wk at OK ⊢
                      clear l0 l1 l2 l3 l4 l5 l6 l7 l8 l9 l10 l11 l12 l13 l14 l15 l16 l17 l18 l19 l20 l21 l22 l23 l24 ne OLD STEP
                      go_wp2
                      exact ⟨⟨m + 1, by omega, by go_num, HQ.out.below OK.out, hide (HRA.out.below OK.out HRA.out.lt)⟩, by simp [intOf]; omega⟩
              · obtain rfl : m = own.length := by omega
                go_wp2
                go_meet
                exact ⟨HQ, HRA⟩
          case rest =>
            as_aux_lemma =>
            obtain ⟨HQ, HRA⟩ := hcut
            clear HQ2 RA HRL HAT
            obtain ⟨r0, r7, s1, sm⟩ := rightI_is HTRI.out
            obtain ⟨kr, rfl⟩ : ∃ k : Nat, r = k := ⟨r.toNat, by omega⟩
            have hk7 : kr < 7 := by omega
            have hk7i : (kr : Int) < 7 := by omega
            have hk0i : (0 : Int) ≤ (kr : Int) := by omega
            rw [Int.toNat_natCast] at HOW HCV
            have i0 : wc.cell? ⟨q, 0, none⟩ = some (.int .i64 (kr : Int)) := HQ.out.bi.cell 0
            have i1 : wc.cell? ⟨q, 1, none⟩ = some (.int .i64 s) := HQ.out.bi.cell 1
            have HPA := hide (fun (wz : World) (hz : Row wz ga 34 #[.int .i64 m0, .int .i64 a0, .int .i64 a1, .int .i64 a2, .int .i64 a3, .int .i64 a4, .int .i64 a5, .int .i64 a6]) => (show wz.cell? ⟨ga, 1 + kr, none⟩ = some (.int .i64 (s - 1)) from by
              have h1 := row_cA (x := m0 :: [a0, a1, a2, a3, a4, a5, a6]) hz (1 + kr) (by simp; omega)
              rw [ix_cons, HOW.out] at h1
              exact h1))
            have pa : wc.cell? ⟨ga, 1 + kr, none⟩ = some (.int .i64 (s - 1)) := HPA.out _ HRA.out
            go_upto_region 21 with (fail)
            go_quiet (fail)
            replace HQ := hide (HQ.out.below (kept_drewN (kept_refl wc) nq))
            replace HRA := hide (HRA.out.below (kept_drewN (kept_refl wc) nq) HRA.out.lt)
            clear i0 i1 pa
            generalize wc.drewN nq = wd at HQ HRA ⊢
            have j0 : wd.cell? ⟨q + 2, 0, none⟩ = some (.int .i64 u0) := HQ.out.bu.cell 0
            have j1 : wd.cell? ⟨q + 2, 1, none⟩ = some (.int .i64 u1) := HQ.out.bu.cell 1
            have j2 : wd.cell? ⟨q + 2, 2, none⟩ = some (.int .i64 u2) := HQ.out.bu.cell 2
            have j3 : wd.cell? ⟨q + 2, 3, none⟩ = some (.int .i64 u3) := HQ.out.bu.cell 3
            have j4 : wd.cell? ⟨q + 2, 4, none⟩ = some (.int .i64 u4) := HQ.out.bu.cell 4
            have j5 : wd.cell? ⟨q + 2, 5, none⟩ = some (.int .i64 u5) := HQ.out.bu.cell 5
            have j6 : wd.cell? ⟨q + 2, 6, none⟩ = some (.int .i64 u6) := HQ.out.bu.cell 6
            have HPR := hide (pprune_any g b (noteL zeroX own) u0 u1 u2 u3 u4 u5 u6)
            go_upto_region 24 with (first
              | (go_at_call 13; (with_reducible refine (HPR.out _ HQ.out.px HKX.out).mono ?_); rintro e w7 ⟨rfl, hp, hk⟩))
            have HQ7 := hide (HQ.out.prog hp hk (fun _ e => e))
            have HRA7 := hide (hk.row HRA.out (fun e => by
              rcases e with e | e
              · exact rows_ne HRA.out HQ.out.px.row (by decide) e
              · exact mp_off HQ.out.px.mp HRA.out e.symm))
            clear hp hk HQ HRA j0 j1 j2 j3 j4 j5 j6 HPR
            have i0 : w7.cell? ⟨q + 1, 0, none⟩ = some (.int .i64 c.k) := HQ7.out.bc.cell 0
            have i1 : w7.cell? ⟨q + 1, 1, none⟩ = some (.int .i64 c.c) := HQ7.out.bc.cell 1
            have i2 : w7.cell? ⟨q + 1, 2, none⟩ = some (.int .i64 c.q) := HQ7.out.bc.cell 2
            have i3 : w7.cell? ⟨q + 1, 3, none⟩ = some (.string c.key) := HQ7.out.bc.cell 3
            have i4 : w7.cell? ⟨q + 1, 4, none⟩ = some (.string c.en) := HQ7.out.bc.cell 4
            have i5 : w7.cell? ⟨q + 1, 5, none⟩ = some (.string c.old) := HQ7.out.bc.cell 5
            have i6 : w7.cell? ⟨q + 1, 6, none⟩ = some (.string c.val) := HQ7.out.bc.cell 6
            have y0 : w7.cell? ⟨q, 0, none⟩ = some (.int .i64 (kr : Int)) := HQ7.out.bi.cell 0
            have y1 : w7.cell? ⟨q, 1, none⟩ = some (.int .i64 s) := HQ7.out.bi.cell 1
            go_upto_region 25 with (first
              | (go_at_call 12; (with_reducible refine (HAT2.out _ HQ7.out).mono ?_); rintro e w8 ⟨rfl, hb⟩; replace HQ7 := hide (HQ7.out.below hb); replace HRA7 := hide (HRA7.out.below hb HRA7.out.lt); clear hb i0 i1 i2 i3 i4 i5 i6 y0 y1))
            have KB := kept_alloc (kept_refl w8) (.cells #[.int .i64 n0, .int .i64 b0, .int .i64 b1, .int .i64 b2, .int .i64 b3, .int .i64 b4, .int .i64 b5, .int .i64 b6] 34)
            have RB := hide (Row.new w8 34 #[.int .i64 n0, .int .i64 b0, .int .i64 b1, .int .i64 b2, .int .i64 b3, .int .i64 b4, .int .i64 b5, .int .i64 b6])
            have HGB := hide (show W.heap.size ≤ w8.heap.size ∧ ga ≠ w8.heap.size from ⟨HQ7.out.low.size, fun e => by have := HRA7.out.lt; omega⟩)
            replace HQ7 := hide (HQ7.out.below KB)
            replace HRA7 := hide (HRA7.out.below KB HRA7.out.lt)
            clear KB
            generalize w8.alloc (.cells #[.int .i64 n0, .int .i64 b0, .int .i64 b1, .int .i64 b2, .int .i64 b3, .int .i64 b4, .int .i64 b5, .int .i64 b6] 34) = w9 at RB HQ7 HRA7 ⊢
            generalize w8.heap.size = gb at RB HGB ⊢
            have i0 : w9.cell? ⟨q, 0, none⟩ = some (.int .i64 (kr : Int)) := HQ7.out.bi.cell 0
            have pa : w9.cell? ⟨ga, 1 + kr, none⟩ = some (.int .i64 (s - 1)) := HPA.out _ HRA7.out
            have pb : w9.cell? ⟨gb, 1 + kr, none⟩ = some (.int .i64 (ix [b0, b1, b2, b3, b4, b5, b6] kr)) := by
              have h1 := row_cA (x := n0 :: [b0, b1, b2, b3, b4, b5, b6]) RB.out (1 + kr) (by simp; omega)
              rw [ix_cons] at h1
              exact h1
            have fb : w9.frozen? ⟨gb, 1 + kr, none⟩ = false := RB.out.free (1 + kr)
            rw [HOW.out] at HCV
            have RB2 := hide (show Row (w9.setCell ⟨gb, 1 + kr, none⟩ (.int .i64 (max (ix [b0, b1, b2, b3, b4, b5, b6] kr) (s - 1)))).drew gb 34 (cA (n0 :: [b0, b1, b2, b3, b4, b5, b6].set kr (max (ix [b0, b1, b2, b3, b4, b5, b6] kr) (s - 1)))) from by
              have h1 := (RB.out.put (1 + kr) (.int .i64 (max (ix [b0, b1, b2, b3, b4, b5, b6] kr) (s - 1)))).drew
              have h2 : (cA (n0 :: [b0, b1, b2, b3, b4, b5, b6])).setIfInBounds (1 + kr) (.int .i64 (max (ix [b0, b1, b2, b3, b4, b5, b6] kr) (s - 1))) = cA (n0 :: [b0, b1, b2, b3, b4, b5, b6].set kr (max (ix [b0, b1, b2, b3, b4, b5, b6] kr) (s - 1))) := cA_set _ _ _ _
              rw [← h2]
              exact h1)
            have RA2 := hide (show Row (w9.setCell ⟨gb, 1 + kr, none⟩ (.int .i64 (max (ix [b0, b1, b2, b3, b4, b5, b6] kr) (s - 1)))).drew ga 34 #[.int .i64 m0, .int .i64 a0, .int .i64 a1, .int .i64 a2, .int .i64 a3, .int .i64 a4, .int .i64 a5, .int .i64 a6] from (HRA7.out.grown (grown_put (grown_refl w9 (some gb)) (1 + kr) _) (by have := HGB.out.2; simpa using this)).drew)
            have HLW := hide (show Below W.heap.size W (w9.setCell ⟨gb, 1 + kr, none⟩ (.int .i64 (max (ix [b0, b1, b2, b3, b4, b5, b6] kr) (s - 1)))).drew from kept_drewN (HQ7.out.low.setCell (p := ⟨gb, 1 + kr, none⟩) HGB.out.1 _) 1)
            have HE7 := hide (show ([b0, b1, b2, b3, b4, b5, b6].set kr (max (ix [b0, b1, b2, b3, b4, b5, b6] kr) (s - 1))).length = 7 by rw [List.length_set]; rfl)
            generalize [b0, b1, b2, b3, b4, b5, b6].set kr (max (ix [b0, b1, b2, b3, b4, b5, b6] kr) (s - 1)) = E at RB2 HCV HE7
            obtain ⟨z0, z1, z2, z3, z4, z5, z6, rfl⟩ := len7 HE7.out
            generalize ix [b0, b1, b2, b3, b4, b5, b6] kr = bk at pb RB2 RA2 HLW ⊢
            clear HQ7 HRA7 RB HE7
            go_region
            clear i0 pa pb fb
            generalize World.drew (World.setCell w9 _ _) = w10 at RB2 RA2 HLW ⊢
            have x0 : w10.cell? ⟨ga, 1, none⟩ = some (.int .i64 a0) := RA2.out.cell 1
            have e0 : w10.cell? ⟨gb, 1, none⟩ = some (.int .i64 z0) := RB2.out.cell 1
            have x1 : w10.cell? ⟨ga, 2, none⟩ = some (.int .i64 a1) := RA2.out.cell 2
            have e1 : w10.cell? ⟨gb, 2, none⟩ = some (.int .i64 z1) := RB2.out.cell 2
            have x2 : w10.cell? ⟨ga, 3, none⟩ = some (.int .i64 a2) := RA2.out.cell 3
            have e2 : w10.cell? ⟨gb, 3, none⟩ = some (.int .i64 z2) := RB2.out.cell 3
            have x3 : w10.cell? ⟨ga, 4, none⟩ = some (.int .i64 a3) := RA2.out.cell 4
            have e3 : w10.cell? ⟨gb, 4, none⟩ = some (.int .i64 z3) := RB2.out.cell 4
            have x4 : w10.cell? ⟨ga, 5, none⟩ = some (.int .i64 a4) := RA2.out.cell 5
            have e4 : w10.cell? ⟨gb, 5, none⟩ = some (.int .i64 z4) := RB2.out.cell 5
            have x5 : w10.cell? ⟨ga, 6, none⟩ = some (.int .i64 a5) := RA2.out.cell 6
            have e5 : w10.cell? ⟨gb, 6, none⟩ = some (.int .i64 z5) := RB2.out.cell 6
            have x6 : w10.cell? ⟨ga, 7, none⟩ = some (.int .i64 a6) := RA2.out.cell 7
            have e6 : w10.cell? ⟨gb, 7, none⟩ = some (.int .i64 z6) := RB2.out.cell 7
            have HCO := hide (fun w => covers_any z0 z1 z2 z3 z4 z5 z6 a0 a1 a2 a3 a4 a5 a6 w)
            rw [HCV.out] at HCO
            go_wp2_with (first
              | (go_at_call 25; (with_reducible refine (HCO.out _).mono ?_); rintro e w11 ⟨rfl, hb⟩; have HL11 := hide (kept_trans HLW.out hb); clear hb)
              | (go_at_call 3; (with_reducible refine (RUN.out _).mono ?_); rintro e w12 ⟨rfl, hb⟩; have HL12 := hide (kept_trans HL11.out hb); clear hb)
              | go_in)
            go_ret
            exact ⟨rfl, HL12.out⟩
set_option maxRecDepth 100000 in
theorem lifted (os : Os) (started : os.Started) (H : Type) (enc : TypeId × Value → H) :
    ReturnsInHanded {} Try.checked os 5 .any (Rows.interfReachSpec.pre6 enc Try.prog Try.f5 Rows.interfReachRow.domain false) (Rows.interfReachSpec.post enc Try.prog Try.f5 false true false false) := by
  refine returnsInHanded_of_change_sized (C := Try.checked) own started (by kernel_rfl) Try.func5
    (ChangeSpec.witness6 (enc := enc) (C := Try.checked) false ⟨#[], #[.slice none 0 0, .agg #[.int .i64 0, .int .i64 0], .agg #[.int .i64 0, .int .i64 0, .int .i64 0, .string ⟨#[]⟩, .string ⟨#[]⟩, .string ⟨#[]⟩, .string ⟨#[]⟩], .agg #[.int .i64 0, .int .i64 0, .int .i64 0, .int .i64 0, .int .i64 0, .int .i64 0, .int .i64 0]], []⟩ 8 (by kernel_rfl) (by kernel_rfl) (by kernel_rfl) (by kernel_rfl)) ?_
  intro W base args ds gs before hval0 hW _ hsz0 _
  have hval : ∀ (j : Nat) t v, Try.f5.params[j]? = some t → args[j]? = some v → Value.okWide Try.prog W .any base t v := hval0
  have hW' := hW
  obtain ⟨p, q, hA0, hV, rfl, _, _⟩ := hW
  have hA : DataW.TrodAll enc Try.prog W 0 (fun _ => true) true Try.f5.params.toList args.toList ds p := hA0
  have hsz : (DataW.weightsEach Try.prog (Try.f5.params.toList ++ Rows.interfReachSpec.plain.varTypes Try.prog) (ds ++ gs)).all (· ≤ reachBytes) = true := hsz0
  rw [Try.params5] at hA hval hsz
  obtain ⟨v0, vs0, d0, ds0, p0, q0, hargs, rfl, rfl, h0, r0⟩ := trodAll_cons hA
  obtain ⟨v1, vs1, d1, ds1, p1, q1, rfl, rfl, rfl, h1, r1⟩ := trodAll_cons r0
  obtain ⟨v2, vs2, d2, ds2, p2, q2, rfl, rfl, rfl, h2, r2⟩ := trodAll_cons r1
  obtain ⟨v3, vs3, d3, ds3, p3, q3, rfl, rfl, rfl, h3, r3⟩ := trodAll_cons r2
  obtain ⟨rfl, rfl, rfl⟩ := trodAll_nil r3
  obtain rfl : args = #[v0, v1, v2, v3] := by cases args; simp_all
  obtain ⟨rfl, rfl⟩ := trodVars_none hV
  have k0 := h0
  have lt0 : ∀ x ∈ p0, x.block < W.heap.size := by obtain ⟨m, hm⟩ := k0; exact DataW.trod_lt m _ _ _ hm
  obtain ⟨A0, n0, c0, rfl⟩ := okWide_slice Try.underlying40 (hval 0 40 v0 rfl rfl)
  obtain ⟨z0, s0⟩ := iasks_in (j := 0) h0 hsz rfl rfl
  have k1 := h1
  have lt1 : ∀ x ∈ p1, x.block < W.heap.size := by obtain ⟨m, hm⟩ := k1; exact DataW.trod_lt m _ _ _ hm
  obtain ⟨x1, y1, rfl, bx1, by1⟩ := inst_in (hval 1 26 v1 rfl rfl) h1
  have k2 := h2
  have lt2 : ∀ x ∈ p2, x.block < W.heap.size := by obtain ⟨m, hm⟩ := k2; exact DataW.trod_lt m _ _ _ hm
  obtain ⟨x2, rfl, s2⟩ := cmd_in (j := 2) (hval 2 29 v2 rfl rfl) h2 hsz rfl rfl
  have k3 := h3
  have lt3 : ∀ x ∈ p3, x.block < W.heap.size := by obtain ⟨m, hm⟩ := k3; exact DataW.trod_lt m _ _ _ hm
  obtain ⟨e3x1, e3x2, e3x3, e3x4, e3x5, e3x6, e3x7, rfl, s3⟩ := deps_in (hval 3 32 v3 rfl rfl) h3
  clear hA0 hval0
  refine (walk A0 n0 c0 z0 x1 y1 x2 e3x1 e3x2 e3x3 e3x4 e3x5 e3x6 e3x7 W s0 bx1 by1 s2 s3).mono fun e W' ⟨he, bel⟩ => ?_
  subst he
  exact ⟨_, rfl, _, _, _, [], _, [], hW', trodAll_mk1 (shut_bool Try.underlying4 _), (trodAll_cons_mk (Below.trod laidOut (by kernel_rfl) (of_decide_eq_true (by kernel_rfl)) k0 bel lt0) (trodAll_cons_mk (Below.trod laidOut (by kernel_rfl) (of_decide_eq_true (by kernel_rfl)) k1 bel lt1) (trodAll_cons_mk (Below.trod laidOut (by kernel_rfl) (of_decide_eq_true (by kernel_rfl)) k2 bel lt2) (trodAll_cons_mk (Below.trod laidOut (by kernel_rfl) (of_decide_eq_true (by kernel_rfl)) k3 bel lt3) trodAll_mk0)))), rfl, bel.frame _, fun h => by cases h⟩
theorem over : Rows.interfReachRow.holds Try.pinned (OpenSpec.ofChange Rows.interfReachSpec) :=
  OpenClaim.holds_of_wide 5 Try.f5 rfl rfl rfl rfl rfl rfl rfl ⟨rfl, rfl, rfl, rfl, rfl⟩ rfl rfl rfl rfl rfl (by kernel_rfl) Try.func5 (by kernel_rfl)
    (of_decide_eq_true (by kernel_rfl)) (by unfold Func.isWrapper; first | (rw [if_pos (by decide +kernel)]; kernel_rfl) | (rw [if_neg (by decide +kernel)]; exact ⟨rfl, rfl⟩))
    (fun os started H enc _ => lifted os started H enc)
theorem proved : Rows.InterfReachSaid := over
end Go.Proofs.Ytfihcgimgngmhaa.interfReach
