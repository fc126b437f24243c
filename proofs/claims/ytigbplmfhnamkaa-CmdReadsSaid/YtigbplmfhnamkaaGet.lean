/- What read and Get of package cmd come to. Conditions: the reader lies in memory as it must. -/
import Derived.Test.YtigbplmfhnamkaaRz
namespace Go.Proofs.Ytigbplmfhnamkaa
open Go.RowKit
/-- A command was read. -/
def ReadTo (t : TypeId) (w : World) (B g : Nat) (zs : List Int) (r : Cm × Nat × Int) (y : Ending) (w' : World) : Prop :=
  y = .returned (valC r.1) ∧ Rdr t w' B g zs r.2.1 r.2.2 ∧ w.grownBy w' (some g)
theorem grown_alloc {a b : World} {row : Option Nat} (h : a.grownBy b row) (o : Obj) : a.grownBy (b.alloc o) row :=
  ⟨h.os, h.tape, h.output, by have := h.size; simp; omega, fun k hk hr => (Below.heap_alloc b o k (by have := h.size; omega)).trans (h.block k hk hr)⟩
theorem Rz.start {t : TypeId} {W w1 : World} {B g i' : Nat} {zs : List Int} {e' : Int} (x : Cm) (hr : Rdr t w1 B g zs i' e') (hg : (W.alloc (.cells (rowC zeroC) 23)).grownBy w1 (some g)) (hlt : g < W.heap.size) :
    Rz t W (w1.alloc (.cells (rowC x) 23)) B g zs i' e' W.heap.size w1.heap.size x :=
  have hs : W.heap.size + 1 ≤ w1.heap.size := by have := hg.size; simpa using this
  have hl : Row (W.alloc (.cells (rowC zeroC) 23)) W.heap.size 23 (rowC zeroC) := Row.new W 23 (rowC zeroC)
  ⟨hr.alloc _, (hl.far hg (by omega)).below ((Below.refl w1.heap.size w1).alloc (Nat.le_refl _) _) (by omega), Row.new w1 _ _,
    grown_alloc (grown_trans (grown_alloc (grown_refl W _) _) hg) _, Nat.le_refl _, hlt, by omega⟩
/-- The answer out of its block. -/
theorem results_row {fn : Func} {tmps : Array Value} {w : World} {a h : Nat} {t : TypeId} {x : Cm} (hf : fn.results = #[.cell a 23]) (ht : tmps[a]? = some (.pointer (some ⟨h, 0, none⟩))) (hr : Row w h t (rowC x)) :
    (results fn tmps).run Try.prog w = .ok (valC x) w := by
  obtain ⟨c0, c1, c2, c3, c4, c5, c6⟩ := hr.cells7
  simp [results, hf, ht, go_sem, valC, c0, c1, c2, c3, c4, c5, c6]
theorem seven_put {a b c d e f g u0 u1 u2 u3 u4 u5 u6 : Value} : (((((((#[a, b, c, d, e, f, g] : Array Value).setIfInBounds 0 u0).setIfInBounds 1 u1).setIfInBounds 2 u2).setIfInBounds 3 u3).setIfInBounds 4 u4).setIfInBounds 5 u5).setIfInBounds 6 u6 = #[u0, u1, u2, u3, u4, u5, u6] := by
  simp
/-- All seven cells are written. -/
theorem Row.seven {w : World} {h : Nat} {t : TypeId} {x : Cm} (r : Row w h t (rowC x)) (u0 u1 u2 u3 u4 u5 u6 : Value) :
    Row (((((((w.setCell ⟨h, 0, none⟩ u0).setCell ⟨h, 1, none⟩ u1).setCell ⟨h, 2, none⟩ u2).setCell ⟨h, 3, none⟩ u3).setCell ⟨h, 4, none⟩ u4).setCell ⟨h, 5, none⟩ u5).setCell ⟨h, 6, none⟩ u6) h t #[u0, u1, u2, u3, u4, u5, u6] := by
  have z := ((((((r.put 0 u0).put 1 u1).put 2 u2).put 3 u3).put 4 u4).put 5 u5).put 6 u6
  unfold rowC at z
  rw [seven_put] at z
  exact z
theorem Rz.done {t : TypeId} {W w : World} {B g i h2 h : Nat} {zs : List Int} {e : Int} {x x' : Cm} (s : Rz t W w B g zs i e h2 h x) (u0 u1 u2 u3 u4 u5 u6 : Value) :
    ReadTo t W B g zs (x', i, e) (.returned (valC x')) (((((((w.setCell ⟨h2, 0, none⟩ u0).setCell ⟨h2, 1, none⟩ u1).setCell ⟨h2, 2, none⟩ u2).setCell ⟨h2, 3, none⟩ u3).setCell ⟨h2, 4, none⟩ u4).setCell ⟨h2, 5, none⟩ u5).setCell ⟨h2, 6, none⟩ u6) :=
  have K := (((((((s.kp.put 0 u0).put 1 u1).put 2 u2).put 3 u3).put 4 u4).put 5 u5).put 6 u6)
  ⟨rfl, K.r, K.old⟩
set_option maxRecDepth 100000 in
set_option maxHeartbeats 8000000 in
theorem read_any {w : World} {B g i : Nat} {zs : List Int} {e : Int} (h : Rdr 59 w B g zs i e) :
    Calls Try.prog 35 #[.pointer (some ⟨g, 0, none⟩)] w (ReadTo 59 w B g zs (readC zs i e)) := by
  have hlt := h.lt
  have h0 := h.alloc (.cells #[.int .i64 0, .int .i64 0, .int .i64 0, .string ⟨#[]⟩, .string ⟨#[]⟩, .string ⟨#[]⟩, .string ⟨#[]⟩] 23)
  have H0 := hide (pnum_any h0)
  clear h0
  obtain ⟨k, hk⟩ : ∃ x, rNumV zs i e = x := ⟨_, rfl⟩
  obtain ⟨i1, hi1⟩ : ∃ x, rNumA zs i e = x := ⟨_, rfl⟩
  obtain ⟨e1, he1⟩ : ∃ x, rNumE zs i e = x := ⟨_, rfl⟩
  rw [hk, hi1, he1] at H0
  by_cases k0 : k = 0
  · subst k0
    rw [readC_none hk hi1 he1]
    clear hk hi1 he1
    go_enter Try.func35, Try.ntmps35
    go_upto_region 2 with (go_at_call 46; (with_reducible refine H0.out.mono ?_); rintro y w1 ⟨rfl, hr1, hg1⟩)
    have R1 := hide (show Rz 59 w (w1.alloc (.cells #[.int .i64 0, .int .i64 0, .int .i64 0, .string ⟨#[]⟩, .string ⟨#[]⟩, .string ⟨#[]⟩, .string ⟨#[]⟩] 23)) B g zs i1 e1 w.heap.size w1.heap.size zeroC from Rz.start zeroC hr1 hg1 hlt)
    clear hr1 hg1
    generalize w1.heap.size = h at *
    generalize w1.alloc (.cells #[.int .i64 0, .int .i64 0, .int .i64 0, .string ⟨#[]⟩, .string ⟨#[]⟩, .string ⟨#[]⟩, .string ⟨#[]⟩] 23) = w2 at *
    obtain ⟨q0, q1, q2, q3, q4, q5, q6⟩ := R1.out.c.cells7
    obtain ⟨p0, p1, p2, p3, p4, p5, p6⟩ := R1.out.res.cells7
    obtain ⟨g0, g1, g2, g3, g4, g5, g6⟩ := R1.out.res.free7
    simp only [zeroC] at q0 q1 q2 q3 q4 q5 q6
    go_wp2
    exact bodyPost_ret (results_row (x := zeroC) Try.results35 rfl (R1.out.res.seven _ _ _ _ _ _ _)) rfl (R1.out.done _ _ _ _ _ _ _)
  · obtain ⟨c, h3⟩ : ∃ x, rNumV zs i1 e1 = x := ⟨_, rfl⟩
    obtain ⟨i2, h4⟩ : ∃ x, rNumA zs i1 e1 = x := ⟨_, rfl⟩
    obtain ⟨e2, h5⟩ : ∃ x, rNumE zs i1 e1 = x := ⟨_, rfl⟩
    obtain ⟨q, h6⟩ : ∃ x, rNumV zs i2 e2 = x := ⟨_, rfl⟩
    obtain ⟨i3, h7⟩ : ∃ x, rNumA zs i2 e2 = x := ⟨_, rfl⟩
    obtain ⟨e3, h8⟩ : ∃ x, rNumE zs i2 e2 = x := ⟨_, rfl⟩
    obtain ⟨a, h9⟩ : ∃ x, rTxtV zs i3 e3 16 = x := ⟨_, rfl⟩
    obtain ⟨i4, h10⟩ : ∃ x, rTxtA zs i3 e3 16 = x := ⟨_, rfl⟩
    obtain ⟨e4, h11⟩ : ∃ x, rTxtE zs i3 e3 16 = x := ⟨_, rfl⟩
    rw [readC_some k0 hk hi1 he1 h3 h4 h5 h6 h7 h8 h9 h10 h11]
    have t0 : (k == 0) = false := by rw [beq_eq_false_iff_ne]; exact k0
    clear hk hi1 he1 h
    -- by get-gen.py
    obtain rfl | rfl | rfl | ⟨n2, n4, n5⟩ : k = 2 ∨ k = 4 ∨ k = 5 ∨ (k ≠ 2 ∧ k ≠ 4 ∧ k ≠ 5) := by omega
    · rw [if_pos rfl]
      obtain ⟨b, h12⟩ : ∃ x, rTxtV zs i4 e4 64 = x := ⟨_, rfl⟩
      obtain ⟨i5, h13⟩ : ∃ x, rTxtA zs i4 e4 64 = x := ⟨_, rfl⟩
      obtain ⟨e5, h14⟩ : ∃ x, rTxtE zs i4 e4 64 = x := ⟨_, rfl⟩
      rw [h12, h13, h14]
      have H3 := hide h3
      have H4 := hide h4
      have H5 := hide h5
      have H6 := hide h6
      have H7 := hide h7
      have H8 := hide h8
      have H9 := hide h9
      have H10 := hide h10
      have H11 := hide h11
      have H12 := hide h12
      have H13 := hide h13
      have H14 := hide h14
      clear h3 h4 h5 h6 h7 h8 h9 h10 h11 h12 h13 h14
      go_enter Try.func35, Try.ntmps35
      go_upto_region 2 with (go_at_call 46; (with_reducible refine H0.out.mono ?_); rintro y w1 ⟨rfl, hr1, hg1⟩)
      have R1 := hide (show Rz 59 w (w1.alloc (.cells #[.int .i64 2, .int .i64 0, .int .i64 0, .string ⟨#[]⟩, .string ⟨#[]⟩, .string ⟨#[]⟩, .string ⟨#[]⟩] 23)) B g zs i1 e1 w.heap.size w1.heap.size ⟨2, 0, 0, noT, noT, noT, noT⟩ from Rz.start ⟨2, 0, 0, noT, noT, noT, noT⟩ hr1 hg1 hlt)
      clear hr1 hg1
      generalize w1.heap.size = h at *
      generalize w1.alloc (.cells #[.int .i64 2, .int .i64 0, .int .i64 0, .string ⟨#[]⟩, .string ⟨#[]⟩, .string ⟨#[]⟩, .string ⟨#[]⟩] 23) = w2 at *
      obtain ⟨q0, q1, q2, q3, q4, q5, q6⟩ := R1.out.c.cells7
      obtain ⟨f0, f1, f2, f3, f4, f5, f6⟩ := R1.out.c.free7
      simp only at q0 q1 q2 q3 q4 q5 q6
      go_upto_region 15 with (first
        | (go_at_call 46; (with_reducible refine (Rz.num R1.out H3.out H4.out H5.out).mono ?_); rintro y w3 ⟨rfl, ⟨q0, q1, q2, q3, q4, q5, q6⟩, ⟨f0, f1, f2, f3, f4, f5, f6⟩, R⟩; simp only at q0 q1 q2 q3 q4 q5 q6; have R2 := hide (show Rz 59 w (w3.setCell ⟨h, 1, none⟩ (.int .i64 c)) B g zs i2 e2 w.heap.size h ⟨2, c, 0, noT, noT, noT, noT⟩ from R.put 1 _ rfl); clear R)
        | (go_at_call 46; (with_reducible refine (Rz.num R2.out H6.out H7.out H8.out).mono ?_); rintro y w4 ⟨rfl, ⟨q0, q1, q2, q3, q4, q5, q6⟩, ⟨f0, f1, f2, f3, f4, f5, f6⟩, R⟩; simp only at q0 q1 q2 q3 q4 q5 q6; have R3 := hide (show Rz 59 w (w4.setCell ⟨h, 2, none⟩ (.int .i64 q)) B g zs i3 e3 w.heap.size h ⟨2, c, q, noT, noT, noT, noT⟩ from R.put 2 _ rfl); clear R)
        | (go_at_call 47; (with_reducible refine (Rz.text R3.out 16 H9.out H10.out H11.out).mono ?_); rintro y w5 ⟨rfl, ⟨q0, q1, q2, q3, q4, q5, q6⟩, ⟨f0, f1, f2, f3, f4, f5, f6⟩, R⟩; simp only at q0 q1 q2 q3 q4 q5 q6; have R4 := hide (show Rz 59 w (w5.setCell ⟨h, 3, none⟩ (.string (strOf a))) B g zs i4 e4 w.heap.size h ⟨2, c, q, (strOf a), noT, noT, noT⟩ from R.put 3 _ rfl); clear R)
        | (go_at_call 47; (with_reducible refine (Rz.text R4.out 64 H12.out H13.out H14.out).mono ?_); rintro y w6 ⟨rfl, ⟨q0, q1, q2, q3, q4, q5, q6⟩, ⟨f0, f1, f2, f3, f4, f5, f6⟩, R⟩; simp only at q0 q1 q2 q3 q4 q5 q6; have R5 := hide (show Rz 59 w (w6.setCell ⟨h, 6, none⟩ (.string (strOf b))) B g zs i5 e5 w.heap.size h ⟨2, c, q, (strOf a), noT, noT, (strOf b)⟩ from R.put 6 _ rfl); clear R))
      generalize (w6.setCell ⟨h, 6, none⟩ (.string (strOf b))) = w9 at *
      obtain ⟨r0, r1, r2, r3, r4, r5, r6⟩ := R5.out.c.cells7
      obtain ⟨p0, p1, p2, p3, p4, p5, p6⟩ := R5.out.res.cells7
      obtain ⟨g0, g1, g2, g3, g4, g5, g6⟩ := R5.out.res.free7
      simp only at r0 r1 r2 r3 r4 r5 r6
      go_wp2
      exact bodyPost_ret (results_row (x := ⟨2, c, q, (strOf a), noT, noT, (strOf b)⟩) Try.results35 rfl (R5.out.res.seven _ _ _ _ _ _ _)) rfl (R5.out.done _ _ _ _ _ _ _)
    · rw [if_neg (by decide), if_pos rfl]
      obtain ⟨b, h12⟩ : ∃ x, rTxtV zs i4 e4 64 = x := ⟨_, rfl⟩
      obtain ⟨i5, h13⟩ : ∃ x, rTxtA zs i4 e4 64 = x := ⟨_, rfl⟩
      obtain ⟨e5, h14⟩ : ∃ x, rTxtE zs i4 e4 64 = x := ⟨_, rfl⟩
      rw [h12, h13, h14]
      obtain ⟨d, h15⟩ : ∃ x, rTxtV zs i5 e5 64 = x := ⟨_, rfl⟩
      obtain ⟨i6, h16⟩ : ∃ x, rTxtA zs i5 e5 64 = x := ⟨_, rfl⟩
      obtain ⟨e6, h17⟩ : ∃ x, rTxtE zs i5 e5 64 = x := ⟨_, rfl⟩
      rw [h15, h16, h17]
      have H3 := hide h3
      have H4 := hide h4
      have H5 := hide h5
      have H6 := hide h6
      have H7 := hide h7
      have H8 := hide h8
      have H9 := hide h9
      have H10 := hide h10
      have H11 := hide h11
      have H12 := hide h12
      have H13 := hide h13
      have H14 := hide h14
      have H15 := hide h15
      have H16 := hide h16
      have H17 := hide h17
      clear h3 h4 h5 h6 h7 h8 h9 h10 h11 h12 h13 h14 h15 h16 h17
      go_enter Try.func35, Try.ntmps35
      go_upto_region 2 with (go_at_call 46; (with_reducible refine H0.out.mono ?_); rintro y w1 ⟨rfl, hr1, hg1⟩)
      have R1 := hide (show Rz 59 w (w1.alloc (.cells #[.int .i64 4, .int .i64 0, .int .i64 0, .string ⟨#[]⟩, .string ⟨#[]⟩, .string ⟨#[]⟩, .string ⟨#[]⟩] 23)) B g zs i1 e1 w.heap.size w1.heap.size ⟨4, 0, 0, noT, noT, noT, noT⟩ from Rz.start ⟨4, 0, 0, noT, noT, noT, noT⟩ hr1 hg1 hlt)
      clear hr1 hg1
      generalize w1.heap.size = h at *
      generalize w1.alloc (.cells #[.int .i64 4, .int .i64 0, .int .i64 0, .string ⟨#[]⟩, .string ⟨#[]⟩, .string ⟨#[]⟩, .string ⟨#[]⟩] 23) = w2 at *
      obtain ⟨q0, q1, q2, q3, q4, q5, q6⟩ := R1.out.c.cells7
      obtain ⟨f0, f1, f2, f3, f4, f5, f6⟩ := R1.out.c.free7
      simp only at q0 q1 q2 q3 q4 q5 q6
      go_upto_region 15 with (first
        | (go_at_call 46; (with_reducible refine (Rz.num R1.out H3.out H4.out H5.out).mono ?_); rintro y w3 ⟨rfl, ⟨q0, q1, q2, q3, q4, q5, q6⟩, ⟨f0, f1, f2, f3, f4, f5, f6⟩, R⟩; simp only at q0 q1 q2 q3 q4 q5 q6; have R2 := hide (show Rz 59 w (w3.setCell ⟨h, 1, none⟩ (.int .i64 c)) B g zs i2 e2 w.heap.size h ⟨4, c, 0, noT, noT, noT, noT⟩ from R.put 1 _ rfl); clear R)
        | (go_at_call 46; (with_reducible refine (Rz.num R2.out H6.out H7.out H8.out).mono ?_); rintro y w4 ⟨rfl, ⟨q0, q1, q2, q3, q4, q5, q6⟩, ⟨f0, f1, f2, f3, f4, f5, f6⟩, R⟩; simp only at q0 q1 q2 q3 q4 q5 q6; have R3 := hide (show Rz 59 w (w4.setCell ⟨h, 2, none⟩ (.int .i64 q)) B g zs i3 e3 w.heap.size h ⟨4, c, q, noT, noT, noT, noT⟩ from R.put 2 _ rfl); clear R)
        | (go_at_call 47; (with_reducible refine (Rz.text R3.out 16 H9.out H10.out H11.out).mono ?_); rintro y w5 ⟨rfl, ⟨q0, q1, q2, q3, q4, q5, q6⟩, ⟨f0, f1, f2, f3, f4, f5, f6⟩, R⟩; simp only at q0 q1 q2 q3 q4 q5 q6; have R4 := hide (show Rz 59 w (w5.setCell ⟨h, 3, none⟩ (.string (strOf a))) B g zs i4 e4 w.heap.size h ⟨4, c, q, (strOf a), noT, noT, noT⟩ from R.put 3 _ rfl); clear R)
        | (go_at_call 47; (with_reducible refine (Rz.text R4.out 64 H12.out H13.out H14.out).mono ?_); rintro y w6 ⟨rfl, ⟨q0, q1, q2, q3, q4, q5, q6⟩, ⟨f0, f1, f2, f3, f4, f5, f6⟩, R⟩; simp only at q0 q1 q2 q3 q4 q5 q6; have R5 := hide (show Rz 59 w (w6.setCell ⟨h, 5, none⟩ (.string (strOf b))) B g zs i5 e5 w.heap.size h ⟨4, c, q, (strOf a), noT, (strOf b), noT⟩ from R.put 5 _ rfl); clear R)
        | (go_at_call 47; (with_reducible refine (Rz.text R5.out 64 H15.out H16.out H17.out).mono ?_); rintro y w7 ⟨rfl, ⟨q0, q1, q2, q3, q4, q5, q6⟩, ⟨f0, f1, f2, f3, f4, f5, f6⟩, R⟩; simp only at q0 q1 q2 q3 q4 q5 q6; have R6 := hide (show Rz 59 w (w7.setCell ⟨h, 6, none⟩ (.string (strOf d))) B g zs i6 e6 w.heap.size h ⟨4, c, q, (strOf a), noT, (strOf b), (strOf d)⟩ from R.put 6 _ rfl); clear R))
      generalize (w7.setCell ⟨h, 6, none⟩ (.string (strOf d))) = w9 at *
      obtain ⟨r0, r1, r2, r3, r4, r5, r6⟩ := R6.out.c.cells7
      obtain ⟨p0, p1, p2, p3, p4, p5, p6⟩ := R6.out.res.cells7
      obtain ⟨g0, g1, g2, g3, g4, g5, g6⟩ := R6.out.res.free7
      simp only at r0 r1 r2 r3 r4 r5 r6
      go_wp2
      exact bodyPost_ret (results_row (x := ⟨4, c, q, (strOf a), noT, (strOf b), (strOf d)⟩) Try.results35 rfl (R6.out.res.seven _ _ _ _ _ _ _)) rfl (R6.out.done _ _ _ _ _ _ _)
    · rw [if_neg (by decide), if_neg (by decide), if_pos rfl]
      obtain ⟨b, h12⟩ : ∃ x, rTxtV zs i4 e4 16 = x := ⟨_, rfl⟩
      obtain ⟨i5, h13⟩ : ∃ x, rTxtA zs i4 e4 16 = x := ⟨_, rfl⟩
      obtain ⟨e5, h14⟩ : ∃ x, rTxtE zs i4 e4 16 = x := ⟨_, rfl⟩
      rw [h12, h13, h14]
      have H3 := hide h3
      have H4 := hide h4
      have H5 := hide h5
      have H6 := hide h6
      have H7 := hide h7
      have H8 := hide h8
      have H9 := hide h9
      have H10 := hide h10
      have H11 := hide h11
      have H12 := hide h12
      have H13 := hide h13
      have H14 := hide h14
      clear h3 h4 h5 h6 h7 h8 h9 h10 h11 h12 h13 h14
      go_enter Try.func35, Try.ntmps35
      go_upto_region 2 with (go_at_call 46; (with_reducible refine H0.out.mono ?_); rintro y w1 ⟨rfl, hr1, hg1⟩)
      have R1 := hide (show Rz 59 w (w1.alloc (.cells #[.int .i64 5, .int .i64 0, .int .i64 0, .string ⟨#[]⟩, .string ⟨#[]⟩, .string ⟨#[]⟩, .string ⟨#[]⟩] 23)) B g zs i1 e1 w.heap.size w1.heap.size ⟨5, 0, 0, noT, noT, noT, noT⟩ from Rz.start ⟨5, 0, 0, noT, noT, noT, noT⟩ hr1 hg1 hlt)
      clear hr1 hg1
      generalize w1.heap.size = h at *
      generalize w1.alloc (.cells #[.int .i64 5, .int .i64 0, .int .i64 0, .string ⟨#[]⟩, .string ⟨#[]⟩, .string ⟨#[]⟩, .string ⟨#[]⟩] 23) = w2 at *
      obtain ⟨q0, q1, q2, q3, q4, q5, q6⟩ := R1.out.c.cells7
      obtain ⟨f0, f1, f2, f3, f4, f5, f6⟩ := R1.out.c.free7
      simp only at q0 q1 q2 q3 q4 q5 q6
      go_upto_region 15 with (first
        | (go_at_call 46; (with_reducible refine (Rz.num R1.out H3.out H4.out H5.out).mono ?_); rintro y w3 ⟨rfl, ⟨q0, q1, q2, q3, q4, q5, q6⟩, ⟨f0, f1, f2, f3, f4, f5, f6⟩, R⟩; simp only at q0 q1 q2 q3 q4 q5 q6; have R2 := hide (show Rz 59 w (w3.setCell ⟨h, 1, none⟩ (.int .i64 c)) B g zs i2 e2 w.heap.size h ⟨5, c, 0, noT, noT, noT, noT⟩ from R.put 1 _ rfl); clear R)
        | (go_at_call 46; (with_reducible refine (Rz.num R2.out H6.out H7.out H8.out).mono ?_); rintro y w4 ⟨rfl, ⟨q0, q1, q2, q3, q4, q5, q6⟩, ⟨f0, f1, f2, f3, f4, f5, f6⟩, R⟩; simp only at q0 q1 q2 q3 q4 q5 q6; have R3 := hide (show Rz 59 w (w4.setCell ⟨h, 2, none⟩ (.int .i64 q)) B g zs i3 e3 w.heap.size h ⟨5, c, q, noT, noT, noT, noT⟩ from R.put 2 _ rfl); clear R)
        | (go_at_call 47; (with_reducible refine (Rz.text R3.out 16 H9.out H10.out H11.out).mono ?_); rintro y w5 ⟨rfl, ⟨q0, q1, q2, q3, q4, q5, q6⟩, ⟨f0, f1, f2, f3, f4, f5, f6⟩, R⟩; simp only at q0 q1 q2 q3 q4 q5 q6; have R4 := hide (show Rz 59 w (w5.setCell ⟨h, 3, none⟩ (.string (strOf a))) B g zs i4 e4 w.heap.size h ⟨5, c, q, (strOf a), noT, noT, noT⟩ from R.put 3 _ rfl); clear R)
        | (go_at_call 47; (with_reducible refine (Rz.text R4.out 16 H12.out H13.out H14.out).mono ?_); rintro y w6 ⟨rfl, ⟨q0, q1, q2, q3, q4, q5, q6⟩, ⟨f0, f1, f2, f3, f4, f5, f6⟩, R⟩; simp only at q0 q1 q2 q3 q4 q5 q6; have R5 := hide (show Rz 59 w (w6.setCell ⟨h, 4, none⟩ (.string (strOf b))) B g zs i5 e5 w.heap.size h ⟨5, c, q, (strOf a), (strOf b), noT, noT⟩ from R.put 4 _ rfl); clear R))
      generalize (w6.setCell ⟨h, 4, none⟩ (.string (strOf b))) = w9 at *
      obtain ⟨r0, r1, r2, r3, r4, r5, r6⟩ := R5.out.c.cells7
      obtain ⟨p0, p1, p2, p3, p4, p5, p6⟩ := R5.out.res.cells7
      obtain ⟨g0, g1, g2, g3, g4, g5, g6⟩ := R5.out.res.free7
      simp only at r0 r1 r2 r3 r4 r5 r6
      go_wp2
      exact bodyPost_ret (results_row (x := ⟨5, c, q, (strOf a), (strOf b), noT, noT⟩) Try.results35 rfl (R5.out.res.seven _ _ _ _ _ _ _)) rfl (R5.out.done _ _ _ _ _ _ _)
    · obtain ⟨t2, t4, t5⟩ : (k == 2) = false ∧ (k == 4) = false ∧ (k == 5) = false := ⟨beq_eq_false_iff_ne.2 n2, beq_eq_false_iff_ne.2 n4, beq_eq_false_iff_ne.2 n5⟩
      rw [if_neg n2, if_neg n4, if_neg n5]
      have H3 := hide h3
      have H4 := hide h4
      have H5 := hide h5
      have H6 := hide h6
      have H7 := hide h7
      have H8 := hide h8
      have H9 := hide h9
      have H10 := hide h10
      have H11 := hide h11
      clear h3 h4 h5 h6 h7 h8 h9 h10 h11
      go_enter Try.func35, Try.ntmps35
      go_upto_region 2 with (go_at_call 46; (with_reducible refine H0.out.mono ?_); rintro y w1 ⟨rfl, hr1, hg1⟩)
      have R1 := hide (show Rz 59 w (w1.alloc (.cells #[.int .i64 k, .int .i64 0, .int .i64 0, .string ⟨#[]⟩, .string ⟨#[]⟩, .string ⟨#[]⟩, .string ⟨#[]⟩] 23)) B g zs i1 e1 w.heap.size w1.heap.size ⟨k, 0, 0, noT, noT, noT, noT⟩ from Rz.start ⟨k, 0, 0, noT, noT, noT, noT⟩ hr1 hg1 hlt)
      clear hr1 hg1
      generalize w1.heap.size = h at *
      generalize w1.alloc (.cells #[.int .i64 k, .int .i64 0, .int .i64 0, .string ⟨#[]⟩, .string ⟨#[]⟩, .string ⟨#[]⟩, .string ⟨#[]⟩] 23) = w2 at *
      obtain ⟨q0, q1, q2, q3, q4, q5, q6⟩ := R1.out.c.cells7
      obtain ⟨f0, f1, f2, f3, f4, f5, f6⟩ := R1.out.c.free7
      simp only at q0 q1 q2 q3 q4 q5 q6
      go_upto_region 15 with (first
        | (go_at_call 46; (with_reducible refine (Rz.num R1.out H3.out H4.out H5.out).mono ?_); rintro y w3 ⟨rfl, ⟨q0, q1, q2, q3, q4, q5, q6⟩, ⟨f0, f1, f2, f3, f4, f5, f6⟩, R⟩; simp only at q0 q1 q2 q3 q4 q5 q6; have R2 := hide (show Rz 59 w (w3.setCell ⟨h, 1, none⟩ (.int .i64 c)) B g zs i2 e2 w.heap.size h ⟨k, c, 0, noT, noT, noT, noT⟩ from R.put 1 _ rfl); clear R)
        | (go_at_call 46; (with_reducible refine (Rz.num R2.out H6.out H7.out H8.out).mono ?_); rintro y w4 ⟨rfl, ⟨q0, q1, q2, q3, q4, q5, q6⟩, ⟨f0, f1, f2, f3, f4, f5, f6⟩, R⟩; simp only at q0 q1 q2 q3 q4 q5 q6; have R3 := hide (show Rz 59 w (w4.setCell ⟨h, 2, none⟩ (.int .i64 q)) B g zs i3 e3 w.heap.size h ⟨k, c, q, noT, noT, noT, noT⟩ from R.put 2 _ rfl); clear R)
        | (go_at_call 47; (with_reducible refine (Rz.text R3.out 16 H9.out H10.out H11.out).mono ?_); rintro y w5 ⟨rfl, ⟨q0, q1, q2, q3, q4, q5, q6⟩, ⟨f0, f1, f2, f3, f4, f5, f6⟩, R⟩; simp only at q0 q1 q2 q3 q4 q5 q6; have R4 := hide (show Rz 59 w (w5.setCell ⟨h, 3, none⟩ (.string (strOf a))) B g zs i4 e4 w.heap.size h ⟨k, c, q, (strOf a), noT, noT, noT⟩ from R.put 3 _ rfl); clear R))
      generalize (w5.setCell ⟨h, 3, none⟩ (.string (strOf a))) = w9 at *
      obtain ⟨r0, r1, r2, r3, r4, r5, r6⟩ := R4.out.c.cells7
      obtain ⟨p0, p1, p2, p3, p4, p5, p6⟩ := R4.out.res.cells7
      obtain ⟨g0, g1, g2, g3, g4, g5, g6⟩ := R4.out.res.free7
      simp only at r0 r1 r2 r3 r4 r5 r6
      go_wp2
      exact bodyPost_ret (results_row (x := ⟨k, c, q, (strOf a), noT, noT, noT⟩) Try.results35 rfl (R4.out.res.seven _ _ _ _ _ _ _)) rfl (R4.out.done _ _ _ _ _ _ _)
    -- end of get-gen.py
end Go.Proofs.Ytigbplmfhnamkaa
