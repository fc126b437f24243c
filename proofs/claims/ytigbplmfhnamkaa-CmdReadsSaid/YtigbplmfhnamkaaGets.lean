/- What Get of package cmd comes to. Conditions: the reader lies in memory as it must. -/
import Derived.Test.YtigbplmfhnamkaaGet
namespace Go.Proofs.Ytigbplmfhnamkaa
open Go.RowKit
section
variable {t : TypeId} {W w w' : World} {B g i i' h2 h : Nat} {zs : List Int} {e e' : Int} {x : Cm}
theorem Rz.quiet (s : Rz t W w B g zs i e h2 h x) (hb : Below w.heap.size w w') : Rz t W w' B g zs i e h2 h x :=
  have h1 := s.res.lt
  have h3 := s.c.lt
  ⟨s.r.below hb, s.res.below hb h1, s.c.below hb h3, ⟨hb.os.trans s.old.os, hb.tape.trans s.old.tape, hb.output.trans s.old.output, Nat.le_trans s.old.size hb.size, fun k hk hn => (hb.block k (Nat.lt_of_lt_of_le hk s.old.size)).trans (s.old.block k hk hn)⟩, s.new, s.g2, s.lt⟩
theorem Rz.call {P : Program} {F : FuncId} {args : Array Value} {v : Value} (s : Rz t W w B g zs i e h2 h x) (hf : Calls P F args w fun y w' => y = .returned v ∧ Below w.heap.size w w') :
    Calls P F args w fun y w' => y = .returned v ∧ Cells7 w' h x ∧ (Cells7 w' h2 zeroC ∧ Free7 w' h2) ∧ Rz t W w' B g zs i e h2 h x :=
  hf.mono fun _ _ ⟨hy, hb⟩ => have z := s.quiet hb; ⟨hy, z.c.cells7, ⟨z.res.cells7, z.res.free7⟩, z⟩
end
theorem Rz.fails {W w : World} {B g i h2 h : Nat} {zs : List Int} {e : Int} {x : Cm} (s : Rz 59 W w B g zs i e h2 h x) :
    Calls Try.prog 36 #[.pointer (some ⟨g, 0, none⟩)] w fun y w' => y = .returned (.tuple #[]) ∧ Cells7 w' h x ∧ (Cells7 w' h2 zeroC ∧ Free7 w' h2) ∧ Rz 59 W w' B g zs i (rFailE e) h2 h x :=
  (pfail_any s.r).mono fun _ _ ⟨hy, hr, hg⟩ => have z := s.step hr hg; ⟨hy, z.c.cells7, ⟨z.res.cells7, z.res.free7⟩, z⟩
set_option maxRecDepth 100000 in
set_option maxHeartbeats 8000000 in
theorem get_any {w : World} {B g i : Nat} {zs : List Int} {e : Int} (h : Rdr 59 w B g zs i e) :
    Calls Try.prog 23 #[.pointer (some ⟨g, 0, none⟩)] w (ReadTo 59 w B g zs (getV zs i e, getA zs i e, getE zs i e)) := by
  have hlt := h.lt
  have h0 := read_any (h.alloc (.cells #[.int .i64 0, .int .i64 0, .int .i64 0, .string ⟨#[]⟩, .string ⟨#[]⟩, .string ⟨#[]⟩, .string ⟨#[]⟩] 23))
  unfold getV getA getE
  generalize readC zs i e = r at *
  obtain ⟨⟨k, c, q, a, b, o, v⟩, i1, e1⟩ := r
  unfold ReadTo valC at h0
  simp only at h0 ⊢
  have H0 := hide h0
  have HR := hide fun w1 => right_any k c q a b o v w1
  clear h0 h
  cases hr : rightC ⟨k, c, q, a, b, o, v⟩
  · have hE : rFailE e1 ≠ 0 := by unfold rFailE; split <;> omega
    have ht : (rFailE e1 != 0) = true := by simpa using hE
    simp only [Bool.false_eq_true, if_false, if_neg hE]
    rw [hr] at HR
    clear hr hE
    go_enter Try.func23, Try.ntmps23
    go_upto_region 4 with (go_at_call 35; (with_reducible refine H0.out.mono ?_); rintro y w1 ⟨rfl, hr1, hg1⟩)
    have R1 := hide (show Rz 59 w (w1.alloc (.cells #[.int .i64 k, .int .i64 c, .int .i64 q, .string a, .string b, .string o, .string v] 23)) B g zs i1 e1 w.heap.size w1.heap.size ⟨k, c, q, a, b, o, v⟩ from Rz.start ⟨k, c, q, a, b, o, v⟩ hr1 hg1 hlt)
    clear hr1 hg1 H0
    generalize w1.heap.size = h at *
    generalize w1.alloc (.cells #[.int .i64 k, .int .i64 c, .int .i64 q, .string a, .string b, .string o, .string v] 23) = w2 at *
    obtain ⟨q0, q1, q2, q3, q4, q5, q6⟩ := R1.out.c.cells7
    simp only at q0 q1 q2 q3 q4 q5 q6
    go_wp2_with (first
      | (go_at_call 15; (with_reducible refine (Rz.call R1.out (HR.out _)).mono ?_); rintro y w3 ⟨rfl, ⟨q0, q1, q2, q3, q4, q5, q6⟩, ⟨⟨p0, p1, p2, p3, p4, p5, p6⟩, ⟨g0, g1, g2, g3, g4, g5, g6⟩⟩, R⟩; simp only at q0 q1 q2 q3 q4 q5 q6; have R2 := hide R; clear R)
      | (go_at_call 36; (with_reducible refine (Rz.fails R2.out).mono ?_); rintro y w4 ⟨rfl, ⟨q0, q1, q2, q3, q4, q5, q6⟩, ⟨⟨p0, p1, p2, p3, p4, p5, p6⟩, ⟨g0, g1, g2, g3, g4, g5, g6⟩⟩, R⟩; simp only at q0 q1 q2 q3 q4 q5 q6; have R3 := hide R; clear R)
      | (go_at_call 25; (with_reducible refine (pwrong_any R3.out.r).mono ?_); rintro y w5 ⟨rfl, rfl⟩))
    exact bodyPost_ret (results_row (x := zeroC) Try.results23 rfl (R3.out.res.seven _ _ _ _ _ _ _)) rfl (R3.out.done _ _ _ _ _ _ _)
  · simp only [if_true]
    rw [hr] at HR
    clear hr
    by_cases hE : e1 = 0
    · subst hE
      simp only [if_true]
      go_enter Try.func23, Try.ntmps23
      go_upto_region 4 with (go_at_call 35; (with_reducible refine H0.out.mono ?_); rintro y w1 ⟨rfl, hr1, hg1⟩)
      have R1 := hide (show Rz 59 w (w1.alloc (.cells #[.int .i64 k, .int .i64 c, .int .i64 q, .string a, .string b, .string o, .string v] 23)) B g zs i1 0 w.heap.size w1.heap.size ⟨k, c, q, a, b, o, v⟩ from Rz.start ⟨k, c, q, a, b, o, v⟩ hr1 hg1 hlt)
      clear hr1 hg1 H0
      generalize w1.heap.size = h at *
      generalize w1.alloc (.cells #[.int .i64 k, .int .i64 c, .int .i64 q, .string a, .string b, .string o, .string v] 23) = w2 at *
      obtain ⟨q0, q1, q2, q3, q4, q5, q6⟩ := R1.out.c.cells7
      simp only at q0 q1 q2 q3 q4 q5 q6
      go_wp2_with (first
        | (go_at_call 15; (with_reducible refine (Rz.call R1.out (HR.out _)).mono ?_); rintro y w3 ⟨rfl, ⟨q0, q1, q2, q3, q4, q5, q6⟩, ⟨⟨p0, p1, p2, p3, p4, p5, p6⟩, ⟨g0, g1, g2, g3, g4, g5, g6⟩⟩, R⟩; simp only at q0 q1 q2 q3 q4 q5 q6; have R2 := hide R; clear R)
        | (go_at_call 25; (with_reducible refine (pwrong_any R2.out.r).mono ?_); rintro y w5 ⟨rfl, rfl⟩))
      exact bodyPost_ret (results_row (x := ⟨k, c, q, a, b, o, v⟩) Try.results23 rfl (R2.out.res.seven _ _ _ _ _ _ _)) rfl (R2.out.done _ _ _ _ _ _ _)
    · have ht : (e1 != 0) = true := by simpa using hE
      simp only [if_neg hE]
      clear hE
      go_enter Try.func23, Try.ntmps23
      go_upto_region 4 with (go_at_call 35; (with_reducible refine H0.out.mono ?_); rintro y w1 ⟨rfl, hr1, hg1⟩)
      have R1 := hide (show Rz 59 w (w1.alloc (.cells #[.int .i64 k, .int .i64 c, .int .i64 q, .string a, .string b, .string o, .string v] 23)) B g zs i1 e1 w.heap.size w1.heap.size ⟨k, c, q, a, b, o, v⟩ from Rz.start ⟨k, c, q, a, b, o, v⟩ hr1 hg1 hlt)
      clear hr1 hg1 H0
      generalize w1.heap.size = h at *
      generalize w1.alloc (.cells #[.int .i64 k, .int .i64 c, .int .i64 q, .string a, .string b, .string o, .string v] 23) = w2 at *
      obtain ⟨q0, q1, q2, q3, q4, q5, q6⟩ := R1.out.c.cells7
      simp only at q0 q1 q2 q3 q4 q5 q6
      go_wp2_with (first
        | (go_at_call 15; (with_reducible refine (Rz.call R1.out (HR.out _)).mono ?_); rintro y w3 ⟨rfl, ⟨q0, q1, q2, q3, q4, q5, q6⟩, ⟨⟨p0, p1, p2, p3, p4, p5, p6⟩, ⟨g0, g1, g2, g3, g4, g5, g6⟩⟩, R⟩; simp only at q0 q1 q2 q3 q4 q5 q6; have R2 := hide R; clear R)
        | (go_at_call 25; (with_reducible refine (pwrong_any R2.out.r).mono ?_); rintro y w5 ⟨rfl, rfl⟩))
      exact bodyPost_ret (results_row (x := zeroC) Try.results23 rfl (R2.out.res.seven _ _ _ _ _ _ _)) rfl (R2.out.done _ _ _ _ _ _ _)
end Go.Proofs.Ytigbplmfhnamkaa
