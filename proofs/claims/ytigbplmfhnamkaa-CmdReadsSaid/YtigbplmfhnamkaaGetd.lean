/- What the law's own reading of a command, by the document, comes to. Conditions: the reader lies in memory as it must. -/
import Derived.Test.YtigbplmfhnamkaaGets
import Derived.Test.YtigbplmfhnamkaaSame2
import Derived.Deep.DeepCutAuto
namespace Go.Proofs.Ytigbplmfhnamkaa
open Go.RowKit
theorem Rz.wrongs {t : TypeId} {W w : World} {B g i h2 h : Nat} {zs : List Int} {e : Int} {x : Cm} (s : Rz t W w B g zs i e h2 h x) : Rz t W (w.setCell ⟨g, 2, none⟩ (.int .i64 4)) B g zs i 4 h2 h x :=
  have h1 := s.g2
  have h3 := s.lt
  ⟨s.r.wrong (by omega), (Below.heap_setCell w ⟨g, 2, none⟩ _ h2 (by show h2 ≠ g; omega)).trans s.res, (Below.heap_setCell w ⟨g, 2, none⟩ _ h (by show h ≠ g; omega)).trans s.c, grown_put s.old _ _, s.new, s.g2, s.lt⟩
theorem num_zero {zs : List Int} {i : Nat} {e : Int} (h : rNumV zs i e ≠ 0) : rNumE zs i e = 0 := by
  unfold rNumV at h
  by_cases he : rNumE zs i e = 0
  · exact he
  · rw [if_neg he] at h; exact absurd rfl h
set_option maxRecDepth 100000 in
set_option maxHeartbeats 16000000 in
theorem docget_any {w : World} {B g i : Nat} {zs : List Int} {e : Int} (hh : Rdr 45 w B g zs i e) :
    Calls Try.prog 24 #[.pointer (some ⟨g, 0, none⟩)] w (ReadTo 45 w B g zs (getV zs i e, getA zs i e, getE zs i e)) := by
  have hlt := hh.lt
  have h0 := rnum_to (hh.alloc (.cells #[.int .i64 0, .int .i64 0, .int .i64 0, .string ⟨#[]⟩, .string ⟨#[]⟩, .string ⟨#[]⟩, .string ⟨#[]⟩] 23))
  have H0 := hide h0
  clear h0
  obtain ⟨k, hk⟩ : ∃ x, rNumV zs i e = x := ⟨_, rfl⟩
  obtain ⟨i1, hi1⟩ : ∃ x, rNumA zs i e = x := ⟨_, rfl⟩
  obtain ⟨e1, he1⟩ : ∃ x, rNumE zs i e = x := ⟨_, rfl⟩
  rw [hk, hi1, he1] at H0
  by_cases k0 : k = 0
  · subst k0
    unfold getV getA getE
    rw [readC_none hk hi1 he1]
    simp only
    have hz : rightC zeroC = true := right_zeroC
    rw [hz]
    simp only [if_true]
    by_cases hE : e1 = 0
    · subst hE
      simp only [if_true]
      have hZ := fun w1 => rright_to 0 0 0 noT noT noT noT w1
      have hz' : rightC ⟨0, 0, 0, noT, noT, noT, noT⟩ = true := hz
      rw [hz'] at hZ
      have HZ := hide hZ
      clear hZ hz'
      clear hz hk hi1 he1
      go_enter Try.func24, Try.ntmps24
      go_upto_region 2 with (go_at_call 37; (with_reducible refine H0.out.mono ?_); rintro y w1 ⟨rfl, hr1, hg1⟩)
      have R1 := hide (show Rz 45 w (w1.alloc (.cells #[.int .i64 0, .int .i64 0, .int .i64 0, .string ⟨#[]⟩, .string ⟨#[]⟩, .string ⟨#[]⟩, .string ⟨#[]⟩] 23)) B g zs i1 0 w.heap.size w1.heap.size zeroC from Rz.start zeroC hr1 hg1 hlt)
      clear hr1 hg1 H0
      generalize w1.heap.size = h at *
      generalize w1.alloc (.cells #[.int .i64 0, .int .i64 0, .int .i64 0, .string ⟨#[]⟩, .string ⟨#[]⟩, .string ⟨#[]⟩, .string ⟨#[]⟩] 23) = w2 at *
      obtain ⟨q0, q1, q2, q3, q4, q5, q6⟩ := R1.out.c.cells7
      obtain ⟨_, _, _, _, x2, _, _, _, _, _⟩ := R1.out.r.cells
      simp only [zeroC] at q0 q1 q2 q3 q4 q5 q6
      go_wp2_with (go_at_call 16; (with_reducible refine (Rz.call R1.out (HZ.out _)).mono ?_); rintro y w3 ⟨rfl, ⟨q0, q1, q2, q3, q4, q5, q6⟩, ⟨⟨p0, p1, p2, p3, p4, p5, p6⟩, ⟨g0, g1, g2, g3, g4, g5, g6⟩⟩, R⟩; simp only [zeroC] at q0 q1 q2 q3 q4 q5 q6; have R2 := hide R; clear R)
      exact bodyPost_ret (results_row (x := zeroC) Try.results24 rfl (R2.out.res.seven _ _ _ _ _ _ _)) rfl (R2.out.done _ _ _ _ _ _ _)
    · have ht : (e1 == 0) = false := by simpa using hE
      have ht' : (e1 != 0) = true := by simpa using hE
      simp only [if_neg hE]
      clear hE hz hk hi1 he1
      go_enter Try.func24, Try.ntmps24
      go_upto_region 2 with (go_at_call 37; (with_reducible refine H0.out.mono ?_); rintro y w1 ⟨rfl, hr1, hg1⟩)
      have R1 := hide (show Rz 45 w (w1.alloc (.cells #[.int .i64 0, .int .i64 0, .int .i64 0, .string ⟨#[]⟩, .string ⟨#[]⟩, .string ⟨#[]⟩, .string ⟨#[]⟩] 23)) B g zs i1 e1 w.heap.size w1.heap.size zeroC from Rz.start zeroC hr1 hg1 hlt)
      clear hr1 hg1 H0
      generalize w1.heap.size = h at *
      generalize w1.alloc (.cells #[.int .i64 0, .int .i64 0, .int .i64 0, .string ⟨#[]⟩, .string ⟨#[]⟩, .string ⟨#[]⟩, .string ⟨#[]⟩] 23) = w2 at *
      obtain ⟨p0, p1, p2, p3, p4, p5, p6⟩ := R1.out.res.cells7
      obtain ⟨g0, g1, g2, g3, g4, g5, g6⟩ := R1.out.res.free7
      obtain ⟨_, _, _, _, x2, _, _, _, _, _⟩ := R1.out.r.cells
      go_wp2
      exact bodyPost_ret (results_row (x := zeroC) Try.results24 rfl (R1.out.res.seven _ _ _ _ _ _ _)) rfl (R1.out.done _ _ _ _ _ _ _)
  · obtain rfl : e1 = 0 := by rw [← he1]; exact num_zero (by rw [hk]; exact k0)
    have t0 : (k != 0) = true := by simpa using k0
    obtain ⟨c, h3⟩ : ∃ x, rNumV zs i1 0 = x := ⟨_, rfl⟩
    obtain ⟨i2, h4⟩ : ∃ x, rNumA zs i1 0 = x := ⟨_, rfl⟩
    obtain ⟨e2, h5⟩ : ∃ x, rNumE zs i1 0 = x := ⟨_, rfl⟩
    obtain ⟨q, h6⟩ : ∃ x, rNumV zs i2 e2 = x := ⟨_, rfl⟩
    obtain ⟨i3, h7⟩ : ∃ x, rNumA zs i2 e2 = x := ⟨_, rfl⟩
    obtain ⟨e3, h8⟩ : ∃ x, rNumE zs i2 e2 = x := ⟨_, rfl⟩
    obtain ⟨a, h9⟩ : ∃ x, rTxtV zs i3 e3 16 = x := ⟨_, rfl⟩
    obtain ⟨i4, h10⟩ : ∃ x, rTxtA zs i3 e3 16 = x := ⟨_, rfl⟩
    obtain ⟨e4, h11⟩ : ∃ x, rTxtE zs i3 e3 16 = x := ⟨_, rfl⟩
    have hrd := readC_some k0 hk hi1 he1 h3 h4 h5 h6 h7 h8 h9 h10 h11
    obtain ⟨V, hV⟩ : ∃ x, getV zs i e = x := ⟨_, rfl⟩
    obtain ⟨I, hI⟩ : ∃ x, getA zs i e = x := ⟨_, rfl⟩
    obtain ⟨E, hE⟩ : ∃ x, getE zs i e = x := ⟨_, rfl⟩
    rw [hV, hI, hE]
    unfold getV getE at hV
    unfold getA at hI
    unfold getE at hE
    generalize readC zs i e = r at *
    have HV := hide hV
    have HI := hide hI
    have HE := hide hE
    clear hV hI hE
    have HD := hide hrd
    have H3 := hide h3
    have H4 := hide h4
    have H5 := hide h5
    have H6 := hide h6
    have H7 := hide h7
    have H8 := hide h8
    have H9 := hide h9
    have H10 := hide h10
    have H11 := hide h11
    clear hk hi1 he1 hh hrd h3 h4 h5 h6 h7 h8 h9 h10 h11
    go_enter Try.func24, Try.ntmps24
    go_upto_region 2 with (go_at_call 37; (with_reducible refine H0.out.mono ?_); rintro y w1 ⟨rfl, hr1, hg1⟩)
    have R1 := hide (show Rz 45 w (w1.alloc (.cells #[.int .i64 k, .int .i64 0, .int .i64 0, .string ⟨#[]⟩, .string ⟨#[]⟩, .string ⟨#[]⟩, .string ⟨#[]⟩] 23)) B g zs i1 0 w.heap.size w1.heap.size ⟨k, 0, 0, noT, noT, noT, noT⟩ from Rz.start ⟨k, 0, 0, noT, noT, noT, noT⟩ hr1 hg1 hlt)
    clear hr1 hg1 H0
    generalize w1.heap.size = h at *
    generalize w1.alloc (.cells #[.int .i64 k, .int .i64 0, .int .i64 0, .string ⟨#[]⟩, .string ⟨#[]⟩, .string ⟨#[]⟩, .string ⟨#[]⟩] 23) = w2 at *
    obtain ⟨q0, q1, q2, q3, q4, q5, q6⟩ := R1.out.c.cells7
    obtain ⟨f0, f1, f2, f3, f4, f5, f6⟩ := R1.out.c.free7
    obtain ⟨_, _, _, _, x2, _, _, _, _, _⟩ := R1.out.r.cells
    simp only at q0 q1 q2 q3 q4 q5 q6
    go_upto_if 16 with (fail)
    go_cut [28, 33, 41] (fun s28 s33 s41 wx => Hid (Rz 45 w wx B g zs r.2.1 r.2.2 w.heap.size h r.1))
    case first =>
      -- by get-gen.py
      obtain rfl | rfl | rfl | ⟨n2, n4, n5⟩ : k = 2 ∨ k = 4 ∨ k = 5 ∨ (k ≠ 2 ∧ k ≠ 4 ∧ k ≠ 5) := by omega
      · rw [if_pos rfl] at HD
        obtain ⟨b, h12⟩ : ∃ x, rTxtV zs i4 e4 64 = x := ⟨_, rfl⟩
        obtain ⟨i5, h13⟩ : ∃ x, rTxtA zs i4 e4 64 = x := ⟨_, rfl⟩
        obtain ⟨e5, h14⟩ : ∃ x, rTxtE zs i4 e4 64 = x := ⟨_, rfl⟩
        rw [h12, h13, h14] at HD
        have H12 := hide h12
        have H13 := hide h13
        have H14 := hide h14
        clear h12 h13 h14
        go_wp2_with (first
          | (go_at_call 37; (with_reducible refine (Rz.rnum R1.out H3.out H4.out H5.out).mono ?_); rintro y w3 ⟨rfl, ⟨q0, q1, q2, q3, q4, q5, q6⟩, ⟨f0, f1, f2, f3, f4, f5, f6⟩, R⟩; simp only at q0 q1 q2 q3 q4 q5 q6; have R2 := hide (show Rz 45 w (w3.setCell ⟨h, 1, none⟩ (.int .i64 c)) B g zs i2 e2 w.heap.size h ⟨2, c, 0, noT, noT, noT, noT⟩ from R.put 1 _ rfl); clear R)
          | (go_at_call 37; (with_reducible refine (Rz.rnum R2.out H6.out H7.out H8.out).mono ?_); rintro y w4 ⟨rfl, ⟨q0, q1, q2, q3, q4, q5, q6⟩, ⟨f0, f1, f2, f3, f4, f5, f6⟩, R⟩; simp only at q0 q1 q2 q3 q4 q5 q6; have R3 := hide (show Rz 45 w (w4.setCell ⟨h, 2, none⟩ (.int .i64 q)) B g zs i3 e3 w.heap.size h ⟨2, c, q, noT, noT, noT, noT⟩ from R.put 2 _ rfl); clear R)
          | (go_at_call 38; (with_reducible refine (Rz.rtext R3.out 16 H9.out H10.out H11.out).mono ?_); rintro y w5 ⟨rfl, ⟨q0, q1, q2, q3, q4, q5, q6⟩, ⟨f0, f1, f2, f3, f4, f5, f6⟩, R⟩; simp only at q0 q1 q2 q3 q4 q5 q6; have R4 := hide (show Rz 45 w (w5.setCell ⟨h, 3, none⟩ (.string (strOf a))) B g zs i4 e4 w.heap.size h ⟨2, c, q, (strOf a), noT, noT, noT⟩ from R.put 3 _ rfl); clear R)
          | (go_at_call 38; (with_reducible refine (Rz.rtext R4.out 64 H12.out H13.out H14.out).mono ?_); rintro y w6 ⟨rfl, ⟨q0, q1, q2, q3, q4, q5, q6⟩, ⟨f0, f1, f2, f3, f4, f5, f6⟩, R⟩; simp only at q0 q1 q2 q3 q4 q5 q6; have R5 := hide (show Rz 45 w (w6.setCell ⟨h, 6, none⟩ (.string (strOf b))) B g zs i5 e5 w.heap.size h ⟨2, c, q, (strOf a), noT, noT, (strOf b)⟩ from R.put 6 _ rfl); clear R))
        go_meet
        rw [HD.out]
        exact R5
      · rw [if_neg (by decide), if_pos rfl] at HD
        obtain ⟨b, h12⟩ : ∃ x, rTxtV zs i4 e4 64 = x := ⟨_, rfl⟩
        obtain ⟨i5, h13⟩ : ∃ x, rTxtA zs i4 e4 64 = x := ⟨_, rfl⟩
        obtain ⟨e5, h14⟩ : ∃ x, rTxtE zs i4 e4 64 = x := ⟨_, rfl⟩
        rw [h12, h13, h14] at HD
        have H12 := hide h12
        have H13 := hide h13
        have H14 := hide h14
        clear h12 h13 h14
        obtain ⟨d, h15⟩ : ∃ x, rTxtV zs i5 e5 64 = x := ⟨_, rfl⟩
        obtain ⟨i6, h16⟩ : ∃ x, rTxtA zs i5 e5 64 = x := ⟨_, rfl⟩
        obtain ⟨e6, h17⟩ : ∃ x, rTxtE zs i5 e5 64 = x := ⟨_, rfl⟩
        rw [h15, h16, h17] at HD
        have H15 := hide h15
        have H16 := hide h16
        have H17 := hide h17
        clear h15 h16 h17
        go_wp2_with (first
          | (go_at_call 37; (with_reducible refine (Rz.rnum R1.out H3.out H4.out H5.out).mono ?_); rintro y w3 ⟨rfl, ⟨q0, q1, q2, q3, q4, q5, q6⟩, ⟨f0, f1, f2, f3, f4, f5, f6⟩, R⟩; simp only at q0 q1 q2 q3 q4 q5 q6; have R2 := hide (show Rz 45 w (w3.setCell ⟨h, 1, none⟩ (.int .i64 c)) B g zs i2 e2 w.heap.size h ⟨4, c, 0, noT, noT, noT, noT⟩ from R.put 1 _ rfl); clear R)
          | (go_at_call 37; (with_reducible refine (Rz.rnum R2.out H6.out H7.out H8.out).mono ?_); rintro y w4 ⟨rfl, ⟨q0, q1, q2, q3, q4, q5, q6⟩, ⟨f0, f1, f2, f3, f4, f5, f6⟩, R⟩; simp only at q0 q1 q2 q3 q4 q5 q6; have R3 := hide (show Rz 45 w (w4.setCell ⟨h, 2, none⟩ (.int .i64 q)) B g zs i3 e3 w.heap.size h ⟨4, c, q, noT, noT, noT, noT⟩ from R.put 2 _ rfl); clear R)
          | (go_at_call 38; (with_reducible refine (Rz.rtext R3.out 16 H9.out H10.out H11.out).mono ?_); rintro y w5 ⟨rfl, ⟨q0, q1, q2, q3, q4, q5, q6⟩, ⟨f0, f1, f2, f3, f4, f5, f6⟩, R⟩; simp only at q0 q1 q2 q3 q4 q5 q6; have R4 := hide (show Rz 45 w (w5.setCell ⟨h, 3, none⟩ (.string (strOf a))) B g zs i4 e4 w.heap.size h ⟨4, c, q, (strOf a), noT, noT, noT⟩ from R.put 3 _ rfl); clear R)
          | (go_at_call 38; (with_reducible refine (Rz.rtext R4.out 64 H12.out H13.out H14.out).mono ?_); rintro y w6 ⟨rfl, ⟨q0, q1, q2, q3, q4, q5, q6⟩, ⟨f0, f1, f2, f3, f4, f5, f6⟩, R⟩; simp only at q0 q1 q2 q3 q4 q5 q6; have R5 := hide (show Rz 45 w (w6.setCell ⟨h, 5, none⟩ (.string (strOf b))) B g zs i5 e5 w.heap.size h ⟨4, c, q, (strOf a), noT, (strOf b), noT⟩ from R.put 5 _ rfl); clear R)
          | (go_at_call 38; (with_reducible refine (Rz.rtext R5.out 64 H15.out H16.out H17.out).mono ?_); rintro y w7 ⟨rfl, ⟨q0, q1, q2, q3, q4, q5, q6⟩, ⟨f0, f1, f2, f3, f4, f5, f6⟩, R⟩; simp only at q0 q1 q2 q3 q4 q5 q6; have R6 := hide (show Rz 45 w (w7.setCell ⟨h, 6, none⟩ (.string (strOf d))) B g zs i6 e6 w.heap.size h ⟨4, c, q, (strOf a), noT, (strOf b), (strOf d)⟩ from R.put 6 _ rfl); clear R))
        go_meet
        rw [HD.out]
        exact R6
      · rw [if_neg (by decide), if_neg (by decide), if_pos rfl] at HD
        obtain ⟨b, h12⟩ : ∃ x, rTxtV zs i4 e4 16 = x := ⟨_, rfl⟩
        obtain ⟨i5, h13⟩ : ∃ x, rTxtA zs i4 e4 16 = x := ⟨_, rfl⟩
        obtain ⟨e5, h14⟩ : ∃ x, rTxtE zs i4 e4 16 = x := ⟨_, rfl⟩
        rw [h12, h13, h14] at HD
        have H12 := hide h12
        have H13 := hide h13
        have H14 := hide h14
        clear h12 h13 h14
        go_wp2_with (first
          | (go_at_call 37; (with_reducible refine (Rz.rnum R1.out H3.out H4.out H5.out).mono ?_); rintro y w3 ⟨rfl, ⟨q0, q1, q2, q3, q4, q5, q6⟩, ⟨f0, f1, f2, f3, f4, f5, f6⟩, R⟩; simp only at q0 q1 q2 q3 q4 q5 q6; have R2 := hide (show Rz 45 w (w3.setCell ⟨h, 1, none⟩ (.int .i64 c)) B g zs i2 e2 w.heap.size h ⟨5, c, 0, noT, noT, noT, noT⟩ from R.put 1 _ rfl); clear R)
          | (go_at_call 37; (with_reducible refine (Rz.rnum R2.out H6.out H7.out H8.out).mono ?_); rintro y w4 ⟨rfl, ⟨q0, q1, q2, q3, q4, q5, q6⟩, ⟨f0, f1, f2, f3, f4, f5, f6⟩, R⟩; simp only at q0 q1 q2 q3 q4 q5 q6; have R3 := hide (show Rz 45 w (w4.setCell ⟨h, 2, none⟩ (.int .i64 q)) B g zs i3 e3 w.heap.size h ⟨5, c, q, noT, noT, noT, noT⟩ from R.put 2 _ rfl); clear R)
          | (go_at_call 38; (with_reducible refine (Rz.rtext R3.out 16 H9.out H10.out H11.out).mono ?_); rintro y w5 ⟨rfl, ⟨q0, q1, q2, q3, q4, q5, q6⟩, ⟨f0, f1, f2, f3, f4, f5, f6⟩, R⟩; simp only at q0 q1 q2 q3 q4 q5 q6; have R4 := hide (show Rz 45 w (w5.setCell ⟨h, 3, none⟩ (.string (strOf a))) B g zs i4 e4 w.heap.size h ⟨5, c, q, (strOf a), noT, noT, noT⟩ from R.put 3 _ rfl); clear R)
          | (go_at_call 38; (with_reducible refine (Rz.rtext R4.out 16 H12.out H13.out H14.out).mono ?_); rintro y w6 ⟨rfl, ⟨q0, q1, q2, q3, q4, q5, q6⟩, ⟨f0, f1, f2, f3, f4, f5, f6⟩, R⟩; simp only at q0 q1 q2 q3 q4 q5 q6; have R5 := hide (show Rz 45 w (w6.setCell ⟨h, 4, none⟩ (.string (strOf b))) B g zs i5 e5 w.heap.size h ⟨5, c, q, (strOf a), (strOf b), noT, noT⟩ from R.put 4 _ rfl); clear R))
        go_meet
        rw [HD.out]
        exact R5
      · obtain ⟨t2, t4, t5⟩ : (k == 2) = false ∧ (k == 4) = false ∧ (k == 5) = false := ⟨beq_eq_false_iff_ne.2 n2, beq_eq_false_iff_ne.2 n4, beq_eq_false_iff_ne.2 n5⟩
        rw [if_neg n2, if_neg n4, if_neg n5] at HD
        go_wp2_with (first
          | (go_at_call 37; (with_reducible refine (Rz.rnum R1.out H3.out H4.out H5.out).mono ?_); rintro y w3 ⟨rfl, ⟨q0, q1, q2, q3, q4, q5, q6⟩, ⟨f0, f1, f2, f3, f4, f5, f6⟩, R⟩; simp only at q0 q1 q2 q3 q4 q5 q6; have R2 := hide (show Rz 45 w (w3.setCell ⟨h, 1, none⟩ (.int .i64 c)) B g zs i2 e2 w.heap.size h ⟨k, c, 0, noT, noT, noT, noT⟩ from R.put 1 _ rfl); clear R)
          | (go_at_call 37; (with_reducible refine (Rz.rnum R2.out H6.out H7.out H8.out).mono ?_); rintro y w4 ⟨rfl, ⟨q0, q1, q2, q3, q4, q5, q6⟩, ⟨f0, f1, f2, f3, f4, f5, f6⟩, R⟩; simp only at q0 q1 q2 q3 q4 q5 q6; have R3 := hide (show Rz 45 w (w4.setCell ⟨h, 2, none⟩ (.int .i64 q)) B g zs i3 e3 w.heap.size h ⟨k, c, q, noT, noT, noT, noT⟩ from R.put 2 _ rfl); clear R)
          | (go_at_call 38; (with_reducible refine (Rz.rtext R3.out 16 H9.out H10.out H11.out).mono ?_); rintro y w5 ⟨rfl, ⟨q0, q1, q2, q3, q4, q5, q6⟩, ⟨f0, f1, f2, f3, f4, f5, f6⟩, R⟩; simp only at q0 q1 q2 q3 q4 q5 q6; have R4 := hide (show Rz 45 w (w5.setCell ⟨h, 3, none⟩ (.string (strOf a))) B g zs i4 e4 w.heap.size h ⟨k, c, q, (strOf a), noT, noT, noT⟩ from R.put 3 _ rfl); clear R))
        go_meet
        rw [HD.out]
        exact R4
      -- end of get-gen.py
    case rest =>
      clear HD H3 H4 H5 H6 H7 H8 H9 H10 H11
      clear q0 q1 q2 q3 q4 q5 q6 f0 f1 f2 f3 f4 f5 f6 x2 R1 t0
      obtain ⟨⟨k', c', q', a', b', o', v'⟩, i', e'⟩ := r
      have hV := HV.out
      have hI := HI.out
      have hE := HE.out
      clear HV HI HE
      simp only at hcut hV hI hE
      subst hI
      have R1 := hcut
      clear hcut
      obtain ⟨q0, q1, q2, q3, q4, q5, q6⟩ := R1.out.c.cells7
      simp only at q0 q1 q2 q3 q4 q5 q6
      obtain ⟨p0, p1, p2, p3, p4, p5, p6⟩ := R1.out.res.cells7
      obtain ⟨g0, g1, g2, g3, g4, g5, g6⟩ := R1.out.res.free7
      obtain ⟨_, _, _, _, x2, _, y2, _, _, _⟩ := R1.out.r.cells
      have hR := fun w1 => rright_to k' c' q' a' b' o' v' w1
      by_cases h0 : e' = 0
      · subst h0
        cases hr : rightC ⟨k', c', q', a', b', o', v'⟩
        · have hF : rFailE 0 = 4 := rfl
          rw [hr] at hR hV hE
          simp only [Bool.false_eq_true, if_false, hF] at hV hE
          rw [if_neg (by decide)] at hV
          subst hV hE
          have HR := hide hR
          clear hR hr hF
          go_upto_region 17 with (go_at_call 16; (with_reducible refine (Rz.call R1.out (HR.out _)).mono ?_); rintro y w3 ⟨rfl, ⟨q0, q1, q2, q3, q4, q5, q6⟩, _, R⟩; have R2 := hide R.wrongs; obtain ⟨_, _, _, _, x2, _, y2, _, _, _⟩ := R.r.cells; clear R)
          generalize w3.setCell ⟨g, 2, none⟩ (.int .i64 4) = w4 at *
          obtain ⟨p0, p1, p2, p3, p4, p5, p6⟩ := R2.out.res.cells7
          obtain ⟨g0, g1, g2, g3, g4, g5, g6⟩ := R2.out.res.free7
          go_wp2
          exact bodyPost_ret (results_row (x := zeroC) Try.results24 rfl (R2.out.res.seven _ _ _ _ _ _ _)) rfl (R2.out.done _ _ _ _ _ _ _)
        · rw [hr] at hR hV hE
          simp only [if_true] at hV hE
          subst hV hE
          have HR := hide hR
          clear hR hr
          go_wp2_with (go_at_call 16; (with_reducible refine (Rz.call R1.out (HR.out _)).mono ?_); rintro y w3 ⟨rfl, ⟨q0, q1, q2, q3, q4, q5, q6⟩, ⟨⟨p0, p1, p2, p3, p4, p5, p6⟩, ⟨g0, g1, g2, g3, g4, g5, g6⟩⟩, R⟩; simp only at q0 q1 q2 q3 q4 q5 q6; have R2 := hide R; clear R)
          exact bodyPost_ret (results_row (x := ⟨k', c', q', a', b', o', v'⟩) Try.results24 rfl (R2.out.res.seven _ _ _ _ _ _ _)) rfl (R2.out.done _ _ _ _ _ _ _)
      · have hF : (if rightC ⟨k', c', q', a', b', o', v'⟩ = true then e' else rFailE e') = e' := by unfold rFailE; rw [if_neg h0]; split <;> rfl
        rw [hF] at hV hE
        rw [if_neg h0] at hV
        subst hV hE
        have ht : (e' == 0) = false := by simpa using h0
        have ht' : (e' != 0) = true := by simpa using h0
        clear h0 hF hR
        go_wp2
        exact bodyPost_ret (results_row (x := zeroC) Try.results24 rfl (R1.out.res.seven _ _ _ _ _ _ _)) rfl (R1.out.done _ _ _ _ _ _ _)
end Go.Proofs.Ytigbplmfhnamkaa
