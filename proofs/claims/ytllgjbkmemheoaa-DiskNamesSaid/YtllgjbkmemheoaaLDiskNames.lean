/- Proved: the law DiskNames returns true. Conditions: none beyond the row's own. -/
import Derived.Test.YtllgjbkmemheoaaFrame
import Derived.Test.YtllgjbkmemheoaaNamec
import Derived.Test.YtllgjbkmemheoaaNamep
import Derived.Test.YtllgjbkmemheoaaCalls
namespace Go.Proofs.Ytllgjbkmemheoaa.diskNames
open Go.ChangeShapes Go.WideShapes Go.ChangeAt Go.RowKit
set_option maxRecDepth 100000 in
set_option maxHeartbeats 4000000 in
theorem long (a b : ByteArray) (A : Option Addr) (n c : Nat) (zs : List Int) (W : World) (_ : a.size ≤ 140737488351232) (_ : b.size ≤ 140737488351232) (_ : SliceIn W A n c zs) (hn : ¬ n ≤ 300) :
    Calls Try.prog 9 #[.string a, .string b, .slice A n c] W fun e w' => e = .returned (.bool true) ∧ Below W.heap.size W w' := by
  have hn2 : (300 : Int) < n := by omega
  clear hn
  go_enter Try.func9, Try.ntmps9
  go_wp2_with (first
    | (go_at_call 10; (with_reducible refine (new_q 1048576 W (by omega)).mono ?_); rintro e w1 ⟨g, rfl, hq, hbw⟩; have L1 := hide (show Lw W (fun k => k < W.heap.size) w1 g d0 from Lw.start hq hbw); clear hq hbw)
    | (go_at_call 3; (with_reducible refine (run_run L1.out).mono ?_); rintro e w2 ⟨rfl, hbw⟩))
  go_ret
  exact ⟨rfl, hbw⟩

set_option maxRecDepth 100000 in
set_option maxHeartbeats 4000000 in
theorem bwrong1 (a b : ByteArray) (A : Option Addr) (n c : Nat) (zs : List Int) (W : World) (ha : a.size ≤ 140737488351232) (hb : b.size ≤ 140737488351232) (h : SliceIn W A n c zs) (hn : n ≤ 300) (ca : nameB a = true) (cb : nameB b = false) :
    Calls Try.prog 9 #[.string a, .string b, .slice A n c] W fun e w' => e = .returned (.bool true) ∧ Below W.heap.size W w' := by
  have hln : (n : Int) ≤ 300 := by omega
  have hz := h.len
  have hzl : zs.length ≤ 300 := by omega
  have Ra := hide (fun w => (ca ▸ right_any a w ha : Calls Try.prog 28 #[.string a] w fun e w' => e = .returned (.bool true) ∧ w = w'))
  have Rb := hide (fun w => (cb ▸ right_any b w hb : Calls Try.prog 28 #[.string b] w fun e w' => e = .returned (.bool false) ∧ w = w'))
  have hab : a ≠ b := fun e => by rw [e, cb] at ca; cases ca
  have P1 := hide (np1 ca hzl)
  have P2 := hide (np2 (a := a) (zs := zs) cb)
  have P3 := hide (np7 (a := a) (zs := zs) cb)
  have P4 := hide (find_d1' (zs := zs) hab)
  have P5 := hide (find_d1 (a := a) (zs := zs))
  clear hab
  have HL := hide (show (d1 a zs).l.length < 9000000000 from by unfold d1; simp)
  have HA := hide ha
  have HB := hide hb
  have HAR := hide h
  have HZ := hide hzl
  clear ca cb ha hb h hz hn hzl
  go_enter Try.func9, Try.ntmps9
  go_wp2_with (first
    | (go_at_call 10; (with_reducible refine (new_q 1048576 W (by omega)).mono ?_); rintro e w1 ⟨g, rfl, hq, hbw⟩; have L1 := hide (show Lw W (fun k => k < W.heap.size) w1 g d0 from Lw.start hq hbw); clear hq hbw)
    | (go_at_call 11; (with_reducible refine (app_run (nm := a) L1.out (HAR.out.arg L1.out) P1.out HA.out (by unfold d0 newS; simp)).mono ?_); rintro e w2 ⟨rfl, h2⟩; have L2 := hide (show Lw W (fun k => k < W.heap.size) w2 g (d1 a zs) from h2); clear h2 L1)
    | (go_at_call 11; (with_reducible refine (app_one (nm := b) L2.out P2.out HB.out HL.out).mono ?_); rintro e w3 ⟨rfl, h2⟩; have L3 := hide h2; clear h2 L2)
    | (go_at_call 28; (with_reducible refine (Ra.out _).mono ?_); rintro e wr ⟨rfl, rfl⟩)
    | (go_at_call 28; (with_reducible refine (Rb.out _).mono ?_); rintro e wr ⟨rfl, rfl⟩)
    | (go_at_call 21; (with_reducible refine (ren_run L3.out P3.out HA.out HB.out HL.out).mono ?_); rintro e w4 ⟨rfl, h2⟩; have L4 := hide h2; clear h2 L3)
    | (go_at_call 14; (with_reducible refine (read_no L4.out P4.out HB.out).mono ?_); rintro e w5 ⟨A5, c5, rfl, h2, hb2⟩; have L5 := hide h2; clear h2 hb2 L4)
    | (go_at_call 14; (with_reducible refine (read_yes L5.out P5.out HA.out).mono ?_); rintro e w6 ⟨A6, c6, rfl, h2, hn2, hb2⟩; have L6 := hide (h2.drop L5.out.xs); clear h2 hn2 hb2 L5)
    | (go_at_call 3; (with_reducible refine (run_run L6.out).mono ?_); rintro e w7 ⟨rfl, hbw⟩))
  go_ret
  exact ⟨rfl, hbw⟩

set_option maxRecDepth 100000 in
set_option maxHeartbeats 4000000 in
theorem bwrong0 (a b : ByteArray) (A : Option Addr) (n c : Nat) (zs : List Int) (W : World) (ha : a.size ≤ 140737488351232) (hb : b.size ≤ 140737488351232) (h : SliceIn W A n c zs) (hn : n ≤ 300) (ca : nameB a = false) (cb : nameB b = false) :
    Calls Try.prog 9 #[.string a, .string b, .slice A n c] W fun e w' => e = .returned (.bool true) ∧ Below W.heap.size W w' := by
  have hln : (n : Int) ≤ 300 := by omega
  have hz := h.len
  have hzl : zs.length ≤ 300 := by omega
  have Ra := hide (fun w => (ca ▸ right_any a w ha : Calls Try.prog 28 #[.string a] w fun e w' => e = .returned (.bool false) ∧ w = w'))
  have Rb := hide (fun w => (cb ▸ right_any b w hb : Calls Try.prog 28 #[.string b] w fun e w' => e = .returned (.bool false) ∧ w = w'))
  have P1 := hide (np0 (a := a) (zs := zs) ca)
  have P2 := hide (np0 (a := b) (zs := [1]) cb)
  have P3 := hide (np8 (a := a) cb)
  have P4 := hide (show find b d0.l = none from rfl)
  have P5 := hide (show find a d0.l = none from rfl)
  have HL := hide (show d0.l.length < 9000000000 from by unfold d0 newS; simp)
  have HA := hide ha
  have HB := hide hb
  have HAR := hide h
  have HZ := hide hzl
  clear ca cb ha hb h hz hn hzl
  go_enter Try.func9, Try.ntmps9
  go_wp2_with (first
    | (go_at_call 10; (with_reducible refine (new_q 1048576 W (by omega)).mono ?_); rintro e w1 ⟨g, rfl, hq, hbw⟩; have L1 := hide (show Lw W (fun k => k < W.heap.size) w1 g d0 from Lw.start hq hbw); clear hq hbw)
    | (go_at_call 11; (with_reducible refine (app_run (nm := a) L1.out (HAR.out.arg L1.out) P1.out HA.out (by unfold d0 newS; simp)).mono ?_); rintro e w2 ⟨rfl, h2⟩; have L2 := hide h2; clear h2 L1)
    | (go_at_call 11; (with_reducible refine (app_one (nm := b) L2.out P2.out HB.out HL.out).mono ?_); rintro e w3 ⟨rfl, h2⟩; have L3 := hide h2; clear h2 L2)
    | (go_at_call 28; (with_reducible refine (Ra.out _).mono ?_); rintro e wr ⟨rfl, rfl⟩)
    | (go_at_call 28; (with_reducible refine (Rb.out _).mono ?_); rintro e wr ⟨rfl, rfl⟩)
    | (go_at_call 21; (with_reducible refine (ren_run L3.out P3.out HA.out HB.out HL.out).mono ?_); rintro e w4 ⟨rfl, h2⟩; have L4 := hide h2; clear h2 L3)
    | (go_at_call 14; (with_reducible refine (read_no L4.out P4.out HB.out).mono ?_); rintro e w5 ⟨A5, c5, rfl, h2, hb2⟩; have L5 := hide h2; clear h2 hb2 L4)
    | (go_at_call 14; (with_reducible refine (read_no L5.out P5.out HA.out).mono ?_); rintro e w6 ⟨A6, c6, rfl, h2, hb2⟩; have L6 := hide h2; clear h2 hb2 L5)
    | (go_at_call 3; (with_reducible refine (run_run L6.out).mono ?_); rintro e w7 ⟨rfl, hbw⟩))
  go_ret
  exact ⟨rfl, hbw⟩

set_option maxRecDepth 100000 in
set_option maxHeartbeats 4000000 in
theorem awrong (a b : ByteArray) (A : Option Addr) (n c : Nat) (zs : List Int) (W : World) (ha : a.size ≤ 140737488351232) (hb : b.size ≤ 140737488351232) (h : SliceIn W A n c zs) (hn : n ≤ 300) (ca : nameB a = false) (cb : nameB b = true) :
    Calls Try.prog 9 #[.string a, .string b, .slice A n c] W fun e w' => e = .returned (.bool true) ∧ Below W.heap.size W w' := by
  have hln : (n : Int) ≤ 300 := by omega
  have hz := h.len
  have hzl : zs.length ≤ 300 := by omega
  have Ra := hide (fun w => (ca ▸ right_any a w ha : Calls Try.prog 28 #[.string a] w fun e w' => e = .returned (.bool false) ∧ w = w'))
  have Rb := hide (fun w => (cb ▸ right_any b w hb : Calls Try.prog 28 #[.string b] w fun e w' => e = .returned (.bool true) ∧ w = w'))
  have hab : b ≠ a := fun e => by rw [e, ca] at cb; cases cb
  have P1 := hide (np0 (a := a) (zs := zs) ca)
  have P2 := hide (np1 (a := b) (zs := [1]) cb (by simp))
  have P3 := hide (np9 (zs := [1]) ca cb)
  have P4 := hide (find_d1 (a := b) (zs := [1]))
  have P5 := hide (find_d1' (zs := [1]) hab)
  clear hab
  have HL := hide (show (d1 b [1]).l.length < 9000000000 from by unfold d1; simp)
  have HA := hide ha
  have HB := hide hb
  have HAR := hide h
  clear ca cb ha hb h hz hn hzl
  go_enter Try.func9, Try.ntmps9
  go_wp2_with (first
    | (go_at_call 10; (with_reducible refine (new_q 1048576 W (by omega)).mono ?_); rintro e w1 ⟨g, rfl, hq, hbw⟩; have L1 := hide (show Lw W (fun k => k < W.heap.size) w1 g d0 from Lw.start hq hbw); clear hq hbw)
    | (go_at_call 11; (with_reducible refine (app_run (nm := a) L1.out (HAR.out.arg L1.out) P1.out HA.out (by unfold d0 newS; simp)).mono ?_); rintro e w2 ⟨rfl, h2⟩; have L2 := hide h2; clear h2 L1)
    | (go_at_call 11; (with_reducible refine (app_one (nm := b) L2.out P2.out HB.out (by unfold d0 newS; simp)).mono ?_); rintro e w3 ⟨rfl, h2⟩; have L3 := hide (show Lw W (fun k => k < W.heap.size) w3 g (d1 b [1]) from h2); clear h2 L2)
    | (go_at_call 28; (with_reducible refine (Ra.out _).mono ?_); rintro e wr ⟨rfl, rfl⟩)
    | (go_at_call 28; (with_reducible refine (Rb.out _).mono ?_); rintro e wr ⟨rfl, rfl⟩)
    | (go_at_call 21; (with_reducible refine (ren_run L3.out P3.out HA.out HB.out HL.out).mono ?_); rintro e w4 ⟨rfl, h2⟩; have L4 := hide h2; clear h2 L3)
    | (go_at_call 14; (with_reducible refine (read_yes L4.out P4.out HB.out).mono ?_); rintro e w5 ⟨A5, c5, rfl, h2, hn2, hb2⟩; have L5 := hide (h2.drop L4.out.xs); clear h2 hn2 hb2 L4)
    | (go_at_call 14; (with_reducible refine (read_no L5.out P5.out HA.out).mono ?_); rintro e w6 ⟨A6, c6, rfl, h2, hb2⟩; have L6 := hide h2; clear h2 hb2 L5)
    | (go_at_call 3; (with_reducible refine (run_run L6.out).mono ?_); rintro e w7 ⟨rfl, hbw⟩))
  go_ret
  exact ⟨rfl, hbw⟩

set_option maxRecDepth 100000 in
set_option maxHeartbeats 4000000 in
theorem unlike (a b : ByteArray) (A : Option Addr) (n c : Nat) (zs : List Int) (W : World) (ha : a.size ≤ 140737488351232) (hb : b.size ≤ 140737488351232) (h : SliceIn W A n c zs) (hn : n ≤ 300) (ca : nameB a = true) (cb : nameB b = true) (hab : a ≠ b) :
    Calls Try.prog 9 #[.string a, .string b, .slice A n c] W fun e w' => e = .returned (.bool true) ∧ Below W.heap.size W w' := by
  have hln : (n : Int) ≤ 300 := by omega
  have hz := h.len
  have hzl : zs.length ≤ 300 := by omega
  have Ra := hide (fun w => (ca ▸ right_any a w ha : Calls Try.prog 28 #[.string a] w fun e w' => e = .returned (.bool true) ∧ w = w'))
  have Rb := hide (fun w => (cb ▸ right_any b w hb : Calls Try.prog 28 #[.string b] w fun e w' => e = .returned (.bool true) ∧ w = w'))
  have P1 := hide (np1 ca hzl)
  have P2 := hide (np3 cb hab hzl)
  have np := np5 (zs := zs) cb hab
  have P3 := hide np.1
  have P4 := hide np.2.1
  have P5 := hide np.2.2.1
  have hl2 : (d2 a b zs).l.length < 9000000000 := by show (putF ⟨b, [1], 0⟩ [⟨a, zs, 0⟩]).length < _; rw [length_putF _ _ (by simp [Up])]; split <;> simp
  have HL2 := hide hl2
  have heq : (a.toList == b.toList) = false := by
    have := eq_iff a b
    unfold eqB at this
    cases hh : (a.toList == b.toList)
    · rfl
    · exact absurd (this.1 hh) hab
  have HL := hide (show (d1 a zs).l.length < 9000000000 from by unfold d1; simp)
  have HA := hide ha
  have HB := hide hb
  have HAR := hide h
  have HZ := hide hz
  clear ca cb ha hb h hz hn hab np hl2
  go_enter Try.func9, Try.ntmps9
  go_wp2_with (first
    | (go_at_call 10; (with_reducible refine (new_q 1048576 W (by omega)).mono ?_); rintro e w1 ⟨g, rfl, hq, hbw⟩; have L1 := hide (show Lw W (fun k => k < W.heap.size) w1 g d0 from Lw.start hq hbw); clear hq hbw)
    | (go_at_call 11; (with_reducible refine (app_run (nm := a) L1.out (HAR.out.arg L1.out) P1.out HA.out (by unfold d0 newS; simp)).mono ?_); rintro e w2 ⟨rfl, h2⟩; have L2 := hide (show Lw W (fun k => k < W.heap.size) w2 g (d1 a zs) from h2); clear h2 L1)
    | (go_at_call 11; (with_reducible refine (app_one (nm := b) L2.out P2.out HB.out HL.out).mono ?_); rintro e w3 ⟨rfl, h2⟩; have L3 := hide h2; clear h2 L2)
    | (go_at_call 28; (with_reducible refine (Ra.out _).mono ?_); rintro e wr ⟨rfl, rfl⟩)
    | (go_at_call 28; (with_reducible refine (Rb.out _).mono ?_); rintro e wr ⟨rfl, rfl⟩)
    | (go_at_call 21; (with_reducible refine (ren_run L3.out ⟨P3.out, rfl⟩ HA.out HB.out HL2.out).mono ?_); rintro e w4 ⟨rfl, h2⟩; have L4 := hide h2; clear h2 L3)
    | (go_at_call 14; (with_reducible refine (read_yes L4.out P4.out HB.out).mono ?_); rintro e w5 ⟨A5, c5, rfl, h2, _, _, _⟩; have L5 := hide h2; clear h2 L4)
    | (go_at_call 14; (with_reducible refine (read_no L5.out.l P5.out HA.out).mono ?_); rintro e w6 ⟨A6, c6, rfl, h2, hb2⟩; have L6 := hide (And.intro h2 (L5.out.lies.below hb2)); clear h2 hb2 L5)
    | (go_at_call 16; (with_reducible refine (same_run L6.out.1 L6.out.2 (HAR.out.arg L6.out.1).lies rfl HZ.out (by omega) (by omega) (decide_eq_true rfl)).mono ?_); rintro e w8 ⟨rfl, h2, hb2⟩; have L8 := hide h2; clear h2 hb2 L6)
    | (go_at_call 3; (with_reducible refine (run_run L8.out).mono ?_); rintro e w7 ⟨rfl, hbw⟩))
  go_ret
  exact ⟨rfl, hbw⟩

set_option maxRecDepth 100000 in
set_option maxHeartbeats 4000000 in
theorem alike (a : ByteArray) (A : Option Addr) (n c : Nat) (zs : List Int) (W : World) (ha : a.size ≤ 140737488351232) (h : SliceIn W A n c zs) (hn : n ≤ 300) (ca : nameB a = true) :
    Calls Try.prog 9 #[.string a, .string a, .slice A n c] W fun e w' => e = .returned (.bool true) ∧ Below W.heap.size W w' := by
  have hln : (n : Int) ≤ 300 := by omega
  have hz := h.len
  have hzl : zs.length ≤ 300 := by omega
  have Ra := hide (fun w => (ca ▸ right_any a w ha : Calls Try.prog 28 #[.string a] w fun e w' => e = .returned (.bool true) ∧ w = w'))
  have P1 := hide (np1 ca hzl)
  have P2 := hide (np4 ca hzl)
  have P3 := hide (np6 (zs := zs ++ [1]) ca)
  have P4 := hide (find_d1 (a := a) (zs := zs ++ [1]))
  have HL := hide (show (d1 a zs).l.length < 9000000000 from by unfold d1; simp)
  have HL2 := hide (show (d1 a (zs ++ [1])).l.length < 9000000000 from by unfold d1; simp)
  have HA := hide ha
  have HAR := hide h
  have HZ := hide hz
  obtain ⟨i0, hi, hz0, hz1, hz2⟩ := info_parts Try.info5
  have HI := hide (And.intro hi (And.intro hz0 (And.intro hz1 hz2)))
  clear ca ha h hz hn hi hz0 hz1 hz2
  go_enter Try.func9, Try.ntmps9
  go_upto_region 17 with (first
    | (go_at_call 10; (with_reducible refine (new_q 1048576 W (by omega)).mono ?_); rintro e w1 ⟨g, rfl, hq, hbw⟩; have L1 := hide (show Lw W (fun k => k < W.heap.size) w1 g d0 from Lw.start hq hbw); clear hq hbw)
    | (go_at_call 11; (with_reducible refine (app_run (nm := a) L1.out (HAR.out.arg L1.out) P1.out HA.out (by unfold d0 newS; simp)).mono ?_); rintro e w2 ⟨rfl, h2⟩; have L2 := hide (show Lw W (fun k => k < W.heap.size) w2 g (d1 a zs) from h2); clear h2 L1)
    | (go_at_call 11; (with_reducible refine (app_one (nm := a) L2.out P2.out HA.out HL.out).mono ?_); rintro e w3 ⟨rfl, h2⟩; have L3 := hide h2; clear h2 L2)
    | (go_at_call 28; (with_reducible refine (Ra.out _).mono ?_); rintro e wr ⟨rfl, rfl⟩)
    | (go_at_call 21; (with_reducible refine (ren_run L3.out P3.out HA.out HA.out HL2.out).mono ?_); rintro e w4 ⟨rfl, h2⟩; have L4 := hide h2; clear h2 L3)
    | (go_at_call 14; (with_reducible refine (read_yes L4.out P4.out HA.out).mono ?_); rintro e w5 ⟨A5, c5, rfl, h2, _, _, _⟩; have L5 := hide h2; clear h2 L4)
    | (go_at_call 14; (with_reducible refine (read_yes L5.out.l P4.out HA.out).mono ?_); rintro e w6 ⟨A6, c6, rfl, h2, _, _, hb2⟩; have L6 := hide (And.intro (h2.drop L5.out.l.xs) (L5.out.lies.below hb2)); clear h2 hb2 L5))
  obtain ⟨hi, hz0, hz1, hz2⟩ := HI.out
  have hown0 := World.ownsRow_lit (base := w6.heap.size) (e := 5) (size := 1) w6 #[] 0 (Nat.le_refl _) (by unfold maxLen; omega) rfl
  have hl0 := hide ((HAR.out.arg L6.out.1).lies.alloc (.cells #[] 5))
  have hcn := hide HAR.out.nil
  have hb0 : Below w6.heap.size w6 (w6.alloc (.cells #[] 5)) := kept_alloc (kept_refl w6) _
  have HB0 := hide hb0
  clear hb0
  have hn0 : 0 + n ≤ 140737488355328 := by omega
  have hn1 : n + 1 ≤ 140737488355328 := by omega
  have HS := hide (show ∀ w8 A8 c8, Below w6.heap.size w6 w8 → Lies w8 A8 (zs ++ [1]) → Calls Try.prog 16 #[.slice A5 (zs.length + 1) c5, .slice A8 (n + 1) c8] w8 fun e w' => e = .returned (.bool true) ∧ Lw W (plus (fun k => k < W.heap.size) A5) w' g (d1 a (zs ++ [1])) ∧ Below w8.heap.size w8 w' from
    fun w8 A8 c8 hb hl => same_run (L6.out.1.below hb) (L6.out.2.below hb) hl (by simp) (by rw [List.length_append, HZ.out]; rfl) (by omega) (by omega) (decide_eq_true rfl))
  go_wp2_with (first
    | (at_builtin; refine wpList_append_lies rfl (.tmp 113) (.tmp 114) 27 rfl w6.heap.size 5 i0 _ Try.underlying27 hi hz0 hz1 hz2 rfl _ 0 [] rfl hown0 A n c zs rfl HZ.out hcn.out hl0.out hn0 (alloc_le _ _) ?_; intro v1 w7 hown1 hb1; simp only [Nat.zero_add, List.nil_append] at hown1; have HB1 := hide (HB0.out.trans hb1); have HO1 := hide hown1; clear hb1 hown1 hown0 hl0 hn0)
    | (at_builtin; refine wpList_append_lies rfl (.tmp 115) (.tmp 116) 27 rfl w6.heap.size 5 i0 _ Try.underlying27 hi hz0 hz1 hz2 rfl _ n zs rfl (HO1.out.alloc _) (some ⟨w7.heap.size, 0, none⟩) 1 1 [1] rfl rfl not_none (lies_one w7 1 5) hn1 (Nat.le_trans HB1.out.size (alloc_le _ _)) ?_; intro v2 w8 hown2 hb2; have HB2 := hide ((HB1.out.alloc HB1.out.size (.cells #[.int .u8 1] 5)).trans hb2); obtain ⟨A8, c8, rfl, _⟩ := own_shape hown2; have HC := hide (HS.out w8 A8 c8 HB2.out (Lies.of_own hown2)); clear hb2 hown2 L6 HB2 HB1 HB0 HO1 HS)
    | (go_at_call 16; (with_reducible refine HC.out.mono ?_); rintro e w9 ⟨rfl, h2, hb2⟩; have L8 := hide h2; clear h2 hb2 HC)
    | (go_at_call 3; (with_reducible refine (run_run L8.out).mono ?_); rintro e w7 ⟨rfl, hbw⟩))
  go_ret
  exact ⟨rfl, hbw⟩

theorem walk (a b : ByteArray) (A : Option Addr) (n c : Nat) (zs : List Int) (W : World) (ha : a.size ≤ 140737488351232) (hb : b.size ≤ 140737488351232) (h : SliceIn W A n c zs) :
    Calls Try.prog 9 #[.string a, .string b, .slice A n c] W fun e w' => e = .returned (.bool true) ∧ Below W.heap.size W w' := by
  by_cases hn : n ≤ 300
  · cases cb : nameB b with
    | false =>
      cases ca : nameB a with
      | false => exact bwrong0 a b A n c zs W ha hb h hn ca cb
      | true => exact bwrong1 a b A n c zs W ha hb h hn ca cb
    | true =>
      cases ca : nameB a with
      | false => exact awrong a b A n c zs W ha hb h hn ca cb
      | true =>
        by_cases hab : a = b
        · subst hab; exact alike a A n c zs W ha h hn ca
        · exact unlike a b A n c zs W ha hb h hn ca cb hab
  · exact long a b A n c zs W ha hb h hn
set_option maxRecDepth 100000 in
theorem lifted (os : Os) (started : os.Started) (H : Type) (enc : TypeId × Value → H) :
    ReturnsInHanded {} Try.checked os 9 .any (Rows.diskNamesSpec.pre6 enc Try.prog Try.f9 Rows.diskNamesRow.domain false) (Rows.diskNamesSpec.post enc Try.prog Try.f9 false true false false) := by
  refine returnsInHanded_of_change_sized (C := Try.checked) own started (by kernel_rfl) Try.func9
    (ChangeSpec.witness6 (enc := enc) (C := Try.checked) false ⟨#[], #[.string ⟨#[]⟩, .string ⟨#[]⟩, .slice none 0 0], []⟩ 8 (by kernel_rfl) (by kernel_rfl) (by kernel_rfl) (by kernel_rfl)) ?_
  intro W base args ds gs before hval0 hW _ hsz0 _
  have hval : ∀ (j : Nat) t v, Try.f9.params[j]? = some t → args[j]? = some v → Value.okWide Try.prog W .any base t v := hval0
  have hW' := hW
  obtain ⟨p, q, hA0, hV, rfl, _, _⟩ := hW
  have hA : DataW.TrodAll enc Try.prog W 0 (fun _ => true) true Try.f9.params.toList args.toList ds p := hA0
  have hsz : (DataW.weightsEach Try.prog (Try.f9.params.toList ++ Rows.diskNamesSpec.plain.varTypes Try.prog) (ds ++ gs)).all (· ≤ reachBytes) = true := hsz0
  rw [Try.params9] at hA hval hsz
  obtain ⟨v0, vs0, d0, ds0, p0, q0, hargs, rfl, rfl, h0, r0⟩ := trodAll_cons hA
  obtain ⟨v1, vs1, d1, ds1, p1, q1, rfl, rfl, rfl, h1, r1⟩ := trodAll_cons r0
  obtain ⟨v2, vs2, d2, ds2, p2, q2, rfl, rfl, rfl, h2, r2⟩ := trodAll_cons r1
  obtain ⟨rfl, rfl, rfl⟩ := trodAll_nil r2
  obtain rfl : args = #[v0, v1, v2] := by cases args; simp_all
  obtain ⟨rfl, rfl⟩ := trodVars_none hV
  have k0 := h0
  have lt0 : ∀ x ∈ p0, x.block < W.heap.size := by obtain ⟨m, hm⟩ := k0; exact DataW.trod_lt m _ _ _ hm
  obtain ⟨a0, rfl, s0⟩ := str_in (j := 0) (hval 0 9 v0 rfl rfl) h0 hsz rfl rfl
  have k1 := h1
  have lt1 : ∀ x ∈ p1, x.block < W.heap.size := by obtain ⟨m, hm⟩ := k1; exact DataW.trod_lt m _ _ _ hm
  obtain ⟨a1, rfl, s1⟩ := str_in (j := 1) (hval 1 9 v1 rfl rfl) h1 hsz rfl rfl
  have k2 := h2
  have lt2 : ∀ x ∈ p2, x.block < W.heap.size := by obtain ⟨m, hm⟩ := k2; exact DataW.trod_lt m _ _ _ hm
  obtain ⟨A2, n2, c2, rfl⟩ := okWide_slice Try.underlying27 (hval 2 27 v2 rfl rfl)
  obtain ⟨z2, s2⟩ := slice_in (j := 2) h2 hsz rfl rfl
  clear hA0 hval0
  refine (walk a0 a1 A2 n2 c2 z2 W s0 s1 s2).mono fun e W' ⟨he, bel⟩ => ?_
  subst he
  exact ⟨_, rfl, _, _, _, [], _, [], hW', trodAll_mk1 (shut_bool Try.underlying4 _), (trodAll_cons_mk (Below.trod laidOut (by kernel_rfl) (of_decide_eq_true (by kernel_rfl)) k0 bel lt0) (trodAll_cons_mk (Below.trod laidOut (by kernel_rfl) (of_decide_eq_true (by kernel_rfl)) k1 bel lt1) (trodAll_cons_mk (Below.trod laidOut (by kernel_rfl) (of_decide_eq_true (by kernel_rfl)) k2 bel lt2) trodAll_mk0))), rfl, bel.frame _, fun h => by cases h⟩
theorem over : Rows.diskNamesRow.holds Try.pinned (OpenSpec.ofChange Rows.diskNamesSpec) :=
  OpenClaim.holds_of_wide 9 Try.f9 rfl rfl rfl rfl rfl rfl rfl ⟨rfl, rfl, rfl, rfl, rfl⟩ rfl rfl rfl rfl rfl (by kernel_rfl) Try.func9 (by kernel_rfl)
    (of_decide_eq_true (by kernel_rfl)) (by unfold Func.isWrapper; first | (rw [if_pos (by decide +kernel)]; kernel_rfl) | (rw [if_neg (by decide +kernel)]; exact ⟨rfl, rfl⟩))
    (fun os started H enc _ => lifted os started H enc)
theorem proved : Rows.DiskNamesSaid := over
end Go.Proofs.Ytllgjbkmemheoaa.diskNames
