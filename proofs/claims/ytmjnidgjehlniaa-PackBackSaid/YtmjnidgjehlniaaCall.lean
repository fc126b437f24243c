/- What a call on both readers comes to, and the error of one. Conditions: both readers lie in memory as they must, at the same place of the same bytes. -/
import Derived.Test.YtmjnidgjehlniaaReft
import Derived.Deep.DeepCutAuto
import Derived.Deep.RegionHeld3
namespace Go.Proofs.Ytmjnidgjehlniaa
open Go.RowKit
/-- The error and the place behind a call of this kind. -/
def itE (zs : List Int) (i : Nat) (e k n : Int) : Int :=
  if k = 1 then rNumE zs i e else if k = 2 then rTxtE zs i e n else if k = 3 then rFlgE zs i e else if k = 4 then rCntE zs i e n else if k = 5 then rEndE zs i e else if k = 6 then rFailE e else e
def itA (zs : List Int) (i : Nat) (e k n : Int) : Nat :=
  if k = 1 then rNumA zs i e else if k = 2 then rTxtA zs i e n else if k = 3 then rFlgA zs i e else if k = 4 then rCntA zs i e n else i
/-- Both readers and the item, in memory. -/
structure Pair (W w : World) (B g C h m : Nat) (zs ys : List Int) (i : Nat) (e : Int) (j : Nat) (f : Int) (cs : Array Value) : Prop where
  p : Rdr 60 w B g zs i e
  r : Rdr 44 w C h ys j f
  it : Row w m 32 cs
  old : Below g W w
  gh : g < h
  hm : h < m
  cg : C ≤ g
section
variable {W w w' : World} {B g C h m i j i' j' : Nat} {zs ys : List Int} {e f e' f' : Int} {cs : Array Value}
theorem Pair.stepP (s : Pair W w B g C h m zs ys i e j f cs) (hg : w.grownBy w' (some g)) (hp : Rdr 60 w' B g zs i' e') : Pair W w' B g C h m zs ys i' e' j f cs :=
  have gh := s.gh
  have hm := s.hm
  ⟨hp, s.r.far hg (by omega) s.cg, (hg.block m s.it.lt (fun e => by injection e; omega)).trans s.it, s.old.grown hg (Nat.le_of_lt s.p.lt) (fun k hk => by cases hk; exact Nat.le_refl _), gh, hm, s.cg⟩
theorem Pair.stepR (s : Pair W w B g C h m zs ys i e j f cs) (hg : w.grownBy w' (some h)) (hr : Rdr 44 w' C h ys j' f') : Pair W w' B g C h m zs ys i e j' f' cs :=
  have gh := s.gh
  have hm := s.hm
  have bg := s.p.low
  ⟨s.p.far hg (by omega) (by omega), hr, (hg.block m s.it.lt (fun e => by injection e; omega)).trans s.it, s.old.grown hg (Nat.le_of_lt s.p.lt) (fun k hk => by cases hk; omega), gh, hm, s.cg⟩
theorem Pair.drewN (s : Pair W w B g C h m zs ys i e j f cs) (n : Nat) : Pair W (w.drewN n) B g C h m zs ys i e j f cs :=
  ⟨s.p.drewN n, s.r.drewN n, s.it, below_drewN' s.old n, s.gh, s.hm, s.cg⟩
theorem Pair.drew (s : Pair W w B g C h m zs ys i e j f cs) : Pair W w.drew B g C h m zs ys i e j f cs := s.drewN 1
theorem Pair.new (hp : Rdr 60 w B g zs i e) (hr : Rdr 44 w C h ys j f) (gh : g < h) (cg : C ≤ g) (cs : Array Value) :
    Pair w (w.alloc (.cells cs 32)) B g C h w.heap.size zs ys i e j f cs :=
  ⟨hp.alloc _, hr.alloc _, Row.new _ _ _, (Below.refl _ _).alloc (Nat.le_of_lt hp.lt) _, gh, hr.lt, cg⟩
theorem pnum_pair (s : Pair W w B g C h m zs ys i e j f cs) : Calls Try.prog 27 #[.pointer (some ⟨g, 0, none⟩)] w fun x w' =>
    x = .returned (.int .i64 (rNumV zs i e)) ∧ Pair W w' B g C h m zs ys (rNumA zs i e) (rNumE zs i e) j f cs :=
  (pnum_any s.p).mono fun _ _ ⟨hx, hp, hg⟩ => ⟨hx, s.stepP hg hp⟩
theorem rnum_pair (s : Pair W w B g C h m zs ys i e j f cs) : Calls Try.prog 38 #[.pointer (some ⟨h, 0, none⟩)] w fun x w' =>
    x = .returned (.int .i64 (rNumV ys j f)) ∧ Pair W w' B g C h m zs ys i e (rNumA ys j f) (rNumE ys j f) cs :=
  (rnum_to s.r).mono fun _ _ ⟨hx, hp, hg⟩ => ⟨hx, s.stepR hg hp⟩
theorem pflag_pair (s : Pair W w B g C h m zs ys i e j f cs) : Calls Try.prog 29 #[.pointer (some ⟨g, 0, none⟩)] w fun x w' =>
    x = .returned (.bool (rFlgV zs i e)) ∧ Pair W w' B g C h m zs ys (rFlgA zs i e) (rFlgE zs i e) j f cs :=
  (pflag_any s.p).mono fun _ _ ⟨hx, hp, hg⟩ => ⟨hx, s.stepP hg hp⟩
theorem rflag_pair (s : Pair W w B g C h m zs ys i e j f cs) : Calls Try.prog 40 #[.pointer (some ⟨h, 0, none⟩)] w fun x w' =>
    x = .returned (.bool (rFlgV ys j f)) ∧ Pair W w' B g C h m zs ys i e (rFlgA ys j f) (rFlgE ys j f) cs :=
  (rflag_to s.r).mono fun _ _ ⟨hx, hp, hg⟩ => ⟨hx, s.stepR hg hp⟩
theorem pend_pair (s : Pair W w B g C h m zs ys i e j f cs) : Calls Try.prog 30 #[.pointer (some ⟨g, 0, none⟩)] w fun x w' =>
    x = .returned (.int .i64 (rEndE zs i e)) ∧ Pair W w' B g C h m zs ys i (rEndE zs i e) j f cs :=
  (pend_any s.p).mono fun _ _ ⟨hx, hp, hg⟩ => ⟨hx, s.stepP hg hp⟩
theorem rend_pair (s : Pair W w B g C h m zs ys i e j f cs) : Calls Try.prog 42 #[.pointer (some ⟨h, 0, none⟩)] w fun x w' =>
    x = .returned (.int .i64 (rEndE ys j f)) ∧ Pair W w' B g C h m zs ys i e j (rEndE ys j f) cs :=
  (rend_to s.r).mono fun _ _ ⟨hx, hp, hg⟩ => ⟨hx, s.stepR hg hp⟩
theorem ptext_pair {c : Value} (s : Pair W w B g C h m zs ys i e j f cs) (n : Int) (hc : cs[1]? = some c) : Calls Try.prog 28 #[.pointer (some ⟨g, 0, none⟩), .int .i64 n] w fun x w' =>
    x = .returned (.string (strOf (rTxtV zs i e n))) ∧ w'.cell? ⟨m, 1, none⟩ = some c ∧ Pair W w' B g C h m zs ys (rTxtA zs i e n) (rTxtE zs i e n) j f cs :=
  (ptext_any s.p n).mono fun _ _ ⟨hx, hp, hg⟩ => have t := s.stepP hg hp; ⟨hx, (t.it.cell 1).trans hc, t⟩
theorem rtext_pair {c : Value} (s : Pair W w B g C h m zs ys i e j f cs) (n : Int) (hc : cs[1]? = some c) : Calls Try.prog 39 #[.pointer (some ⟨h, 0, none⟩), .int .i64 n] w fun x w' =>
    x = .returned (.string (strOf (rTxtV ys j f n))) ∧ w'.cell? ⟨m, 1, none⟩ = some c ∧ Pair W w' B g C h m zs ys i e (rTxtA ys j f n) (rTxtE ys j f n) cs :=
  (rtext_to s.r n).mono fun _ _ ⟨hx, hp, hg⟩ => have t := s.stepR hg hp; ⟨hx, (t.it.cell 1).trans hc, t⟩
theorem pcount_pair {c : Value} (s : Pair W w B g C h m zs ys i e j f cs) (n : Int) (hc : cs[1]? = some c) : Calls Try.prog 33 #[.pointer (some ⟨g, 0, none⟩), .int .i64 n] w fun x w' =>
    x = .returned (.int .i64 (rCntV zs i e n)) ∧ w'.cell? ⟨m, 1, none⟩ = some c ∧ Pair W w' B g C h m zs ys (rCntA zs i e n) (rCntE zs i e n) j f cs :=
  (pcount_any s.p n).mono fun _ _ ⟨hx, hp, hg⟩ => have t := s.stepP hg hp; ⟨hx, (t.it.cell 1).trans hc, t⟩
theorem rcount_pair {c : Value} (s : Pair W w B g C h m zs ys i e j f cs) (n : Int) (hc : cs[1]? = some c) : Calls Try.prog 41 #[.pointer (some ⟨h, 0, none⟩), .int .i64 n] w fun x w' =>
    x = .returned (.int .i64 (rCntV ys j f n)) ∧ w'.cell? ⟨m, 1, none⟩ = some c ∧ Pair W w' B g C h m zs ys i e (rCntA ys j f n) (rCntE ys j f n) cs :=
  (rcount_to s.r n).mono fun _ _ ⟨hx, hp, hg⟩ => have t := s.stepR hg hp; ⟨hx, (t.it.cell 1).trans hc, t⟩
/-- Both readers, a step on. -/
def Both (W : World) (B g C h : Nat) (zs : List Int) (i : Nat) (e : Int) (x : Ending) (w' : World) : Prop :=
  x = .returned (.bool true) ∧ Rdr 60 w' B g zs i e ∧ Rdr 44 w' C h zs i e ∧ Below g W w'
set_option maxHeartbeats 1000000 in
theorem call_1 (hp : Rdr 60 w B g zs i e) (hr : Rdr 44 w C h zs i e) (gh : g < h) (cg : C ≤ g) (n : Int) (s : ByteArray) (b : Bool) :
    Calls Try.prog 22 #[.pointer (some ⟨g, 0, none⟩), .pointer (some ⟨h, 0, none⟩), .agg #[.int .i64 1, .int .i64 n, .string s, .bool b]] w (Both w B g C h zs (rNumA zs i e) (rNumE zs i e)) := by
  have st := hide (Pair.new hp hr gh cg #[.int .i64 1, .int .i64 n, .string s, .bool b])
  clear hp hr
  go_enter Try.func22, Try.ntmps22
  go_wp2_with (first
    | (go_at_call 27; (with_reducible refine (pnum_pair st.out).mono ?_); rintro x w1 ⟨rfl, s1⟩; have s1 := hide s1)
    | (go_at_call 38; (with_reducible refine (rnum_pair s1.out).mono ?_); rintro x w2 ⟨rfl, s2⟩; have s2 := hide s2))
  go_ret
  exact ⟨rfl, s2.out.p, s2.out.r, s2.out.old⟩
set_option maxHeartbeats 1000000 in
theorem call_3 (hp : Rdr 60 w B g zs i e) (hr : Rdr 44 w C h zs i e) (gh : g < h) (cg : C ≤ g) (n : Int) (s : ByteArray) (b : Bool) :
    Calls Try.prog 22 #[.pointer (some ⟨g, 0, none⟩), .pointer (some ⟨h, 0, none⟩), .agg #[.int .i64 3, .int .i64 n, .string s, .bool b]] w (Both w B g C h zs (rFlgA zs i e) (rFlgE zs i e)) := by
  have st := hide (Pair.new hp hr gh cg #[.int .i64 3, .int .i64 n, .string s, .bool b])
  clear hp hr
  go_enter Try.func22, Try.ntmps22
  go_wp2_with (first
    | (go_at_call 29; (with_reducible refine (pflag_pair st.out).mono ?_); rintro x w1 ⟨rfl, s1⟩; have s1 := hide s1)
    | (go_at_call 40; (with_reducible refine (rflag_pair s1.out).mono ?_); rintro x w2 ⟨rfl, s2⟩; have s2 := hide s2))
  go_ret
  exact ⟨rfl, s2.out.p, s2.out.r, s2.out.old⟩
set_option maxHeartbeats 1000000 in
theorem call_5 (hp : Rdr 60 w B g zs i e) (hr : Rdr 44 w C h zs i e) (gh : g < h) (cg : C ≤ g) (n : Int) (s : ByteArray) (b : Bool) :
    Calls Try.prog 22 #[.pointer (some ⟨g, 0, none⟩), .pointer (some ⟨h, 0, none⟩), .agg #[.int .i64 5, .int .i64 n, .string s, .bool b]] w (Both w B g C h zs i (rEndE zs i e)) := by
  have st := hide (Pair.new hp hr gh cg #[.int .i64 5, .int .i64 n, .string s, .bool b])
  clear hp hr
  go_enter Try.func22, Try.ntmps22
  go_wp2_with (first
    | (go_at_call 30; (with_reducible refine (pend_pair st.out).mono ?_); rintro x w1 ⟨rfl, s1⟩; have s1 := hide s1)
    | (go_at_call 42; (with_reducible refine (rend_pair s1.out).mono ?_); rintro x w2 ⟨rfl, s2⟩; have s2 := hide s2))
  go_ret
  exact ⟨rfl, s2.out.p, s2.out.r, s2.out.old⟩
set_option maxRecDepth 100000 in
set_option maxHeartbeats 2000000 in
theorem call_2 (hp : Rdr 60 w B g zs i e) (hr : Rdr 44 w C h zs i e) (gh : g < h) (cg : C ≤ g) (n : Int) (s : ByteArray) (b : Bool) :
    Calls Try.prog 22 #[.pointer (some ⟨g, 0, none⟩), .pointer (some ⟨h, 0, none⟩), .agg #[.int .i64 2, .int .i64 n, .string s, .bool b]] w (Both w B g C h zs (rTxtA zs i e n) (rTxtE zs i e n)) := by
  have st := Pair.new hp hr gh cg #[.int .i64 2, .int .i64 n, .string s, .bool b]
  have hc : (#[.int .i64 2, .int .i64 n, .string s, .bool b] : Array Value)[1]? = some (.int .i64 n) := rfl
  have hc := hide hc
  clear hp hr
  go_enter Try.func22, Try.ntmps22
  go_wp2
  have d1 := st.it.cell 1
  generalize w.alloc (.cells #[.int .i64 2, .int .i64 n, .string s, .bool b] 32) = wx at *
  go_region_held3 (fun w' => w'.cell? ⟨w.heap.size, 1, none⟩ = some (.int .i64 n)) (go_keep)
    (first
      | (go_at_call 28; (with_reducible refine (ptext_pair (W := w) (m := w.heap.size) (B := B) (C := C) (h := h) (zs := zs) (ys := zs) (i := i) (e := e) (j := i) (f := e) (by first | with_reducible assumption | with_reducible exact Pair.drew (by with_reducible assumption)) n hc.out).mono ?_); rintro x w1 ⟨rfl, q1, s1⟩)
      | (go_at_call 39; (with_reducible refine (rtext_pair (W := w) (m := w.heap.size) (B := B) (g := g) (C := C) (zs := zs) (ys := zs) (i := rTxtA zs i e n) (e := rTxtE zs i e n) (j := i) (f := e) (by first | with_reducible assumption | with_reducible exact Pair.drew (by with_reducible assumption)) n hc.out).mono ?_); rintro x w2 ⟨rfl, q2, s2⟩))
  all_goals
    clear d1
    go_wp2_with fail
    go_ret
    exact ⟨rfl, s2.p, s2.r, s2.old⟩
set_option maxRecDepth 100000 in
set_option maxHeartbeats 2000000 in
theorem call_4 (hp : Rdr 60 w B g zs i e) (hr : Rdr 44 w C h zs i e) (gh : g < h) (cg : C ≤ g) (n : Int) (s : ByteArray) (b : Bool) :
    Calls Try.prog 22 #[.pointer (some ⟨g, 0, none⟩), .pointer (some ⟨h, 0, none⟩), .agg #[.int .i64 4, .int .i64 n, .string s, .bool b]] w (Both w B g C h zs (rCntA zs i e n) (rCntE zs i e n)) := by
  have st := Pair.new hp hr gh cg #[.int .i64 4, .int .i64 n, .string s, .bool b]
  have hc : (#[.int .i64 4, .int .i64 n, .string s, .bool b] : Array Value)[1]? = some (.int .i64 n) := rfl
  have hc := hide hc
  clear hp hr
  go_enter Try.func22, Try.ntmps22
  go_wp2
  have d1 := st.it.cell 1
  generalize w.alloc (.cells #[.int .i64 4, .int .i64 n, .string s, .bool b] 32) = wx at *
  go_region_held3 (fun w' => w'.cell? ⟨w.heap.size, 1, none⟩ = some (.int .i64 n)) (go_keep)
    (first
      | (go_at_call 33; (with_reducible refine (pcount_pair (W := w) (m := w.heap.size) (B := B) (C := C) (h := h) (zs := zs) (ys := zs) (i := i) (e := e) (j := i) (f := e) (by first | with_reducible assumption | with_reducible exact Pair.drew (by with_reducible assumption)) n hc.out).mono ?_); rintro x w1 ⟨rfl, q1, s1⟩)
      | (go_at_call 41; (with_reducible refine (rcount_pair (W := w) (m := w.heap.size) (B := B) (g := g) (C := C) (zs := zs) (ys := zs) (i := rCntA zs i e n) (e := rCntE zs i e n) (j := i) (f := e) (by first | with_reducible assumption | with_reducible exact Pair.drew (by with_reducible assumption)) n hc.out).mono ?_); rintro x w2 ⟨rfl, q2, s2⟩))
  all_goals
    clear d1
    go_wp2_with fail
    go_ret
    exact ⟨rfl, s2.p, s2.r, s2.old⟩
theorem pfail_pair (s : Pair W w B g C h m zs ys i e j f cs) : Calls Try.prog 32 #[.pointer (some ⟨g, 0, none⟩)] w fun x w' =>
    x = .returned (.tuple #[]) ∧ Pair W w' B g C h m zs ys i (rFailE e) j f cs :=
  (pfail_any s.p).mono fun _ _ ⟨hx, hp, hg⟩ => ⟨hx, s.stepP hg hp⟩
set_option maxRecDepth 100000 in
set_option maxHeartbeats 1000000 in
theorem call_6 (hp : Rdr 60 w B g zs i e) (hr : Rdr 44 w C h zs i e) (gh : g < h) (cg : C ≤ g) (n : Int) (s : ByteArray) (b : Bool) :
    Calls Try.prog 22 #[.pointer (some ⟨g, 0, none⟩), .pointer (some ⟨h, 0, none⟩), .agg #[.int .i64 6, .int .i64 n, .string s, .bool b]] w (Both w B g C h zs i (rFailE e)) := by
  have st := hide (Pair.new hp hr gh cg #[.int .i64 6, .int .i64 n, .string s, .bool b])
  clear hp hr
  by_cases he : e = 0
  · subst he
    go_enter Try.func22, Try.ntmps22
    go_wp2_with (first
      | (go_at_call 32; (with_reducible refine (pfail_pair st.out).mono ?_); rintro x w1 ⟨rfl, s1⟩; obtain ⟨A1, d, d0, d1, d2, k1, k2, _, _, _⟩ := s1.r.cells; have s1 := hide s1))
    go_ret
    have hg : w1.grownBy (w1.setCell ⟨h, 2, none⟩ (.int .i64 4)) (some h) := grown_put (grown_refl w1 _) _ _
    have s2 := s1.out.stepR hg (s1.out.r.wrong (y := 4) (by omega))
    exact ⟨rfl, s2.p, s2.r, s2.old⟩
  · have t0 : (e == 0) = false := by rw [beq_eq_false_iff_ne]; exact he
    have ee : rFailE e = e := by unfold rFailE; rw [if_neg he]
    have ee := hide ee
    clear he
    go_enter Try.func22, Try.ntmps22
    go_wp2_with (first
      | (go_at_call 32; (with_reducible refine (pfail_pair st.out).mono ?_); rintro x w1 ⟨rfl, s1⟩; obtain ⟨A1, d, d0, d1, d2, k1, k2, _, _, _⟩ := s1.r.cells; have s1 := hide s1))
    go_ret
    exact ⟨rfl, s1.out.p, by rw [ee.out]; exact s1.out.r, s1.out.old⟩
set_option maxRecDepth 100000 in
set_option maxHeartbeats 1000000 in
theorem call_0 (hp : Rdr 60 w B g zs i e) (hr : Rdr 44 w C h zs i e) (gh : g < h) (cg : C ≤ g) (k n : Int) (s : ByteArray) (b : Bool)
    (h1 : k ≠ 1) (h2 : k ≠ 2) (h3 : k ≠ 3) (h4 : k ≠ 4) (h5 : k ≠ 5) (h6 : k ≠ 6) :
    Calls Try.prog 22 #[.pointer (some ⟨g, 0, none⟩), .pointer (some ⟨h, 0, none⟩), .agg #[.int .i64 k, .int .i64 n, .string s, .bool b]] w (Both w B g C h zs i e) := by
  have st := hide (Pair.new hp hr gh cg #[.int .i64 k, .int .i64 n, .string s, .bool b])
  have t1 : (k == 1) = false := by rw [beq_eq_false_iff_ne]; exact h1
  have t2 : (k == 2) = false := by rw [beq_eq_false_iff_ne]; exact h2
  have t3 : (k == 3) = false := by rw [beq_eq_false_iff_ne]; exact h3
  have t4 : (k == 4) = false := by rw [beq_eq_false_iff_ne]; exact h4
  have t5 : (k == 5) = false := by rw [beq_eq_false_iff_ne]; exact h5
  have t6 : (k == 6) = false := by rw [beq_eq_false_iff_ne]; exact h6
  clear hp hr h1 h2 h3 h4 h5 h6
  go_enter Try.func22, Try.ntmps22
  go_wp2
  go_ret
  exact ⟨rfl, st.out.p, st.out.r, st.out.old⟩
theorem call_any (hp : Rdr 60 w B g zs i e) (hr : Rdr 44 w C h zs i e) (gh : g < h) (cg : C ≤ g) (k n : Int) (s : ByteArray) (b : Bool) :
    Calls Try.prog 22 #[.pointer (some ⟨g, 0, none⟩), .pointer (some ⟨h, 0, none⟩), .agg #[.int .i64 k, .int .i64 n, .string s, .bool b]] w (Both w B g C h zs (itA zs i e k n) (itE zs i e k n)) := by
  unfold itA itE
  by_cases h1 : k = 1
  · subst h1; exact call_1 hp hr gh cg n s b
  rw [if_neg h1, if_neg h1]
  by_cases h2 : k = 2
  · subst h2; exact call_2 hp hr gh cg n s b
  rw [if_neg h2, if_neg h2]
  by_cases h3 : k = 3
  · subst h3; exact call_3 hp hr gh cg n s b
  rw [if_neg h3, if_neg h3]
  by_cases h4 : k = 4
  · subst h4; exact call_4 hp hr gh cg n s b
  rw [if_neg h4, if_neg h4]
  by_cases h5 : k = 5
  · subst h5; exact call_5 hp hr gh cg n s b
  rw [if_neg h5]
  by_cases h6 : k = 6
  · subst h6; exact call_6 hp hr gh cg n s b
  rw [if_neg h6]
  exact call_0 hp hr gh cg k n s b h1 h2 h3 h4 h5 h6
end
/-- The first reader a step on; whatever the second one answers. -/
def First (W : World) (B g : Nat) (zs : List Int) (i : Nat) (e : Int) (x : Ending) (w' : World) : Prop :=
  ∃ b, x = .returned (.bool b) ∧ Rdr 60 w' B g zs i e ∧ Below g W w'
section
variable {W w w' : World} {B g C h m i j i' j' : Nat} {zs ys : List Int} {e f e' f' : Int} {cs : Array Value}
set_option maxHeartbeats 1000000 in
theorem callx_1 (hp : Rdr 60 w B g zs i e) (hr : Rdr 44 w C h ys j f) (gh : g < h) (cg : C ≤ g) (n : Int) (s : ByteArray) (b : Bool) :
    Calls Try.prog 22 #[.pointer (some ⟨g, 0, none⟩), .pointer (some ⟨h, 0, none⟩), .agg #[.int .i64 1, .int .i64 n, .string s, .bool b]] w (First w B g zs (rNumA zs i e) (rNumE zs i e)) := by
  have st := hide (Pair.new hp hr gh cg #[.int .i64 1, .int .i64 n, .string s, .bool b])
  clear hp hr
  go_enter Try.func22, Try.ntmps22
  go_wp2_with (first
    | (go_at_call 27; (with_reducible refine (pnum_pair st.out).mono ?_); rintro x w1 ⟨rfl, s1⟩; have s1 := hide s1)
    | (go_at_call 38; (with_reducible refine (rnum_pair s1.out).mono ?_); rintro x w2 ⟨rfl, s2⟩; have s2 := hide s2))
  go_ret
  exact ⟨_, rfl, s2.out.p, s2.out.old⟩
set_option maxHeartbeats 1000000 in
theorem callx_3 (hp : Rdr 60 w B g zs i e) (hr : Rdr 44 w C h ys j f) (gh : g < h) (cg : C ≤ g) (n : Int) (s : ByteArray) (b : Bool) :
    Calls Try.prog 22 #[.pointer (some ⟨g, 0, none⟩), .pointer (some ⟨h, 0, none⟩), .agg #[.int .i64 3, .int .i64 n, .string s, .bool b]] w (First w B g zs (rFlgA zs i e) (rFlgE zs i e)) := by
  have st := hide (Pair.new hp hr gh cg #[.int .i64 3, .int .i64 n, .string s, .bool b])
  clear hp hr
  go_enter Try.func22, Try.ntmps22
  go_wp2_with (first
    | (go_at_call 29; (with_reducible refine (pflag_pair st.out).mono ?_); rintro x w1 ⟨rfl, s1⟩; have s1 := hide s1)
    | (go_at_call 40; (with_reducible refine (rflag_pair s1.out).mono ?_); rintro x w2 ⟨rfl, s2⟩; have s2 := hide s2))
  go_ret
  exact ⟨_, rfl, s2.out.p, s2.out.old⟩
set_option maxRecDepth 100000 in
set_option maxHeartbeats 2000000 in
theorem callx_2 (hp : Rdr 60 w B g zs i e) (hr : Rdr 44 w C h ys j f) (gh : g < h) (cg : C ≤ g) (n : Int) (s : ByteArray) (b : Bool) :
    Calls Try.prog 22 #[.pointer (some ⟨g, 0, none⟩), .pointer (some ⟨h, 0, none⟩), .agg #[.int .i64 2, .int .i64 n, .string s, .bool b]] w (First w B g zs (rTxtA zs i e n) (rTxtE zs i e n)) := by
  have st := Pair.new hp hr gh cg #[.int .i64 2, .int .i64 n, .string s, .bool b]
  have hc : (#[.int .i64 2, .int .i64 n, .string s, .bool b] : Array Value)[1]? = some (.int .i64 n) := rfl
  have hc := hide hc
  clear hp hr
  go_enter Try.func22, Try.ntmps22
  go_wp2
  have d1 := st.it.cell 1
  generalize w.alloc (.cells #[.int .i64 2, .int .i64 n, .string s, .bool b] 32) = wx at *
  go_region_held3 (fun w' => w'.cell? ⟨w.heap.size, 1, none⟩ = some (.int .i64 n)) (go_keep)
    (first
      | (go_at_call 28; (with_reducible refine (ptext_pair (W := w) (m := w.heap.size) (B := B) (C := C) (h := h) (zs := zs) (ys := ys) (i := i) (e := e) (j := j) (f := f) (by first | with_reducible assumption | with_reducible exact Pair.drew (by with_reducible assumption)) n hc.out).mono ?_); rintro x w1 ⟨rfl, q1, s1⟩)
      | (go_at_call 39; (with_reducible refine (rtext_pair (W := w) (m := w.heap.size) (B := B) (g := g) (C := C) (zs := zs) (ys := ys) (i := rTxtA zs i e n) (e := rTxtE zs i e n) (j := j) (f := f) (by first | with_reducible assumption | with_reducible exact Pair.drew (by with_reducible assumption)) n hc.out).mono ?_); rintro x w2 ⟨rfl, q2, s2⟩))
  all_goals
    clear d1
    go_wp2_with fail
    go_ret
    exact ⟨_, rfl, s2.p, s2.old⟩
theorem callx_any (hp : Rdr 60 w B g zs i e) (hr : Rdr 44 w C h ys j f) (gh : g < h) (cg : C ≤ g) (k n : Int) (hk : 1 ≤ k ∧ k ≤ 3) (s : ByteArray) (b : Bool) :
    Calls Try.prog 22 #[.pointer (some ⟨g, 0, none⟩), .pointer (some ⟨h, 0, none⟩), .agg #[.int .i64 k, .int .i64 n, .string s, .bool b]] w (First w B g zs (itA zs i e k n) (itE zs i e k n)) := by
  unfold itA itE
  by_cases h1 : k = 1
  · subst h1; exact callx_1 hp hr gh cg n s b
  rw [if_neg h1, if_neg h1]
  by_cases h2 : k = 2
  · subst h2; exact callx_2 hp hr gh cg n s b
  rw [if_neg h2, if_neg h2]
  obtain rfl : k = 3 := by omega
  exact callx_3 hp hr gh cg n s b
end
end Go.Proofs.Ytmjnidgjehlniaa
