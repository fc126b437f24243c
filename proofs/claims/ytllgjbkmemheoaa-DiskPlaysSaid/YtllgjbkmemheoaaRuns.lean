/- Chapter 8's runs. No condition. -/
import Derived.Test.YtllgjbkmemheoaaLaw
namespace Go.Proofs.Ytllgjbkmemheoaa
open Go.RowKit Go.Maps
def nA : ByteArray := ⟨#[97]⟩
def nB : ByteArray := ⟨#[98]⟩
theorem lt_ab : ltB nA nB = true := by unfold ltB nA nB; rw [ByteArray.toList_eq, ByteArray.toList_eq]; decide
theorem ne_ab : nA ≠ nB := by decide
theorem okA : nameB nA = true := by decide
theorem okB : nameB nB = true := by decide
def q1 : DS := ⟨9, [⟨nA, [1, 2, 3], 0⟩], -1, false⟩
def q2 : DS := ⟨9, [⟨nA, [1, 2, 3], 3⟩], -1, false⟩
def q3 : DS := ⟨9, [⟨nA, [1, 2, 3, 4, 5], 3⟩], -1, false⟩
def q4 : DS := ⟨9, [⟨nA, [1, 2, 3, 4], 4⟩], -1, false⟩
def q5 : DS := ⟨9, [⟨nA, [1, 2, 3, 4], 4⟩], 1, false⟩
def q6 : DS := ⟨9, [⟨nA, [1, 2, 3, 4], 4⟩, ⟨nB, [1], 0⟩], 0, false⟩
def q7 : DS := ⟨9, [⟨nA, [1, 2, 3, 4], 4⟩, ⟨nB, [1], 0⟩], 0, true⟩
theorem find_a (x : List Int) (k : Nat) (l : List Fl) : find nA (⟨nA, x, k⟩ :: l) = some ⟨nA, x, k⟩ := by simp [find]
theorem find_ab (x : List Int) (k : Nat) (l : List Fl) : find nB (⟨nA, x, k⟩ :: l) = find nB l := by simp [find, ne_ab]
theorem s1 : appS (newS 9) nA [1, 2, 3] = q1 := by simp [appS, newS, okA, find, putF, datO, kepO, DS.spent, q1, total]
theorem s2 : synS q1 nA = q2 := by simp [synS, q1, find_a, putF, DS.spent, q2]
theorem s3 : appS q2 nA [4, 5] = q3 := by simp [appS, q2, okA, find_a, putF, datO, kepO, DS.spent, q3, total]
theorem s4 : craS q3 [1] = q4 := by simp [craS, q3, q4, tears, tear, pickAt]; decide
theorem s5 : appE q4 nB [0, 0, 0, 0, 0, 0] = 7 ∧ appS q4 nB [0, 0, 0, 0, 0, 0] = q4 := by simp [appE, appS, q4, okB, total]
theorem s6 : armS q4 1 = q5 := by simp [armS, q4, q5]; decide
theorem s7 : appE q5 nB [1] = 0 ∧ appS q5 nB [1] = q6 := by simp [appE, appS, q5, okB, total, find_ab, find, putF, datO, kepO, DS.spent, ne_ab, lt_ab, q6]
theorem s8 : synE q6 nB = 10 ∧ synS q6 nB = q7 := by simp [synE, synS, q6, find_ab, find, DS.spent, q7]
/-- A step of the runs. -/
def RunP (W : World) (X : Nat → Prop) (g : Nat) (x : Int) (d : DS) (e : Ending) (w' : World) : Prop := e = .returned (.int .i64 x) ∧ Lw W X w' g d
def RunR (W : World) (X : Nat → Prop) (A : Option Addr) (zs : List Int) (g : Nat) (x : Int) (d : DS) (e : Ending) (w' : World) : Prop := e = .returned (.int .i64 x) ∧ Lr W X A zs w' g d
section
variable {W w : World} {X : Nat → Prop} {g : Nat} {A : Option Addr} {zs : List Int}
theorem lits_new (w : World) (zs : List Int) (t : TypeId) : Below w.heap.size w (w.alloc (.cells (cellsOf zs).toArray t)) ∧ Lies (w.alloc (.cells (cellsOf zs).toArray t)) (some ⟨w.heap.size, 0, none⟩) zs := ⟨kept_alloc (kept_refl w) _, lies_lit w zs t (0, 0)⟩
theorem oct_small {l : List Int} (h : l.all (fun z => 0 ≤ z && z ≤ 255) = true) : Octets l := fun z hz => by
  have := List.all_eq_true.1 h z hz
  simpa using this
theorem r1 (h : Lw W X w g (newS 9)) : Calls Try.prog 11 #[.pointer (some ⟨g, 0, none⟩), .string ⟨#[97]⟩, .slice (some ⟨w.heap.size, 0, none⟩) 3 3] (w.alloc (.cells #[.int .u8 1, .int .u8 2, .int .u8 3] 5)) (RunP W X g 0 q1) :=
  (append_new (nm := nA) (zs := [1, 2, 3]) h.q (lits_new w _ _).1 (by decide) rfl (fun h => by cases h) (lits_new w [1, 2, 3] _).2 (fun _ a ha => by injection ha with ha; subst ha; exact Nat.le_refl _) (oct_small (by decide)) (by unfold newS; decide)).mono fun e w' ⟨h1, h2, h3⟩ =>
    ⟨by rw [h1]; rfl, h.step (s1 ▸ h2) h3⟩
theorem r2 (h : Lw W X w g q1) : Calls Try.prog 12 #[.pointer (some ⟨g, 0, none⟩), .string ⟨#[97]⟩] w (RunP W X g 0 q2) :=
  (sync_q (nm := nA) h.q (by decide)).mono fun e w' ⟨h1, h2, h3⟩ => ⟨by rw [h1, show synE q1 nA = 0 by simp [synE, q1, find_a]], h.step (s2 ▸ h2) h3⟩
theorem r3 (h : Lw W X w g q2) : Calls Try.prog 11 #[.pointer (some ⟨g, 0, none⟩), .string ⟨#[97]⟩, .slice (some ⟨w.heap.size, 0, none⟩) 2 2] (w.alloc (.cells #[.int .u8 4, .int .u8 5] 5)) (RunP W X g 0 q3) :=
  (append_new (nm := nA) (zs := [4, 5]) h.q (lits_new w _ _).1 (by decide) rfl (fun h => by cases h) (lits_new w [4, 5] _).2 (fun _ a ha => by injection ha with ha; subst ha; exact Nat.le_refl _) (oct_small (by decide)) (by unfold q2; decide)).mono fun e w' ⟨h1, h2, h3⟩ =>
    ⟨by rw [h1, show appE q2 nA [4, 5] = 0 by simp [appE, q2, okA, total]], h.step (s3 ▸ h2) h3⟩
theorem r4 (h : Lw W X w g q3) : Calls Try.prog 13 #[.pointer (some ⟨g, 0, none⟩), .slice (some ⟨w.heap.size, 0, none⟩) 1 1] (w.alloc (.cells #[.int .i64 1] 3)) fun e w' => e = .returned (.tuple #[]) ∧ Lw W X w' g q4 :=
  (crash_new (ps := [1]) h.q (kept_alloc (kept_refl w) _) (by unfold q3; decide) (fun _ => ⟨w.heap.size, 0, rfl, by simp, fun k hk => by
      obtain rfl : k = 0 := Nat.lt_one_iff.1 hk
      exact (Row.new w 3 #[.int .i64 1]).cell 0⟩) rfl (by simp) (fun _ a ha => by injection ha with ha; subst ha; exact Nat.le_refl _) (fun p hp => by simp at hp; omega)).mono fun e w' ⟨h1, h2, h3⟩ => ⟨h1, h.step (s4 ▸ h2) h3⟩
theorem r5 (h : Lw W X w g q4) : Calls Try.prog 14 #[.pointer (some ⟨g, 0, none⟩), .string ⟨#[97]⟩] w fun e w' => ∃ A c, e = .returned (.tuple #[.slice A 4 c, .bool true]) ∧ Lr W X A [1, 2, 3, 4] w' g q4 :=
  (read_q (nm := nA) h.q (by decide)).mono fun e w' ⟨A, c, h1, h2, h3⟩ => by
    rw [show find nA q4.l = some ⟨nA, [1, 2, 3, 4], 4⟩ from find_a _ _ _] at h1 h2
    exact ⟨A, c, h1, h.read h2 h3⟩
theorem r6 (h : Lr W X A zs w g q4) (w1 : World) (hb : Below w.heap.size w w1) (hl : Lies w1 (some ⟨w.heap.size, 0, none⟩) [0, 0, 0, 0, 0, 0]) : Calls Try.prog 11 #[.pointer (some ⟨g, 0, none⟩), .string ⟨#[98]⟩, .slice (some ⟨w.heap.size, 0, none⟩) 6 6] w1 (RunR W X A zs g 7 q4) :=
  (append_new (nm := nB) (zs := [0, 0, 0, 0, 0, 0]) h.l.q hb (by decide) rfl (fun h => by cases h) hl (fun _ a ha => by injection ha with ha; subst ha; exact Nat.le_refl _) (oct_small (by decide)) (by unfold q4; decide)).mono fun e w' ⟨h1, h2, h3⟩ =>
    ⟨by rw [h1, s5.1], h.step (s5.2 ▸ h2) h3⟩
theorem r6' (h : Lr W X A zs w g q4) : Calls Try.prog 11 #[.pointer (some ⟨g, 0, none⟩), .string ⟨#[98]⟩, .slice (some ⟨w.heap.size, 0, none⟩) 6 6] (w.alloc (.cells #[.int .u8 0, .int .u8 0, .int .u8 0, .int .u8 0, .int .u8 0, .int .u8 0] 5)) (RunR W X A zs g 7 q4) :=
  r6 h _ (lits_new w [0, 0, 0, 0, 0, 0] _).1 (lits_new w [0, 0, 0, 0, 0, 0] _).2
theorem r10 {c : Nat} (h : Lr W X A [1, 2, 3, 4] w g q7) : Calls Try.prog 16 #[.slice A 4 c, .slice (some ⟨w.heap.size, 0, none⟩) 4 4] (w.alloc (.cells #[.int .u8 1, .int .u8 2, .int .u8 3, .int .u8 4] 5)) fun e w' => e = .returned (.bool true) ∧ Lw W (plus X A) w' g q7 := by
  have hb := (lits_new w [1, 2, 3, 4] 5).1
  refine (same_any A _ 4 4 c 4 [1, 2, 3, 4] [1, 2, 3, 4] _ rfl rfl (h.lies.below hb) (lits_new w [1, 2, 3, 4] 5).2 (by omega) (by omega)).mono fun e w' ⟨h1, q, h2⟩ => ⟨by rw [h1]; rfl, ?_⟩
  rw [h2]
  exact h.l.below (kept_drewN hb q)
theorem r7 (h : Lr W X A zs w g q4) : Calls Try.prog 15 #[.pointer (some ⟨g, 0, none⟩), .int .i64 1] w fun e w' => e = .returned (.tuple #[]) ∧ Lr W X A zs w' g q5 :=
  (arm_q h.l.q (by omega)).mono fun e w' ⟨h1, h2, h3⟩ => ⟨h1, h.step (s6 ▸ h2) h3⟩
theorem r8 (h : Lr W X A zs w g q5) : Calls Try.prog 11 #[.pointer (some ⟨g, 0, none⟩), .string ⟨#[98]⟩, .slice (some ⟨w.heap.size, 0, none⟩) 1 1] (w.alloc (.cells #[.int .u8 1] 5)) (RunR W X A zs g 0 q6) :=
  (append_new (nm := nB) (zs := [1]) h.l.q (lits_new w _ _).1 (by decide) rfl (fun h => by cases h) (lits_new w [1] _).2 (fun _ a ha => by injection ha with ha; subst ha; exact Nat.le_refl _) (oct_small (by decide)) (by unfold q5; decide)).mono fun e w' ⟨h1, h2, h3⟩ =>
    ⟨by rw [h1, s7.1], h.step (s7.2 ▸ h2) h3⟩
theorem r9 (h : Lr W X A zs w g q6) : Calls Try.prog 12 #[.pointer (some ⟨g, 0, none⟩), .string ⟨#[98]⟩] w (RunR W X A zs g 10 q7) :=
  (sync_q (nm := nB) h.l.q (by decide)).mono fun e w' ⟨h1, h2, h3⟩ => ⟨by rw [h1, s8.1], h.step (s8.2 ▸ h2) h3⟩
end
set_option maxRecDepth 100000 in
set_option maxHeartbeats 4000000 in
theorem runs_any (W : World) : Calls Try.prog 3 #[] W fun e w' => e = .returned (.bool true) ∧ Below W.heap.size W w' := by
  have hmk : ∀ w, (Instr.makeSlice 27 (.int .i64 6) (.int .i64 6)).run Try.prog w = .ok (.slice (some ⟨w.heap.size, 0, none⟩) 6 6) (w.alloc (.cells #[.int .u8 0, .int .u8 0, .int .u8 0, .int .u8 0, .int .u8 0, .int .u8 0] 5)) := fun _ => by kernel_rfl
  go_enter Try.func3, Try.ntmps3
  go_wp2_with (first
    | (go_at_call 10; (with_reducible refine (new_q 9 W (by omega)).mono ?_); rintro e w1 ⟨g, rfl, hq, hb⟩; have L1 := hide (Lw.start hq hb); clear hq hb)
    | (go_at_call 11; (with_reducible refine (r1 L1.out).mono ?_); rintro e w2 ⟨rfl, h⟩; have L2 := hide h; clear h L1)
    | (go_at_call 12; (with_reducible refine (r2 L2.out).mono ?_); rintro e w3 ⟨rfl, h⟩; have L3 := hide h; clear h L2)
    | (go_at_call 11; (with_reducible refine (r3 L3.out).mono ?_); rintro e w4 ⟨rfl, h⟩; have L4 := hide h; clear h L3)
    | (go_at_call 13; (with_reducible refine (r4 L4.out).mono ?_); rintro e w5 ⟨rfl, h⟩; have L5 := hide h; clear h L4)
    | (go_at_call 14; (with_reducible refine (r5 L5.out).mono ?_); rintro e w6 ⟨A, c, rfl, h⟩; have L6 := hide h; clear h L5)
    | (go_at_call 11; (with_reducible refine (r6' L6.out).mono ?_); rintro e w7 ⟨rfl, h⟩; have L7 := hide h; clear h L6)
    | (go_at_call 15; (with_reducible refine (r7 L7.out).mono ?_); rintro e w8 ⟨rfl, h⟩; have L8 := hide h; clear h L7)
    | (go_at_call 11; (with_reducible refine (r8 L8.out).mono ?_); rintro e w9 ⟨rfl, h⟩; have L9 := hide h; clear h L8)
    | (go_at_call 12; (with_reducible refine (r9 L9.out).mono ?_); rintro e w10 ⟨rfl, h⟩; have L10 := hide h; clear h L9)
    | (go_at_call 16; (with_reducible refine (r10 L10.out).mono ?_); rintro e w11 ⟨rfl, h⟩; have L11 := hide h; clear h L10)
    | (go_at_call 17; (with_reducible refine (off_q L11.out.q).mono ?_); rintro e w12 ⟨rfl, rfl⟩))
  go_ret
  exact ⟨rfl, L11.out.low⟩
end Go.Proofs.Ytllgjbkmemheoaa
