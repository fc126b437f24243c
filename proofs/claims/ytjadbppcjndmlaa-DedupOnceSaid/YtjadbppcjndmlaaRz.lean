/- Package dedup's isZero, isRight; the document's rightReply. Conditions: the reply's pairs lie in memory, their number has room. -/
import Derived.Test.YtjadbppcjndmlaaRe
namespace Go.Proofs.Ytjadbppcjndmlaa
open Go.RowKit
/-- Does it say nothing? -/
def nullR (r : Re) : Bool := (r.why == 0) && (!r.fnd && (nilB r.val && ((r.ver == 0) && decide (r.l.length = 0))))
theorem len_zero (n : Nat) : ((n : Int) == 0) = decide (n = 0) := by
  rw [Bool.eq_iff_iff]; simp
set_option maxHeartbeats 2000000 in
theorem zero_any (r : Re) (p : Value) (w : World) (h : Pin w p r.l) (ln : r.l.length ≤ 3518437208780) :
    Calls Try.prog 23 #[.agg #[.int .i64 r.why, .bool r.fnd, .string r.val, .int .i64 r.ver, p]] w fun e w' => e = .returned (.bool (nullR r)) ∧ Below w.heap.size w w' := by
  obtain ⟨A, c, rfl, hA, hc, hcc, hl⟩ := h
  clear hl
  obtain ⟨why, fnd, val, ver, l⟩ := r
  unfold nullR
  dsimp only at *
  have hnil : (val.toList == []) = nilB val := by unfold nilB; cases val.toList <;> rfl
  have h5 := len_zero l.length
  obtain ⟨t1, h1⟩ : ∃ t, (why == 0) = t := ⟨_, rfl⟩
  obtain ⟨t3, h3⟩ : ∃ t, nilB val = t := ⟨_, rfl⟩
  obtain ⟨t4, h4⟩ : ∃ t, (ver == 0) = t := ⟨_, rfl⟩
  obtain ⟨t5, h6⟩ : ∃ t, decide (l.length = 0) = t := ⟨_, rfl⟩
  rw [h6] at h5
  rw [h3] at hnil
  rw [h1, h3, h4, h6]
  clear h6 h3
  cases t1
  · go_enter Try.func23, Try.ntmps23
    go_wp2
    go_ret
    exact ⟨rfl, (Below.refl _ _).alloc (Nat.le_refl _) _⟩
  cases fnd
  case true =>
    go_enter Try.func23, Try.ntmps23
    go_wp2
    go_ret
    exact ⟨rfl, (Below.refl _ _).alloc (Nat.le_refl _) _⟩
  cases t3
  · go_enter Try.func23, Try.ntmps23
    go_wp2
    go_ret
    exact ⟨rfl, (Below.refl _ _).alloc (Nat.le_refl _) _⟩
  cases t4
  · go_enter Try.func23, Try.ntmps23
    go_wp2
    go_ret
    exact ⟨rfl, (Below.refl _ _).alloc (Nat.le_refl _) _⟩
  go_enter Try.func23, Try.ntmps23
  go_wp2
  go_ret
  exact ⟨rfl, (Below.refl _ _).alloc (Nat.le_refl _) _⟩
theorem rright_below (v : Value) (l : List Pr) (w : World) (h : Pin w v l) (ln : l.length ≤ 4611686018427387904) :
    Calls Try.prog 20 #[v] w fun e w' => e = .returned (.bool (rightB l)) ∧ Below w.heap.size w w' :=
  (rright_any v l w h ln).mono fun _ _ ⟨he, q, hq⟩ => ⟨he, by subst hq; exact kept_drewN (kept_refl w) q⟩
/-- May it be what a command is answered? -/
noncomputable def okR (r : Re) : Bool := ((r.why == 0) || (r.why == 7)) && (decide (r.val.size ≤ 64) && (decide (0 ≤ r.ver) && (decide (r.l.length ≤ 8) && rightB r.l)))
-- GEN
set_option maxHeartbeats 4000000 in
theorem isright_any (r : Re) (p : Value) (w : World) (h : Pin w p r.l) (ln : r.l.length ≤ 3518437208780) :
    Calls Try.prog 24 #[.agg #[.int .i64 r.why, .bool r.fnd, .string r.val, .int .i64 r.ver, p]] w fun e w' => e = .returned (.bool (okR r)) ∧ Below w.heap.size w w' := by
  have HW := hide (kept_alloc (kept_refl w) (.cells #[.int .i64 r.why, .bool r.fnd, .string r.val, .int .i64 r.ver, p] 25))
  have HR := hide (right_any p r.l _ (h.below HW.out) (by omega))
  obtain ⟨A, c, rfl, hA, hc, hcc, hl⟩ := h
  clear hl
  obtain ⟨why, fnd, val, ver, l⟩ := r
  unfold okR
  dsimp only at *
  obtain ⟨t0, h0⟩ : ∃ t, (why == 0) = t := ⟨_, rfl⟩
  obtain ⟨t1, h1⟩ : ∃ t, (why == 7) = t := ⟨_, rfl⟩
  have e2 : decide (val.size ≤ 64) = decide ((val.size : Int) ≤ 64) := by norm_cast
  have e4 : decide (l.length ≤ 8) = decide ((l.length : Int) ≤ 8) := by norm_cast
  obtain ⟨t2, h2⟩ : ∃ t, decide ((val.size : Int) ≤ 64) = t := ⟨_, rfl⟩
  obtain ⟨t3, h3⟩ : ∃ t, decide (0 ≤ ver) = t := ⟨_, rfl⟩
  obtain ⟨t4, h4⟩ : ∃ t, decide ((l.length : Int) ≤ 8) = t := ⟨_, rfl⟩
  rw [h0, h1, e2, e4, h2, h3, h4]
  generalize rightB l = t5 at HR ⊢
  clear e2 e4
  cases t0
  · cases t1
    · skip
      go_enter Try.func24, Try.ntmps24
      go_wp2
      go_ret
      exact ⟨ret_bool (by simp), HW.out⟩
    cases t2
    · skip
      go_enter Try.func24, Try.ntmps24
      go_wp2
      go_ret
      exact ⟨ret_bool (by simp), HW.out⟩
    cases t3
    · skip
      go_enter Try.func24, Try.ntmps24
      go_wp2
      go_ret
      exact ⟨ret_bool (by simp), HW.out⟩
    cases t4
    · skip
      go_enter Try.func24, Try.ntmps24
      go_wp2
      go_ret
      exact ⟨ret_bool (by simp), HW.out⟩
    go_enter Try.func24, Try.ntmps24
    go_wp2_with (go_at_call 26; (with_reducible refine HR.out.mono ?_); rintro e w1 ⟨rfl, hb1⟩)
    go_ret
    exact ⟨ret_bool (by simp), kept_trans HW.out hb1⟩
  · clear h1
    cases t2
    · skip
      go_enter Try.func24, Try.ntmps24
      go_wp2
      go_ret
      exact ⟨ret_bool (by simp), HW.out⟩
    cases t3
    · skip
      go_enter Try.func24, Try.ntmps24
      go_wp2
      go_ret
      exact ⟨ret_bool (by simp), HW.out⟩
    cases t4
    · skip
      go_enter Try.func24, Try.ntmps24
      go_wp2
      go_ret
      exact ⟨ret_bool (by simp), HW.out⟩
    go_enter Try.func24, Try.ntmps24
    go_wp2_with (go_at_call 26; (with_reducible refine HR.out.mono ?_); rintro e w1 ⟨rfl, hb1⟩)
    go_ret
    exact ⟨ret_bool (by simp), kept_trans HW.out hb1⟩
set_option maxHeartbeats 4000000 in
theorem rreply_any (r : Re) (p : Value) (w : World) (h : Pin w p r.l) (ln : r.l.length ≤ 3518437208780) :
    Calls Try.prog 19 #[.agg #[.int .i64 r.why, .bool r.fnd, .string r.val, .int .i64 r.ver, p]] w fun e w' => e = .returned (.bool (okR r)) ∧ Below w.heap.size w w' := by
  have HW := hide (kept_alloc (kept_refl w) (.cells #[.int .i64 r.why, .bool r.fnd, .string r.val, .int .i64 r.ver, p] 25))
  have HR := hide (rright_below p r.l _ (h.below HW.out) (by omega))
  obtain ⟨A, c, rfl, hA, hc, hcc, hl⟩ := h
  clear hl
  obtain ⟨why, fnd, val, ver, l⟩ := r
  unfold okR
  dsimp only at *
  obtain ⟨t0, h0⟩ : ∃ t, (why == 0) = t := ⟨_, rfl⟩
  obtain ⟨t1, h1⟩ : ∃ t, (why == 7) = t := ⟨_, rfl⟩
  have e2 : decide (val.size ≤ 64) = decide ((val.size : Int) ≤ 64) := by norm_cast
  have e4 : decide (l.length ≤ 8) = decide ((l.length : Int) ≤ 8) := by norm_cast
  obtain ⟨t2, h2⟩ : ∃ t, decide ((val.size : Int) ≤ 64) = t := ⟨_, rfl⟩
  obtain ⟨t3, h3⟩ : ∃ t, decide (0 ≤ ver) = t := ⟨_, rfl⟩
  obtain ⟨t4, h4⟩ : ∃ t, decide ((l.length : Int) ≤ 8) = t := ⟨_, rfl⟩
  rw [h0, h1, e2, e4, h2, h3, h4]
  generalize rightB l = t5 at HR ⊢
  clear e2 e4
  cases t0
  · cases t1
    · skip
      go_enter Try.func19, Try.ntmps19
      go_wp2
      go_ret
      exact ⟨ret_bool (by simp), HW.out⟩
    cases t2
    · skip
      go_enter Try.func19, Try.ntmps19
      go_wp2
      go_ret
      exact ⟨ret_bool (by simp), HW.out⟩
    cases t3
    · skip
      go_enter Try.func19, Try.ntmps19
      go_wp2
      go_ret
      exact ⟨ret_bool (by simp), HW.out⟩
    cases t4
    · skip
      go_enter Try.func19, Try.ntmps19
      go_wp2
      go_ret
      exact ⟨ret_bool (by simp), HW.out⟩
    go_enter Try.func19, Try.ntmps19
    go_wp2_with (go_at_call 20; (with_reducible refine HR.out.mono ?_); rintro e w1 ⟨rfl, hb1⟩)
    go_ret
    exact ⟨ret_bool (by simp), kept_trans HW.out hb1⟩
  · clear h1
    cases t2
    · skip
      go_enter Try.func19, Try.ntmps19
      go_wp2
      go_ret
      exact ⟨ret_bool (by simp), HW.out⟩
    cases t3
    · skip
      go_enter Try.func19, Try.ntmps19
      go_wp2
      go_ret
      exact ⟨ret_bool (by simp), HW.out⟩
    cases t4
    · skip
      go_enter Try.func19, Try.ntmps19
      go_wp2
      go_ret
      exact ⟨ret_bool (by simp), HW.out⟩
    go_enter Try.func19, Try.ntmps19
    go_wp2_with (go_at_call 20; (with_reducible refine HR.out.mono ?_); rintro e w1 ⟨rfl, hb1⟩)
    go_ret
    exact ⟨ret_bool (by simp), kept_trans HW.out hb1⟩
end Go.Proofs.Ytjadbppcjndmlaa
