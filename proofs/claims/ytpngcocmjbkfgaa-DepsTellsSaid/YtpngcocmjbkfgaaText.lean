/- What Text, Flag, End and the small methods of package pack's reader come to. Conditions: the reader lies in memory as it must. -/
import Derived.Test.YtpngcocmjbkfgaaPaper
namespace Go.Proofs.Ytpngcocmjbkfgaa
open Go.RowKit
section
variable {w : World} {B g i : Nat} {zs : List Int} {e : Int}
theorem passed_sum (h : Rdr 67 w B g zs i 0) (s : Int) (S : Nat) (hS : s = S) (hs : i + S ≤ zs.length) :
    Calls Try.prog 45 #[.pointer (some ⟨g, 0, none⟩), .int .i64 s, .int .i64 0] w fun x w' => x = .returned (.bool true) ∧ Rdr 67 w' B g zs (i + S) 0 ∧ w.grownBy w' (some g) := by
  subst hS; exact passed_yes h S hs
set_option maxHeartbeats 1000000 in
theorem pwrong_any (h : Rdr 67 w B g zs i e) :
    Calls Try.prog 29 #[.pointer (some ⟨g, 0, none⟩)] w fun x w' => x = .returned (.int .i64 e) ∧ w = w' := by
  obtain ⟨A, c, c0, c1, c2, f1, f2, lc, l, hz⟩ := h.cells
  clear h hz
  go_enter Try.func29, Try.ntmps29
  go_wp2
  go_ret
  exact ⟨rfl, rfl⟩
set_option maxHeartbeats 1000000 in
theorem pfail_any (h : Rdr 67 w B g zs i e) :
    Calls Try.prog 38 #[.pointer (some ⟨g, 0, none⟩)] w fun x w' => x = .returned (.tuple #[]) ∧ Rdr 67 w' B g zs i (rFailE e) ∧ w.grownBy w' (some g) := by
  have ha := fail_any h 4 (by omega)
  have ee : erst e 4 = rFailE e := rfl
  rw [ee] at ha
  have hA := hide ha
  clear ha h ee
  go_enter Try.func38, Try.ntmps38
  go_wp2_with (go_at_call 39; (with_reducible refine hA.out.mono ?_); rintro x w1 ⟨rfl, h1, hg1⟩; have h1' := hide h1; have hg' := hide hg1; clear h1 hg1)
  go_end0
  exact ⟨rfl, h1'.out, hg'.out⟩
set_option maxRecDepth 100000 in
set_option maxHeartbeats 1000000 in
theorem pend_any (h : Rdr 67 w B g zs i e) :
    Calls Try.prog 30 #[.pointer (some ⟨g, 0, none⟩)] w fun x w' => x = .returned (.int .i64 (rEndE zs i e)) ∧ Rdr 67 w' B g zs i (rEndE zs i e) ∧ w.grownBy w' (some g) := by
  obtain ⟨A, c, c0, c1, c2, f1, f2, lc, l, hz⟩ := h.cells
  by_cases hi : i < zs.length
  · have ee : rEndE zs i e = erst e 5 := by unfold rEndE erst; rw [if_pos hi]
    rw [ee]
    have hA := hide fun q => fail_any (h.drewN q) 5 (by omega)
    have t1 : decide (i < zs.length) = true := decide_eq_true hi
    generalize erst e 5 = E' at *
    clear h hz ee
    go_enter Try.func30, Try.ntmps30
    go_wp2
    go_quiet (fail)
    go_wp2_with (go_at_call 39; (with_reducible refine (hA.out _).mono ?_); rintro x w1 ⟨rfl, h1, hg1⟩; obtain ⟨A', c', c0', c1', c2', f1', f2', _, _, _⟩ := h1.cells; have h1' := hide h1; have hg' := hide hg1; clear h1 hg1)
    go_ret
    exact ⟨rfl, h1'.out, grown_trans (grown_drewN (grown_refl w _) _) hg'.out⟩
  · have ee : rEndE zs i e = e := by unfold rEndE; rw [if_neg hi]; split <;> omega
    rw [ee]
    have H := hide h
    have t1 : decide (i < zs.length) = false := decide_eq_false hi
    clear h hz ee
    go_enter Try.func30, Try.ntmps30
    go_wp2
    go_quiet (fail)
    go_wp2
    go_ret
    exact ⟨rfl, H.out.drewN _, grown_drewN (grown_refl w _) _⟩
end
/-- A slice of bytes of the call's own, or nil. -/
theorem own_len {w : World} {base n : Nat} {A : Option Addr} {m c : Nat} {xs : List Value} (h : w.ownsRow base 5 1 (.slice A m c) n xs) : m = n ∧ n ≤ c := by
  rcases h.2 with ⟨hv, hx⟩ | ⟨g, cap, cur, hv, _, _, hnc, _⟩
  · injection hv with _ h2 h3
    subst h2 h3
    have := h.1
    rw [hx] at this
    simp at this
    omega
  · injection hv with _ h2 h3
    subst h2 h3
    exact ⟨rfl, hnc⟩
/-- A slice of these bytes, in new memory or nowhere. -/
def Cloned (w : World) (n : Nat) (zs : List Int) (e : Ending) (w' : World) : Prop := ∃ A' c', e = .returned (.slice A' n c') ∧ n ≤ c' ∧ Lies w' A' zs ∧ Below w.heap.size w w'
set_option maxHeartbeats 1000000 in
theorem clone_any (A : Option Addr) (n c : Nat) (zs : List Int) (w : World) (hn : zs.length = n) (hz : Lies w A zs) (hc : A = none → c = 0) (ln : n ≤ 140737488355328) :
    Calls Try.prog 36 #[.slice A n c] w (Cloned w n zs) := by
  subst hn
  have hnil : ∀ (a : Option Addr) (k c : Nat) (w : World), (binOp .eql 48 (.slice a k c) (.slice none 0 0)).run Try.prog w = .ok (.bool a.isNone) w := fun a k c w => Lib.run_eql_slice_nil w 48 5 a k c 0 0 Try.underlying48
  rcases A with _ | ad
  · have h0 := hz.nil_ rfl
    have hz0 : zs = [] := List.eq_nil_of_length_eq_zero h0
    subst hz0
    obtain rfl := hc rfl
    go_enter Try.func36, Try.ntmps36
    go_wp2
    go_ret
    exact ⟨none, 0, rfl, Nat.le_refl _, Lies.none_, Below.refl _ _⟩
  · obtain ⟨i0, hi, hz0, hz1, hz2⟩ := info_parts Try.info5
    have hown0 := World.ownsRow_lit (base := w.heap.size) (e := 5) (size := 1) w #[] 0 (Nat.le_refl _) (by unfold maxLen; omega) rfl
    have hz' := hide (hz.alloc (.cells #[] 5))
    clear hc
    go_enter Try.func36, Try.ntmps36
    go_wp2_with (first
      | (at_builtin; refine wpList_append_lies rfl (.tmp 5) (.tmp 6) 48 rfl w.heap.size 5 i0 _ Try.underlying48 hi hz0 hz1 hz2 rfl _ 0 [] rfl hown0 (some ad) zs.length c zs rfl rfl (by intro h; cases h) hz'.out (by omega) (by simp) ?_; intro v1 w1 hown1 hb1; simp only [Nat.zero_add, List.nil_append] at hown1; have hb1' : Below w.heap.size w w1 := ((Below.refl _ _).alloc (Nat.le_refl _) _).trans hb1; clear hb1 hown0 hz' hz))
    obtain ⟨A', c', rfl, _⟩ := own_shape hown1
    go_ret
    have := own_len hown1
    exact ⟨A', c', rfl, this.2, Lies.of_own hown1, hb1'⟩
end Go.Proofs.Ytpngcocmjbkfgaa
