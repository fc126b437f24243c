/- What the other methods of the document's own reader come to. Conditions: the reader lies in memory as it must. -/
import Derived.Test.YtmjnidgjehlniaaRef
namespace Go.Proofs.Ytmjnidgjehlniaa
open Go.RowKit
section
variable {w : World} {B g i : Nat} {zs : List Int} {e : Int}
set_option maxHeartbeats 1000000 in
theorem rnum_1 (h : Rdr 44 w B g zs i e) (he : e ≠ 0) :
    Calls Try.prog 38 #[.pointer (some ⟨g, 0, none⟩)] w fun x w' =>
      x = .returned (.int .i64 0) ∧ w = w' := by
  obtain ⟨A, c, c0, c1, c2, f1, f2, lc, l, hz⟩ := h.cells
  have t0 : (e != 0) = true := by simpa using he
  clear h hz he
  go_enter Try.func38, Try.ntmps38
  go_wp2
  go_ret
  exact ⟨rfl, rfl⟩
theorem rnum_to (h : Rdr 44 w B g zs i e) :
    Calls Try.prog 38 #[.pointer (some ⟨g, 0, none⟩)] w fun x w' =>
      x = .returned (.int .i64 (rNumV zs i e)) ∧ Rdr 44 w' B g zs (rNumA zs i e) (rNumE zs i e) ∧ w.grownBy w' (some g) := by
  by_cases he : e = 0
  · subst he; exact rnum_0 h
  · have ee : rNumE zs i e = e := by unfold rNumE; rw [if_neg he]
    have ev : rNumV zs i e = 0 := by unfold rNumV; rw [ee, if_neg he]
    have ea : rNumA zs i e = i := by unfold rNumA; rw [ee, if_neg he]
    rw [ee, ev, ea]
    exact (rnum_1 h he).mono fun _ _ ⟨hx, hw⟩ => ⟨hx, hw ▸ h, hw ▸ grown_refl w _⟩
set_option maxRecDepth 100000 in
set_option maxHeartbeats 1000000 in
theorem rflag_to (h : Rdr 44 w B g zs i e) :
    Calls Try.prog 40 #[.pointer (some ⟨g, 0, none⟩)] w fun x w' =>
      x = .returned (.bool (rFlgV zs i e)) ∧ Rdr 44 w' B g zs (rFlgA zs i e) (rFlgE zs i e) ∧ w.grownBy w' (some g) := by
  obtain ⟨A, c, c0, c1, c2, f1, f2, lc, l, hz⟩ := h.cells
  have ho := h.oct.ix i
  have hi := h.here
  have H := hide h
  clear h
  by_cases he : e = 0
  · subst he
    have hF := hide fun q => rfail_0 (H.out.drewN q)
    by_cases hlt : i < zs.length
    · obtain ⟨b1, o1, rfl, _, hc1⟩ := hz.at_ (k := i) hlt
      have t9 : decide (zs.length ≤ i) = false := decide_eq_false (by omega)
      have hz' := hide hz
      clear hz
      by_cases hu : 1 < ix zs i
      · have ee : rFlgE zs i 0 = 4 := by unfold rFlgE; rw [if_pos rfl, if_pos hlt, if_pos hu]
        have ev : rFlgV zs i 0 = false := by unfold rFlgV; rw [ee]; rfl
        have ea : rFlgA zs i 0 = i := by unfold rFlgA; rw [ee]; rfl
        rw [ee, ev, ea]
        have t1 : decide (1 < ix zs i) = true := decide_eq_true hu
        clear hu ee ev ea
        generalize ix zs i = p at *
        obtain ⟨p0, p1⟩ := ho
        go_enter Try.func40, Try.ntmps40
        go_wp2
        go_quiet (fail)
        go_wp2
        go_quiet (fail)
        go_wp2_with (go_at_call 49; (with_reducible refine (hF.out _ 4 (by omega)).mono ?_); rintro x w1 ⟨rfl, h1, hg1⟩; have h1' := hide h1; have hg' := hide hg1; clear h1 hg1)
        go_ret
        exact ⟨rfl, h1'.out, grown_trans (grown_drewN (grown_refl w _) _) hg'.out⟩
      · have ee : rFlgE zs i 0 = 0 := by unfold rFlgE; rw [if_pos rfl, if_pos hlt, if_neg hu]
        have ev : rFlgV zs i 0 = decide (ix zs i = 1) := by unfold rFlgV; rw [ee]; simp
        have ea : rFlgA zs i 0 = i + 1 := by unfold rFlgA; rw [ee, if_pos rfl]
        rw [ee, ev, ea]
        have t1 : decide (1 < ix zs i) = false := decide_eq_false hu
        have hpl := hide fun q' => (H.out.drewN q').place_to ((i : Int) + 1) (i + 1) (by omega) (by omega)
        clear hu ee ev ea
        generalize ix zs i = p at *
        obtain ⟨p0, p1⟩ := ho
        by_cases hp : p = 1
        · have t2 : (p == 1) = true := by rw [hp]; rfl
          rw [decide_eq_true hp]
          clear hp
          go_enter Try.func40, Try.ntmps40
          go_wp2
          go_quiet (fail)
          go_wp2
          go_quiet (fail)
          go_wp2
          go_ret
          exact ⟨rfl, hpl.out _, grown_put (grown_drewN (grown_refl w _) _) _ _⟩
        · have t2 : (p == 1) = false := by rw [beq_eq_false_iff_ne]; exact hp
          rw [decide_eq_false hp]
          clear hp
          go_enter Try.func40, Try.ntmps40
          go_wp2
          go_quiet (fail)
          go_wp2
          go_quiet (fail)
          go_wp2
          go_ret
          exact ⟨rfl, hpl.out _, grown_put (grown_drewN (grown_refl w _) _) _ _⟩
    · have ee : rFlgE zs i 0 = 3 := by unfold rFlgE; rw [if_pos rfl, if_neg hlt]
      have ev : rFlgV zs i 0 = false := by unfold rFlgV; rw [ee]; rfl
      have ea : rFlgA zs i 0 = i := by unfold rFlgA; rw [ee]; rfl
      rw [ee, ev, ea]
      have t9 : decide (zs.length ≤ i) = true := decide_eq_true (by omega)
      clear ee ev ea hz ho
      go_enter Try.func40, Try.ntmps40
      go_wp2
      go_quiet (fail)
      go_wp2_with (go_at_call 49; (with_reducible refine (hF.out _ 3 (by omega)).mono ?_); rintro x w1 ⟨rfl, h1, hg1⟩; have h1' := hide h1; have hg' := hide hg1; clear h1 hg1)
      go_ret
      exact ⟨rfl, h1'.out, grown_trans (grown_drewN (grown_refl w _) _) hg'.out⟩
  · have ee : rFlgE zs i e = e := by unfold rFlgE; rw [if_neg he]
    have ev : rFlgV zs i e = false := by unfold rFlgV; rw [ee, decide_eq_false_iff_not]; exact fun hh => he hh.1
    have ea : rFlgA zs i e = i := by unfold rFlgA; rw [ee, if_neg he]
    rw [ee, ev, ea]
    have t0 : (e != 0) = true := by simpa using he
    clear hz he ee ev ea ho
    go_enter Try.func40, Try.ntmps40
    go_wp2
    go_ret
    exact ⟨rfl, H.out, grown_refl w _⟩
set_option maxRecDepth 100000 in
set_option maxHeartbeats 1000000 in
theorem rend_to (h : Rdr 44 w B g zs i e) :
    Calls Try.prog 42 #[.pointer (some ⟨g, 0, none⟩)] w fun x w' => x = .returned (.int .i64 (rEndE zs i e)) ∧ Rdr 44 w' B g zs i (rEndE zs i e) ∧ w.grownBy w' (some g) := by
  obtain ⟨A, c, c0, c1, c2, f1, f2, lc, l, hz⟩ := h.cells
  have H := hide h
  clear h hz
  by_cases he : e = 0
  · subst he
    have hF := hide fun q => rfail_0 (H.out.drewN q)
    by_cases hi : i < zs.length
    · have ee : rEndE zs i 0 = 5 := by unfold rEndE; rw [if_pos rfl, if_pos hi]
      rw [ee]
      have t1 : decide (i < zs.length) = true := decide_eq_true hi
      clear ee
      go_enter Try.func42, Try.ntmps42
      go_wp2
      go_quiet (fail)
      go_wp2_with (go_at_call 49; (with_reducible refine (hF.out _ 5 (by omega)).mono ?_); rintro x w1 ⟨rfl, h1, hg1⟩; obtain ⟨A', c', c0', c1', c2', f1', f2', _, _, _⟩ := h1.cells; have h1' := hide h1; have hg' := hide hg1; clear h1 hg1)
      go_ret
      exact ⟨rfl, h1'.out, grown_trans (grown_drewN (grown_refl w _) _) hg'.out⟩
    · have ee : rEndE zs i 0 = 0 := by unfold rEndE; rw [if_pos rfl, if_neg hi]
      rw [ee]
      have t1 : decide (i < zs.length) = false := decide_eq_false hi
      clear ee
      go_enter Try.func42, Try.ntmps42
      go_wp2
      go_quiet (fail)
      go_wp2
      go_ret
      exact ⟨rfl, H.out.drewN _, grown_drewN (grown_refl w _) _⟩
  · have ee : rEndE zs i e = e := by unfold rEndE; rw [if_neg he]
    rw [ee]
    have t0 : (e == 0) = false := by rw [beq_eq_false_iff_ne]; exact he
    clear he ee
    go_enter Try.func42, Try.ntmps42
    go_wp2
    go_quiet (fail)
    go_wp2
    go_ret
    exact ⟨rfl, H.out.drewN _, grown_drewN (grown_refl w _) _⟩
end
end Go.Proofs.Ytmjnidgjehlniaa
