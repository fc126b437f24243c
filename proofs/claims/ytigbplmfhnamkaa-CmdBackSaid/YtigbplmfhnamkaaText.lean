/- What Text, Flag, End and the small methods of package pack's reader come to. Conditions: the reader lies in memory as it must. -/
import Derived.Test.YtigbplmfhnamkaaPaper
namespace Go.Proofs.Ytigbplmfhnamkaa
open Go.RowKit
section
variable {w : World} {B g i : Nat} {zs : List Int} {e : Int}
theorem passed_sum (h : Rdr 59 w B g zs i 0) (s : Int) (S : Nat) (hS : s = S) (hs : i + S ≤ zs.length) :
    Calls Try.prog 53 #[.pointer (some ⟨g, 0, none⟩), .int .i64 s, .int .i64 0] w fun x w' => x = .returned (.bool true) ∧ Rdr 59 w' B g zs (i + S) 0 ∧ w.grownBy w' (some g) := by
  subst hS; exact passed_yes h S hs
set_option maxRecDepth 100000 in
set_option maxHeartbeats 1000000 in
theorem ptext_yes (h : Rdr 59 w B g zs i 0) (m : Int) (ht : txtE (zs.drop i) m = 0) :
    Calls Try.prog 47 #[.pointer (some ⟨g, 0, none⟩), .int .i64 m] w fun x w' =>
      x = .returned (.string (strOf (((zs.drop i).drop (rdS (zs.drop i))).take (rdV (zs.drop i)).toNat))) ∧ Rdr 59 w' B g zs (i + rdS (zs.drop i) + (rdV (zs.drop i)).toNat) 0 ∧ w.grownBy w' (some g) := by
  obtain ⟨A, c, c0, c1, c2, f1, f2, lc, l, hd⟩ := h.deeps
  have hlow := h.low
  have hgl := h.lt
  have hz := hd.lies (by omega)
  have ho := h.oct
  have hb := rd_bounds (octets_drop h.oct i)
  have hl0 : ((zs.drop i).length : Int) = (zs.length - i : Nat) := by rw [List.length_drop]
  have hc0 : cntE (zs.drop i) m = 0 := by
    unfold txtE at ht
    by_cases hc : cntE (zs.drop i) m = 0
    · exact hc
    · rw [if_neg hc] at ht; exact ht
  have hr0 : rdE (zs.drop i) = 0 ∧ 0 ≤ rdV (zs.drop i) := by
    unfold cntE at hc0
    by_cases hr : rdE (zs.drop i) = 0
    · rw [if_pos hr] at hc0
      by_cases hv : rdV (zs.drop i) < 0 ∨ m < rdV (zs.drop i)
      · rw [if_pos hv] at hc0; exact absurd hc0 (by omega)
      · exact ⟨hr, by omega⟩
    · rw [if_neg hr] at hc0; exact absurd hc0 hr
  have hs0 : ¬ ((zs.drop i).length : Int) - (rdS (zs.drop i) : Nat) < rdV (zs.drop i) := by
    intro hs
    unfold txtE at ht
    rw [if_pos hc0, if_pos hs] at ht
    exact absurd ht (by omega)
  have h3 : cntV (zs.drop i) m = rdV (zs.drop i) := by unfold cntV; rw [if_pos hc0]
  have h4 : cntS (zs.drop i) m = rdS (zs.drop i) := by unfold cntS; rw [if_pos hc0]
  rw [List.length_drop] at hb
  have hi := h.here
  obtain ⟨N, hN⟩ := Int.eq_ofNat_of_zero_le hr0.2
  rw [hN] at h3 hs0
  have hNn : (rdV (zs.drop i)).toNat = N := by rw [hN]; rfl
  rw [hNn]
  rw [hl0] at hs0
  have hle : i + (rdS (zs.drop i) + N) ≤ zs.length := by omega
  have hS : rdS (zs.drop i) ≤ zs.length - i := by omega
  have hcnt := fun q => rest_count (i := i) (m := m) hz ho lc l q
  rw [h3, h4, hc0] at hcnt
  have hpart := fun (w1 : World) (hz1 : Lies w1 A zs) => ((hz1.rest lc i).part (c := c - i) (by rw [List.length_drop]; omega) (rdS (zs.drop i)) N)
  have hplen : (((zs.drop i).drop (rdS (zs.drop i))).take N).length = N := by rw [List.length_take, List.length_drop, List.length_drop]; omega
  generalize ((zs.drop i).drop (rdS (zs.drop i))).take N = ys at *
  generalize rdS (zs.drop i) = S at *
  have hq := hide hcnt
  have hpt := hide hpart
  have hpl := hide hplen
  have lic : i ≤ c := by omega
  have li0 : (i : Int) ≤ (c : Int) := by omega
  have p1 : (if c = i then A else Option.map (fun x => x.add i) A) = partA A c i := rfl
  have p2 : (if c - i = S then partA A c i else Option.map (fun x => x.add S) (partA A c i)) = partA (partA A c i) (c - i) S := rfl
  have t1 : decide (((zs.length - i : Nat) : Int) - (S : Int) < (N : Int)) = false := decide_eq_false hs0
  have s1 : (S : Int) + (N : Int) ≤ ((c - i : Nat) : Int) := by omega
  have s2 : (S : Int) ≤ ((c - i : Nat) : Int) := by omega
  have s3 : (S : Int) + (N : Int) ≤ 4611686018427387904 := by omega
  have hp := hide fun q => passed_sum (h.drewN q) ((S : Int) + (N : Int)) (S + N) (by omega) hle
  have hdd := hide hd
  clear hcnt hpart hplen h hb ht hc0 hr0 hs0 h3 h4 hN hNn hl0 hle hz ho hd
  go_enter Try.func47, Try.ntmps47
  go_wp2
  go_quiet (fail)
  go_wp2_with (first
    | (go_at_call 54; (with_reducible refine (hq.out _).mono ?_); rintro x w1 ⟨rfl, q1, rfl⟩)
    | (go_at_call 53; (with_reducible refine (hp.out _).mono ?_); rintro x w1 ⟨rfl, h1, hg1⟩; have h1' := hide h1; have hg' := hide hg1; have hcv := conv_any (c := c - i - S) hpl.out (hpt.out w1 (hdd.out.far (grown_trans (grown_drewN (grown_refl w _) _) hg1) hlow hgl)); clear h1 hg1))
  go_ret
  exact ⟨rfl, by rw [Nat.add_assoc]; exact h1'.out, grown_trans (grown_drewN (grown_refl w _) _) hg'.out⟩
set_option maxRecDepth 100000 in
set_option maxHeartbeats 1000000 in
theorem ptext_no (h : Rdr 59 w B g zs i e) (m : Int) (hne : erst e (txtE (zs.drop i) m) ≠ 0) :
    Calls Try.prog 47 #[.pointer (some ⟨g, 0, none⟩), .int .i64 m] w fun x w' =>
      x = .returned (.string (strOf [])) ∧ Rdr 59 w' B g zs i (erst e (txtE (zs.drop i) m)) ∧ w.grownBy w' (some g) := by
  obtain ⟨A, c, c0, c1, c2, f1, f2, lc, l, hz⟩ := h.cells
  have hi := h.here
  have hb := rd_bounds (octets_drop h.oct i)
  have hcb := cntE_bounds (octets_drop h.oct i) m
  have htb := txtE_bounds (octets_drop h.oct i) m
  have hq := hide fun q => rest_count (i := i) (m := m) hz h.oct lc l q
  have hp := hide fun q (s : Int) => passed_no (h.drewN q) s (txtE (zs.drop i) m) (by omega) hne
  have lic : i ≤ c := by omega
  have li0 : (i : Int) ≤ (c : Int) := by omega
  have p1 : (if c = i then A else Option.map (fun x => x.add i) A) = partA A c i := rfl
  have hl0 : ((zs.drop i).length : Int) = (zs.length - i : Nat) := by rw [List.length_drop]
  have hv0 : -9223372036854775808 ≤ cntV (zs.drop i) m ∧ cntV (zs.drop i) m ≤ 9223372036854775807 := by
    unfold cntV; split <;> omega
  have hs0 : cntS (zs.drop i) m ≤ 10 := by unfold cntS; split <;> omega
  have e0 : strOf [] = ⟨#[]⟩ := rfl
  rw [e0]
  by_cases h0 : cntE (zs.drop i) m = 0
  · have hsv : cntV (zs.drop i) m = rdV (zs.drop i) ∧ cntS (zs.drop i) m = rdS (zs.drop i) := by unfold cntV cntS; rw [if_pos h0, if_pos h0]; exact ⟨rfl, rfl⟩
    by_cases h1 : ((zs.drop i).length : Int) - (rdS (zs.drop i) : Nat) < rdV (zs.drop i)
    · have ht : txtE (zs.drop i) m = 3 := by unfold txtE; rw [if_pos h0, if_pos h1]
      rw [ht] at hp ⊢
      rw [← hsv.1, ← hsv.2, hl0] at h1
      have t1 : decide (((zs.length - i : Nat) : Int) - (cntS (zs.drop i) m : Int) < cntV (zs.drop i) m) = true := decide_eq_true h1
      rw [h0] at hq
      clear h0 h1 hsv ht hb hcb htb hne hl0 h hz
      generalize cntV (zs.drop i) m = V at *
      generalize cntS (zs.drop i) m = S at *
      generalize erst e 3 = E' at *
      go_enter Try.func47, Try.ntmps47
      go_wp2
      go_quiet (fail)
      go_wp2_with (first
        | (go_at_call 54; (with_reducible refine (hq.out _).mono ?_); rintro x w1 ⟨rfl, q1, rfl⟩)
        | (go_at_call 53; (with_reducible refine (hp.out _ _).mono ?_); rintro x w1 ⟨rfl, h1, hg1⟩; have h1' := hide h1; have hg' := hide hg1; clear h1 hg1))
      go_ret
      exact ⟨rfl, h1'.out, grown_trans (grown_drewN (grown_refl w _) _) hg'.out⟩
    · have ht : txtE (zs.drop i) m = 0 := by unfold txtE; rw [if_pos h0, if_neg h1]
      rw [ht] at hp ⊢
      rw [← hsv.1, ← hsv.2, hl0] at h1
      have t1 : decide (((zs.length - i : Nat) : Int) - (cntS (zs.drop i) m : Int) < cntV (zs.drop i) m) = false := decide_eq_false h1
      rw [h0] at hq
      clear h0 h1 hsv ht hb hcb htb hne hl0 h hz
      generalize cntV (zs.drop i) m = V at *
      generalize cntS (zs.drop i) m = S at *
      generalize erst e 0 = E' at *
      go_enter Try.func47, Try.ntmps47
      go_wp2
      go_quiet (fail)
      go_wp2_with (first
        | (go_at_call 54; (with_reducible refine (hq.out _).mono ?_); rintro x w1 ⟨rfl, q1, rfl⟩)
        | (go_at_call 53; (with_reducible refine (hp.out _ _).mono ?_); rintro x w1 ⟨rfl, h1, hg1⟩; have h1' := hide h1; have hg' := hide hg1; clear h1 hg1))
      go_ret
      exact ⟨rfl, h1'.out, grown_trans (grown_drewN (grown_refl w _) _) hg'.out⟩
  · have ht : txtE (zs.drop i) m = cntE (zs.drop i) m := by unfold txtE; rw [if_neg h0]
    rw [ht] at hp ⊢
    have t1 : (cntE (zs.drop i) m == 0) = false := by rw [beq_eq_false_iff_ne]; exact h0
    clear h0 ht hb hcb htb hne hl0 h hz
    generalize cntV (zs.drop i) m = V at *
    generalize cntS (zs.drop i) m = S at *
    generalize cntE (zs.drop i) m = C at *
    generalize erst e C = E' at *
    go_enter Try.func47, Try.ntmps47
    go_wp2
    go_quiet (fail)
    go_wp2_with (first
      | (go_at_call 54; (with_reducible refine (hq.out _).mono ?_); rintro x w1 ⟨rfl, q1, rfl⟩)
      | (go_at_call 53; (with_reducible refine (hp.out _ _).mono ?_); rintro x w1 ⟨rfl, h1, hg1⟩; have h1' := hide h1; have hg' := hide hg1; clear h1 hg1))
    go_ret
    exact ⟨rfl, h1'.out, grown_trans (grown_drewN (grown_refl w _) _) hg'.out⟩
theorem ptext_any (h : Rdr 59 w B g zs i e) (m : Int) :
    Calls Try.prog 47 #[.pointer (some ⟨g, 0, none⟩), .int .i64 m] w fun x w' =>
      x = .returned (.string (strOf (rTxtV zs i e m))) ∧ Rdr 59 w' B g zs (rTxtA zs i e m) (rTxtE zs i e m) ∧ w.grownBy w' (some g) := by
  have ee : rTxtE zs i e m = erst e (txtE (zs.drop i) m) := by unfold rTxtE erst; rfl
  by_cases h0 : rTxtE zs i e m = 0
  · have h1 : e = 0 ∧ txtE (zs.drop i) m = 0 := by
      unfold rTxtE at h0
      by_cases he : e = 0
      · rw [if_pos he] at h0; exact ⟨he, h0⟩
      · rw [if_neg he] at h0; exact absurd h0 he
    obtain ⟨rfl, h2⟩ := h1
    unfold rTxtV rTxtA
    rw [if_pos h0, if_pos h0, h0]
    exact ptext_yes h m h2
  · unfold rTxtV rTxtA
    rw [if_neg h0, if_neg h0, ee]
    exact ptext_no h m (by rw [← ee]; exact h0)
set_option maxHeartbeats 1000000 in
theorem pwrong_any (h : Rdr 59 w B g zs i e) :
    Calls Try.prog 25 #[.pointer (some ⟨g, 0, none⟩)] w fun x w' => x = .returned (.int .i64 e) ∧ w = w' := by
  obtain ⟨A, c, c0, c1, c2, f1, f2, lc, l, hz⟩ := h.cells
  clear h hz
  go_enter Try.func25, Try.ntmps25
  go_wp2
  go_ret
  exact ⟨rfl, rfl⟩
set_option maxHeartbeats 1000000 in
theorem pfail_any (h : Rdr 59 w B g zs i e) :
    Calls Try.prog 36 #[.pointer (some ⟨g, 0, none⟩)] w fun x w' => x = .returned (.tuple #[]) ∧ Rdr 59 w' B g zs i (rFailE e) ∧ w.grownBy w' (some g) := by
  have ha := fail_any h 4 (by omega)
  have ee : erst e 4 = rFailE e := rfl
  rw [ee] at ha
  have hA := hide ha
  clear ha h ee
  go_enter Try.func36, Try.ntmps36
  go_wp2_with (go_at_call 39; (with_reducible refine hA.out.mono ?_); rintro x w1 ⟨rfl, h1, hg1⟩; have h1' := hide h1; have hg' := hide hg1; clear h1 hg1)
  go_end0
  exact ⟨rfl, h1'.out, hg'.out⟩
set_option maxRecDepth 100000 in
set_option maxHeartbeats 1000000 in
theorem pend_any (h : Rdr 59 w B g zs i e) :
    Calls Try.prog 26 #[.pointer (some ⟨g, 0, none⟩)] w fun x w' => x = .returned (.int .i64 (rEndE zs i e)) ∧ Rdr 59 w' B g zs i (rEndE zs i e) ∧ w.grownBy w' (some g) := by
  obtain ⟨A, c, c0, c1, c2, f1, f2, lc, l, hz⟩ := h.cells
  by_cases hi : i < zs.length
  · have ee : rEndE zs i e = erst e 5 := by unfold rEndE erst; rw [if_pos hi]
    rw [ee]
    have hA := hide fun q => fail_any (h.drewN q) 5 (by omega)
    have t1 : decide (i < zs.length) = true := decide_eq_true hi
    generalize erst e 5 = E' at *
    clear h hz ee
    go_enter Try.func26, Try.ntmps26
    go_wp2
    go_quiet (fail)
    go_wp2_with (go_at_call 39; (with_reducible refine (hA.out _).mono ?_); rintro x w1 ⟨rfl, h1, hg1⟩; obtain ⟨A', c', c0', c1', c2', f1', f2', _, _, _⟩ := h1.cells; have h1' := hide h1; have hg' := hide hg1; clear h1 hg1)
    go_ret
    exact ⟨rfl, h1'.out, grown_trans (grown_drewN (grown_refl w _) _) hg'.out⟩
  · have ee : rEndE zs i e = e := by unfold rEndE; rw [if_neg hi]; split <;> omega
    rw [ee]
    have H := hide h
    have t1 : decide (i < zs.length) = false := decide_eq_false hi
    clear h hz ee
    go_enter Try.func26, Try.ntmps26
    go_wp2
    go_quiet (fail)
    go_wp2
    go_ret
    exact ⟨rfl, H.out.drewN _, grown_drewN (grown_refl w _) _⟩
end
/-- A slice of bytes of the call's own, or nil. -/
theorem own_len {w : World} {base n : Nat} {A : Option Addr} {m c : Nat} {xs : List Value} (h : w.ownsRow base 5 1 (.slice A m c) n xs) : m = n ∧ n ≤ c := by
  rcases h.2 with ⟨hv, hx⟩ | ⟨g, cap, cur, hv, _, _, hnc, _⟩
  · injection hv with _ h2 h3
    subst h2 h3
    have := h.1
    rw [hx] at this
    simp at this
    omega
  · injection hv with _ h2 h3
    subst h2 h3
    exact ⟨rfl, hnc⟩
/-- A slice of these bytes, in new memory or nowhere. -/
def Cloned (w : World) (n : Nat) (zs : List Int) (e : Ending) (w' : World) : Prop := ∃ A' c', e = .returned (.slice A' n c') ∧ n ≤ c' ∧ Lies w' A' zs ∧ Below w.heap.size w w'
set_option maxHeartbeats 1000000 in
theorem clone_any (A : Option Addr) (n c : Nat) (zs : List Int) (w : World) (hn : zs.length = n) (hz : Lies w A zs) (hc : A = none → c = 0) (ln : n ≤ 140737488355328) :
    Calls Try.prog 34 #[.slice A n c] w (Cloned w n zs) := by
  subst hn
  have hnil : ∀ (a : Option Addr) (k c : Nat) (w : World), (binOp .eql 27 (.slice a k c) (.slice none 0 0)).run Try.prog w = .ok (.bool a.isNone) w := fun a k c w => Lib.run_eql_slice_nil w 27 5 a k c 0 0 Try.underlying27
  rcases A with _ | ad
  · have h0 := hz.nil_ rfl
    have hz0 : zs = [] := List.eq_nil_of_length_eq_zero h0
    subst hz0
    obtain rfl := hc rfl
    go_enter Try.func34, Try.ntmps34
    go_wp2
    go_ret
    exact ⟨none, 0, rfl, Nat.le_refl _, Lies.none_, Below.refl _ _⟩
  · obtain ⟨i0, hi, hz0, hz1, hz2⟩ := info_parts Try.info5
    have hown0 := World.ownsRow_lit (base := w.heap.size) (e := 5) (size := 1) w #[] 0 (Nat.le_refl _) (by unfold maxLen; omega) rfl
    have hz' := hide (hz.alloc (.cells #[] 5))
    clear hc
    go_enter Try.func34, Try.ntmps34
    go_wp2_with (first
      | (at_builtin; refine wpList_append_lies rfl (.tmp 5) (.tmp 6) 27 rfl w.heap.size 5 i0 _ Try.underlying27 hi hz0 hz1 hz2 rfl _ 0 [] rfl hown0 (some ad) zs.length c zs rfl rfl (by intro h; cases h) hz'.out (by omega) (by simp) ?_; intro v1 w1 hown1 hb1; simp only [Nat.zero_add, List.nil_append] at hown1; have hb1' : Below w.heap.size w w1 := ((Below.refl _ _).alloc (Nat.le_refl _) _).trans hb1; clear hb1 hown0 hz' hz))
    obtain ⟨A', c', rfl, _⟩ := own_shape hown1
    go_ret
    have := own_len hown1
    exact ⟨A', c', rfl, this.2, Lies.of_own hown1, hb1'⟩
end Go.Proofs.Ytigbplmfhnamkaa
