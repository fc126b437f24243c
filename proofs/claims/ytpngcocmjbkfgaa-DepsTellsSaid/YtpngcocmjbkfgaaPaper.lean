/- What the methods of package pack's reader come to. Conditions: the reader lies in memory as it must. -/
import Derived.Test.YtpngcocmjbkfgaaState
import Derived.BigQuiet
import Derived.Deep.QuietTactic
import Derived.Laws.BytesArg
namespace Go.Proofs.Ytpngcocmjbkfgaa
open Go.RowKit
section
variable {w : World} {B g i : Nat} {zs : List Int} {e : Int}
set_option maxHeartbeats 1000000 in
theorem fail_any (h : Rdr 67 w B g zs i e) (y : Int) (hy : 0 ≤ y ∧ y ≤ 9) :
    Calls Try.prog 39 #[.pointer (some ⟨g, 0, none⟩), .int .i64 y] w fun x w' => x = .returned (.tuple #[]) ∧ Rdr 67 w' B g zs i (erst e y) ∧ w.grownBy w' (some g) := by
  obtain ⟨A, c, c0, c1, c2, f1, f2, _, _, _⟩ := h.cells
  by_cases he : e = 0
  · have t0 : (e == 0) = true := by rw [he]; rfl
    have h' := hide (h.wrong hy)
    rw [he, erst_zero]
    clear he h
    go_enter Try.func39, Try.ntmps39
    go_wp2
    go_end0
    exact ⟨rfl, h'.out, grown_put (grown_refl w _) _ _⟩
  · have t0 : (e == 0) = false := by rw [beq_eq_false_iff_ne]; exact he
    have h' := hide h
    rw [erst_pos he]
    clear he h
    go_enter Try.func39, Try.ntmps39
    go_wp2
    go_end0
    exact ⟨rfl, h'.out, grown_refl w _⟩
set_option maxHeartbeats 1000000 in
theorem passed_yes (h : Rdr 67 w B g zs i 0) (s : Nat) (hs : i + s ≤ zs.length) :
    Calls Try.prog 45 #[.pointer (some ⟨g, 0, none⟩), .int .i64 s, .int .i64 0] w fun x w' => x = .returned (.bool true) ∧ Rdr 67 w' B g zs (i + s) 0 ∧ w.grownBy w' (some g) := by
  have ha := fail_any h 0 (by omega)
  rw [erst_zero] at ha
  have hA := hide ha
  have hl : zs.length ≤ 4611686018427387904 := by obtain ⟨A, c, _, _, _, _, _, h1, h2, _⟩ := h.cells; omega
  clear ha h
  go_enter Try.func45, Try.ntmps45
  go_wp2_with (go_at_call 39; (with_reducible refine hA.out.mono ?_); rintro x w1 ⟨rfl, h1, hg1⟩; obtain ⟨A, c, c0, c1, c2, f1, f2, _, _, _⟩ := h1.cells; have h1' := hide (h1.place (j := i + s) hs); have hg' := hide hg1; clear h1 hg1)
  go_ret
  exact ⟨rfl, h1'.out, grown_put hg'.out _ _⟩
set_option maxHeartbeats 1000000 in
theorem passed_no (h : Rdr 67 w B g zs i e) (s y : Int) (hy : 0 ≤ y ∧ y ≤ 9) (hn : ¬ (erst e y) = 0) :
    Calls Try.prog 45 #[.pointer (some ⟨g, 0, none⟩), .int .i64 s, .int .i64 y] w fun x w' => x = .returned (.bool false) ∧ Rdr 67 w' B g zs i (erst e y) ∧ w.grownBy w' (some g) := by
  have hA := hide (fail_any h y hy)
  have t0 : ((erst e y) == 0) = false := by rw [beq_eq_false_iff_ne]; exact hn
  generalize (erst e y) = z at *
  clear h hn
  go_enter Try.func45, Try.ntmps45
  go_wp2_with (go_at_call 39; (with_reducible refine hA.out.mono ?_); rintro x w1 ⟨rfl, h1, hg1⟩; obtain ⟨A, c, c0, c1, c2, f1, f2, _, _, _⟩ := h1.cells; have h1' := hide h1; have hg' := hide hg1; clear h1 hg1)
  go_ret
  exact ⟨rfl, h1'.out, hg'.out⟩
theorem rest_number {A : Option Addr} {c i : Nat} {zs : List Int} {w : World} (hz : Lies w A zs) (ho : Octets zs) (lc : zs.length ≤ c) (l : zs.length ≤ 4611686018427387904) (q : Nat) :
    Calls Try.prog 44 #[.slice (partA A c i) (zs.length - i) (c - i)] (w.drewN q) fun x w' =>
      x = .returned (.tuple #[.int .i64 (rdV (zs.drop i)), .int .i64 (rdS (zs.drop i) : Nat), .int .i64 (rdE (zs.drop i))]) ∧ ∃ m, w' = w.drewN m :=
  (number_any _ _ (c - i) (zs.drop i) (w.drewN q) (by rw [List.length_drop]) ((hz.rest lc i).drewN q) (octets_drop ho i) (by omega)).mono fun _ _ ⟨he, hw⟩ => ⟨he, q, hw.symm⟩
set_option maxRecDepth 100000 in
set_option maxHeartbeats 1000000 in
theorem pnum_any (h : Rdr 67 w B g zs i e) :
    Calls Try.prog 37 #[.pointer (some ⟨g, 0, none⟩)] w fun x w' =>
      x = .returned (.int .i64 (rNumV zs i e)) ∧ Rdr 67 w' B g zs (rNumA zs i e) (rNumE zs i e) ∧ w.grownBy w' (some g) := by
  obtain ⟨A, c, c0, c1, c2, f1, f2, lc, l, hz⟩ := h.cells
  have hb := rd_bounds (octets_drop h.oct i)
  rw [List.length_drop] at hb
  have hi := h.here
  have hq := hide fun q => rest_number (i := i) hz h.oct lc l q
  have lic : i ≤ c := by omega
  have li0 : (i : Int) ≤ (c : Int) := by omega
  have p1 : (if c = i then A else Option.map (fun x => x.add i) A) = partA A c i := rfl
  have H := hide h
  clear hz h
  by_cases h0 : rNumE zs i e = 0
  · have ev : rNumV zs i e = rdV (zs.drop i) := by unfold rNumV; rw [if_pos h0]
    have ea : rNumA zs i e = i + rdS (zs.drop i) := by unfold rNumA; rw [if_pos h0]
    have h1 : e = 0 ∧ rdE (zs.drop i) = 0 := by
      unfold rNumE at h0
      by_cases he : e = 0
      · rw [if_pos he] at h0; exact ⟨he, h0⟩
      · rw [if_neg he] at h0; exact absurd h0 he
    obtain ⟨rfl, h2⟩ := h1
    rw [h2] at hq
    rw [ev, ea, h0]
    have hs : i + rdS (zs.drop i) ≤ zs.length := by omega
    have hp := hide fun q => passed_yes (H.out.drewN q) _ hs
    clear ev ea h0 h2 hb H
    generalize rdV (zs.drop i) = V at *
    generalize rdS (zs.drop i) = S at *
    go_enter Try.func37, Try.ntmps37
    go_wp2
    go_quiet ((go_at_call 44; exact hq.out _))
    go_wp2_with (go_at_call 45; (with_reducible refine (hp.out _).mono ?_); rintro x w1 ⟨rfl, h1, hg1⟩; have h1' := hide h1; have hg' := hide hg1; clear h1 hg1)
    go_ret
    exact ⟨rfl, h1'.out, grown_trans (grown_drewN (grown_refl w _) _) hg'.out⟩
  · have ev : rNumV zs i e = 0 := by unfold rNumV; rw [if_neg h0]
    have ea : rNumA zs i e = i := by unfold rNumA; rw [if_neg h0]
    have ee : rNumE zs i e = erst e (rdE (zs.drop i)) := by unfold rNumE erst; rfl
    rw [ee] at h0
    rw [ev, ea, ee]
    have hp := hide fun q (s : Int) => passed_no (H.out.drewN q) s (rdE (zs.drop i)) (by omega) h0
    clear ev ea h0 ee hb H
    generalize rdV (zs.drop i) = V at *
    generalize rdS (zs.drop i) = S at *
    generalize rdE (zs.drop i) = E at *
    generalize erst e E = E' at *
    go_enter Try.func37, Try.ntmps37
    go_wp2
    go_quiet ((go_at_call 44; exact hq.out _))
    go_wp2_with (go_at_call 45; (with_reducible refine (hp.out _ _).mono ?_); rintro x w1 ⟨rfl, h1, hg1⟩; have h1' := hide h1; have hg' := hide hg1; clear h1 hg1)
    go_ret
    exact ⟨rfl, h1'.out, grown_trans (grown_drewN (grown_refl w _) _) hg'.out⟩
theorem conv_any {A : Option Addr} {n c : Nat} {zs : List Int} {w : World} (hn : zs.length = n) (hz : Lies w A zs) :
    (convert 48 9 (.slice A n c)).run Try.prog w = .ok (.string (strOf zs)) w := by
  subst hn
  rcases Nat.eq_zero_or_pos zs.length with h0 | h0
  · have : zs = [] := List.eq_nil_of_length_eq_zero h0
    subst this
    rcases A with _ | ad
    · exact run_convert_bytes_nil w 48 5 Try.underlying48 Try.underlying5 _ _ 9 Try.underlying9
    · rw [run_convert_bytes_string w 48 9 5 _ _ c Try.underlying48 Try.underlying5 Try.underlying9]
      have hl := run_loadCells_list (P := Try.prog) w ad [] (fun j v hj => by simp at hj)
      exact run_bytesToString w ad 0 c [] hl
  · obtain ⟨b, off, rfl, _, hc⟩ := hz h0
    exact run_convert_bytes_arg w 48 5 Try.underlying48 Try.underlying5 b off zs.length c zs rfl hc 9 Try.underlying9
end
end Go.Proofs.Ytpngcocmjbkfgaa
