/- What Count and Text of the document's own reader come to. Conditions: the reader lies in memory as it must. -/
import Derived.Test.YtigbplmfhnamkaaRefs
namespace Go.Proofs.Ytigbplmfhnamkaa
open Go.RowKit
section
variable {w : World} {B g i : Nat} {zs : List Int} {e : Int}
theorem num_fine (h : rNumE zs i e = 0) : e = 0 ∧ rdE (zs.drop i) = 0 ∧ rNumV zs i e = rdV (zs.drop i) ∧ rNumA zs i e = i + rdS (zs.drop i) := by
  have h1 : e = 0 ∧ rdE (zs.drop i) = 0 := by
    unfold rNumE at h
    by_cases he : e = 0
    · rw [if_pos he] at h; exact ⟨he, h⟩
    · rw [if_neg he] at h; exact absurd h he
  exact ⟨h1.1, h1.2, by unfold rNumV; rw [if_pos h], by unfold rNumA; rw [if_pos h]⟩
theorem num_bad (h : rNumE zs i e ≠ 0) : rNumV zs i e = 0 ∧ rNumA zs i e = i ∧ ∀ m, rCntE zs i e m = rNumE zs i e ∧ rTxtE zs i e m = rNumE zs i e := by
  refine ⟨by unfold rNumV; rw [if_neg h], by unfold rNumA; rw [if_neg h], fun m => ?_⟩
  unfold rNumE at h
  unfold rCntE rTxtE txtE rNumE
  by_cases he : e = 0
  · rw [if_pos he] at h
    have hc : cntE (zs.drop i) m = rdE (zs.drop i) := by unfold cntE; rw [if_neg h]
    rw [if_pos he, if_pos he, if_pos he, hc, if_neg h]
    exact ⟨rfl, rfl⟩
  · rw [if_neg he, if_neg he, if_neg he]; exact ⟨rfl, rfl⟩
set_option maxRecDepth 100000 in
set_option maxHeartbeats 1000000 in
theorem rtext_bad (h : Rdr 45 w B g zs i e) (m : Int) (hE : rNumE zs i e ≠ 0) :
    Calls Try.prog 38 #[.pointer (some ⟨g, 0, none⟩), .int .i64 m] w fun x w' =>
      x = .returned (.string ⟨#[]⟩) ∧ Rdr 45 w' B g zs i (rNumE zs i e) ∧ w.grownBy w' (some g) := by
  obtain ⟨A, c, c0, c1, c2, f1, f2, lc, l, hz⟩ := h.cells
  have hN := rnum_to h
  obtain ⟨hv, ha, _⟩ := num_bad hE
  rw [hv, ha] at hN
  have t1 : (rNumE zs i e != 0) = true := by simpa using hE
  have hN := hide hN
  clear hE hv ha h hz
  generalize rNumE zs i e = E at *
  go_enter Try.func38, Try.ntmps38
  go_wp2_with (first
    | (go_at_call 37; (with_reducible refine hN.out.mono ?_); rintro x w1 ⟨rfl, h1, hg1⟩; obtain ⟨A1, d, d0, d1, d2, k1, k2, _, _, _⟩ := h1.cells; have h1' := hide h1; have hg' := hide hg1; clear h1 hg1))
  go_ret
  exact ⟨rfl, h1'.out, hg'.out⟩
set_option maxRecDepth 100000 in
set_option maxHeartbeats 1000000 in
theorem rtext_long (h : Rdr 45 w B g zs i 0) (m : Int) (hE : rNumE zs i 0 = 0) (hb : rdV (zs.drop i) < 0 ∨ m < rdV (zs.drop i)) :
    Calls Try.prog 38 #[.pointer (some ⟨g, 0, none⟩), .int .i64 m] w fun x w' =>
      x = .returned (.string ⟨#[]⟩) ∧ Rdr 45 w' B g zs i 2 ∧ w.grownBy w' (some g) := by
  obtain ⟨A, c, c0, c1, c2, f1, f2, lc, l, hz⟩ := h.cells
  have hi := h.here
  have hN := rnum_to h
  obtain ⟨_, hr, hv, ha⟩ := num_fine hE
  rw [hE, hv, ha] at hN
  have hN := hide hN
  have t1 : decide (rdV (zs.drop i) < 0) = true ∨ (decide (rdV (zs.drop i) < 0) = false ∧ decide (m < rdV (zs.drop i)) = true) := by
    by_cases h : rdV (zs.drop i) < 0
    · left; exact decide_eq_true h
    · right; exact ⟨decide_eq_false h, decide_eq_true (by omega)⟩
  clear hE hr hv ha hb h hz
  generalize rdV (zs.drop i) = V at *
  generalize rdS (zs.drop i) = S at *
  rcases t1 with t1 | ⟨t1, t2⟩
  all_goals
    go_enter Try.func38, Try.ntmps38
    go_wp2_with (first
      | (go_at_call 37; (with_reducible refine hN.out.mono ?_); rintro x w1 ⟨rfl, h1, hg1⟩; obtain ⟨A1, d, d0, d1, d2, k1, k2, _, _, _⟩ := h1.cells; have h1' := hide h1; have hg' := hide hg1; clear h1 hg1)
      | (go_at_call 48; (with_reducible refine (rfail_0 h1'.out 2 (by omega)).mono ?_); rintro x w2 ⟨rfl, h2, hg2⟩; obtain ⟨A2, d', d0', d1', d2', k1', k2', _, _, _⟩ := h2.cells; have h2' := hide (h2.place_to (i : Int) i rfl hi); have hg2' := hide hg2; clear h2 hg2))
    go_ret
    exact ⟨rfl, h2'.out, grown_put (grown_trans hg'.out hg2'.out) _ _⟩
set_option maxRecDepth 100000 in
set_option maxHeartbeats 1000000 in
theorem rtext_short (h : Rdr 45 w B g zs i 0) (m : Int) (hE : rNumE zs i 0 = 0) (hb : ¬ (rdV (zs.drop i) < 0 ∨ m < rdV (zs.drop i))) (hs : (zs.length : Int) - (i + rdS (zs.drop i) : Nat) < rdV (zs.drop i)) :
    Calls Try.prog 38 #[.pointer (some ⟨g, 0, none⟩), .int .i64 m] w fun x w' =>
      x = .returned (.string ⟨#[]⟩) ∧ Rdr 45 w' B g zs i 3 ∧ w.grownBy w' (some g) := by
  obtain ⟨A, c, c0, c1, c2, f1, f2, lc, l, hz⟩ := h.cells
  have hi := h.here
  have hN := rnum_to h
  obtain ⟨_, hr, hv, ha⟩ := num_fine hE
  rw [hE, hv, ha] at hN
  have hN := hide hN
  have t1 : decide (rdV (zs.drop i) < 0) = false := decide_eq_false (by omega)
  have t2 : decide (m < rdV (zs.drop i)) = false := decide_eq_false (by omega)
  have hS := (rd_bounds (octets_drop h.oct i)).2.2.2.2.2.1
  rw [List.length_drop] at hS
  clear hE hr hv ha hb h hz
  generalize rdV (zs.drop i) = V at *
  generalize rdS (zs.drop i) = S at *
  generalize hJ : i + S = J at *
  have hJl : J ≤ zs.length := by omega
  clear hJ hS
  have t3 : decide ((zs.length : Int) - (J : Int) < V) = true := decide_eq_true hs
  clear hs
  go_enter Try.func38, Try.ntmps38
  go_wp2_with (first
    | (go_at_call 37; (with_reducible refine hN.out.mono ?_); rintro x w1 ⟨rfl, h1, hg1⟩; obtain ⟨A1, d, d0, d1, d2, k1, k2, _, _, _⟩ := h1.cells; have h1' := hide h1; have hg' := hide hg1; clear h1 hg1))
  go_quiet (fail)
  go_wp2_with (first
    | (go_at_call 48; (with_reducible refine (rfail_0 (h1'.out.drewN _) 3 (by omega)).mono ?_); rintro x w2 ⟨rfl, h2, hg2⟩; obtain ⟨A2, d', d0', d1', d2', k1', k2', _, _, _⟩ := h2.cells; have h2' := hide (h2.place_to (i : Int) i rfl hi); have hg2' := hide hg2; clear h2 hg2))
  go_ret
  exact ⟨rfl, h2'.out, grown_put (grown_trans (grown_drewN hg'.out _) hg2'.out) _ _⟩
set_option maxRecDepth 100000 in
set_option maxHeartbeats 1000000 in
theorem rtext_fine (h : Rdr 45 w B g zs i 0) (m : Int) (hE : rNumE zs i 0 = 0) (hb : ¬ (rdV (zs.drop i) < 0 ∨ m < rdV (zs.drop i))) (hs : ¬ (zs.length : Int) - (i + rdS (zs.drop i) : Nat) < rdV (zs.drop i)) :
    Calls Try.prog 38 #[.pointer (some ⟨g, 0, none⟩), .int .i64 m] w fun x w' =>
      x = .returned (.string (strOf ((zs.drop (i + rdS (zs.drop i))).take (rdV (zs.drop i)).toNat))) ∧ Rdr 45 w' B g zs (i + rdS (zs.drop i) + (rdV (zs.drop i)).toNat) 0 ∧ w.grownBy w' (some g) := by
  obtain ⟨A, c, c0, c1, c2, f1, f2, lc, l, hz⟩ := h.cells
  have hi := h.here
  have hN := rnum_to h
  obtain ⟨_, hr, hv, ha⟩ := num_fine hE
  rw [hE, hv, ha] at hN
  have t1 : decide (rdV (zs.drop i) < 0) = false := decide_eq_false (by omega)
  have t2 : decide (m < rdV (zs.drop i)) = false := decide_eq_false (by omega)
  have hS := (rd_bounds (octets_drop h.oct i)).2.2.2.2.2.1
  rw [List.length_drop] at hS
  obtain ⟨N, hNN⟩ := Int.eq_ofNat_of_zero_le (show 0 ≤ rdV (zs.drop i) by omega)
  rw [hNN] at hN t1 t2 hs ⊢
  clear hE hr hv ha hb h hz hNN
  rw [show (((N : Nat) : Int)).toNat = N from rfl]
  generalize rdS (zs.drop i) = S at *
  generalize hJ : i + S = J at *
  have hJl : J ≤ zs.length := by omega
  clear hJ hS
  have hNJ : J + N ≤ zs.length := by omega
  have hyl : ((zs.drop J).take N).length = N := by rw [List.length_take, List.length_drop]; omega
  have t3 : decide ((zs.length : Int) - (J : Int) < (N : Int)) = false := decide_eq_false hs
  have hN := hide hN
  have hyl := hide hyl
  obtain ⟨str, hst⟩ : ∃ str, strOf ((zs.drop J).take N) = str := ⟨_, rfl⟩
  rw [hst]
  have hst := hide hst
  clear hs
  go_enter Try.func38, Try.ntmps38
  go_wp2_with (first
    | (go_at_call 37; (with_reducible refine hN.out.mono ?_); rintro x w1 ⟨rfl, h1, hg1⟩; obtain ⟨A1, d, d0, d1, d2, k1, k2, dl, _, dz⟩ := h1.cells; have h1' := hide h1; have hg' := hide hg1; clear h1 hg1))
  go_quiet (fail)
  have p1 : (if d = J then A1 else Option.map (fun x => x.add J) A1) = partA A1 d J := rfl
  have s1 : (J : Int) + (N : Int) ≤ (d : Int) := by omega
  have s2 : (J : Int) ≤ (d : Int) := by omega
  have s3 : (J : Int) + (N : Int) ≤ 4611686018427387904 := by omega
  have hcv := fun q => conv_any (c := d - J) hyl.out ((dz.drewN q).part dl J N)
  have hpl := hide fun q' => (h1'.out.drewN q').place_to ((J : Int) + (N : Int)) (J + N) (by omega) (by omega)
  clear dz
  rw [hst.out] at hcv
  go_wp2
  go_quiet (fail)
  go_wp2
  go_ret
  exact ⟨rfl, hpl.out _, grown_put (grown_drewN hg'.out _) _ _⟩
theorem rtext_to (h : Rdr 45 w B g zs i e) (m : Int) :
    Calls Try.prog 38 #[.pointer (some ⟨g, 0, none⟩), .int .i64 m] w fun x w' =>
      x = .returned (.string (strOf (rTxtV zs i e m))) ∧ Rdr 45 w' B g zs (rTxtA zs i e m) (rTxtE zs i e m) ∧ w.grownBy w' (some g) := by
  have hS := (rd_bounds (octets_drop h.oct i)).2.2.2.2.2.1
  rw [List.length_drop] at hS
  have hi := h.here
  by_cases hE : rNumE zs i e = 0
  · obtain ⟨rfl, hr, hv, ha⟩ := num_fine hE
    by_cases hb : rdV (zs.drop i) < 0 ∨ m < rdV (zs.drop i)
    · have ec : rTxtE zs i 0 m = 2 := by unfold rTxtE txtE cntE; rw [if_pos rfl, if_pos hr, if_pos hb]; rfl
      unfold rTxtV rTxtA
      rw [ec]
      exact rtext_long h m hE hb
    · have hc : cntE (zs.drop i) m = 0 := by unfold cntE; rw [if_pos hr, if_neg hb]
      have hl : ((zs.drop i).length : Int) - (rdS (zs.drop i) : Nat) = (zs.length : Int) - (i + rdS (zs.drop i) : Nat) := by rw [List.length_drop]; omega
      by_cases hs : (zs.length : Int) - (i + rdS (zs.drop i) : Nat) < rdV (zs.drop i)
      · have ec : rTxtE zs i 0 m = 3 := by unfold rTxtE txtE; rw [if_pos rfl, if_pos hc, hl, if_pos hs]
        unfold rTxtV rTxtA
        rw [ec]
        exact rtext_short h m hE hb hs
      · have ec : rTxtE zs i 0 m = 0 := by unfold rTxtE txtE; rw [if_pos rfl, if_pos hc, hl, if_neg hs]
        unfold rTxtV rTxtA
        rw [ec, if_pos rfl, if_pos rfl, List.drop_drop]
        exact rtext_fine h m hE hb hs
  · obtain ⟨hv, ha, hc⟩ := num_bad hE
    have ec := (hc m).2
    unfold rTxtV rTxtA
    rw [ec, if_neg hE, if_neg hE]
    exact rtext_bad h m hE
end
end Go.Proofs.Ytigbplmfhnamkaa
