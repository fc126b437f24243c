/- The program's Note of package interf's chapter. Conditions: the Index lies in memory; it holds few. -/
import Derived.Test.YtfihcgimgngmhaaVg
import Derived.Test.YtfihcgimgngmhaaRn
import Derived.Test.YtfihcgimgngmhaaVd
import Derived.BigQuiet
namespace Go.Proofs.Ytfihcgimgngmhaa
set_option maxRecDepth 100000
open Go.RowKit Go.Maps
set_option maxHeartbeats 8000000 in
theorem pnote_any (g b : Nat) (x : Ix) (r s : Int) (c : Cm) (q : Int) (w : World) (h : Px w g b x) (hl : x.k.length ≤ 1000) :
    Calls Try.prog 9 #[.pointer (some ⟨g, 0, none⟩), .agg #[.int .i64 r, .int .i64 s], .agg #[.int .i64 c.k, .int .i64 c.c, .int .i64 c.q, .string c.key, .string c.en, .string c.old, .string c.val], .int .i64 q] w (fun e w' => e = .returned (.bool (mayN x.d r s c q)) ∧ Px w' g b (noteX x r s c q) ∧ Kq (fun k => k = b) w w') := by
  obtain ⟨xk, xd⟩ := x
  obtain ⟨d0, d1, d2, d3, d4, d5, d6, rfl⟩ := len7 h.d7
  have HB := hide (kept_alloc (kept_alloc (kept_refl w) (.cells #[.int .i64 r, .int .i64 s] 26)) (.cells #[.int .i64 c.k, .int .i64 c.c, .int .i64 c.q, .string c.key, .string c.en, .string c.old, .string c.val] 29))
  have R5 := hide ((Row.new w 26 #[.int .i64 r, .int .i64 s]).alloc (.cells #[.int .i64 c.k, .int .i64 c.c, .int .i64 c.q, .string c.key, .string c.en, .string c.old, .string c.val] 29))
  have R6 := hide (Row.new (w.alloc (.cells #[.int .i64 r, .int .i64 s] 26)) 29 #[.int .i64 c.k, .int .i64 c.c, .int .i64 c.q, .string c.key, .string c.en, .string c.old, .string c.val])
  rw [show (w.alloc (.cells #[.int .i64 r, .int .i64 s] 26)).heap.size = w.heap.size + 1 by simp] at R6
  have HX1 := hide (h.below HB.out)
  have HL := hide hl
  clear h hl
  obtain ⟨t, ht⟩ : ∃ t, mayN [d0, d1, d2, d3, d4, d5, d6] r s c q = t := ⟨_, rfl⟩
  have HT := hide ht
  clear ht
  go_enter Try.func9, Try.ntmps9
  go_upto_region 1 with (fail)
  generalize (w.alloc (.cells #[.int .i64 r, .int .i64 s] 26)).alloc (.cells #[.int .i64 c.k, .int .i64 c.c, .int .i64 c.q, .string c.key, .string c.en, .string c.old, .string c.val] 29) = w1 at HB R5 R6 HX1 ⊢
  go_cut [32] (fun s32 wx => s32 = .bool (!t) ∧ Hid (Below w1.heap.size w1 wx))
  case first =>
    have HRI := hide (fun w => right_any r s w)
    have HRE := hide (fun w => reach_any d0 d1 d2 d3 d4 d5 d6 r s w)
    have HRC := hide (fun w => c_right_any c.k c.c c.q c.key c.en c.old c.val w)
    obtain ⟨tr, htr⟩ : ∃ t, rightI r s = t := ⟨_, rfl⟩
    rw [htr] at HRI
    have HTR := hide htr
    obtain ⟨td, htd⟩ : ∃ t, reachB [d0, d1, d2, d3, d4, d5, d6] r s = t := ⟨_, rfl⟩
    rw [htd] at HRE
    have HTD := hide htd
    obtain ⟨tc, htc⟩ : ∃ t, rightC ⟨c.k, c.c, c.q, c.key, c.en, c.old, c.val⟩ = t := ⟨_, rfl⟩
    rw [htc] at HRC
    have HTC := hide htc
    clear htr htd htc
    obtain ⟨t0, ht0⟩ : ∃ t, decide (q < 0) = t := ⟨_, rfl⟩
    have HT0 := hide ht0
    obtain ⟨tm, htm⟩ : ∃ t, decide (1099511627776 < q) = t := ⟨_, rfl⟩
    have HTM := hide htm
    have HSAY : Hid (t = (tr && (!td && (tc && (!t0 && !tm))))) := hide (by
      rw [← HT.out, ← HTR.out, ← HTD.out, ← HTC.out, ← HT0.out, ← HTM.out]
      unfold mayN reachB
      cases hr : rightI r s
      · rfl
      · rw [Bool.true_and, Bool.true_and, Bool.true_and]
        congr 1
        · by_cases h : s ≤ ix [d0, d1, d2, d3, d4, d5, d6] r.toNat
          · rw [decide_eq_true h, decide_eq_false (by omega)]; rfl
          · rw [decide_eq_false h, decide_eq_true (by omega)]; rfl
        · congr 1
          congr 1
          · by_cases h : q < 0
            · rw [decide_eq_true h, decide_eq_false (by omega)]; rfl
            · rw [decide_eq_false h, decide_eq_true (by omega)]; rfl
          · by_cases h : 1099511627776 < q
            · rw [decide_eq_true h, decide_eq_false (by omega)]; rfl
            · rw [decide_eq_false h, decide_eq_true (by omega)]; rfl)
    cases tr
    case false =>
      have HB0 : Below w1.heap.size w1 w1 := kept_refl w1
      refine wp_region_sp (fun w' => Below w1.heap.size w1 w') (by kernel_rfl) (by kernel_rfl) (show Below w1.heap.size w1 w1.drew from kept_drewN HB0 1) ?_
      generalize hS : (fun w' => Below w1.heap.size w1 w') = S
      have l0 : ∀ z : Sp S, z.w.cell? ⟨w.heap.size, 0, none⟩ = some (.int .i64 r) := by subst hS; exact fun z => (R5.out.below z.ok R5.out.lt).cell 0
      have l1 : ∀ z : Sp S, z.w.cell? ⟨w.heap.size, 1, none⟩ = some (.int .i64 s) := by subst hS; exact fun z => (R5.out.below z.ok R5.out.lt).cell 1
      have l2 : ∀ z : Sp S, z.w.cell? ⟨w.heap.size + 1, 0, none⟩ = some (.int .i64 c.k) := by subst hS; exact fun z => (R6.out.below z.ok R6.out.lt).cell 0
      have l3 : ∀ z : Sp S, z.w.cell? ⟨w.heap.size + 1, 1, none⟩ = some (.int .i64 c.c) := by subst hS; exact fun z => (R6.out.below z.ok R6.out.lt).cell 1
      have l4 : ∀ z : Sp S, z.w.cell? ⟨w.heap.size + 1, 2, none⟩ = some (.int .i64 c.q) := by subst hS; exact fun z => (R6.out.below z.ok R6.out.lt).cell 2
      have l5 : ∀ z : Sp S, z.w.cell? ⟨w.heap.size + 1, 3, none⟩ = some (.string c.key) := by subst hS; exact fun z => (R6.out.below z.ok R6.out.lt).cell 3
      have l6 : ∀ z : Sp S, z.w.cell? ⟨w.heap.size + 1, 4, none⟩ = some (.string c.en) := by subst hS; exact fun z => (R6.out.below z.ok R6.out.lt).cell 4
      have l7 : ∀ z : Sp S, z.w.cell? ⟨w.heap.size + 1, 5, none⟩ = some (.string c.old) := by subst hS; exact fun z => (R6.out.below z.ok R6.out.lt).cell 5
      have l8 : ∀ z : Sp S, z.w.cell? ⟨w.heap.size + 1, 6, none⟩ = some (.string c.val) := by subst hS; exact fun z => (R6.out.below z.ok R6.out.lt).cell 6
      have ne : Nonempty (Sp S) := by subst hS; exact ⟨⟨_, HB0⟩⟩
      have STEP := hide (show ∀ w w', S w → Below w.heap.size w w' → S w' by subst hS; exact fun _ _ h hb => kept_trans h hb)
      have OLD := hide (show ∀ z : Sp S, Below w1.heap.size w1 z.w by subst hS; exact fun z => z.ok)
      clear HB0 hS
      repeat (go_big_quiet_step ((first | (go_at_call 22; with_reducible exact sp_call STEP.out _ (HRI.out _)) | (go_at_call 24; with_reducible exact sp_call STEP.out _ (HRE.out _)) | (go_at_call 21; with_reducible exact sp_call STEP.out _ (HRC.out _)))))
      refine wpQuiet_nil ?_
      intro kk
      have OK := hide (OLD.out kk)
      generalize kk.w = wk at OK ⊢
      clear l0 l1 l2 l3 l4 l5 l6 l7 l8 ne OLD STEP
      go_wp2
      go_meet
      exact ⟨by rw [HSAY.out]; rfl, OK⟩
    case true =>
      cases td
      case true =>
        have HB0 : Below w1.heap.size w1 w1 := kept_refl w1
        refine wp_region_sp (fun w' => Below w1.heap.size w1 w') (by kernel_rfl) (by kernel_rfl) (show Below w1.heap.size w1 w1.drew from kept_drewN HB0 1) ?_
        generalize hS : (fun w' => Below w1.heap.size w1 w') = S
        have l0 : ∀ z : Sp S, z.w.cell? ⟨w.heap.size, 0, none⟩ = some (.int .i64 r) := by subst hS; exact fun z => (R5.out.below z.ok R5.out.lt).cell 0
        have l1 : ∀ z : Sp S, z.w.cell? ⟨w.heap.size, 1, none⟩ = some (.int .i64 s) := by subst hS; exact fun z => (R5.out.below z.ok R5.out.lt).cell 1
        have l2 : ∀ z : Sp S, z.w.cell? ⟨w.heap.size + 1, 0, none⟩ = some (.int .i64 c.k) := by subst hS; exact fun z => (R6.out.below z.ok R6.out.lt).cell 0
        have l3 : ∀ z : Sp S, z.w.cell? ⟨w.heap.size + 1, 1, none⟩ = some (.int .i64 c.c) := by subst hS; exact fun z => (R6.out.below z.ok R6.out.lt).cell 1
        have l4 : ∀ z : Sp S, z.w.cell? ⟨w.heap.size + 1, 2, none⟩ = some (.int .i64 c.q) := by subst hS; exact fun z => (R6.out.below z.ok R6.out.lt).cell 2
        have l5 : ∀ z : Sp S, z.w.cell? ⟨w.heap.size + 1, 3, none⟩ = some (.string c.key) := by subst hS; exact fun z => (R6.out.below z.ok R6.out.lt).cell 3
        have l6 : ∀ z : Sp S, z.w.cell? ⟨w.heap.size + 1, 4, none⟩ = some (.string c.en) := by subst hS; exact fun z => (R6.out.below z.ok R6.out.lt).cell 4
        have l7 : ∀ z : Sp S, z.w.cell? ⟨w.heap.size + 1, 5, none⟩ = some (.string c.old) := by subst hS; exact fun z => (R6.out.below z.ok R6.out.lt).cell 5
        have l8 : ∀ z : Sp S, z.w.cell? ⟨w.heap.size + 1, 6, none⟩ = some (.string c.val) := by subst hS; exact fun z => (R6.out.below z.ok R6.out.lt).cell 6
        have l9 : ∀ z : Sp S, z.w.cell? ⟨g, 1, none⟩ = some (.int .i64 d0) := by subst hS; exact fun z => (HX1.out.row.below z.ok HX1.out.row.lt).cell 1
        have l10 : ∀ z : Sp S, z.w.cell? ⟨g, 2, none⟩ = some (.int .i64 d1) := by subst hS; exact fun z => (HX1.out.row.below z.ok HX1.out.row.lt).cell 2
        have l11 : ∀ z : Sp S, z.w.cell? ⟨g, 3, none⟩ = some (.int .i64 d2) := by subst hS; exact fun z => (HX1.out.row.below z.ok HX1.out.row.lt).cell 3
        have l12 : ∀ z : Sp S, z.w.cell? ⟨g, 4, none⟩ = some (.int .i64 d3) := by subst hS; exact fun z => (HX1.out.row.below z.ok HX1.out.row.lt).cell 4
        have l13 : ∀ z : Sp S, z.w.cell? ⟨g, 5, none⟩ = some (.int .i64 d4) := by subst hS; exact fun z => (HX1.out.row.below z.ok HX1.out.row.lt).cell 5
        have l14 : ∀ z : Sp S, z.w.cell? ⟨g, 6, none⟩ = some (.int .i64 d5) := by subst hS; exact fun z => (HX1.out.row.below z.ok HX1.out.row.lt).cell 6
        have l15 : ∀ z : Sp S, z.w.cell? ⟨g, 7, none⟩ = some (.int .i64 d6) := by subst hS; exact fun z => (HX1.out.row.below z.ok HX1.out.row.lt).cell 7
        have ne : Nonempty (Sp S) := by subst hS; exact ⟨⟨_, HB0⟩⟩
        have STEP := hide (show ∀ w w', S w → Below w.heap.size w w' → S w' by subst hS; exact fun _ _ h hb => kept_trans h hb)
        have OLD := hide (show ∀ z : Sp S, Below w1.heap.size w1 z.w by subst hS; exact fun z => z.ok)
        clear HB0 hS
        repeat (go_big_quiet_step ((first | (go_at_call 22; with_reducible exact sp_call STEP.out _ (HRI.out _)) | (go_at_call 24; with_reducible exact sp_call STEP.out _ (HRE.out _)) | (go_at_call 21; with_reducible exact sp_call STEP.out _ (HRC.out _)))))
        refine wpQuiet_nil ?_
        intro kk
        have OK := hide (OLD.out kk)
        generalize kk.w = wk at OK ⊢
        clear l0 l1 l2 l3 l4 l5 l6 l7 l8 l9 l10 l11 l12 l13 l14 l15 ne OLD STEP
        go_wp2
        go_meet
        exact ⟨by rw [HSAY.out]; rfl, OK⟩
      case false =>
        cases tc
        case false =>
          have HB0 : Below w1.heap.size w1 w1 := kept_refl w1
          refine wp_region_sp (fun w' => Below w1.heap.size w1 w') (by kernel_rfl) (by kernel_rfl) (show Below w1.heap.size w1 w1.drew from kept_drewN HB0 1) ?_
          generalize hS : (fun w' => Below w1.heap.size w1 w') = S
          have l0 : ∀ z : Sp S, z.w.cell? ⟨w.heap.size, 0, none⟩ = some (.int .i64 r) := by subst hS; exact fun z => (R5.out.below z.ok R5.out.lt).cell 0
          have l1 : ∀ z : Sp S, z.w.cell? ⟨w.heap.size, 1, none⟩ = some (.int .i64 s) := by subst hS; exact fun z => (R5.out.below z.ok R5.out.lt).cell 1
          have l2 : ∀ z : Sp S, z.w.cell? ⟨w.heap.size + 1, 0, none⟩ = some (.int .i64 c.k) := by subst hS; exact fun z => (R6.out.below z.ok R6.out.lt).cell 0
          have l3 : ∀ z : Sp S, z.w.cell? ⟨w.heap.size + 1, 1, none⟩ = some (.int .i64 c.c) := by subst hS; exact fun z => (R6.out.below z.ok R6.out.lt).cell 1
          have l4 : ∀ z : Sp S, z.w.cell? ⟨w.heap.size + 1, 2, none⟩ = some (.int .i64 c.q) := by subst hS; exact fun z => (R6.out.below z.ok R6.out.lt).cell 2
          have l5 : ∀ z : Sp S, z.w.cell? ⟨w.heap.size + 1, 3, none⟩ = some (.string c.key) := by subst hS; exact fun z => (R6.out.below z.ok R6.out.lt).cell 3
          have l6 : ∀ z : Sp S, z.w.cell? ⟨w.heap.size + 1, 4, none⟩ = some (.string c.en) := by subst hS; exact fun z => (R6.out.below z.ok R6.out.lt).cell 4
          have l7 : ∀ z : Sp S, z.w.cell? ⟨w.heap.size + 1, 5, none⟩ = some (.string c.old) := by subst hS; exact fun z => (R6.out.below z.ok R6.out.lt).cell 5
          have l8 : ∀ z : Sp S, z.w.cell? ⟨w.heap.size + 1, 6, none⟩ = some (.string c.val) := by subst hS; exact fun z => (R6.out.below z.ok R6.out.lt).cell 6
          have l9 : ∀ z : Sp S, z.w.cell? ⟨g, 1, none⟩ = some (.int .i64 d0) := by subst hS; exact fun z => (HX1.out.row.below z.ok HX1.out.row.lt).cell 1
          have l10 : ∀ z : Sp S, z.w.cell? ⟨g, 2, none⟩ = some (.int .i64 d1) := by subst hS; exact fun z => (HX1.out.row.below z.ok HX1.out.row.lt).cell 2
          have l11 : ∀ z : Sp S, z.w.cell? ⟨g, 3, none⟩ = some (.int .i64 d2) := by subst hS; exact fun z => (HX1.out.row.below z.ok HX1.out.row.lt).cell 3
          have l12 : ∀ z : Sp S, z.w.cell? ⟨g, 4, none⟩ = some (.int .i64 d3) := by subst hS; exact fun z => (HX1.out.row.below z.ok HX1.out.row.lt).cell 4
          have l13 : ∀ z : Sp S, z.w.cell? ⟨g, 5, none⟩ = some (.int .i64 d4) := by subst hS; exact fun z => (HX1.out.row.below z.ok HX1.out.row.lt).cell 5
          have l14 : ∀ z : Sp S, z.w.cell? ⟨g, 6, none⟩ = some (.int .i64 d5) := by subst hS; exact fun z => (HX1.out.row.below z.ok HX1.out.row.lt).cell 6
          have l15 : ∀ z : Sp S, z.w.cell? ⟨g, 7, none⟩ = some (.int .i64 d6) := by subst hS; exact fun z => (HX1.out.row.below z.ok HX1.out.row.lt).cell 7
          have ne : Nonempty (Sp S) := by subst hS; exact ⟨⟨_, HB0⟩⟩
          have STEP := hide (show ∀ w w', S w → Below w.heap.size w w' → S w' by subst hS; exact fun _ _ h hb => kept_trans h hb)
          have OLD := hide (show ∀ z : Sp S, Below w1.heap.size w1 z.w by subst hS; exact fun z => z.ok)
          clear HB0 hS
          repeat (go_big_quiet_step ((first | (go_at_call 22; with_reducible exact sp_call STEP.out _ (HRI.out _)) | (go_at_call 24; with_reducible exact sp_call STEP.out _ (HRE.out _)) | (go_at_call 21; with_reducible exact sp_call STEP.out _ (HRC.out _)))))
          refine wpQuiet_nil ?_
          intro kk
          have OK := hide (OLD.out kk)
          generalize kk.w = wk at OK ⊢
          clear l0 l1 l2 l3 l4 l5 l6 l7 l8 l9 l10 l11 l12 l13 l14 l15 ne OLD STEP
          go_wp2
          go_meet
          exact ⟨by rw [HSAY.out]; rfl, OK⟩
        case true =>
          cases t0
          case true =>
            have HB0 : Below w1.heap.size w1 w1 := kept_refl w1
            refine wp_region_sp (fun w' => Below w1.heap.size w1 w') (by kernel_rfl) (by kernel_rfl) (show Below w1.heap.size w1 w1.drew from kept_drewN HB0 1) ?_
            generalize hS : (fun w' => Below w1.heap.size w1 w') = S
            have l0 : ∀ z : Sp S, z.w.cell? ⟨w.heap.size, 0, none⟩ = some (.int .i64 r) := by subst hS; exact fun z => (R5.out.below z.ok R5.out.lt).cell 0
            have l1 : ∀ z : Sp S, z.w.cell? ⟨w.heap.size, 1, none⟩ = some (.int .i64 s) := by subst hS; exact fun z => (R5.out.below z.ok R5.out.lt).cell 1
            have l2 : ∀ z : Sp S, z.w.cell? ⟨w.heap.size + 1, 0, none⟩ = some (.int .i64 c.k) := by subst hS; exact fun z => (R6.out.below z.ok R6.out.lt).cell 0
            have l3 : ∀ z : Sp S, z.w.cell? ⟨w.heap.size + 1, 1, none⟩ = some (.int .i64 c.c) := by subst hS; exact fun z => (R6.out.below z.ok R6.out.lt).cell 1
            have l4 : ∀ z : Sp S, z.w.cell? ⟨w.heap.size + 1, 2, none⟩ = some (.int .i64 c.q) := by subst hS; exact fun z => (R6.out.below z.ok R6.out.lt).cell 2
            have l5 : ∀ z : Sp S, z.w.cell? ⟨w.heap.size + 1, 3, none⟩ = some (.string c.key) := by subst hS; exact fun z => (R6.out.below z.ok R6.out.lt).cell 3
            have l6 : ∀ z : Sp S, z.w.cell? ⟨w.heap.size + 1, 4, none⟩ = some (.string c.en) := by subst hS; exact fun z => (R6.out.below z.ok R6.out.lt).cell 4
            have l7 : ∀ z : Sp S, z.w.cell? ⟨w.heap.size + 1, 5, none⟩ = some (.string c.old) := by subst hS; exact fun z => (R6.out.below z.ok R6.out.lt).cell 5
            have l8 : ∀ z : Sp S, z.w.cell? ⟨w.heap.size + 1, 6, none⟩ = some (.string c.val) := by subst hS; exact fun z => (R6.out.below z.ok R6.out.lt).cell 6
            have l9 : ∀ z : Sp S, z.w.cell? ⟨g, 1, none⟩ = some (.int .i64 d0) := by subst hS; exact fun z => (HX1.out.row.below z.ok HX1.out.row.lt).cell 1
            have l10 : ∀ z : Sp S, z.w.cell? ⟨g, 2, none⟩ = some (.int .i64 d1) := by subst hS; exact fun z => (HX1.out.row.below z.ok HX1.out.row.lt).cell 2
            have l11 : ∀ z : Sp S, z.w.cell? ⟨g, 3, none⟩ = some (.int .i64 d2) := by subst hS; exact fun z => (HX1.out.row.below z.ok HX1.out.row.lt).cell 3
            have l12 : ∀ z : Sp S, z.w.cell? ⟨g, 4, none⟩ = some (.int .i64 d3) := by subst hS; exact fun z => (HX1.out.row.below z.ok HX1.out.row.lt).cell 4
            have l13 : ∀ z : Sp S, z.w.cell? ⟨g, 5, none⟩ = some (.int .i64 d4) := by subst hS; exact fun z => (HX1.out.row.below z.ok HX1.out.row.lt).cell 5
            have l14 : ∀ z : Sp S, z.w.cell? ⟨g, 6, none⟩ = some (.int .i64 d5) := by subst hS; exact fun z => (HX1.out.row.below z.ok HX1.out.row.lt).cell 6
            have l15 : ∀ z : Sp S, z.w.cell? ⟨g, 7, none⟩ = some (.int .i64 d6) := by subst hS; exact fun z => (HX1.out.row.below z.ok HX1.out.row.lt).cell 7
            have ne : Nonempty (Sp S) := by subst hS; exact ⟨⟨_, HB0⟩⟩
            have STEP := hide (show ∀ w w', S w → Below w.heap.size w w' → S w' by subst hS; exact fun _ _ h hb => kept_trans h hb)
            have OLD := hide (show ∀ z : Sp S, Below w1.heap.size w1 z.w by subst hS; exact fun z => z.ok)
            clear HB0 hS
            repeat (go_big_quiet_step ((first | (go_at_call 22; with_reducible exact sp_call STEP.out _ (HRI.out _)) | (go_at_call 24; with_reducible exact sp_call STEP.out _ (HRE.out _)) | (go_at_call 21; with_reducible exact sp_call STEP.out _ (HRC.out _)))))
            refine wpQuiet_nil ?_
            intro kk
            have OK := hide (OLD.out kk)
            generalize kk.w = wk at OK ⊢
            clear l0 l1 l2 l3 l4 l5 l6 l7 l8 l9 l10 l11 l12 l13 l14 l15 ne OLD STEP
            go_wp2
            go_meet
            exact ⟨by rw [HSAY.out]; rfl, OK⟩
          case false =>
            cases tm
            case true =>
              have HB0 : Below w1.heap.size w1 w1 := kept_refl w1
              refine wp_region_sp (fun w' => Below w1.heap.size w1 w') (by kernel_rfl) (by kernel_rfl) (show Below w1.heap.size w1 w1.drew from kept_drewN HB0 1) ?_
              generalize hS : (fun w' => Below w1.heap.size w1 w') = S
              have l0 : ∀ z : Sp S, z.w.cell? ⟨w.heap.size, 0, none⟩ = some (.int .i64 r) := by subst hS; exact fun z => (R5.out.below z.ok R5.out.lt).cell 0
              have l1 : ∀ z : Sp S, z.w.cell? ⟨w.heap.size, 1, none⟩ = some (.int .i64 s) := by subst hS; exact fun z => (R5.out.below z.ok R5.out.lt).cell 1
              have l2 : ∀ z : Sp S, z.w.cell? ⟨w.heap.size + 1, 0, none⟩ = some (.int .i64 c.k) := by subst hS; exact fun z => (R6.out.below z.ok R6.out.lt).cell 0
              have l3 : ∀ z : Sp S, z.w.cell? ⟨w.heap.size + 1, 1, none⟩ = some (.int .i64 c.c) := by subst hS; exact fun z => (R6.out.below z.ok R6.out.lt).cell 1
              have l4 : ∀ z : Sp S, z.w.cell? ⟨w.heap.size + 1, 2, none⟩ = some (.int .i64 c.q) := by subst hS; exact fun z => (R6.out.below z.ok R6.out.lt).cell 2
              have l5 : ∀ z : Sp S, z.w.cell? ⟨w.heap.size + 1, 3, none⟩ = some (.string c.key) := by subst hS; exact fun z => (R6.out.below z.ok R6.out.lt).cell 3
              have l6 : ∀ z : Sp S, z.w.cell? ⟨w.heap.size + 1, 4, none⟩ = some (.string c.en) := by subst hS; exact fun z => (R6.out.below z.ok R6.out.lt).cell 4
              have l7 : ∀ z : Sp S, z.w.cell? ⟨w.heap.size + 1, 5, none⟩ = some (.string c.old) := by subst hS; exact fun z => (R6.out.below z.ok R6.out.lt).cell 5
              have l8 : ∀ z : Sp S, z.w.cell? ⟨w.heap.size + 1, 6, none⟩ = some (.string c.val) := by subst hS; exact fun z => (R6.out.below z.ok R6.out.lt).cell 6
              have l9 : ∀ z : Sp S, z.w.cell? ⟨g, 1, none⟩ = some (.int .i64 d0) := by subst hS; exact fun z => (HX1.out.row.below z.ok HX1.out.row.lt).cell 1
              have l10 : ∀ z : Sp S, z.w.cell? ⟨g, 2, none⟩ = some (.int .i64 d1) := by subst hS; exact fun z => (HX1.out.row.below z.ok HX1.out.row.lt).cell 2
              have l11 : ∀ z : Sp S, z.w.cell? ⟨g, 3, none⟩ = some (.int .i64 d2) := by subst hS; exact fun z => (HX1.out.row.below z.ok HX1.out.row.lt).cell 3
              have l12 : ∀ z : Sp S, z.w.cell? ⟨g, 4, none⟩ = some (.int .i64 d3) := by subst hS; exact fun z => (HX1.out.row.below z.ok HX1.out.row.lt).cell 4
              have l13 : ∀ z : Sp S, z.w.cell? ⟨g, 5, none⟩ = some (.int .i64 d4) := by subst hS; exact fun z => (HX1.out.row.below z.ok HX1.out.row.lt).cell 5
              have l14 : ∀ z : Sp S, z.w.cell? ⟨g, 6, none⟩ = some (.int .i64 d5) := by subst hS; exact fun z => (HX1.out.row.below z.ok HX1.out.row.lt).cell 6
              have l15 : ∀ z : Sp S, z.w.cell? ⟨g, 7, none⟩ = some (.int .i64 d6) := by subst hS; exact fun z => (HX1.out.row.below z.ok HX1.out.row.lt).cell 7
              have ne : Nonempty (Sp S) := by subst hS; exact ⟨⟨_, HB0⟩⟩
              have STEP := hide (show ∀ w w', S w → Below w.heap.size w w' → S w' by subst hS; exact fun _ _ h hb => kept_trans h hb)
              have OLD := hide (show ∀ z : Sp S, Below w1.heap.size w1 z.w by subst hS; exact fun z => z.ok)
              clear HB0 hS
              repeat (go_big_quiet_step ((first | (go_at_call 22; with_reducible exact sp_call STEP.out _ (HRI.out _)) | (go_at_call 24; with_reducible exact sp_call STEP.out _ (HRE.out _)) | (go_at_call 21; with_reducible exact sp_call STEP.out _ (HRC.out _)))))
              refine wpQuiet_nil ?_
              intro kk
              have OK := hide (OLD.out kk)
              generalize kk.w = wk at OK ⊢
              clear l0 l1 l2 l3 l4 l5 l6 l7 l8 l9 l10 l11 l12 l13 l14 l15 ne OLD STEP
              go_wp2
              go_meet
              exact ⟨by rw [HSAY.out]; rfl, OK⟩
            case false =>
              have HB0 : Below w1.heap.size w1 w1 := kept_refl w1
              refine wp_region_sp (fun w' => Below w1.heap.size w1 w') (by kernel_rfl) (by kernel_rfl) (show Below w1.heap.size w1 w1.drew from kept_drewN HB0 1) ?_
              generalize hS : (fun w' => Below w1.heap.size w1 w') = S
              have l0 : ∀ z : Sp S, z.w.cell? ⟨w.heap.size, 0, none⟩ = some (.int .i64 r) := by subst hS; exact fun z => (R5.out.below z.ok R5.out.lt).cell 0
              have l1 : ∀ z : Sp S, z.w.cell? ⟨w.heap.size, 1, none⟩ = some (.int .i64 s) := by subst hS; exact fun z => (R5.out.below z.ok R5.out.lt).cell 1
              have l2 : ∀ z : Sp S, z.w.cell? ⟨w.heap.size + 1, 0, none⟩ = some (.int .i64 c.k) := by subst hS; exact fun z => (R6.out.below z.ok R6.out.lt).cell 0
              have l3 : ∀ z : Sp S, z.w.cell? ⟨w.heap.size + 1, 1, none⟩ = some (.int .i64 c.c) := by subst hS; exact fun z => (R6.out.below z.ok R6.out.lt).cell 1
              have l4 : ∀ z : Sp S, z.w.cell? ⟨w.heap.size + 1, 2, none⟩ = some (.int .i64 c.q) := by subst hS; exact fun z => (R6.out.below z.ok R6.out.lt).cell 2
              have l5 : ∀ z : Sp S, z.w.cell? ⟨w.heap.size + 1, 3, none⟩ = some (.string c.key) := by subst hS; exact fun z => (R6.out.below z.ok R6.out.lt).cell 3
              have l6 : ∀ z : Sp S, z.w.cell? ⟨w.heap.size + 1, 4, none⟩ = some (.string c.en) := by subst hS; exact fun z => (R6.out.below z.ok R6.out.lt).cell 4
              have l7 : ∀ z : Sp S, z.w.cell? ⟨w.heap.size + 1, 5, none⟩ = some (.string c.old) := by subst hS; exact fun z => (R6.out.below z.ok R6.out.lt).cell 5
              have l8 : ∀ z : Sp S, z.w.cell? ⟨w.heap.size + 1, 6, none⟩ = some (.string c.val) := by subst hS; exact fun z => (R6.out.below z.ok R6.out.lt).cell 6
              have l9 : ∀ z : Sp S, z.w.cell? ⟨g, 1, none⟩ = some (.int .i64 d0) := by subst hS; exact fun z => (HX1.out.row.below z.ok HX1.out.row.lt).cell 1
              have l10 : ∀ z : Sp S, z.w.cell? ⟨g, 2, none⟩ = some (.int .i64 d1) := by subst hS; exact fun z => (HX1.out.row.below z.ok HX1.out.row.lt).cell 2
              have l11 : ∀ z : Sp S, z.w.cell? ⟨g, 3, none⟩ = some (.int .i64 d2) := by subst hS; exact fun z => (HX1.out.row.below z.ok HX1.out.row.lt).cell 3
              have l12 : ∀ z : Sp S, z.w.cell? ⟨g, 4, none⟩ = some (.int .i64 d3) := by subst hS; exact fun z => (HX1.out.row.below z.ok HX1.out.row.lt).cell 4
              have l13 : ∀ z : Sp S, z.w.cell? ⟨g, 5, none⟩ = some (.int .i64 d4) := by subst hS; exact fun z => (HX1.out.row.below z.ok HX1.out.row.lt).cell 5
              have l14 : ∀ z : Sp S, z.w.cell? ⟨g, 6, none⟩ = some (.int .i64 d5) := by subst hS; exact fun z => (HX1.out.row.below z.ok HX1.out.row.lt).cell 6
              have l15 : ∀ z : Sp S, z.w.cell? ⟨g, 7, none⟩ = some (.int .i64 d6) := by subst hS; exact fun z => (HX1.out.row.below z.ok HX1.out.row.lt).cell 7
              have ne : Nonempty (Sp S) := by subst hS; exact ⟨⟨_, HB0⟩⟩
              have STEP := hide (show ∀ w w', S w → Below w.heap.size w w' → S w' by subst hS; exact fun _ _ h hb => kept_trans h hb)
              have OLD := hide (show ∀ z : Sp S, Below w1.heap.size w1 z.w by subst hS; exact fun z => z.ok)
              clear HB0 hS
              repeat (go_big_quiet_step ((first | (go_at_call 22; with_reducible exact sp_call STEP.out _ (HRI.out _)) | (go_at_call 24; with_reducible exact sp_call STEP.out _ (HRE.out _)) | (go_at_call 21; with_reducible exact sp_call STEP.out _ (HRC.out _)))))
              refine wpQuiet_nil ?_
              intro kk
              have OK := hide (OLD.out kk)
              generalize kk.w = wk at OK ⊢
              clear l0 l1 l2 l3 l4 l5 l6 l7 l8 l9 l10 l11 l12 l13 l14 l15 ne OLD STEP
              go_wp2
              go_meet
              exact ⟨by rw [HSAY.out]; rfl, OK⟩
  case rest =>
    obtain ⟨rfl, HBC⟩ := hcut
    obtain ⟨w2, hw2⟩ : ∃ z, z = wc := ⟨_, rfl⟩
    subst hw2
    have HX2 := hide (HX1.out.below HBC.out)
    have R52 := hide (R5.out.below HBC.out R5.out.lt)
    have R62 := hide (R6.out.below HBC.out R6.out.lt)
    have HK2 := hide (kept_trans HB.out HBC.out)
    clear HX1 R5 R6 HB HBC
    cases t
    case false =>
      try simp only [Bool.not_false]
      go_wp2
      go_ret
      exact ⟨by rw [HT.out]; rfl, by rw [note_not HT.out]; exact HX2.out, .of_below HK2.out⟩
    case true =>
      try simp only [Bool.not_true]
      obtain ⟨w3, hr, hM, hg2⟩ := HX2.out.mp.drew.put (T := 60) (e := 64) Try.underlying60 (r, s) (key_ok (may_iff.1 HT.out).1) (enV ⟨r, s, c, q⟩) (by rw [kE_len]; have := HL.out; unfold maxLen; simp only at this ⊢; omega)
      have hr : (Instr.mapUpdate 60 (.map (some b)) (.agg #[.int .i64 r, .int .i64 s]) (.agg #[.int .i64 c.k, .int .i64 c.c, .int .i64 c.q, .string c.key, .string c.en, .string c.old, .string c.val, .int .i64 q])).run Try.prog w2.drew = .ok () w3 := hr
      rw [putM_kE] at hM
      have OKX := hide (show Px w3 g b (noteX ⟨xk, [d0, d1, d2, d3, d4, d5, d6]⟩ r s c q) from by
        rw [note_may HT.out]
        exact ⟨HX2.out.row.drew.grown hg2 (by have := HX2.out.ne; simpa using Ne.symm this), hM, rfl⟩)
      have HG := hide (show Kq (fun k => k = b) w w3 from (Kq.of_below (kept_drewN HK2.out 1)).trans (Kq.grown (o := fun k => k = b) hg2 (fun k e => by injection e with e; exact e.symm)) (fun k _ e => e))
      have c0 : w2.cell? ⟨g, 0, none⟩ = some (.map (some b)) := HX2.out.known
      have y0 : w2.cell? ⟨w.heap.size, 0, none⟩ = some (.int .i64 r) := R52.out.cell 0
      have y1 : w2.cell? ⟨w.heap.size, 1, none⟩ = some (.int .i64 s) := R52.out.cell 1
      have z0 : w2.cell? ⟨w.heap.size + 1, 0, none⟩ = some (.int .i64 c.k) := R62.out.cell 0
      have z1 : w2.cell? ⟨w.heap.size + 1, 1, none⟩ = some (.int .i64 c.c) := R62.out.cell 1
      have z2 : w2.cell? ⟨w.heap.size + 1, 2, none⟩ = some (.int .i64 c.q) := R62.out.cell 2
      have z3 : w2.cell? ⟨w.heap.size + 1, 3, none⟩ = some (.string c.key) := R62.out.cell 3
      have z4 : w2.cell? ⟨w.heap.size + 1, 4, none⟩ = some (.string c.en) := R62.out.cell 4
      have z5 : w2.cell? ⟨w.heap.size + 1, 5, none⟩ = some (.string c.old) := R62.out.cell 5
      have z6 : w2.cell? ⟨w.heap.size + 1, 6, none⟩ = some (.string c.val) := R62.out.cell 6
      clear hM hg2 HX2 R52 R62 HK2
      go_upto_region 3 with (fail)
      go_region
      go_wp2
      go_ret
      exact ⟨by rw [HT.out]; rfl, OKX.out, HG.out⟩
end Go.Proofs.Ytfihcgimgngmhaa
