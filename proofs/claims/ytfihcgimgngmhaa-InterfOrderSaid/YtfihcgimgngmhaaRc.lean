/- The document's Attr of package interf's chapter. Conditions: the Index lies in memory; what it holds is right; it holds few. -/
import Derived.Test.YtfihcgimgngmhaaVe
import Derived.LoopTactic
import Derived.Deep.DeepCutAuto
import Derived.BigQuiet
import Derived.Lib.MinMax
namespace Go.Proofs.Ytfihcgimgngmhaa
set_option maxRecDepth 100000
open Go.RowKit
set_option maxHeartbeats 8000000 in
theorem rattr_any (base g : Nat) (vL vC vS : Value) (x : Ix) (r s : Int) (c : Cm) (w : World) (h : Rx base w g vL vC vS x) (hk : Kn x) (hl : x.k.length ≤ 1000) (hz : c.key.size ≤ 140737488355328) (hz2 : ∀ e, e ∈ x.k → e.c.key.size ≤ 140737488355328) :
    Calls Try.prog 18 #[.pointer (some ⟨g, 0, none⟩), .agg #[.int .i64 r, .int .i64 s], .agg #[.int .i64 c.k, .int .i64 c.c, .int .i64 c.q, .string c.key, .string c.en, .string c.old, .string c.val]] w (fun e w' => e = .returned (.agg (cA ((attrX x r s c).1 :: (attrX x r s c).2))) ∧ Below w.heap.size w w') := by
  obtain ⟨A, a, B, b, C, cc, rfl, rfl, rfl, ha, hb2, hc2⟩ := h.form
  have H0 := hide (Ra.start h r s c)
  have HK := hide hk
  have HZ := hide hz
  have HZ2 := hide hz2
  obtain ⟨n, hnn⟩ : ∃ n, x.k.length = n := ⟨_, rfl⟩
  rw [hnn] at H0 ha hb2 hc2 hl
  have HNN := hide hnn
  clear h hk hz hz2 hnn
  go_enter Try.func18, Try.ntmps18
  go_upto_region 2 with (fail)
  replace H0 : Hid (Ra base w ((((w.alloc (.cells #[.int .i64 r, .int .i64 s] 26)).alloc (.cells #[.int .i64 c.k, .int .i64 c.c, .int .i64 c.q, .string c.key, .string c.en, .string c.old, .string c.val] 29)).alloc (.cells #[.int .i64 0, .int .i64 0, .int .i64 0, .int .i64 0, .int .i64 0, .int .i64 0, .int .i64 0, .int .i64 0] 34)).alloc (.cells #[.int .i64 0, .int .i64 0, .int .i64 0, .int .i64 0, .int .i64 0, .int .i64 0, .int .i64 0, .int .i64 0] 34)) g (.slice A n a) (.slice B n b) (.slice C n cc) x r s c (0, [0, 0, 0, 0, 0, 0, 0])) := H0
  generalize (((w.alloc (.cells #[.int .i64 r, .int .i64 s] 26)).alloc (.cells #[.int .i64 c.k, .int .i64 c.c, .int .i64 c.q, .string c.key, .string c.en, .string c.old, .string c.val] 29)).alloc (.cells #[.int .i64 0, .int .i64 0, .int .i64 0, .int .i64 0, .int .i64 0, .int .i64 0, .int .i64 0, .int .i64 0] 34)).alloc (.cells #[.int .i64 0, .int .i64 0, .int .i64 0, .int .i64 0, .int .i64 0, .int .i64 0, .int .i64 0, .int .i64 0] 34) = w1 at H0 ⊢
  go_wp2
  go_loopw [8] (fun i wr => ∃ j : Nat, j ≤ n ∧ i = .int .i64 j ∧ Hid (Ra base w wr g (.slice A n a) (.slice B n b) (.slice C n cc) x r s c (hangs (x.k.take j) r s c))) (fun i _ => n - (intOf i).toNat)
  case atStart => exact ⟨0, by omega, rfl, H0⟩
  case round =>
    clear H0
    obtain ⟨j, hj, rfl, HR⟩ := hrel
    have x0 : wr.cell? ⟨g, 0, none⟩ = some (.slice A n a) := HR.out.rx.row.cell 0
    by_cases hjn : j < n
    · obtain ⟨e, he⟩ : ∃ e, x.k[j]? = some e := ⟨_, List.getElem?_eq_getElem (by rw [HNN.out]; exact hjn)⟩
      have hem := List.mem_of_getElem? he
      have HEM := hide hem
      have HTK := hide (show x.k.take (j + 1) = x.k.take j ++ [e] by rw [List.take_add_one, he]; rfl)
      have HAT := hide he
      obtain ⟨hr1, hr2, hr3, hr4, hr5⟩ := may_iff.1 (HK.out.ok e hem)
      obtain ⟨q0, q7, q1, qm⟩ := rightI_is hr1
      have hjn' : (j : Int) < (n : Int) := by omega
      have HSZ := hide (HZ2.out e hem)
      clear he hem hr1 hr2 hr3
      obtain ⟨acc, hacc⟩ : ∃ z, hangs (x.k.take j) r s c = z := ⟨_, rfl⟩
      rw [hacc] at HR
      have HACC := hide hacc
      clear hacc
      go_upto_region 5 with (fail)
      obtain ⟨gL, gC, gS, rfl, rfl, rfl, _⟩ := HR.out.rx.at_ HAT.out
      have heq := fun w => eql_inst e.r e.s r s w
      obtain ⟨t2, ht2⟩ : ∃ t, e.at_ r s = t := ⟨_, rfl⟩
      have HT2 := hide ht2
      unfold En.at_ at ht2
      rw [ht2] at heq
      obtain ⟨tc, htc⟩ : ∃ t, clashC e.c c = t := ⟨_, rfl⟩
      have HTC := hide htc
      have HCL := hide (show ∀ w, Calls Try.prog 33 #[.agg #[.int .i64 e.c.k, .int .i64 e.c.c, .int .i64 e.c.q, .string e.c.key, .string e.c.en, .string e.c.old, .string e.c.val], .agg #[.int .i64 c.k, .int .i64 c.c, .int .i64 c.q, .string c.key, .string c.en, .string c.old, .string c.val]] w fun e w' => e = .returned (.bool tc) ∧ Below w.heap.size w w' from fun w => htc ▸ rclash_to e.c.k e.c.c e.c.q e.c.key e.c.en e.c.old e.c.val c.k c.c c.q c.key c.en c.old c.val w HSZ.out HZ.out)
      clear ht2 htc x0
      cases t2
      case true =>
        have HB0 : Below wr.heap.size wr wr := kept_refl wr
        refine wp_region_sp (fun w' => Below wr.heap.size wr w') (by kernel_rfl) (by kernel_rfl) (show Below wr.heap.size wr wr.drew from kept_drewN HB0 1) ?_
        generalize hS : (fun w' => Below wr.heap.size wr w') = S
        have HRz : ∀ z : Sp S, Ra base w z.w g (.slice (some ⟨gL, 0, none⟩) n a) (.slice (some ⟨gC, 0, none⟩) n b) (.slice (some ⟨gS, 0, none⟩) n cc) x r s c acc := by subst hS; exact fun z => HR.out.below z.ok
        have l0 : ∀ z : Sp S, z.w.cell? ⟨g, 0, none⟩ = some (.slice (some ⟨gL, 0, none⟩) n a) := fun z => (HRz z).rx.row.cell 0
        have l1 : ∀ z : Sp S, z.w.cell? ⟨g, 1, none⟩ = some (.slice (some ⟨gC, 0, none⟩) n b) := fun z => (HRz z).rx.row.cell 1
        have l2 : ∀ z : Sp S, z.w.cell? ⟨gL, j * 2, none⟩ = some (.int .i64 e.r) := fun z => ((HRz z).rx.here HAT.out).1.1
        have l3 : ∀ z : Sp S, z.w.cell? ⟨gL, j * 2 + 1, none⟩ = some (.int .i64 e.s) := fun z => ((HRz z).rx.here HAT.out).1.2
        have l4 : ∀ z : Sp S, z.w.cell? ⟨gC, j * 7, none⟩ = some (.int .i64 e.c.k) := fun z => ((HRz z).rx.here HAT.out).2.1.1
        have l5 : ∀ z : Sp S, z.w.cell? ⟨gC, j * 7 + 1, none⟩ = some (.int .i64 e.c.c) := fun z => ((HRz z).rx.here HAT.out).2.1.2.1
        have l6 : ∀ z : Sp S, z.w.cell? ⟨gC, j * 7 + 2, none⟩ = some (.int .i64 e.c.q) := fun z => ((HRz z).rx.here HAT.out).2.1.2.2.1
        have l7 : ∀ z : Sp S, z.w.cell? ⟨gC, j * 7 + 3, none⟩ = some (.string e.c.key) := fun z => ((HRz z).rx.here HAT.out).2.1.2.2.2.1
        have l8 : ∀ z : Sp S, z.w.cell? ⟨gC, j * 7 + 4, none⟩ = some (.string e.c.en) := fun z => ((HRz z).rx.here HAT.out).2.1.2.2.2.2.1
        have l9 : ∀ z : Sp S, z.w.cell? ⟨gC, j * 7 + 5, none⟩ = some (.string e.c.old) := fun z => ((HRz z).rx.here HAT.out).2.1.2.2.2.2.2.1
        have l10 : ∀ z : Sp S, z.w.cell? ⟨gC, j * 7 + 6, none⟩ = some (.string e.c.val) := fun z => ((HRz z).rx.here HAT.out).2.1.2.2.2.2.2.2
        have l11 : ∀ z : Sp S, z.w.cell? ⟨w.heap.size, 0, none⟩ = some (.int .i64 r) := fun z => (HRz z).bi.cell 0
        have l12 : ∀ z : Sp S, z.w.cell? ⟨w.heap.size, 1, none⟩ = some (.int .i64 s) := fun z => (HRz z).bi.cell 1
        have l13 : ∀ z : Sp S, z.w.cell? ⟨w.heap.size + 1, 0, none⟩ = some (.int .i64 c.k) := fun z => (HRz z).bc.cell 0
        have l14 : ∀ z : Sp S, z.w.cell? ⟨w.heap.size + 1, 1, none⟩ = some (.int .i64 c.c) := fun z => (HRz z).bc.cell 1
        have l15 : ∀ z : Sp S, z.w.cell? ⟨w.heap.size + 1, 2, none⟩ = some (.int .i64 c.q) := fun z => (HRz z).bc.cell 2
        have l16 : ∀ z : Sp S, z.w.cell? ⟨w.heap.size + 1, 3, none⟩ = some (.string c.key) := fun z => (HRz z).bc.cell 3
        have l17 : ∀ z : Sp S, z.w.cell? ⟨w.heap.size + 1, 4, none⟩ = some (.string c.en) := fun z => (HRz z).bc.cell 4
        have l18 : ∀ z : Sp S, z.w.cell? ⟨w.heap.size + 1, 5, none⟩ = some (.string c.old) := fun z => (HRz z).bc.cell 5
        have l19 : ∀ z : Sp S, z.w.cell? ⟨w.heap.size + 1, 6, none⟩ = some (.string c.val) := fun z => (HRz z).bc.cell 6
        have ne : Nonempty (Sp S) := by subst hS; exact ⟨⟨_, HB0⟩⟩
        have STEP := hide (show ∀ w w', S w → Below w.heap.size w w' → S w' by subst hS; exact fun _ _ h hb => kept_trans h hb)
        have OLD := hide HRz
        clear HB0 hS HRz
        repeat (go_big_quiet_step ((first | (go_at_call 33; with_reducible exact sp_call STEP.out _ (HCL.out _)))))
        refine wpQuiet_nil ?_
        intro kk
        have OK := hide (OLD.out kk)
        generalize kk.w = wk at OK ⊢
        clear l0 l1 l2 l3 l4 l5 l6 l7 l8 l9 l10 l11 l12 l13 l14 l15 l16 l17 l18 l19 ne OLD STEP
        go_wp2
        go_roundw
        case rel => exact ⟨j + 1, by omega, by go_num, hide (by rw [HTK.out, hangs_snoc, HACC.out, hang_not (by unfold hits; rw [HT2.out]; first | rfl | simp)]; exact OK.out)⟩
        case measure => simp [intOf]; omega
      case false =>
        cases tc
        case false =>
          have HB0 : Below wr.heap.size wr wr := kept_refl wr
          refine wp_region_sp (fun w' => Below wr.heap.size wr w') (by kernel_rfl) (by kernel_rfl) (show Below wr.heap.size wr wr.drew from kept_drewN HB0 1) ?_
          generalize hS : (fun w' => Below wr.heap.size wr w') = S
          have HRz : ∀ z : Sp S, Ra base w z.w g (.slice (some ⟨gL, 0, none⟩) n a) (.slice (some ⟨gC, 0, none⟩) n b) (.slice (some ⟨gS, 0, none⟩) n cc) x r s c acc := by subst hS; exact fun z => HR.out.below z.ok
          have l0 : ∀ z : Sp S, z.w.cell? ⟨g, 0, none⟩ = some (.slice (some ⟨gL, 0, none⟩) n a) := fun z => (HRz z).rx.row.cell 0
          have l1 : ∀ z : Sp S, z.w.cell? ⟨g, 1, none⟩ = some (.slice (some ⟨gC, 0, none⟩) n b) := fun z => (HRz z).rx.row.cell 1
          have l2 : ∀ z : Sp S, z.w.cell? ⟨gL, j * 2, none⟩ = some (.int .i64 e.r) := fun z => ((HRz z).rx.here HAT.out).1.1
          have l3 : ∀ z : Sp S, z.w.cell? ⟨gL, j * 2 + 1, none⟩ = some (.int .i64 e.s) := fun z => ((HRz z).rx.here HAT.out).1.2
          have l4 : ∀ z : Sp S, z.w.cell? ⟨gC, j * 7, none⟩ = some (.int .i64 e.c.k) := fun z => ((HRz z).rx.here HAT.out).2.1.1
          have l5 : ∀ z : Sp S, z.w.cell? ⟨gC, j * 7 + 1, none⟩ = some (.int .i64 e.c.c) := fun z => ((HRz z).rx.here HAT.out).2.1.2.1
          have l6 : ∀ z : Sp S, z.w.cell? ⟨gC, j * 7 + 2, none⟩ = some (.int .i64 e.c.q) := fun z => ((HRz z).rx.here HAT.out).2.1.2.2.1
          have l7 : ∀ z : Sp S, z.w.cell? ⟨gC, j * 7 + 3, none⟩ = some (.string e.c.key) := fun z => ((HRz z).rx.here HAT.out).2.1.2.2.2.1
          have l8 : ∀ z : Sp S, z.w.cell? ⟨gC, j * 7 + 4, none⟩ = some (.string e.c.en) := fun z => ((HRz z).rx.here HAT.out).2.1.2.2.2.2.1
          have l9 : ∀ z : Sp S, z.w.cell? ⟨gC, j * 7 + 5, none⟩ = some (.string e.c.old) := fun z => ((HRz z).rx.here HAT.out).2.1.2.2.2.2.2.1
          have l10 : ∀ z : Sp S, z.w.cell? ⟨gC, j * 7 + 6, none⟩ = some (.string e.c.val) := fun z => ((HRz z).rx.here HAT.out).2.1.2.2.2.2.2.2
          have l11 : ∀ z : Sp S, z.w.cell? ⟨w.heap.size, 0, none⟩ = some (.int .i64 r) := fun z => (HRz z).bi.cell 0
          have l12 : ∀ z : Sp S, z.w.cell? ⟨w.heap.size, 1, none⟩ = some (.int .i64 s) := fun z => (HRz z).bi.cell 1
          have l13 : ∀ z : Sp S, z.w.cell? ⟨w.heap.size + 1, 0, none⟩ = some (.int .i64 c.k) := fun z => (HRz z).bc.cell 0
          have l14 : ∀ z : Sp S, z.w.cell? ⟨w.heap.size + 1, 1, none⟩ = some (.int .i64 c.c) := fun z => (HRz z).bc.cell 1
          have l15 : ∀ z : Sp S, z.w.cell? ⟨w.heap.size + 1, 2, none⟩ = some (.int .i64 c.q) := fun z => (HRz z).bc.cell 2
          have l16 : ∀ z : Sp S, z.w.cell? ⟨w.heap.size + 1, 3, none⟩ = some (.string c.key) := fun z => (HRz z).bc.cell 3
          have l17 : ∀ z : Sp S, z.w.cell? ⟨w.heap.size + 1, 4, none⟩ = some (.string c.en) := fun z => (HRz z).bc.cell 4
          have l18 : ∀ z : Sp S, z.w.cell? ⟨w.heap.size + 1, 5, none⟩ = some (.string c.old) := fun z => (HRz z).bc.cell 5
          have l19 : ∀ z : Sp S, z.w.cell? ⟨w.heap.size + 1, 6, none⟩ = some (.string c.val) := fun z => (HRz z).bc.cell 6
          have ne : Nonempty (Sp S) := by subst hS; exact ⟨⟨_, HB0⟩⟩
          have STEP := hide (show ∀ w w', S w → Below w.heap.size w w' → S w' by subst hS; exact fun _ _ h hb => kept_trans h hb)
          have OLD := hide HRz
          clear HB0 hS HRz
          repeat (go_big_quiet_step ((first | (go_at_call 33; with_reducible exact sp_call STEP.out _ (HCL.out _)))))
          refine wpQuiet_nil ?_
          intro kk
          have OK := hide (OLD.out kk)
          generalize kk.w = wk at OK ⊢
          clear l0 l1 l2 l3 l4 l5 l6 l7 l8 l9 l10 l11 l12 l13 l14 l15 l16 l17 l18 l19 ne OLD STEP
          go_wp2
          go_roundw
          case rel => exact ⟨j + 1, by omega, by go_num, hide (by rw [HTK.out, hangs_snoc, HACC.out, hang_not (by unfold hits; rw [HTC.out, Bool.and_false]; first | rfl | simp)]; exact OK.out)⟩
          case measure => simp [intOf]; omega
        case true =>
          have HB0 : Below wr.heap.size wr wr := kept_refl wr
          refine wp_region_sp (fun w' => Below wr.heap.size wr w') (by kernel_rfl) (by kernel_rfl) (show Below wr.heap.size wr wr.drew from kept_drewN HB0 1) ?_
          generalize hS : (fun w' => Below wr.heap.size wr w') = S
          have HRz : ∀ z : Sp S, Ra base w z.w g (.slice (some ⟨gL, 0, none⟩) n a) (.slice (some ⟨gC, 0, none⟩) n b) (.slice (some ⟨gS, 0, none⟩) n cc) x r s c acc := by subst hS; exact fun z => HR.out.below z.ok
          have l0 : ∀ z : Sp S, z.w.cell? ⟨g, 0, none⟩ = some (.slice (some ⟨gL, 0, none⟩) n a) := fun z => (HRz z).rx.row.cell 0
          have l1 : ∀ z : Sp S, z.w.cell? ⟨g, 1, none⟩ = some (.slice (some ⟨gC, 0, none⟩) n b) := fun z => (HRz z).rx.row.cell 1
          have l2 : ∀ z : Sp S, z.w.cell? ⟨gL, j * 2, none⟩ = some (.int .i64 e.r) := fun z => ((HRz z).rx.here HAT.out).1.1
          have l3 : ∀ z : Sp S, z.w.cell? ⟨gL, j * 2 + 1, none⟩ = some (.int .i64 e.s) := fun z => ((HRz z).rx.here HAT.out).1.2
          have l4 : ∀ z : Sp S, z.w.cell? ⟨gC, j * 7, none⟩ = some (.int .i64 e.c.k) := fun z => ((HRz z).rx.here HAT.out).2.1.1
          have l5 : ∀ z : Sp S, z.w.cell? ⟨gC, j * 7 + 1, none⟩ = some (.int .i64 e.c.c) := fun z => ((HRz z).rx.here HAT.out).2.1.2.1
          have l6 : ∀ z : Sp S, z.w.cell? ⟨gC, j * 7 + 2, none⟩ = some (.int .i64 e.c.q) := fun z => ((HRz z).rx.here HAT.out).2.1.2.2.1
          have l7 : ∀ z : Sp S, z.w.cell? ⟨gC, j * 7 + 3, none⟩ = some (.string e.c.key) := fun z => ((HRz z).rx.here HAT.out).2.1.2.2.2.1
          have l8 : ∀ z : Sp S, z.w.cell? ⟨gC, j * 7 + 4, none⟩ = some (.string e.c.en) := fun z => ((HRz z).rx.here HAT.out).2.1.2.2.2.2.1
          have l9 : ∀ z : Sp S, z.w.cell? ⟨gC, j * 7 + 5, none⟩ = some (.string e.c.old) := fun z => ((HRz z).rx.here HAT.out).2.1.2.2.2.2.2.1
          have l10 : ∀ z : Sp S, z.w.cell? ⟨gC, j * 7 + 6, none⟩ = some (.string e.c.val) := fun z => ((HRz z).rx.here HAT.out).2.1.2.2.2.2.2.2
          have l11 : ∀ z : Sp S, z.w.cell? ⟨w.heap.size, 0, none⟩ = some (.int .i64 r) := fun z => (HRz z).bi.cell 0
          have l12 : ∀ z : Sp S, z.w.cell? ⟨w.heap.size, 1, none⟩ = some (.int .i64 s) := fun z => (HRz z).bi.cell 1
          have l13 : ∀ z : Sp S, z.w.cell? ⟨w.heap.size + 1, 0, none⟩ = some (.int .i64 c.k) := fun z => (HRz z).bc.cell 0
          have l14 : ∀ z : Sp S, z.w.cell? ⟨w.heap.size + 1, 1, none⟩ = some (.int .i64 c.c) := fun z => (HRz z).bc.cell 1
          have l15 : ∀ z : Sp S, z.w.cell? ⟨w.heap.size + 1, 2, none⟩ = some (.int .i64 c.q) := fun z => (HRz z).bc.cell 2
          have l16 : ∀ z : Sp S, z.w.cell? ⟨w.heap.size + 1, 3, none⟩ = some (.string c.key) := fun z => (HRz z).bc.cell 3
          have l17 : ∀ z : Sp S, z.w.cell? ⟨w.heap.size + 1, 4, none⟩ = some (.string c.en) := fun z => (HRz z).bc.cell 4
          have l18 : ∀ z : Sp S, z.w.cell? ⟨w.heap.size + 1, 5, none⟩ = some (.string c.old) := fun z => (HRz z).bc.cell 5
          have l19 : ∀ z : Sp S, z.w.cell? ⟨w.heap.size + 1, 6, none⟩ = some (.string c.val) := fun z => (HRz z).bc.cell 6
          have ne : Nonempty (Sp S) := by subst hS; exact ⟨⟨_, HB0⟩⟩
          have STEP := hide (show ∀ w w', S w → Below w.heap.size w w' → S w' by subst hS; exact fun _ _ h hb => kept_trans h hb)
          have OLD := hide HRz
          clear HB0 hS HRz
          repeat (go_big_quiet_step ((first | (go_at_call 33; with_reducible exact sp_call STEP.out _ (HCL.out _)))))
          refine wpQuiet_nil ?_
          intro kk
          have OK := hide (OLD.out kk)
          generalize kk.w = wk at OK ⊢
          clear l0 l1 l2 l3 l4 l5 l6 l7 l8 l9 l10 l11 l12 l13 l14 l15 l16 l17 l18 l19 ne OLD STEP
          clear HCL heq HR
          obtain ⟨rk, hrk⟩ : ∃ k : Nat, e.r = k := ⟨e.r.toNat, by omega⟩
          have HRK := hide hrk
          have hrk7 : rk < 7 := by omega
          have hrk7i : (rk : Int) < 7 := by omega
          have hrk0 : (0 : Int) ≤ (rk : Int) := by omega
          obtain ⟨t3, ht3⟩ : ∃ t, (e.r == r) = t := ⟨_, rfl⟩
          have HT3 := hide ht3
          rw [hrk] at ht3
          obtain ⟨t4, ht4⟩ : ∃ t, decide (s < e.s) = t := ⟨_, rfl⟩
          have HT4 := hide ht4
          have x0 : wk.cell? ⟨g, 0, none⟩ = some (.slice (some ⟨gL, 0, none⟩) n a) := OK.out.rx.row.cell 0
          obtain ⟨⟨l0, l1⟩, _, _⟩ := OK.out.rx.here HAT.out
          rw [hrk] at l0
          have y0 : wk.cell? ⟨w.heap.size, 0, none⟩ = some (.int .i64 r) := OK.out.bi.cell 0
          have y1 : wk.cell? ⟨w.heap.size, 1, none⟩ = some (.int .i64 s) := OK.out.bi.cell 1
          clear q0 q7 hrk
          go_upto_region 6 with (fail)
          cases t3
          case false =>
            go_quiet (fail)
            clear ht3 ht4 x0 l0 l1 y0 y1
            have OK2 := hide (OK.out.below (kept_drewN (kept_refl wk) nq))
            have HH := hide (show hits r s c e = true by unfold hits; rw [HT2.out, HT3.out, HTC.out]; rfl)
            clear OK
            generalize wk.drewN nq = wy at OK2 ⊢
            have x0 : wy.cell? ⟨g, 0, none⟩ = some (.slice (some ⟨gL, 0, none⟩) n a) := OK2.out.rx.row.cell 0
            obtain ⟨⟨l0, l1⟩, _, _⟩ := OK2.out.rx.here HAT.out
            rw [HRK.out] at l0
            go_upto_region 8 with (fail)
            have f1 : wy.cell? ⟨w.heap.size + 1 + 1 + 1, 1 + rk, none⟩ = some (.int .i64 (ix acc.2 rk)) := OK2.out.atk hrk7
            have g1 : wy.frozen? ⟨w.heap.size + 1 + 1 + 1, 1 + rk, none⟩ = false := OK2.out.ba.free (1 + rk)
            have OK4 := hide (show Ra base w (wy.setCell ⟨w.heap.size + 1 + 1 + 1, 1 + rk, none⟩ (.int .i64 (max (ix acc.2 rk) e.s))).drew g (.slice (some ⟨gL, 0, none⟩) n a) (.slice (some ⟨gC, 0, none⟩) n b) (.slice (some ⟨gS, 0, none⟩) n cc) x r s c (acc.1, acc.2.set rk (max (ix acc.2 rk) e.s)) from (OK2.out.putk rk _).drew)
            clear OK2
            go_region
            clear f1 g1 x0 l0 l1
            generalize World.drew (World.setCell wy _ _) = wz at OK4 ⊢
            go_upto_region 9 with (fail)
            have x2 : wz.cell? ⟨g, 2, none⟩ = some (.slice (some ⟨gS, 0, none⟩) n cc) := OK4.out.rx.row.cell 2
            have l2 : wz.cell? ⟨gS, j, none⟩ = some (.int .i64 e.q) := (OK4.out.rx.here HAT.out).2.2
            have f1 : wz.cell? ⟨w.heap.size + 1 + 1 + 1, 0, none⟩ = some (.int .i64 acc.1) := OK4.out.at0
            have g1 : wz.frozen? ⟨w.heap.size + 1 + 1 + 1, 0, none⟩ = false := OK4.out.ba.free 0
            have OK5 := hide (show Ra base w (wz.setCell ⟨w.heap.size + 1 + 1 + 1, 0, none⟩ (.int .i64 (max acc.1 (e.q + 1)))).drew g (.slice (some ⟨gL, 0, none⟩) n a) (.slice (some ⟨gC, 0, none⟩) n b) (.slice (some ⟨gS, 0, none⟩) n cc) x r s c (max acc.1 (e.q + 1), acc.2.set rk (max (ix acc.2 rk) e.s)) from (OK4.out.put0 _).drew)
            clear OK4
            go_region
            clear f1 g1 x2 l2
            generalize World.drew (World.setCell wz _ _) = wv at OK5 ⊢
            go_wp2
            go_roundw
            case rel => exact ⟨j + 1, by omega, by go_num, hide (by rw [HTK.out, hangs_snoc, HACC.out, hang_yes HH.out, HRK.out, Int.toNat_natCast]; exact OK5.out)⟩
            case measure => simp [intOf]; omega
          case true =>
            cases t4
            case true =>
              go_quiet (fail)
              clear ht3 ht4 x0 l0 l1 y0 y1
              have OK := hide (OK.out.below (kept_drewN (kept_refl wk) nq))
              generalize wk.drewN nq = wy at OK ⊢
              go_wp2
              go_roundw
              case rel => exact ⟨j + 1, by omega, by go_num, hide (by rw [HTK.out, hangs_snoc, HACC.out, hang_not (by unfold hits; rw [HT3.out, HT4.out]; first | rfl | simp)]; exact OK.out)⟩
              case measure => simp [intOf]; omega
            case false =>
              go_quiet (fail)
              clear ht3 ht4 x0 l0 l1 y0 y1
              have OK2 := hide (OK.out.below (kept_drewN (kept_refl wk) nq))
              have HH := hide (show hits r s c e = true by unfold hits; rw [HT2.out, HT3.out, HT4.out, HTC.out]; rfl)
              clear OK
              generalize wk.drewN nq = wy at OK2 ⊢
              have x0 : wy.cell? ⟨g, 0, none⟩ = some (.slice (some ⟨gL, 0, none⟩) n a) := OK2.out.rx.row.cell 0
              obtain ⟨⟨l0, l1⟩, _, _⟩ := OK2.out.rx.here HAT.out
              rw [HRK.out] at l0
              go_upto_region 8 with (fail)
              have f1 : wy.cell? ⟨w.heap.size + 1 + 1 + 1, 1 + rk, none⟩ = some (.int .i64 (ix acc.2 rk)) := OK2.out.atk hrk7
              have g1 : wy.frozen? ⟨w.heap.size + 1 + 1 + 1, 1 + rk, none⟩ = false := OK2.out.ba.free (1 + rk)
              have OK4 := hide (show Ra base w (wy.setCell ⟨w.heap.size + 1 + 1 + 1, 1 + rk, none⟩ (.int .i64 (max (ix acc.2 rk) e.s))).drew g (.slice (some ⟨gL, 0, none⟩) n a) (.slice (some ⟨gC, 0, none⟩) n b) (.slice (some ⟨gS, 0, none⟩) n cc) x r s c (acc.1, acc.2.set rk (max (ix acc.2 rk) e.s)) from (OK2.out.putk rk _).drew)
              clear OK2
              go_region
              clear f1 g1 x0 l0 l1
              generalize World.drew (World.setCell wy _ _) = wz at OK4 ⊢
              go_upto_region 9 with (fail)
              have x2 : wz.cell? ⟨g, 2, none⟩ = some (.slice (some ⟨gS, 0, none⟩) n cc) := OK4.out.rx.row.cell 2
              have l2 : wz.cell? ⟨gS, j, none⟩ = some (.int .i64 e.q) := (OK4.out.rx.here HAT.out).2.2
              have f1 : wz.cell? ⟨w.heap.size + 1 + 1 + 1, 0, none⟩ = some (.int .i64 acc.1) := OK4.out.at0
              have g1 : wz.frozen? ⟨w.heap.size + 1 + 1 + 1, 0, none⟩ = false := OK4.out.ba.free 0
              have OK5 := hide (show Ra base w (wz.setCell ⟨w.heap.size + 1 + 1 + 1, 0, none⟩ (.int .i64 (max acc.1 (e.q + 1)))).drew g (.slice (some ⟨gL, 0, none⟩) n a) (.slice (some ⟨gC, 0, none⟩) n b) (.slice (some ⟨gS, 0, none⟩) n cc) x r s c (max acc.1 (e.q + 1), acc.2.set rk (max (ix acc.2 rk) e.s)) from (OK4.out.put0 _).drew)
              clear OK4
              go_region
              clear f1 g1 x2 l2
              generalize World.drew (World.setCell wz _ _) = wv at OK5 ⊢
              go_wp2
              go_roundw
              case rel => exact ⟨j + 1, by omega, by go_num, hide (by rw [HTK.out, hangs_snoc, HACC.out, hang_yes HH.out, HRK.out, Int.toNat_natCast]; exact OK5.out)⟩
              case measure => simp [intOf]; omega
    · obtain rfl : j = n := by omega
      have hnl : ¬ ((j : Int) < (j : Int)) := by omega
      have HTK := hide (show x.k.take j = x.k from List.take_of_length_le (by rw [HNN.out]; exact Nat.le_refl _))
      rw [HTK.out] at HR
      obtain ⟨acc, hacc⟩ : ∃ z, hangs x.k r s c = z := ⟨_, rfl⟩
      rw [hacc] at HR
      have HACC := hide hacc
      have HO7 := hide (show acc.2.length = 7 from HR.out.len)
      clear hacc
      have y0 : wr.cell? ⟨w.heap.size, 0, none⟩ = some (.int .i64 r) := HR.out.bi.cell 0
      have y1 : wr.cell? ⟨w.heap.size, 1, none⟩ = some (.int .i64 s) := HR.out.bi.cell 1
      have HRI := hide (fun w => rrightI_any r s w)
      obtain ⟨tr, htr⟩ : ∃ t, rightI r s = t := ⟨_, rfl⟩
      rw [htr] at HRI
      have HTR := hide htr
      clear htr
      cases tr
      case false =>
        go_upto_region 12 with (first | (go_at_call 31; with_reducible refine (HRI.out _).mono ?_; rintro ea wa ⟨rfl, HBA⟩))
        have HO := hide (show Ra base w wa g (.slice A j a) (.slice B j b) (.slice C j cc) x r s c (acc.1, ownL r s acc.2) by unfold ownL; rw [if_neg (by rw [HTR.out]; simp)]; exact HR.out.below HBA)
        clear HR HRI HBA x0 y0 y1
        obtain ⟨m, hm⟩ : ∃ m, acc.1 = m := ⟨_, rfl⟩
        have HM := hide hm
        rw [hm] at HO
        clear hm
        obtain ⟨L, hL⟩ : ∃ L, ownL r s acc.2 = L := ⟨_, rfl⟩
        have HL := hide hL
        rw [hL] at HO
        have HLL := hide (show L.length = 7 by rw [← hL, ownL_len]; exact HO7.out)
        clear hL
        go_wp2
        go_loopw [10] (fun i wr => ∃ k : Nat, k ≤ 7 ∧ i = .int .i64 k ∧ Hid (Ra base w wr g (.slice A j a) (.slice B j b) (.slice C j cc) x r s c (m, fink x.d r L k))) (fun i _ => 7 - (intOf i).toNat)
        case atStart => exact ⟨0, by omega, rfl, hide (by rw [fink_0 _ _ HLL.out]; exact HO.out)⟩
        case round =>
          clear HO
          obtain ⟨k, hk, rfl, HR⟩ := hrel
          have y0 : wr.cell? ⟨w.heap.size, 0, none⟩ = some (.int .i64 r) := HR.out.bi.cell 0
          by_cases hk7 : k < 7
          · have hk7i : (k : Int) < 7 := by omega
            have hk0i : (0 : Int) ≤ (k : Int) := by omega
            by_cases hkr : (k : Int) = r
            · have HKR := hide hkr
              subst hkr
              go_wp2
              go_roundw
              case rel => exact ⟨k + 1, by omega, by go_num, hide (by rw [fink_same _ _ _ hk7 rfl]; exact HR.out)⟩
              case measure => simp [intOf]; omega
            · have HKR := hide hkr
              go_upto_region 16 with (fail)
              obtain ⟨D, hD⟩ : ∃ D, ix x.d k = D := ⟨_, rfl⟩
              have HD := hide hD
              have d0 : wr.cell? ⟨g, 3 + k, none⟩ = some (.int .i64 D) := by rw [HR.out.rx.row.cell, ixC_cut _ _ _ _ (by rw [HR.out.rx.d7]; exact hk7), hD]
              have f1 : wr.cell? ⟨w.heap.size + 1 + 1 + 1, 1 + k, none⟩ = some (.int .i64 (ix L k)) := by
                have := HR.out.atk hk7
                rw [fink_at _ _ _ hk7] at this
                exact this
              have g1 : wr.frozen? ⟨w.heap.size + 1 + 1 + 1, 1 + k, none⟩ = false := HR.out.ba.free (1 + k)
              have OK4 := hide (show Ra base w (wr.setCell ⟨w.heap.size + 1 + 1 + 1, 1 + k, none⟩ (.int .i64 (max (ix L k) D))).drew g (.slice A j a) (.slice B j b) (.slice C j cc) x r s c (m, fink x.d r L (k + 1)) from by
                have h := (HR.out.putk k (max (ix L k) D)).drew
                have e : (fink x.d r L k).set k (max (ix L k) D) = fink x.d r L (k + 1) := by
                  rw [← fink_step]
                  unfold cutI
                  rw [if_neg HKR.out, HD.out]
                rwa [e] at h)
              clear HR hD
              go_region
              clear f1 g1 d0 y0
              generalize World.drew (World.setCell wr _ _) = wv at OK4 ⊢
              go_wp2
              go_roundw
              case rel => exact ⟨k + 1, by omega, by go_num, OK4⟩
              case measure => simp [intOf]; omega
          · obtain rfl : k = 7 := by omega
            have HEQ := hide (show (attrX x r s c).1 :: (attrX x r s c).2 = m :: fink x.d r L 7 by unfold attrX; rw [HACC.out, ← HM.out, ← HL.out, fink_7 _ _ _ HO7.out])
            have hln := fink_len x.d r L 7
            obtain ⟨M, hM⟩ : ∃ M, m :: fink x.d r L 7 = M := ⟨_, rfl⟩
            have hM8 : M.length = 8 := by rw [← hM, List.length_cons, hln]
            have HROW := hide (show Row wr (w.heap.size + 3) 34 (cA M) from hM ▸ HR.out.ba)
            have HRES := hide (HR.out.br)
            have HLOW := hide (HR.out.low)
            rw [hM] at HEQ
            clear HR hM hln y0
            obtain ⟨z0, z1, z2, z3, z4, z5, z6, z7, rfl⟩ := len8 hM8
            obtain ⟨e0, e1, e2, e3, e4, e5, e6, e7⟩ := HROW.out.eight
            replace e0 : wr.cell? ⟨w.heap.size + 1 + 1 + 1, 0, none⟩ = some (.int .i64 z0) := e0
            replace e1 : wr.cell? ⟨w.heap.size + 1 + 1 + 1, 1, none⟩ = some (.int .i64 z1) := e1
            replace e2 : wr.cell? ⟨w.heap.size + 1 + 1 + 1, 2, none⟩ = some (.int .i64 z2) := e2
            replace e3 : wr.cell? ⟨w.heap.size + 1 + 1 + 1, 3, none⟩ = some (.int .i64 z3) := e3
            replace e4 : wr.cell? ⟨w.heap.size + 1 + 1 + 1, 4, none⟩ = some (.int .i64 z4) := e4
            replace e5 : wr.cell? ⟨w.heap.size + 1 + 1 + 1, 5, none⟩ = some (.int .i64 z5) := e5
            replace e6 : wr.cell? ⟨w.heap.size + 1 + 1 + 1, 6, none⟩ = some (.int .i64 z6) := e6
            replace e7 : wr.cell? ⟨w.heap.size + 1 + 1 + 1, 7, none⟩ = some (.int .i64 z7) := e7
            obtain ⟨k0, k1, k2, k3, k4, k5, k6, k7⟩ := HRES.out.eight
            replace k0 : wr.cell? ⟨w.heap.size + 1 + 1, 0, none⟩ = some (.int .i64 0) := k0
            replace k1 : wr.cell? ⟨w.heap.size + 1 + 1, 1, none⟩ = some (.int .i64 0) := k1
            replace k2 : wr.cell? ⟨w.heap.size + 1 + 1, 2, none⟩ = some (.int .i64 0) := k2
            replace k3 : wr.cell? ⟨w.heap.size + 1 + 1, 3, none⟩ = some (.int .i64 0) := k3
            replace k4 : wr.cell? ⟨w.heap.size + 1 + 1, 4, none⟩ = some (.int .i64 0) := k4
            replace k5 : wr.cell? ⟨w.heap.size + 1 + 1, 5, none⟩ = some (.int .i64 0) := k5
            replace k6 : wr.cell? ⟨w.heap.size + 1 + 1, 6, none⟩ = some (.int .i64 0) := k6
            replace k7 : wr.cell? ⟨w.heap.size + 1 + 1, 7, none⟩ = some (.int .i64 0) := k7
            obtain ⟨g0, g1, g2, g3, g4, g5, g6, g7⟩ := HRES.out.free8
            clear hM8
            go_wp2
            exact bodyPost_ret (results_at8 Try.results18 rfl (row_eight HRES.out _ _ _ _ _ _ _ _)) rfl ⟨by first | (rw [HEQ.out]; rfl) | (rw [HRQ.out, HEQ.out]; rfl), below_eight HLOW.out (by omega) _ _ _ _ _ _ _ _⟩
      case true =>
        obtain ⟨r0, r7, s1, sm⟩ := rightI_is HTR.out
        have HRR := hide r0
        obtain ⟨k, rfl⟩ : ∃ k : Nat, r = k := ⟨r.toNat, by omega⟩
        have hk7 : k < 7 := by omega
        have hk7i : (k : Int) < 7 := by omega
        have hk0i : (0 : Int) ≤ (k : Int) := by omega
        go_upto_region 11 with (first | (go_at_call 31; with_reducible refine (HRI.out _).mono ?_; rintro ea wa ⟨rfl, HBA⟩))
        have HA := hide (HR.out.below HBA)
        clear HR HRI HBA x0 y0 y1
        have y0 : wa.cell? ⟨w.heap.size, 0, none⟩ = some (.int .i64 (k : Int)) := HA.out.bi.cell 0
        have y1 : wa.cell? ⟨w.heap.size, 1, none⟩ = some (.int .i64 s) := HA.out.bi.cell 1
        have f1 : wa.cell? ⟨w.heap.size + 1 + 1 + 1, 1 + k, none⟩ = some (.int .i64 (ix acc.2 k)) := HA.out.atk hk7
        have g1 : wa.frozen? ⟨w.heap.size + 1 + 1 + 1, 1 + k, none⟩ = false := HA.out.ba.free (1 + k)
        have hmn : min s 1073741824 = s := by omega
        have HO := hide (show Ra base w (wa.setCell ⟨w.heap.size + 1 + 1 + 1, 1 + k, none⟩ (.int .i64 (max (ix acc.2 k) (s - 1)))).drew g (.slice A j a) (.slice B j b) (.slice C j cc) x (k : Int) s c (acc.1, ownL (k : Int) s acc.2) from by
          have h := (HA.out.putk k (max (ix acc.2 k) (s - 1))).drew
          unfold ownL
          rw [if_pos HTR.out, Int.toNat_natCast]
          exact h)
        clear HA
        go_region
        clear f1 g1 y0 y1
        generalize World.drew (World.setCell wa _ _) = wb at HO ⊢
        clear hk7 hk7i hk0i hmn r0 r7 s1 sm
        obtain ⟨r, hr⟩ : ∃ r : Int, (k : Int) = r := ⟨_, rfl⟩
        have HRQ := hide hr
        rw [hr] at HO HACC HTR ⊢
        clear hr HRR
        obtain ⟨m, hm⟩ : ∃ m, acc.1 = m := ⟨_, rfl⟩
        have HM := hide hm
        rw [hm] at HO
        clear hm
        obtain ⟨L, hL⟩ : ∃ L, ownL r s acc.2 = L := ⟨_, rfl⟩
        have HL := hide hL
        rw [hL] at HO
        have HLL := hide (show L.length = 7 by rw [← hL, ownL_len]; exact HO7.out)
        clear hL
        go_wp2
        go_loopw [10] (fun i wr => ∃ k : Nat, k ≤ 7 ∧ i = .int .i64 k ∧ Hid (Ra base w wr g (.slice A j a) (.slice B j b) (.slice C j cc) x r s c (m, fink x.d r L k))) (fun i _ => 7 - (intOf i).toNat)
        case atStart => exact ⟨0, by omega, rfl, hide (by rw [fink_0 _ _ HLL.out]; exact HO.out)⟩
        case round =>
          clear HO
          obtain ⟨k, hk, rfl, HR⟩ := hrel
          have y0 : wr.cell? ⟨w.heap.size, 0, none⟩ = some (.int .i64 r) := HR.out.bi.cell 0
          by_cases hk7 : k < 7
          · have hk7i : (k : Int) < 7 := by omega
            have hk0i : (0 : Int) ≤ (k : Int) := by omega
            by_cases hkr : (k : Int) = r
            · have HKR := hide hkr
              subst hkr
              go_wp2
              go_roundw
              case rel => exact ⟨k + 1, by omega, by go_num, hide (by rw [fink_same _ _ _ hk7 rfl]; exact HR.out)⟩
              case measure => simp [intOf]; omega
            · have HKR := hide hkr
              go_upto_region 16 with (fail)
              obtain ⟨D, hD⟩ : ∃ D, ix x.d k = D := ⟨_, rfl⟩
              have HD := hide hD
              have d0 : wr.cell? ⟨g, 3 + k, none⟩ = some (.int .i64 D) := by rw [HR.out.rx.row.cell, ixC_cut _ _ _ _ (by rw [HR.out.rx.d7]; exact hk7), hD]
              have f1 : wr.cell? ⟨w.heap.size + 1 + 1 + 1, 1 + k, none⟩ = some (.int .i64 (ix L k)) := by
                have := HR.out.atk hk7
                rw [fink_at _ _ _ hk7] at this
                exact this
              have g1 : wr.frozen? ⟨w.heap.size + 1 + 1 + 1, 1 + k, none⟩ = false := HR.out.ba.free (1 + k)
              have OK4 := hide (show Ra base w (wr.setCell ⟨w.heap.size + 1 + 1 + 1, 1 + k, none⟩ (.int .i64 (max (ix L k) D))).drew g (.slice A j a) (.slice B j b) (.slice C j cc) x r s c (m, fink x.d r L (k + 1)) from by
                have h := (HR.out.putk k (max (ix L k) D)).drew
                have e : (fink x.d r L k).set k (max (ix L k) D) = fink x.d r L (k + 1) := by
                  rw [← fink_step]
                  unfold cutI
                  rw [if_neg HKR.out, HD.out]
                rwa [e] at h)
              clear HR hD
              go_region
              clear f1 g1 d0 y0
              generalize World.drew (World.setCell wr _ _) = wv at OK4 ⊢
              go_wp2
              go_roundw
              case rel => exact ⟨k + 1, by omega, by go_num, OK4⟩
              case measure => simp [intOf]; omega
          · obtain rfl : k = 7 := by omega
            have HEQ := hide (show (attrX x r s c).1 :: (attrX x r s c).2 = m :: fink x.d r L 7 by unfold attrX; rw [HACC.out, ← HM.out, ← HL.out, fink_7 _ _ _ HO7.out])
            have hln := fink_len x.d r L 7
            obtain ⟨M, hM⟩ : ∃ M, m :: fink x.d r L 7 = M := ⟨_, rfl⟩
            have hM8 : M.length = 8 := by rw [← hM, List.length_cons, hln]
            have HROW := hide (show Row wr (w.heap.size + 3) 34 (cA M) from hM ▸ HR.out.ba)
            have HRES := hide (HR.out.br)
            have HLOW := hide (HR.out.low)
            rw [hM] at HEQ
            clear HR hM hln y0
            obtain ⟨z0, z1, z2, z3, z4, z5, z6, z7, rfl⟩ := len8 hM8
            obtain ⟨e0, e1, e2, e3, e4, e5, e6, e7⟩ := HROW.out.eight
            replace e0 : wr.cell? ⟨w.heap.size + 1 + 1 + 1, 0, none⟩ = some (.int .i64 z0) := e0
            replace e1 : wr.cell? ⟨w.heap.size + 1 + 1 + 1, 1, none⟩ = some (.int .i64 z1) := e1
            replace e2 : wr.cell? ⟨w.heap.size + 1 + 1 + 1, 2, none⟩ = some (.int .i64 z2) := e2
            replace e3 : wr.cell? ⟨w.heap.size + 1 + 1 + 1, 3, none⟩ = some (.int .i64 z3) := e3
            replace e4 : wr.cell? ⟨w.heap.size + 1 + 1 + 1, 4, none⟩ = some (.int .i64 z4) := e4
            replace e5 : wr.cell? ⟨w.heap.size + 1 + 1 + 1, 5, none⟩ = some (.int .i64 z5) := e5
            replace e6 : wr.cell? ⟨w.heap.size + 1 + 1 + 1, 6, none⟩ = some (.int .i64 z6) := e6
            replace e7 : wr.cell? ⟨w.heap.size + 1 + 1 + 1, 7, none⟩ = some (.int .i64 z7) := e7
            obtain ⟨k0, k1, k2, k3, k4, k5, k6, k7⟩ := HRES.out.eight
            replace k0 : wr.cell? ⟨w.heap.size + 1 + 1, 0, none⟩ = some (.int .i64 0) := k0
            replace k1 : wr.cell? ⟨w.heap.size + 1 + 1, 1, none⟩ = some (.int .i64 0) := k1
            replace k2 : wr.cell? ⟨w.heap.size + 1 + 1, 2, none⟩ = some (.int .i64 0) := k2
            replace k3 : wr.cell? ⟨w.heap.size + 1 + 1, 3, none⟩ = some (.int .i64 0) := k3
            replace k4 : wr.cell? ⟨w.heap.size + 1 + 1, 4, none⟩ = some (.int .i64 0) := k4
            replace k5 : wr.cell? ⟨w.heap.size + 1 + 1, 5, none⟩ = some (.int .i64 0) := k5
            replace k6 : wr.cell? ⟨w.heap.size + 1 + 1, 6, none⟩ = some (.int .i64 0) := k6
            replace k7 : wr.cell? ⟨w.heap.size + 1 + 1, 7, none⟩ = some (.int .i64 0) := k7
            obtain ⟨g0, g1, g2, g3, g4, g5, g6, g7⟩ := HRES.out.free8
            clear hM8
            go_wp2
            exact bodyPost_ret (results_at8 Try.results18 rfl (row_eight HRES.out _ _ _ _ _ _ _ _)) rfl ⟨by first | (rw [HEQ.out]; rfl) | (rw [HRQ.out, HEQ.out]; rfl), below_eight HLOW.out (by omega) _ _ _ _ _ _ _ _⟩
end Go.Proofs.Ytfihcgimgngmhaa
