/- Package inst's comparison. No condition. -/
import Derived.Test.YtnbknhgfjjgcjaaInst
import Derived.Test.YtnbknhgfjjgcjaaBlk
import Derived.Deep.DeepCutAuto
namespace Go.Proofs.Ytnbknhgfjjgcjaa
open Go.RowKit
set_option maxHeartbeats 400000 in
theorem cmp_any (a1 a2 b1 b2 : Int) (w : World) : Calls Try.prog 27 #[.agg #[.int .i64 a1, .int .i64 a2], .agg #[.int .i64 b1, .int .i64 b2]] w fun e w' =>
    e = .returned (.int .i64 (cmpP (a1, a2) (b1, b2))) ∧ w' = (((w.alloc (.cells #[.int .i64 a1, .int .i64 a2] 25)).alloc (.cells #[.int .i64 b1, .int .i64 b2] 25)).drew.alloc (.cells #[.int .i64 (cmpI a1 b1), .int .i64 (cmpI a2 b2)] 3)) := by
  show Calls _ _ _ w fun e w' => e = .returned (.int .i64 (orI (cmpI a1 b1) (cmpI a2 b2))) ∧ _
  have c1 := fun W => compare_any a1 b1 W
  have c2 := fun W => compare_any a2 b2 W
  generalize cmpI a1 b1 = x at c1 ⊢
  generalize cmpI a2 b2 = y at c2 ⊢
  go_enter Try.func27, Try.ntmps27
  go_upto_region 1 with (fail)
  have hs : w.heap.size + 1 = (w.alloc (.cells #[.int .i64 a1, .int .i64 a2] 25)).heap.size := by simp
  have R1 := ((Row.new w 25 #[.int .i64 a1, .int .i64 a2]).alloc (.cells #[.int .i64 b1, .int .i64 b2] 25)).drew
  have R2 := (Row.new (w.alloc (.cells #[.int .i64 a1, .int .i64 a2] 25)) 25 #[.int .i64 b1, .int .i64 b2]).drew
  rw [← hs] at R2
  clear hs
  refine wp_region_still_tail 10 (by kernel_rfl) (by kernel_rfl) ?_
  change wpStill _ _ ((w.alloc (.cells #[.int .i64 a1, .int .i64 a2] 25)).alloc (.cells #[.int .i64 b1, .int .i64 b2] 25)).drew (fun a' => wpList _ _ _ _ a' ((w.alloc (.cells #[.int .i64 a1, .int .i64 a2] 25)).alloc (.cells #[.int .i64 b1, .int .i64 b2] 25)).drew) _ _
  obtain ⟨W, hW⟩ : ∃ W, ((w.alloc (.cells #[.int .i64 a1, .int .i64 a2] 25)).alloc (.cells #[.int .i64 b1, .int .i64 b2] 25)).drew = W := ⟨_, rfl⟩
  rw [hW] at R1 R2 ⊢
  have HW := hide hW
  clear hW
  have f0 : W.cell? ⟨w.heap.size, 0, none⟩ = some (.int .i64 a1) := R1.cell 0
  have f1 : W.cell? ⟨w.heap.size, 1, none⟩ = some (.int .i64 a2) := R1.cell 1
  have g0 : W.cell? ⟨w.heap.size + 1, 0, none⟩ = some (.int .i64 b1) := R2.cell 0
  have g1 : W.cell? ⟨w.heap.size + 1, 1, none⟩ = some (.int .i64 b2) := R2.cell 1
  clear R1 R2
  simp only [List.take_succ_cons, List.take_zero, List.drop_succ_cons, List.drop_zero]
  still_step
  still_step
  still_step
  still_step
  still_call ((c1 _).mono fun _ _ ⟨h, k⟩ => ⟨h, k.symm⟩)
  still_step
  still_step
  still_step
  still_step
  still_call ((c2 _).mono fun _ _ ⟨h, k⟩ => ⟨h, k.symm⟩)
  refine wpStill_nil ?_
  go_wp2_with (go_at_call 32; refine (or_any _ x y _ (by simp) (by simp)).mono ?_; rintro e w' ⟨rfl, rfl⟩)
  go_ret
  exact ⟨rfl, by rw [HW.out]⟩
theorem below_two (w : World) (o p : Obj) : Below w.heap.size w ((w.alloc o).alloc p) := ((Below.refl _ _).alloc (Nat.le_refl _) _).alloc (by simp) _
theorem cmp_below (a1 a2 b1 b2 : Int) (w : World) : Calls Try.prog 27 #[.agg #[.int .i64 a1, .int .i64 a2], .agg #[.int .i64 b1, .int .i64 b2]] w fun e w' => e = .returned (.int .i64 (cmpP (a1, a2) (b1, b2))) ∧ Below w.heap.size w w' :=
  (cmp_any a1 a2 b1 b2 w).mono fun e w' ⟨h1, h2⟩ => ⟨h1, by
    subst h2
    have := below_two w (.cells #[.int .i64 a1, .int .i64 a2] 25) (.cells #[.int .i64 b1, .int .i64 b2] 25)
    exact kept_alloc (kept_drewN this 1) _⟩
theorem less_at (a1 a2 b1 b2 : Int) (w : World) : Calls Try.prog 15 #[.agg #[.int .i64 a1, .int .i64 a2], .agg #[.int .i64 b1, .int .i64 b2]] w fun e w' =>
    e = .returned (.bool (ltP (a1, a2) (b1, b2))) ∧ Below w.heap.size w w' := by
  have hl := hide (cmp_lt (a1, a2) (b1, b2))
  have hc := fun W => cmp_below a1 a2 b1 b2 W
  generalize cmpP (a1, a2) (b1, b2) = c at hl hc
  generalize ltP (a1, a2) (b1, b2) = l at hl ⊢
  have hb := below_two w (.cells #[.int .i64 a1, .int .i64 a2] 25) (.cells #[.int .i64 b1, .int .i64 b2] 25)
  have HB := hide hb
  clear hb
  go_enter Try.func15, Try.ntmps15
  go_wp2_with (go_at_call 27; refine (hc _).mono ?_; rintro e w' ⟨rfl, hw⟩)
  go_ret
  exact ⟨ret_bool hl.out, kept_trans HB.out hw⟩
def rightI (r s : Int) : Bool := repB r && decide (1 ≤ s) && decide (s ≤ 1073741824)
def rightB (e r : Int) : Bool := repB r && decide (0 ≤ e) && decide (e ≤ 1073741824)
theorem right_any (r s : Int) (w : World) : Calls Try.prog 19 #[.agg #[.int .i64 r, .int .i64 s]] w fun e w' => e = .returned (.bool (rightI r s)) ∧ Below w.heap.size w w' := by
  have hc := fun W => isreplica_any r W
  unfold rightI
  generalize repB r = p at hc ⊢
  go_enter Try.func19, Try.ntmps19
  go_wp2_with (go_at_call 28; refine (hc _).mono ?_; rintro e w' ⟨rfl, rfl⟩)
  all_goals (go_ret; exact ⟨ret_bool (by first | (simp [*]; done) | (simp [*] <;> omega)), (Below.refl _ _).alloc (Nat.le_refl _) _⟩)
theorem rightballot_any (e r : Int) (w : World) : Calls Try.prog 22 #[.agg #[.int .i64 e, .int .i64 r]] w fun y w' => y = .returned (.bool (rightB e r)) ∧ Below w.heap.size w w' := by
  have hc := fun W => isreplica_any r W
  unfold rightB
  generalize repB r = p at hc ⊢
  go_enter Try.func22, Try.ntmps22
  go_wp2_with (go_at_call 28; refine (hc _).mono ?_; rintro e w' ⟨rfl, rfl⟩)
  all_goals (go_ret; exact ⟨ret_bool (by first | (simp [*]; done) | (simp [*] <;> omega)), (Below.refl _ _).alloc (Nat.le_refl _) _⟩)
set_option maxHeartbeats 1000000 in
theorem refless_any (a b c d : Int) (w : World) :
    Calls Try.prog 20 #[.agg #[.int .i64 a, .int .i64 b], .agg #[.int .i64 c, .int .i64 d]] w fun e w' => e = .returned (.bool (ltP (a, b) (c, d))) ∧ Below w.heap.size w w' := by
  show Calls _ _ _ w fun e w' => e = .returned (.bool (decide (a < c) || (a == c && decide (b < d)))) ∧ Below w.heap.size w w'
  go_enter Try.func20, Try.ntmps20
  go_wp2
  all_goals (go_ret; exact ⟨ret_bool (by first | (simp [*]; done) | (simp [*] <;> omega)), below_two _ _ _⟩)
set_option maxHeartbeats 1000000 in
theorem refbelow_any (a b c d : Int) (w : World) :
    Calls Try.prog 21 #[.agg #[.int .i64 a, .int .i64 b], .agg #[.int .i64 c, .int .i64 d]] w fun e w' => e = .returned (.bool (ltP (a, b) (c, d))) ∧ Below w.heap.size w w' := by
  show Calls _ _ _ w fun e w' => e = .returned (.bool (decide (a < c) || (a == c && decide (b < d)))) ∧ Below w.heap.size w w'
  go_enter Try.func21, Try.ntmps21
  go_wp2
  all_goals (go_ret; exact ⟨ret_bool (by first | (simp [*]; done) | (simp [*] <;> omega)), below_two _ _ _⟩)
set_option maxHeartbeats 1000000 in
theorem below_any (a b c d : Int) (w : World) :
    Calls Try.prog 16 #[.agg #[.int .i64 a, .int .i64 b], .agg #[.int .i64 c, .int .i64 d]] w fun e w' => e = .returned (.bool (ltP (a, b) (c, d))) ∧ Below w.heap.size w w' := by
  show Calls _ _ _ w fun e w' => e = .returned (.bool (decide (a < c) || (a == c && decide (b < d)))) ∧ Below w.heap.size w w'
  go_enter Try.func16, Try.ntmps16
  go_wp2
  all_goals (go_ret; exact ⟨ret_bool (by first | (simp [*]; done) | (simp [*] <;> omega)), below_two _ _ _⟩)
set_option maxHeartbeats 400000 in
theorem next_any (e r q : Int) (w : World) :
    Calls Try.prog 17 #[.agg #[.int .i64 e, .int .i64 r], .int .i64 q] w fun y w' => y = .returned (.agg #[.int .i64 (wrap64 (e + 1)), .int .i64 q]) ∧ Below w.heap.size w w' := by
  go_enter Try.func17, Try.ntmps17
  go_wp2
  exact bodyPost_ret (v := .agg #[.int .i64 (wrap64 (e + 1)), .int .i64 q]) (by simp [results, Try.results17, go_sem]) rfl ⟨rfl, below_two _ _ _⟩
end Go.Proofs.Ytnbknhgfjjgcjaa
