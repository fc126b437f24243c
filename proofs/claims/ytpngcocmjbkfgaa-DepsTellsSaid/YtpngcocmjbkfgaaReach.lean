/- Reach of package deps. No condition. -/
import Derived.Test.YtpngcocmjbkfgaaArr
import Derived.Test.YtpngcocmjbkfgaaSp
import Derived.Deep.DeepCutAuto
namespace Go.Proofs.Ytpngcocmjbkfgaa
open Go.RowKit
/-- A row of slots and an instance, boxed. -/
structure Rs (W w : World) (g h : Nat) (t u : TypeId) (d1 d2 d3 d4 d5 d6 d7 r s : Int) : Prop where
  low : Below W.heap.size W w
  d : Row w g t #[.int .i64 d1, .int .i64 d2, .int .i64 d3, .int .i64 d4, .int .i64 d5, .int .i64 d6, .int .i64 d7]
  i : Row w h u #[.int .i64 r, .int .i64 s]
theorem Rs.step {W w w' : World} {g h : Nat} {t u : TypeId} {d1 d2 d3 d4 d5 d6 d7 r s : Int} (k : Rs W w g h t u d1 d2 d3 d4 d5 d6 d7 r s) (hb : Below w.heap.size w w') : Rs W w' g h t u d1 d2 d3 d4 d5 d6 d7 r s :=
  ⟨kept_trans k.low hb, k.d.below hb k.d.lt, k.i.below hb k.i.lt⟩
set_option maxHeartbeats 1000000 in
theorem reach_any (d1 d2 d3 d4 d5 d6 d7 r s : Int) (w : World) : Calls Try.prog 14 #[.agg #[.int .i64 d1, .int .i64 d2, .int .i64 d3, .int .i64 d4, .int .i64 d5, .int .i64 d6, .int .i64 d7], .agg #[.int .i64 r, .int .i64 s]] w fun e w' =>
    e = .returned (.bool (reachB [d1, d2, d3, d4, d5, d6, d7] r s)) ∧ Below w.heap.size w w' := by
  have hr := hide fun w => right_any r s w
  have st0 := hide (show Rs w ((w.alloc (.cells #[.int .i64 d1, .int .i64 d2, .int .i64 d3, .int .i64 d4, .int .i64 d5, .int .i64 d6, .int .i64 d7] 23)).alloc (.cells #[.int .i64 r, .int .i64 s] 34)).drew w.heap.size (w.heap.size + 1) 23 34 d1 d2 d3 d4 d5 d6 d7 r s from
    ⟨kept_drewN (kept_alloc (kept_alloc (kept_refl w) _) _) 1, ((Row.new w _ _).alloc _).drew, by have h := (Row.new (w.alloc (.cells #[.int .i64 d1, .int .i64 d2, .int .i64 d3, .int .i64 d4, .int .i64 d5, .int .i64 d6, .int .i64 d7] 23)) 34 #[.int .i64 r, .int .i64 s]).drew; simpa using h⟩)
  by_cases hri : rightI r s = true
  · obtain ⟨⟨r0, r7⟩, s1, s2⟩ := rightI_says hri
    obtain ⟨k, rfl⟩ : ∃ k : Nat, r = k := ⟨r.toNat, by omega⟩
    have hk : k < 7 := by omega
    have he : reachB [d1, d2, d3, d4, d5, d6, d7] k s = decide (s ≤ ix [d1, d2, d3, d4, d5, d6, d7] k) := by unfold reachB; rw [hri, Int.toNat_natCast]; rfl
    rw [he]
    rw [hri] at hr
    have ST := hide (fun w' (q : Rs w w' w.heap.size (w.heap.size + 1) 23 34 d1 d2 d3 d4 d5 d6 d7 k s) => row_ix q.d k hk)
    generalize ix [d1, d2, d3, d4, d5, d6, d7] k = x at ST ⊢
    clear he hri
    go_enter Try.func14, Try.ntmps14
    go_upto_region 1 with (fail)
    refine wp_region_sp (fun w' => Rs w w' w.heap.size (w.heap.size + 1) 23 34 d1 d2 d3 d4 d5 d6 d7 k s) (by kernel_rfl) (by kernel_rfl) st0.out ?_
    generalize hS : (fun w' => Rs w w' w.heap.size (w.heap.size + 1) 23 34 d1 d2 d3 d4 d5 d6 d7 k s) = S
    have l0 : ∀ q : Sp S, q.w.cell? ⟨w.heap.size, k, none⟩ = some (.int .i64 x) := by subst hS; exact fun q => ST.out _ q.ok
    have l1 : ∀ q : Sp S, q.w.cell? ⟨w.heap.size + 1, 0, none⟩ = some (.int .i64 k) := by subst hS; exact fun q => q.ok.i.cell 0
    have l2 : ∀ q : Sp S, q.w.cell? ⟨w.heap.size + 1, 1, none⟩ = some (.int .i64 s) := by subst hS; exact fun q => q.ok.i.cell 1
    have ne : Nonempty (Sp S) := by subst hS; exact ⟨⟨_, st0.out⟩⟩
    have STEP : Hid (∀ w w', S w → Below w.heap.size w w' → S w') := by subst hS; exact fun _ _ h hb => h.step hb
    have LOW : Hid (∀ q : Sp S, Below w.heap.size w q.w) := by subst hS; exact fun q => q.ok.low
    clear hS ST
    repeat (
      refine wpQuiet_step (fun K hK => ?_)
      go_simp
      first
        | (refine hK _ ?_; clear hK K)
        | (apply Exists.intro; refine ⟨fun _ => ?_, hK _ ?_⟩; (go_at_call 31; exact sp_call STEP.out _ (hr.out _)); clear hK K))
    refine wpQuiet_nil ?_
    intro q
    have low := LOW.out q
    generalize q.w = wq at low ⊢
    go_wp2
    go_ret
    exact ⟨rfl, low⟩
  · have hri' : rightI r s = false := by simpa using hri
    have he : reachB [d1, d2, d3, d4, d5, d6, d7] r s = false := by unfold reachB; rw [hri']; rfl
    rw [he]
    rw [hri'] at hr
    clear he hri hri'
    go_enter Try.func14, Try.ntmps14
    go_upto_region 1 with (fail)
    refine wp_region_sp (fun w' => Rs w w' w.heap.size (w.heap.size + 1) 23 34 d1 d2 d3 d4 d5 d6 d7 r s) (by kernel_rfl) (by kernel_rfl) st0.out ?_
    generalize hS : (fun w' => Rs w w' w.heap.size (w.heap.size + 1) 23 34 d1 d2 d3 d4 d5 d6 d7 r s) = S
    have l1 : ∀ q : Sp S, q.w.cell? ⟨w.heap.size + 1, 0, none⟩ = some (.int .i64 r) := by subst hS; exact fun q => q.ok.i.cell 0
    have l2 : ∀ q : Sp S, q.w.cell? ⟨w.heap.size + 1, 1, none⟩ = some (.int .i64 s) := by subst hS; exact fun q => q.ok.i.cell 1
    have ne : Nonempty (Sp S) := by subst hS; exact ⟨⟨_, st0.out⟩⟩
    have STEP : Hid (∀ w w', S w → Below w.heap.size w w' → S w') := by subst hS; exact fun _ _ h hb => h.step hb
    have LOW : Hid (∀ q : Sp S, Below w.heap.size w q.w) := by subst hS; exact fun q => q.ok.low
    clear hS
    repeat (
      refine wpQuiet_step (fun K hK => ?_)
      go_simp
      first
        | (refine hK _ ?_; clear hK K)
        | (apply Exists.intro; refine ⟨fun _ => ?_, hK _ ?_⟩; (go_at_call 31; exact sp_call STEP.out _ (hr.out _)); clear hK K))
    refine wpQuiet_nil ?_
    intro q
    have low := LOW.out q
    generalize q.w = wq at low ⊢
    go_wp2
    go_ret
    exact ⟨rfl, low⟩
end Go.Proofs.Ytpngcocmjbkfgaa
