/- Intact of attributes. Conditions: the slices lie in memory, their lengths have room. -/
import Derived.Test.YtpngcocmjbkfgaaRoom8
namespace Go.Proofs.Ytpngcocmjbkfgaa
open Go.RowKit
set_option maxRecDepth 100000 in
set_option maxHeartbeats 4000000 in
theorem intact8_any (A B : Option Addr) (n m c d : Nat) (ys : List (List Int)) (m0 m1 m2 m3 m4 m5 m6 m7 : Int) (w : World) (hn : m + 80 = n) (hm : ys.length = m) (ay : All 8 ys) (hz : Its 8 w A (ys ++ List.replicate 80 [m0, m1, m2, m3, m4, m5, m6, m7])) (hy : Its 8 w B ys) (ln : n ≤ c) (lc : c ≤ 4611686018427387904) (lm : m ≤ 4611686018427387904) :
    Calls Try.prog 23 #[.slice A n c, .slice B m d, .agg #[.int .i64 m0, .int .i64 m1, .int .i64 m2, .int .i64 m3, .int .i64 m4, .int .i64 m5, .int .i64 m6, .int .i64 m7]] w fun e w' => e = .returned (.bool true) ∧ Below w.heap.size w w' := by
  subst hn hm
  have hlen : (ys ++ List.replicate 80 [m0, m1, m2, m3, m4, m5, m6, m7]).length = ys.length + 80 := by simp
  have hat : ∀ k, ys.length ≤ k → k < ys.length + 80 → (ys ++ List.replicate 80 [m0, m1, m2, m3, m4, m5, m6, m7])[k]? = some [m0, m1, m2, m3, m4, m5, m6, m7] := fun k h1 h2 => by
    rw [List.getElem?_append_right h1, List.getElem?_replicate, if_pos (by omega)]
  have hz1 := hz.alloc (.cells #[.int .i64 m0, .int .i64 m1, .int .i64 m2, .int .i64 m3, .int .i64 m4, .int .i64 m5, .int .i64 m6, .int .i64 m7] 25)
  have hy1 := hy.alloc (.cells #[.int .i64 m0, .int .i64 m1, .int .i64 m2, .int .i64 m3, .int .i64 m4, .int .i64 m5, .int .i64 m6, .int .i64 m7] 25)
  have hy2 := hz1.take ys.length
  rw [List.take_left] at hy2
  have hsame := hide (fun c' => same_attr A B ys.length ys.length c' d ys ys (w.alloc (.cells #[.int .i64 m0, .int .i64 m1, .int .i64 m2, .int .i64 m3, .int .i64 m4, .int .i64 m5, .int .i64 m6, .int .i64 m7] 25)) rfl rfl ay ay hy2 hy1 lm lm)
  have hM := hide (show Row (w.alloc (.cells #[.int .i64 m0, .int .i64 m1, .int .i64 m2, .int .i64 m3, .int .i64 m4, .int .i64 m5, .int .i64 m6, .int .i64 m7] 25)) w.heap.size 25 (cA [m0, m1, m2, m3, m4, m5, m6, m7]) from Row.new _ _ _)
  have hB := hide (kept_alloc (kept_refl w) (.cells #[.int .i64 m0, .int .i64 m1, .int .i64 m2, .int .i64 m3, .int .i64 m4, .int .i64 m5, .int .i64 m6, .int .i64 m7] 25))
  have HAT := hide (fun k h1 h2 => hz1.at_ (hat k h1 h2))
  have hneq : ∀ w, (binOp .neq 25 (.agg #[.int .i64 m0, .int .i64 m1, .int .i64 m2, .int .i64 m3, .int .i64 m4, .int .i64 m5, .int .i64 m6, .int .i64 m7]) (.agg #[.int .i64 m0, .int .i64 m1, .int .i64 m2, .int .i64 m3, .int .i64 m4, .int .i64 m5, .int .i64 m6, .int .i64 m7])).run Try.prog w = .ok (.bool false) w := fun w => by
    rw [neq_attr]; simp
  have hd : decide (ys = ys) = true := decide_eq_true rfl
  rw [hd] at hsame
  clear hz hy hz1 hy1 hy2 ay hlen hat hd
  go_enter Try.func23, Try.ntmps23
  go_upto_region 1 with (fail)
  generalize World.alloc w _ = w1 at hsame hM hB HAT ⊢
  go_wp2_with (go_at_call 33; refine (hsame.out _).mono ?_; rintro e w' ⟨rfl, q, rfl⟩)
  go_loopw [7] (fun i wr => ∃ k q : Nat, ys.length ≤ k ∧ k ≤ ys.length + 80 ∧ i = .int .i64 k ∧ wr = w1.drewN q) (fun i _ => ys.length + 80 - (intOf i).toNat)
  case atStart => exact ⟨ys.length, _, by omega, by omega, rfl, rfl⟩
  case round =>
    obtain ⟨k, q, hk0, hk, rfl, rfl⟩ := hrel
    by_cases hlt : k < ys.length + 80
    · have hlt' : (k : Int) < (ys.length : Int) + 80 := by omega
      obtain ⟨b1, o1, rfl, _, hc⟩ := HAT.out k hk0 hlt
      have e0 : w1.cell? ⟨b1, o1 + k * 8, none⟩ = some (.int .i64 m0) := hc 0 (by omega)
      have e1 : w1.cell? ⟨b1, o1 + k * 8 + 1, none⟩ = some (.int .i64 m1) := hc 1 (by omega)
      have e2 : w1.cell? ⟨b1, o1 + k * 8 + 2, none⟩ = some (.int .i64 m2) := hc 2 (by omega)
      have e3 : w1.cell? ⟨b1, o1 + k * 8 + 3, none⟩ = some (.int .i64 m3) := hc 3 (by omega)
      have e4 : w1.cell? ⟨b1, o1 + k * 8 + 4, none⟩ = some (.int .i64 m4) := hc 4 (by omega)
      have e5 : w1.cell? ⟨b1, o1 + k * 8 + 5, none⟩ = some (.int .i64 m5) := hc 5 (by omega)
      have e6 : w1.cell? ⟨b1, o1 + k * 8 + 6, none⟩ = some (.int .i64 m6) := hc 6 (by omega)
      have e7 : w1.cell? ⟨b1, o1 + k * 8 + 7, none⟩ = some (.int .i64 m7) := hc 7 (by omega)
      have f := eight_lit8 hM.out
      clear hc
      go_wp2
      go_quiet (fail)
      go_wp2
      go_roundw
      case rel => exact ⟨k + 1, _, by omega, by omega, by go_num, rfl⟩
      case measure => simp [intOf]; omega
    · obtain rfl : k = ys.length + 80 := by omega
      go_wp2
      go_ret
      exact ⟨rfl, kept_drewN hB.out _⟩
end Go.Proofs.Ytpngcocmjbkfgaa
