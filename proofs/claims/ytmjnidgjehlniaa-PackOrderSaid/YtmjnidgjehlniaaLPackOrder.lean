/- Proved: the law PackOrder returns true. Conditions: none beyond the row's own. -/
import Derived.Test.YtmjnidgjehlniaaFrame
import Derived.Test.YtmjnidgjehlniaaRuns
namespace Go.Proofs.Ytmjnidgjehlniaa.packOrder
open Go.ChangeShapes Go.WideShapes Go.ChangeAt Go.RowKit
theorem same_to {A B : Option Addr} {n m c d : Nat} {zs ys : List Int} {r : Bool} {w : World} (hn : zs.length = n) (hm : ys.length = m) (hz : Lies w A zs) (hy : Lies w B ys) (ln : n ≤ 4611686018427387904) (lm : m ≤ 4611686018427387904) (hr : decide (zs = ys) = r) :
    Calls Try.prog 10 #[.slice A n c, .slice B m d] w fun e w' => e = .returned (.bool r) ∧ ∃ q, w' = w.drewN q := by
  subst hr; exact same_any A B n m c d zs ys w hn hm hz hy ln lm
set_option maxRecDepth 100000 in
set_option maxHeartbeats 2000000 in
theorem walk (a b : Int) (W : World) (ba : -9223372036854775808 ≤ a ∧ a ≤ 9223372036854775807) (bb : -9223372036854775808 ≤ b ∧ b ≤ 9223372036854775807) :
    Calls Try.prog 8 #[.int .i64 a, .int .i64 b] W fun e w' => e = .returned (.bool true) ∧ Below W.heap.size W w' := by
  obtain ⟨a0, a1⟩ := ba
  obtain ⟨b0, b1⟩ := bb
  obtain ⟨La, hLa⟩ : ∃ L, (num7 a).length = L := ⟨_, rfl⟩
  obtain ⟨Lb, hLb⟩ : ∃ L, (num7 b).length = L := ⟨_, rfl⟩
  have ha := num7_len a
  have hb := num7_len b
  have hm : 0 ≤ a → a ≤ b → La ≤ Lb := fun h0 h1 => by have := num7_mono h0 h1; omega
  rw [hLa] at ha
  rw [hLb] at hb
  obtain ⟨la0, la1⟩ := ha
  obtain ⟨lb0, lb1⟩ := hb
  have hLa := hide hLa
  have hLb := hide hLb
  have t1 : decide (La < 1) = false := decide_eq_false (by omega)
  have t2 : decide ((La : Int) < 1) = false := decide_eq_false (by omega)
  have t3 : decide (10 < La) = false := decide_eq_false (by omega)
  have t4 : decide (10 < (La : Int)) = false := decide_eq_false (by omega)
  obtain ⟨r, hr, hs⟩ : ∃ r : Bool, (a == b) = r ∧ decide (num7 a = num7 b) = r := by
    by_cases h : a = b
    · subst h; exact ⟨true, by simp, by simp⟩
    · exact ⟨false, by rw [beq_eq_false_iff_ne]; exact h, decide_eq_false fun hh => h (num7_inj a0 a1 b0 b1 hh)⟩
  have hs := hide hs
  have hc : decide (a < 0) = true ∨ (decide (a < 0) = false ∧ decide (b < 0) = true) ∨ (decide (a < 0) = false ∧ decide (b < 0) = false ∧ decide (b < a) = true) ∨ (decide (a < 0) = false ∧ decide (b < 0) = false ∧ decide (b < a) = false ∧ decide (La ≤ Lb) = true) := by
    by_cases h1 : a < 0
    · exact .inl (decide_eq_true h1)
    · by_cases h2 : b < 0
      · exact .inr (.inl ⟨decide_eq_false h1, decide_eq_true h2⟩)
      · by_cases h3 : b < a
        · exact .inr (.inr (.inl ⟨decide_eq_false h1, decide_eq_false h2, decide_eq_true h3⟩))
        · exact .inr (.inr (.inr ⟨decide_eq_false h1, decide_eq_false h2, decide_eq_false h3, decide_eq_true (hm (by omega) (by omega))⟩))
  clear hm
  rcases hc with c1 | ⟨c1, c2⟩ | ⟨c1, c2, c3⟩ | ⟨c1, c2, c3, c4⟩
  all_goals
    cases r
    all_goals
      go_enter Try.func8, Try.ntmps8
      go_wp2_with (first
        | (go_at_call 11; (with_reducible refine (num_nil (m := a) (ys := num7 a) (n := La) W a0 a1 rfl hLa.out).mono ?_); rintro e w1 ⟨A1, d1, rfl, _, l1, _, k1⟩; have l1 := hide l1; have k1 := hide k1)
        | (go_at_call 11; (with_reducible refine (num_nil (m := b) (ys := num7 b) (n := Lb) w1 b0 b1 rfl hLb.out).mono ?_); rintro e w2 ⟨A2, d2, rfl, _, l2, _, k2⟩; have l1 := hide (l1.out.below k2); have l2 := hide l2; have k2 := hide (kept_trans k1.out k2))
        | (go_at_call 10; (with_reducible refine (same_to hLa.out hLb.out l1.out l2.out (by omega) (by omega) hs.out).mono ?_); rintro e w3 ⟨rfl, q3, rfl⟩)
        | (go_at_call 3; (with_reducible refine (runs_any _).mono ?_); rintro e w9 ⟨rfl, k9⟩))
      go_ret
      exact ⟨rfl, kept_trans (kept_drewN k2.out _) k9⟩
set_option maxRecDepth 100000 in
theorem lifted (os : Os) (started : os.Started) (H : Type) (enc : TypeId × Value → H) :
    ReturnsInHanded {} Try.checked os 8 .any (Rows.packOrderSpec.pre6 enc Try.prog Try.f8 Rows.packOrderRow.domain false) (Rows.packOrderSpec.post enc Try.prog Try.f8 false true false false) := by
  refine returnsInHanded_of_change (C := Try.checked) own started (by kernel_rfl) Try.func8
    (ChangeSpec.witness6 (enc := enc) (C := Try.checked) false ⟨#[], #[.int .i64 0, .int .i64 0], []⟩ 8 (by kernel_rfl) (by kernel_rfl) (by kernel_rfl) (by kernel_rfl)) ?_
  intro W base args ds gs before hval0 hW _ _
  have hval : ∀ (j : Nat) t v, Try.f8.params[j]? = some t → args[j]? = some v → Value.okWide Try.prog W .any base t v := hval0
  have hW' := hW
  obtain ⟨p, q, hA0, hV, rfl, _, _⟩ := hW
  have hA : DataW.TrodAll enc Try.prog W 0 (fun _ => true) true Try.f8.params.toList args.toList ds p := hA0
  rw [Try.params8] at hA hval
  obtain ⟨v0, vs0, d0, ds0, p0, q0, hargs, rfl, rfl, h0, r0⟩ := trodAll_cons hA
  obtain ⟨v1, vs1, d1, ds1, p1, q1, rfl, rfl, rfl, h1, r1⟩ := trodAll_cons r0
  obtain ⟨rfl, rfl, rfl⟩ := trodAll_nil r1
  obtain rfl : args = #[v0, v1] := by cases args; simp_all
  obtain ⟨rfl, rfl⟩ := trodVars_none hV
  obtain ⟨a0, rfl, rfl, rfl, w0⟩ := open_int Try.underlying3 (hval 0 3 v0 rfl rfl) h0
  obtain ⟨a1, rfl, rfl, rfl, w1⟩ := open_int Try.underlying3 (hval 1 3 v1 rfl rfl) h1
  clear hA0 hval0
  refine (walk a0 a1 W (bounds_i64 w0) (bounds_i64 w1)).mono fun e W' ⟨he, bel⟩ => ?_
  subst he
  exact ⟨_, rfl, _, _, _, [], _, [], hW', trodAll_mk1 (shut_bool Try.underlying4 _), (trodAll_cons_mk (shut_int Try.underlying3 w0) (trodAll_cons_mk (shut_int Try.underlying3 w1) trodAll_mk0)), rfl, bel.frame _, fun h => by cases h⟩
theorem over : Rows.packOrderRow.holds Try.pinned (OpenSpec.ofChange Rows.packOrderSpec) :=
  OpenClaim.holds_of_wide 8 Try.f8 rfl rfl rfl rfl rfl rfl rfl ⟨rfl, rfl, rfl, rfl, rfl⟩ rfl rfl rfl rfl rfl (by kernel_rfl) Try.func8 (by kernel_rfl)
    (of_decide_eq_true (by kernel_rfl)) (by unfold Func.isWrapper; first | (rw [if_pos (by decide +kernel)]; kernel_rfl) | (rw [if_neg (by decide +kernel)]; exact ⟨rfl, rfl⟩))
    (fun os started H enc _ => lifted os started H enc)
theorem proved : Rows.PackOrderSaid := over
end Go.Proofs.Ytmjnidgjehlniaa.packOrder
