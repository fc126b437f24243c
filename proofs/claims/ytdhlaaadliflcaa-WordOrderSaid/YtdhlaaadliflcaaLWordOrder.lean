/- Proved: the law WordOrder returns true. Conditions: none beyond the row's own. -/
import Derived.Test.YtdhlaaadliflcaaFrame
import Derived.Test.YtdhlaaadliflcaaRuns
import Derived.Deep.DeepCutAuto
import Derived.Deep.RegionHeld3
namespace Go.Proofs.Ytdhlaaadliflcaa.wordOrder
open Go.ChangeShapes Go.WideShapes Go.ChangeAt Go.RowKit
/-- Block g holds an instance. -/
structure Two (w : World) (g : Nat) (x y : Int) : Prop where
  c0 : w.cell? ⟨g, 0, none⟩ = some (.int .i64 x)
  c1 : w.cell? ⟨g, 1, none⟩ = some (.int .i64 y)
  lt : g < w.heap.size
theorem Two.kept {w w' : World} {g : Nat} {x y : Int} (h : Two w g x y) (hb : Below w.heap.size w w') : Two w' g x y :=
  ⟨(hb.cell (p := ⟨g, 0, none⟩) h.lt).trans h.c0, (hb.cell (p := ⟨g, 1, none⟩) h.lt).trans h.c1, Nat.lt_of_lt_of_le h.lt hb.size⟩
theorem Two.drew {w : World} {g : Nat} {x y : Int} (h : Two w g x y) : Two w.drew g x y := ⟨h.c0, h.c1, h.lt⟩
theorem Two.new (w : World) (x y : Int) (t : TypeId) : Two (w.alloc (.cells #[.int .i64 x, .int .i64 y] t)) w.heap.size x y :=
  ⟨by simp [World.cell?_alloc_new], by simp [World.cell?_alloc_new], by simp⟩
/-- Two instances lie in the call's own memory, and what was there is as it was. -/
structure St (W w : World) (k l : Nat) (a b c d : Int) : Prop where
  one : Two w k a b
  two : Two w l c d
  old : Below W.heap.size W w
theorem St.drew {W w : World} {k l : Nat} {a b c d : Int} (h : St W w k l a b c d) : St W w.drew k l a b c d := ⟨⟨h.one.c0, h.one.c1, h.one.lt⟩, ⟨h.two.c0, h.two.c1, h.two.lt⟩, h.old.drew⟩
theorem St.step {W w w' : World} {k l : Nat} {a b c d : Int} (h : St W w k l a b c d) (g : Below w.heap.size w w') : St W w' k l a b c d := ⟨h.one.kept g, h.two.kept g, kept_trans h.old g⟩
theorem key_st {W w : World} {k l : Nat} {a b c d : Int} {r s : Int} (h : St W w k l a b c d) :
    Calls Try.prog 20 #[.agg #[.int .i64 r, .int .i64 s]] w fun e w' => e = .returned (.int .u64 (keyI r s)) ∧
      w'.cell? ⟨k, 0, none⟩ = some (.int .i64 a) ∧ w'.cell? ⟨k, 1, none⟩ = some (.int .i64 b) ∧ w'.cell? ⟨l, 0, none⟩ = some (.int .i64 c) ∧ w'.cell? ⟨l, 1, none⟩ = some (.int .i64 d) ∧ St W w' k l a b c d :=
  (key_any r s w).mono fun _ _ ⟨he, hb⟩ => have g := h.step hb; ⟨he, g.one.c0, g.one.c1, g.two.c0, g.two.c1, g⟩
theorem less_st {W w : World} {k l : Nat} {a b c d : Int} {p q r s : Int} (h : St W w k l a b c d) :
    Calls Try.prog 33 #[.agg #[.int .i64 p, .int .i64 q], .agg #[.int .i64 r, .int .i64 s]] w fun e w' => e = .returned (.bool (lessB p q r s)) ∧
      w'.cell? ⟨k, 0, none⟩ = some (.int .i64 a) ∧ w'.cell? ⟨k, 1, none⟩ = some (.int .i64 b) ∧ w'.cell? ⟨l, 0, none⟩ = some (.int .i64 c) ∧ w'.cell? ⟨l, 1, none⟩ = some (.int .i64 d) ∧ St W w' k l a b c d :=
  (less_any p q r s w).mono fun _ _ ⟨he, hb⟩ => have g := h.step hb; ⟨he, g.one.c0, g.one.c1, g.two.c0, g.two.c1, g⟩
theorem runs_st {W w : World} {k l : Nat} {a b c d : Int} (h : St W w k l a b c d) :
    Calls Try.prog 3 #[] w fun e w' => e = .returned (.bool true) ∧
      w'.cell? ⟨k, 0, none⟩ = some (.int .i64 a) ∧ w'.cell? ⟨k, 1, none⟩ = some (.int .i64 b) ∧ w'.cell? ⟨l, 0, none⟩ = some (.int .i64 c) ∧ w'.cell? ⟨l, 1, none⟩ = some (.int .i64 d) ∧ St W w' k l a b c d :=
  (runs_any w).mono fun _ _ ⟨he, hb⟩ => have g := h.step hb; ⟨he, g.one.c0, g.one.c1, g.two.c0, g.two.c1, g⟩
theorem key_small (a b : Int) (a0 : 0 ≤ a) (a1 : a ≤ 6) (b0 : 0 ≤ b) (b1 : b ≤ 1073741824) : keyI a b = a * 4294967296 + b := by
  unfold keyI; omega
theorem key_less (a b c d : Int) (ha : 0 ≤ a ∧ a ≤ 6) (hb : 0 ≤ b ∧ b ≤ 1073741824) (hc : 0 ≤ c ∧ c ≤ 6) (hd : 0 ≤ d ∧ d ≤ 1073741824) : (decide (keyI a b < keyI c d) == lessB a b c d) = true := by
  rw [key_small a b ha.1 ha.2 hb.1 hb.2, key_small c d hc.1 hc.2 hd.1 hd.2, beq_iff_eq, Bool.eq_iff_iff]
  simp [lessB]; omega
theorem key_cases (a b c d : Int) (ha : 0 ≤ a ∧ a ≤ 6) (hb : 0 ≤ b ∧ b ≤ 1073741824) (hc : 0 ≤ c ∧ c ≤ 6) (hd : 0 ≤ d ∧ d ≤ 1073741824) :
    ((a == c) = true ∧ (b == d) = true ∧ (keyI a b == keyI c d) = true) ∨ ((a == c) = true ∧ (b == d) = false ∧ (keyI a b == keyI c d) = false) ∨ ((a == c) = false ∧ (keyI a b == keyI c d) = false) := by
  rw [key_small a b ha.1 ha.2 hb.1 hb.2, key_small c d hc.1 hc.2 hd.1 hd.2]
  simp only [beq_iff_eq, beq_eq_false_iff_ne]
  omega
set_option maxHeartbeats 4000000 in
theorem walk (x0 y0 x1 y1 : Int) (W : World) (_ : -9223372036854775808 ≤ x0 ∧ x0 ≤ 9223372036854775807) (_ : -9223372036854775808 ≤ y0 ∧ y0 ≤ 9223372036854775807) (_ : -9223372036854775808 ≤ x1 ∧ x1 ≤ 9223372036854775807) (_ : -9223372036854775808 ≤ y1 ∧ y1 ≤ 9223372036854775807) :
    Calls Try.prog 9 #[.agg #[.int .i64 x0, .int .i64 y0], .agg #[.int .i64 x1, .int .i64 y1]] W fun e w' => e = .returned (.bool true) ∧ Below W.heap.size W w' := by
  go_enter Try.func9, Try.ntmps9
  go_upto_region 0 with (fail)
  go_cut [2, 3, 4] (fun s2 s3 s4 wx => ∃ g h, s2 = .pointer (some ⟨g, 0, none⟩) ∧ s3 = .pointer (some ⟨h, 0, none⟩) ∧ s4 = .bool false ∧ Two wx g x0 y0 ∧ Two wx h x1 y1 ∧ Below W.heap.size W wx)
  case first =>
    go_wp2_with fail
    go_meet
    have t1 := (Two.new W x0 y0 35).kept (kept_alloc (kept_refl _) (.cells #[.int .i64 x1, .int .i64 y1] 35))
    have t2 := Two.new (W.alloc (.cells #[.int .i64 x0, .int .i64 y0] 35)) x1 y1 35
    simp only [World.size_alloc] at t2
    exact ⟨_, _, rfl, rfl, rfl, t1, t2, kept_alloc (kept_alloc (kept_refl W) _) _⟩
  case rest =>
    obtain ⟨g, h, rfl, rfl, rfl, tg, th, hb⟩ := hcut
    go_upto_region 1 with (fail)
    go_cut [5] (fun s5 wx => ∃ k, s5 = .pointer (some ⟨k, 0, none⟩) ∧ Two wx k (withinI x0 0 6) (withinI y0 0 1073741824) ∧ Two wx h x1 y1 ∧ Below W.heap.size W wx)
    case first =>
      have e0 := World.new_ne wc ⟨g, 0, none⟩ tg.c0
      have e1 := World.new_ne wc ⟨g, 1, none⟩ tg.c1
      have d0 := tg.c0
      have d1 := tg.c1
      go_region_held3 (fun w' => w'.cell? ⟨g, 0, none⟩ = some (.int .i64 x0) ∧ w'.cell? ⟨g, 1, none⟩ = some (.int .i64 y0)) (go_keep)
        (first | (go_at_call 30; (with_reducible refine (within_any _ _ _ _ (by omega) (by omega) (by omega)).mono ?_); rintro e w' ⟨rfl, rfl⟩))
      all_goals
        clear d0 d1
        go_wp2_with fail
        go_meet
        exact ⟨_, rfl, (Two.new wc _ _ _).drew, (th.kept (kept_alloc (kept_refl _) _)).drew, (kept_alloc hb _).drew⟩
    case rest =>
      clear tg th hb
      obtain ⟨k, rfl, tk, th, hb⟩ := hcut
      go_upto_region 2 with (fail)
      go_cut [6] (fun s6 wx => ∃ l, s6 = .pointer (some ⟨l, 0, none⟩) ∧ St W wx k l (withinI x0 0 6) (withinI y0 0 1073741824) (withinI x1 0 6) (withinI y1 0 1073741824))
      case first =>
        have e0 := World.new_ne wc ⟨h, 0, none⟩ th.c0
        have e1 := World.new_ne wc ⟨h, 1, none⟩ th.c1
        have d0 := th.c0
        have d1 := th.c1
        go_region_held3 (fun w' => w'.cell? ⟨h, 0, none⟩ = some (.int .i64 x1) ∧ w'.cell? ⟨h, 1, none⟩ = some (.int .i64 y1)) (go_keep)
          (first | (go_at_call 30; (with_reducible refine (within_any _ _ _ _ (by omega) (by omega) (by omega)).mono ?_); rintro e w' ⟨rfl, rfl⟩))
        all_goals
          clear d0 d1
          go_wp2_with fail
          go_meet
          exact ⟨_, rfl, (tk.kept (kept_alloc (kept_refl _) _)).drew, (Two.new wc _ _ _).drew, (kept_alloc hb _).drew⟩
      case rest =>
        clear tk th hb
        obtain ⟨l, rfl, st⟩ := hcut
        have hx0 : 0 ≤ withinI x0 0 6 ∧ withinI x0 0 6 ≤ 6 := by unfold withinI; omega
        have hx1 : 0 ≤ withinI x1 0 6 ∧ withinI x1 0 6 ≤ 6 := by unfold withinI; omega
        have hy0 : 0 ≤ withinI y0 0 1073741824 ∧ withinI y0 0 1073741824 ≤ 1073741824 := by unfold withinI; omega
        have hy1 : 0 ≤ withinI y1 0 1073741824 ∧ withinI y1 0 1073741824 ≤ 1073741824 := by unfold withinI; omega
        generalize withinI x0 0 6 = a at *
        generalize withinI y0 0 1073741824 = b at *
        generalize withinI x1 0 6 = c at *
        generalize withinI y1 0 1073741824 = d at *
        have f1 := key_less a b c d hx0 hy0 hx1 hy1
        have d0 := st.one.c0
        have d1 := st.one.c1
        have d2 := st.two.c0
        have d3 := st.two.c1
        have hcs := key_cases a b c d hx0 hy0 hx1 hy1
        clear hx0 hx1 hy0 hy1
        rcases hcs with ⟨p1, p2, p3⟩ | ⟨p1, p2, p3⟩ | ⟨p1, p3⟩
        all_goals
          go_upto_region 3 with (fail)
          go_region_held3 (fun w' => w'.cell? ⟨k, 0, none⟩ = some (.int .i64 a) ∧ w'.cell? ⟨k, 1, none⟩ = some (.int .i64 b) ∧ w'.cell? ⟨l, 0, none⟩ = some (.int .i64 c) ∧ w'.cell? ⟨l, 1, none⟩ = some (.int .i64 d)) (go_keep)
            (first
              | (go_at_call 20; (with_reducible refine (key_st (W := W) (k := k) (l := l) (a := a) (b := b) (c := c) (d := d) (by first | with_reducible assumption | with_reducible exact St.drew (by with_reducible assumption))).mono ?_); rintro e w' ⟨rfl, q0, q1, q2, q3, st'⟩)
              | (go_at_call 33; (with_reducible refine (less_st (W := W) (k := k) (l := l) (a := a) (b := b) (c := c) (d := d) (by first | with_reducible assumption | with_reducible exact St.drew (by with_reducible assumption))).mono ?_); rintro e w' ⟨rfl, q0, q1, q2, q3, st'⟩)
              | (go_at_call 3; (with_reducible refine (runs_st (W := W) (k := k) (l := l) (a := a) (b := b) (c := c) (d := d) (by first | with_reducible assumption | with_reducible exact St.drew (by with_reducible assumption))).mono ?_); rintro e w' ⟨rfl, q0, q1, q2, q3, st'⟩))
          all_goals
            go_wp2_with fail
            go_ret
            exact ⟨rfl, st'.old⟩
set_option maxRecDepth 100000 in
theorem lifted (os : Os) (started : os.Started) (H : Type) (enc : TypeId × Value → H) :
    ReturnsInHanded {} Try.checked os 9 .any (Rows.wordOrderSpec.pre6 enc Try.prog Try.f9 Rows.wordOrderRow.domain false) (Rows.wordOrderSpec.post enc Try.prog Try.f9 false true false false) := by
  refine returnsInHanded_of_change (C := Try.checked) own started (by kernel_rfl) Try.func9
    (ChangeSpec.witness6 (enc := enc) (C := Try.checked) false ⟨#[], #[.agg #[.int .i64 0, .int .i64 0], .agg #[.int .i64 0, .int .i64 0]], []⟩ 8 (by kernel_rfl) (by kernel_rfl) (by kernel_rfl) (by kernel_rfl)) ?_
  intro W base args ds gs before hval0 hW _ _
  have hval : ∀ (j : Nat) t v, Try.f9.params[j]? = some t → args[j]? = some v → Value.okWide Try.prog W .any base t v := hval0
  have hW' := hW
  obtain ⟨p, q, hA0, hV, rfl, _, _⟩ := hW
  have hA : DataW.TrodAll enc Try.prog W 0 (fun _ => true) true Try.f9.params.toList args.toList ds p := hA0
  rw [Try.params9] at hA hval
  obtain ⟨v0, vs0, d0, ds0, p0, q0, hargs, rfl, rfl, h0, r0⟩ := trodAll_cons hA
  obtain ⟨v1, vs1, d1, ds1, p1, q1, rfl, rfl, rfl, h1, r1⟩ := trodAll_cons r0
  obtain ⟨rfl, rfl, rfl⟩ := trodAll_nil r1
  obtain rfl : args = #[v0, v1] := by cases args; simp_all
  obtain ⟨rfl, rfl⟩ := trodVars_none hV
  have k0 := h0
  have lt0 : ∀ x ∈ p0, x.block < W.heap.size := by obtain ⟨m, hm⟩ := k0; exact DataW.trod_lt m _ _ _ hm
  obtain ⟨x0, y0, rfl, bx0, by0⟩ := inst_in (hval 0 35 v0 rfl rfl) h0
  have k1 := h1
  have lt1 : ∀ x ∈ p1, x.block < W.heap.size := by obtain ⟨m, hm⟩ := k1; exact DataW.trod_lt m _ _ _ hm
  obtain ⟨x1, y1, rfl, bx1, by1⟩ := inst_in (hval 1 35 v1 rfl rfl) h1
  clear hA0 hval0
  refine (walk x0 y0 x1 y1 W bx0 by0 bx1 by1).mono fun e W' ⟨he, bel⟩ => ?_
  subst he
  exact ⟨_, rfl, _, _, _, [], _, [], hW', trodAll_mk1 (shut_bool Try.underlying4 _), (trodAll_cons_mk (Below.trod laidOut (by kernel_rfl) (of_decide_eq_true (by kernel_rfl)) k0 bel lt0) (trodAll_cons_mk (Below.trod laidOut (by kernel_rfl) (of_decide_eq_true (by kernel_rfl)) k1 bel lt1) trodAll_mk0)), rfl, bel.frame _, fun h => by cases h⟩
theorem over : Rows.wordOrderRow.holds Try.pinned (OpenSpec.ofChange Rows.wordOrderSpec) :=
  OpenClaim.holds_of_wide 9 Try.f9 rfl rfl rfl rfl rfl rfl rfl ⟨rfl, rfl, rfl, rfl, rfl⟩ rfl rfl rfl rfl rfl (by kernel_rfl) Try.func9 (by kernel_rfl)
    (of_decide_eq_true (by kernel_rfl)) (by unfold Func.isWrapper; first | (rw [if_pos (by decide +kernel)]; kernel_rfl) | (rw [if_neg (by decide +kernel)]; exact ⟨rfl, rfl⟩))
    (fun os started H enc _ => lifted os started H enc)
theorem proved : Rows.WordOrderSaid := over
end Go.Proofs.Ytdhlaaadliflcaa.wordOrder
