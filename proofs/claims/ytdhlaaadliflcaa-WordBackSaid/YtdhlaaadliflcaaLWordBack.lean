/- Proved: the law WordBack returns true. Conditions: none beyond the row's own. -/
import Derived.Test.YtdhlaaadliflcaaFrame
import Derived.Test.YtdhlaaadliflcaaRuns
import Derived.Test.YtdhlaaadliflcaaUse
import Derived.Deep.DeepCutAuto
import Derived.Deep.RegionHeld3
namespace Go.Proofs.Ytdhlaaadliflcaa.wordBack
open Go.ChangeShapes Go.WideShapes Go.ChangeAt Go.RowKit
/-- Block g holds an instance. -/
structure Two (w : World) (g : Nat) (x y : Int) : Prop where
  c0 : w.cell? ⟨g, 0, none⟩ = some (.int .i64 x)
  c1 : w.cell? ⟨g, 1, none⟩ = some (.int .i64 y)
  lt : g < w.heap.size
theorem Two.kept {w w' : World} {g : Nat} {x y : Int} (h : Two w g x y) (hb : Below w.heap.size w w') : Two w' g x y :=
  ⟨(hb.cell (p := ⟨g, 0, none⟩) h.lt).trans h.c0, (hb.cell (p := ⟨g, 1, none⟩) h.lt).trans h.c1, Nat.lt_of_lt_of_le h.lt hb.size⟩
theorem Two.drew {w : World} {g : Nat} {x y : Int} (h : Two w g x y) : Two w.drew g x y := ⟨h.c0, h.c1, h.lt⟩
theorem Two.new (w : World) (x y : Int) (t : TypeId) : Two (w.alloc (.cells #[.int .i64 x, .int .i64 y] t)) w.heap.size x y :=
  ⟨by simp [World.cell?_alloc_new], by simp [World.cell?_alloc_new], by simp⟩
/-- An instance lies in the call's own memory, and what was there is as it was. -/
structure St (W w : World) (k : Nat) (a b : Int) : Prop where
  one : Two w k a b
  old : Below W.heap.size W w
theorem St.drew {W w : World} {k : Nat} {a b : Int} (h : St W w k a b) : St W w.drew k a b := ⟨h.one.drew, h.old.drew⟩
theorem St.step {W w w' : World} {k : Nat} {a b : Int} (h : St W w k a b) (g : Below w.heap.size w w') : St W w' k a b := ⟨h.one.kept g, kept_trans h.old g⟩

theorem zag_zig (n : Int) : zagI (zigI n) = n := by
  unfold zagI zigI
  by_cases c : n < 0
  · rw [if_pos c, if_pos (by omega)]; omega
  · rw [if_neg c, if_neg (by omega)]; omega
theorem zig_zag (u : Int) (u0 : 0 ≤ u) : zigI (zagI u) = u := by
  unfold zagI zigI
  by_cases c : u % 2 = 1
  · rw [if_pos c, if_pos (by omega)]; omega
  · rw [if_neg c, if_neg (by omega)]; omega
theorem zig_bounds (n : Int) (h0 : -9223372036854775808 ≤ n) (h1 : n ≤ 9223372036854775807) : 0 ≤ zigI n ∧ zigI n ≤ 18446744073709551615 := by
  unfold zigI
  by_cases c : n < 0
  · rw [if_pos c]; omega
  · rw [if_neg c]; omega
theorem zag_bounds (u : Int) (h0 : 0 ≤ u) (h1 : u ≤ 18446744073709551615) : -9223372036854775808 ≤ zagI u ∧ zagI u ≤ 9223372036854775807 := by
  unfold zagI
  by_cases c : u % 2 = 1
  · rw [if_pos c]; omega
  · rw [if_neg c]; omega
theorem key_bounds (a b : Int) : 0 ≤ keyI a b ∧ keyI a b ≤ 18446744073709551615 := by unfold keyI; omega
theorem le_cons (z : Int) (zs : List Int) (i : Nat) : ∀ k, le (z :: zs) (i + 1) k = le zs i k
  | 0 => rfl
  | k + 1 => by
    rw [le_succ, le_succ, le_cons z zs i k]
    have e : i + 1 + k = (i + k) + 1 := by omega
    have h : ix (z :: zs) (i + 1 + k) = ix zs (i + k) := by rw [e]; unfold ix; rw [List.getD_cons_succ]
    rw [h]
theorem get_bytes (u : Int) (K : Nat) (k0 : 1 ≤ K) (k1 : K ≤ 8) (u0 : 0 ≤ u) (u1 : u ≤ 18446744073709551615) : getV ([9] ++ putL u K) 1 K = lowI u (8 * (K : Int)) ∧ getE ([9] ++ putL u K) 1 K = 0 := by
  have hlen : ([9] ++ putL u K).length = 1 + K := by rw [List.length_append, length_putL]; rfl
  have hb : ¬ GetBad ([9] ++ putL u K) 1 K := by unfold GetBad; rw [hlen]; omega
  have hl : ¬ ((([9] ++ putL u K).length : Nat) : Int) - 1 < K := by rw [hlen]; omega
  unfold getV getE
  rw [if_neg hb, if_neg hl, if_neg hb, if_neg hl, Int.toNat_natCast]
  refine ⟨?_, rfl⟩
  have h1 : le ([9] ++ putL u K) (1 : Int).toNat K = le (putL u K) 0 K := le_cons 9 (putL u K) 0 K
  rw [h1, le_putL u K 0 K (by omega), Int.pow_zero, Int.ediv_one, pow256]
  unfold lowI
  rw [if_neg (by omega)]
  by_cases c : (64 : Int) ≤ 8 * K
  · obtain rfl : K = 8 := by omega
    rw [if_pos (by omega)]
    have : (2 : Int) ^ (8 * 8) = 18446744073709551616 := rfl
    rw [this]; omega
  · rw [if_neg c]
    have e : (8 * (K : Int)).toNat = 8 * K := by omega
    rw [e]
theorem within_8 (n : Int) : ∃ K : Nat, 1 ≤ K ∧ K ≤ 8 ∧ ∀ w : World, Calls Try.prog 30 #[.int .i64 n, .int .i64 1, .int .i64 8] w fun e w' => e = .returned (.int .i64 (K : Int)) ∧ w = w' := by
  have h : 1 ≤ withinI n 1 8 ∧ withinI n 1 8 ≤ 8 := by unfold withinI; omega
  refine ⟨(withinI n 1 8).toNat, by omega, by omega, fun w => ?_⟩
  rw [Int.toNat_of_nonneg (by omega)]
  exact within_any n 1 8 w (by omega) (by omega) (by omega)
theorem put_back {A : Option Addr} {u : Int} {K : Nat} {w : World} (h : Lies w A [9]) (k1 : K ≤ 8) :
    Calls Try.prog 19 #[.slice A 1 1, .int .i64 (K : Int), .int .u64 u] w fun e w' => ∃ A', e = .returned (.slice A' (1 + K) (1 + K)) ∧ Lies w' A' ([9] ++ putL u K) ∧ Below w.heap.size w w' :=
  (put_use (n := 1) (c := 1) (zs := [9]) (1 + K) K w rfl h (fun hA => by have := h.nil_ hA; cases this) (by omega) (by unfold putM; omega) rfl).mono fun _ _ ⟨A', he, hl, _, hb⟩ => ⟨A', he, hl, hb⟩
theorem get_back {A : Option Addr} {u : Int} {K : Nat} {w : World} (hl : Lies w A ([9] ++ putL u K)) (k0 : 1 ≤ K) (k1 : K ≤ 8) (u0 : 0 ≤ u) (u1 : u ≤ 18446744073709551615) :
    Calls Try.prog 12 #[.slice A (1 + K) (1 + K), .int .i64 1, .int .i64 (K : Int)] w fun e w' => e = .returned (.tuple #[.int .u64 (lowI u (8 * (K : Int))), .int .i64 0]) ∧ w = w' := by
  have h := get_any A (1 + K) (1 + K) ([9] ++ putL u K) 1 K w (by rw [List.length_append, length_putL]; rfl) hl (Octets.append (by unfold Octets; decide) (octets_putL u K)) (by omega)
  rwa [(get_bytes u K k0 k1 u0 u1).1, (get_bytes u K k0 k1 u0 u1).2] at h
theorem zag_back {n : Int} (w : World) (h0 : -9223372036854775808 ≤ n) (h1 : n ≤ 9223372036854775807) : Calls Try.prog 17 #[.int .u64 (zigI n)] w fun e w' => e = .returned (.int .i64 n) ∧ w = w' := by
  have h := zag_any (zigI n) w (zig_bounds n h0 h1).1 (zig_bounds n h0 h1).2
  rwa [zag_zig] at h
theorem zig_back {u : Int} (w : World) (h0 : 0 ≤ u) (h1 : u ≤ 18446744073709551615) : Calls Try.prog 16 #[.int .i64 (zagI u)] w fun e w' => e = .returned (.int .u64 u) ∧ w = w' := by
  have h := zig_any (zagI u) w (zag_bounds u h0 h1).1 (zag_bounds u h0 h1).2
  rwa [zig_zag u h0] at h
theorem key_st {W w : World} {k : Nat} {a b : Int} (h : St W w k a b) :
    Calls Try.prog 20 #[.agg #[.int .i64 a, .int .i64 b]] w fun e w' => e = .returned (.int .u64 (keyI a b)) ∧ w'.cell? ⟨k, 0, none⟩ = some (.int .i64 a) ∧ w'.cell? ⟨k, 1, none⟩ = some (.int .i64 b) ∧ St W w' k a b :=
  (key_any a b w).mono fun _ _ ⟨he, hb⟩ => have g := h.step hb; ⟨he, g.one.c0, g.one.c1, g⟩
theorem inst_key_st {W w : World} {k : Nat} {a b : Int} (h : St W w k a b) (a0 : 0 ≤ a) (a1 : a ≤ 4294967295) (b0 : 0 ≤ b) (b1 : b ≤ 4294967295) :
    Calls Try.prog 31 #[.int .u64 (keyI a b)] w fun e w' => e = .returned (.agg #[.int .i64 a, .int .i64 b]) ∧ w'.cell? ⟨k, 0, none⟩ = some (.int .i64 a) ∧ w'.cell? ⟨k, 1, none⟩ = some (.int .i64 b) ∧ St W w' k a b := by
  have h1 := inst_any (keyI a b) w (key_bounds a b).1 (key_bounds a b).2
  have e1 : keyI a b / 4294967296 = a := by unfold keyI; omega
  have e2 : keyI a b % 4294967296 = b := by unfold keyI; omega
  rw [e1, e2] at h1
  exact h1.mono fun _ _ ⟨he, hb⟩ => have g := h.step hb; ⟨he, g.one.c0, g.one.c1, g⟩
theorem inst_st {W w : World} {k : Nat} {a b u : Int} (h : St W w k a b) (u0 : 0 ≤ u) (u1 : u ≤ 18446744073709551615) :
    Calls Try.prog 31 #[.int .u64 u] w fun e w' => e = .returned (.agg #[.int .i64 (u / 4294967296), .int .i64 (u % 4294967296)]) ∧ w'.cell? ⟨k, 0, none⟩ = some (.int .i64 a) ∧ w'.cell? ⟨k, 1, none⟩ = some (.int .i64 b) ∧ St W w' k a b :=
  (inst_any u w u0 u1).mono fun _ _ ⟨he, hb⟩ => have g := h.step hb; ⟨he, g.one.c0, g.one.c1, g⟩
theorem key_inst_st {W w : World} {k : Nat} {a b u : Int} (h : St W w k a b) (u0 : 0 ≤ u) (u1 : u ≤ 18446744073709551615) :
    Calls Try.prog 20 #[.agg #[.int .i64 (u / 4294967296), .int .i64 (u % 4294967296)]] w fun e w' => e = .returned (.int .u64 u) ∧ w'.cell? ⟨k, 0, none⟩ = some (.int .i64 a) ∧ w'.cell? ⟨k, 1, none⟩ = some (.int .i64 b) ∧ St W w' k a b := by
  have h1 := key_any (u / 4294967296) (u % 4294967296) w
  have e1 : keyI (u / 4294967296) (u % 4294967296) = u := by unfold keyI; omega
  rw [e1] at h1
  exact h1.mono fun _ _ ⟨he, hb⟩ => have g := h.step hb; ⟨he, g.one.c0, g.one.c1, g⟩
theorem runs_st {W w : World} {k : Nat} {a b : Int} (h : St W w k a b) :
    Calls Try.prog 3 #[] w fun e w' => e = .returned (.bool true) ∧ w'.cell? ⟨k, 0, none⟩ = some (.int .i64 a) ∧ w'.cell? ⟨k, 1, none⟩ = some (.int .i64 b) ∧ St W w' k a b :=
  (runs_any w).mono fun _ _ ⟨he, hb⟩ => have g := h.step hb; ⟨he, g.one.c0, g.one.c1, g⟩
set_option maxHeartbeats 4000000 in
theorem walk (a0 a1 a2 x3 y3 : Int) (W : World) (b0 : -9223372036854775808 ≤ a0 ∧ a0 ≤ 9223372036854775807) (b1 : 0 ≤ a1 ∧ a1 ≤ 18446744073709551615) (_ : -9223372036854775808 ≤ a2 ∧ a2 ≤ 9223372036854775807) (_ : -9223372036854775808 ≤ x3 ∧ x3 ≤ 9223372036854775807) (_ : -9223372036854775808 ≤ y3 ∧ y3 ≤ 9223372036854775807) :
    Calls Try.prog 6 #[.int .i64 a0, .int .u64 a1, .int .i64 a2, .agg #[.int .i64 x3, .int .i64 y3]] W fun e w' => e = .returned (.bool true) ∧ Below W.heap.size W w' := by
  obtain ⟨b0, b0'⟩ := b0
  obtain ⟨b1, b1'⟩ := b1
  obtain ⟨K, k0, k1, hW⟩ := within_8 a2
  have hw := hide hW
  clear hW
  go_enter Try.func6, Try.ntmps6
  go_upto_region 1 with (fail)
  go_cut [9] (fun s9 wx => s9 = .int .i64 (K : Int) ∧ wx = W.alloc (.cells #[.int .i64 x3, .int .i64 y3] 35))
  case first =>
    go_wp2_with (go_at_call 30; (with_reducible refine (hw.out _).mono ?_); rintro e w1 ⟨rfl, rfl⟩)
    go_meet
    exact ⟨rfl, rfl⟩
  case rest =>
    obtain ⟨rfl, hwc⟩ := hcut
    have tg : Two wc W.heap.size x3 y3 := by rw [hwc]; exact Two.new W x3 y3 _
    have hb : Below W.heap.size W wc := by rw [hwc]; exact kept_alloc (kept_refl W) _
    clear hwc hw
    go_upto_region 2 with (fail)
    go_cut [10, 11] (fun s10 s11 wx => s10 = .int .u64 (lowI a1 (8 * (K : Int))) ∧ s11 = .int .i64 0 ∧ Two wx W.heap.size x3 y3 ∧ Below W.heap.size W wx)
    case first =>
      have hl := lies_one wc 9 5
      go_wp2_with (first
        | (go_at_call 19; (with_reducible refine (put_back hl k1).mono ?_); rintro e w1 ⟨A1, rfl, hl1, hb1⟩)
        | (go_at_call 12; (with_reducible refine (get_back hl1 k0 k1 b1 b1').mono ?_); rintro e w2 ⟨rfl, rfl⟩))
      go_meet
      exact ⟨rfl, rfl, (tg.kept (kept_alloc (kept_refl wc) _)).kept hb1, kept_trans (kept_alloc hb _) hb1⟩
    case rest =>
      clear tg hb
      obtain ⟨rfl, rfl, tg, hb⟩ := hcut
      go_upto_region 3 with (fail)
      go_cut [12] (fun s12 wx => ∃ k, s12 = .pointer (some ⟨k, 0, none⟩) ∧ St W wx k (withinI x3 0 4294967295) (withinI y3 0 4294967295))
      case first =>
        have e0 := World.new_ne wc ⟨W.heap.size, 0, none⟩ tg.c0
        have e1 := World.new_ne wc ⟨W.heap.size, 1, none⟩ tg.c1
        have d0 := tg.c0
        have d1 := tg.c1
        go_region_held3 (fun w' => w'.cell? ⟨W.heap.size, 0, none⟩ = some (.int .i64 x3) ∧ w'.cell? ⟨W.heap.size, 1, none⟩ = some (.int .i64 y3)) (go_keep)
          (first | (go_at_call 30; (with_reducible refine (within_any _ _ _ _ (by omega) (by omega) (by omega)).mono ?_); rintro e w' ⟨rfl, rfl⟩))
        all_goals
          clear d0 d1
          go_wp2_with fail
          go_meet
          exact ⟨_, rfl, (Two.new wc _ _ _).drew, (kept_alloc hb _).drew⟩
      case rest =>
        clear tg hb
        obtain ⟨k, rfl, st⟩ := hcut
        have hx : 0 ≤ withinI x3 0 4294967295 ∧ withinI x3 0 4294967295 ≤ 4294967295 := by unfold withinI; omega
        have hy : 0 ≤ withinI y3 0 4294967295 ∧ withinI y3 0 4294967295 ≤ 4294967295 := by unfold withinI; omega
        generalize withinI x3 0 4294967295 = a at *
        generalize withinI y3 0 4294967295 = b at *
        obtain ⟨x0, x1⟩ := hx
        obtain ⟨y0, y1⟩ := hy
        have d0 := st.one.c0
        have d1 := st.one.c1
        have e1 : IntKind.i64.wrap (8 * (K : Int)) = 8 * (K : Int) := IntWalk.i64_in _ ⟨by omega, by omega⟩
        go_upto_region 4 with (fail)
        go_region_held3 (fun w' => w'.cell? ⟨k, 0, none⟩ = some (.int .i64 a) ∧ w'.cell? ⟨k, 1, none⟩ = some (.int .i64 b)) (go_keep)
          (first
            | (go_at_call 16; (with_reducible refine (zig_any a0 _ b0 b0').mono ?_); rintro e w' ⟨rfl, rfl⟩)
            | (go_at_call 17; (with_reducible refine (zag_back (n := a0) _ b0 b0').mono ?_); rintro e w' ⟨rfl, rfl⟩)
            | (go_at_call 17; (with_reducible refine (zag_any a1 _ b1 b1').mono ?_); rintro e w' ⟨rfl, rfl⟩)
            | (go_at_call 16; (with_reducible refine (zig_back (u := a1) _ b1 b1').mono ?_); rintro e w' ⟨rfl, rfl⟩)
            | (go_at_call 13; (with_reducible refine (low_any a1 _ _ b1 b1').mono ?_); rintro e w' ⟨rfl, rfl⟩)
            | (go_at_call 20; (with_reducible refine (key_st (W := W) (k := k) (a := a) (b := b) (by first | with_reducible assumption | with_reducible exact St.drew (by with_reducible assumption))).mono ?_); rintro e w' ⟨rfl, q0, q1, st'⟩)
            | (go_at_call 31; (with_reducible refine (inst_key_st (W := W) (k := k) (a := a) (b := b) (by first | with_reducible assumption | with_reducible exact St.drew (by with_reducible assumption)) x0 x1 y0 y1).mono ?_); rintro e w' ⟨rfl, q0, q1, st'⟩)
            | (go_at_call 31; (with_reducible refine (inst_st (W := W) (k := k) (a := a) (b := b) (u := a1) (by first | with_reducible assumption | with_reducible exact St.drew (by with_reducible assumption)) b1 b1').mono ?_); rintro e w' ⟨rfl, q0, q1, st'⟩)
            | (go_at_call 20; (with_reducible refine (key_inst_st (W := W) (k := k) (a := a) (b := b) (u := a1) (by first | with_reducible assumption | with_reducible exact St.drew (by with_reducible assumption)) b1 b1').mono ?_); rintro e w' ⟨rfl, q0, q1, st'⟩)
            | (go_at_call 3; (with_reducible refine (runs_st (W := W) (k := k) (a := a) (b := b) (by first | with_reducible assumption | with_reducible exact St.drew (by with_reducible assumption))).mono ?_); rintro e w' ⟨rfl, q0, q1, st'⟩))
        all_goals
          clear e1
          go_wp2_with fail
          go_ret
          exact ⟨rfl, st'.old⟩
set_option maxRecDepth 100000 in
theorem lifted (os : Os) (started : os.Started) (H : Type) (enc : TypeId × Value → H) :
    ReturnsInHanded {} Try.checked os 6 .any (Rows.wordBackSpec.pre6 enc Try.prog Try.f6 Rows.wordBackRow.domain false) (Rows.wordBackSpec.post enc Try.prog Try.f6 false true false false) := by
  refine returnsInHanded_of_change (C := Try.checked) own started (by kernel_rfl) Try.func6
    (ChangeSpec.witness6 (enc := enc) (C := Try.checked) false ⟨#[], #[.int .i64 0, .int .u64 0, .int .i64 0, .agg #[.int .i64 0, .int .i64 0]], []⟩ 8 (by kernel_rfl) (by kernel_rfl) (by kernel_rfl) (by kernel_rfl)) ?_
  intro W base args ds gs before hval0 hW _ _
  have hval : ∀ (j : Nat) t v, Try.f6.params[j]? = some t → args[j]? = some v → Value.okWide Try.prog W .any base t v := hval0
  have hW' := hW
  obtain ⟨p, q, hA0, hV, rfl, _, _⟩ := hW
  have hA : DataW.TrodAll enc Try.prog W 0 (fun _ => true) true Try.f6.params.toList args.toList ds p := hA0
  rw [Try.params6] at hA hval
  obtain ⟨v0, vs0, d0, ds0, p0, q0, hargs, rfl, rfl, h0, r0⟩ := trodAll_cons hA
  obtain ⟨v1, vs1, d1, ds1, p1, q1, rfl, rfl, rfl, h1, r1⟩ := trodAll_cons r0
  obtain ⟨v2, vs2, d2, ds2, p2, q2, rfl, rfl, rfl, h2, r2⟩ := trodAll_cons r1
  obtain ⟨v3, vs3, d3, ds3, p3, q3, rfl, rfl, rfl, h3, r3⟩ := trodAll_cons r2
  obtain ⟨rfl, rfl, rfl⟩ := trodAll_nil r3
  obtain rfl : args = #[v0, v1, v2, v3] := by cases args; simp_all
  obtain ⟨rfl, rfl⟩ := trodVars_none hV
  obtain ⟨a0, rfl, rfl, rfl, w0⟩ := open_int Try.underlying3 (hval 0 3 v0 rfl rfl) h0
  obtain ⟨a1, rfl, rfl, rfl, w1⟩ := open_int Try.underlying22 (hval 1 22 v1 rfl rfl) h1
  obtain ⟨a2, rfl, rfl, rfl, w2⟩ := open_int Try.underlying3 (hval 2 3 v2 rfl rfl) h2
  have k3 := h3
  have lt3 : ∀ x ∈ p3, x.block < W.heap.size := by obtain ⟨m, hm⟩ := k3; exact DataW.trod_lt m _ _ _ hm
  obtain ⟨x3, y3, rfl, bx3, by3⟩ := inst_in (hval 3 35 v3 rfl rfl) h3
  clear hA0 hval0
  refine (walk a0 a1 a2 x3 y3 W (bounds_i64 w0) (bounds_u64 w1) (bounds_i64 w2) bx3 by3).mono fun e W' ⟨he, bel⟩ => ?_
  subst he
  exact ⟨_, rfl, _, _, _, [], _, [], hW', trodAll_mk1 (shut_bool Try.underlying4 _), (trodAll_cons_mk (shut_int Try.underlying3 w0) (trodAll_cons_mk (shut_int Try.underlying22 w1) (trodAll_cons_mk (shut_int Try.underlying3 w2) (trodAll_cons_mk (Below.trod laidOut (by kernel_rfl) (of_decide_eq_true (by kernel_rfl)) k3 bel lt3) trodAll_mk0)))), rfl, bel.frame _, fun h => by cases h⟩
theorem over : Rows.wordBackRow.holds Try.pinned (OpenSpec.ofChange Rows.wordBackSpec) :=
  OpenClaim.holds_of_wide 6 Try.f6 rfl rfl rfl rfl rfl rfl rfl ⟨rfl, rfl, rfl, rfl, rfl⟩ rfl rfl rfl rfl rfl (by kernel_rfl) Try.func6 (by kernel_rfl)
    (of_decide_eq_true (by kernel_rfl)) (by unfold Func.isWrapper; first | (rw [if_pos (by decide +kernel)]; kernel_rfl) | (rw [if_neg (by decide +kernel)]; exact ⟨rfl, rfl⟩))
    (fun os started H enc _ => lifted os started H enc)
theorem proved : Rows.WordBackSaid := over
end Go.Proofs.Ytdhlaaadliflcaa.wordBack
