/- Proved: the law SumUnlike returns true. Conditions: none beyond the row's own. -/
import Derived.Test.YtipfjlopgidbcaaFrame
import Derived.Test.YtipfjlopgidbcaaRuns
import Derived.Test.YtipfjlopgidbcaaWithin
import Derived.Test.YtipfjlopgidbcaaSame
import Derived.Deep.DeepCutAuto
import Derived.RegionTactic
namespace Go.Proofs.Ytipfjlopgidbcaa.sumUnlike
open Go.ChangeShapes Go.WideShapes Go.ChangeAt Go.RowKit
theorem within_to (n : Int) (hi : Nat) (l : hi ≤ 4611686018427387904) : ∃ K : Nat, K ≤ hi ∧ ∀ w : World, Calls Try.prog 12 #[.int .i64 n, .int .i64 0, .int .i64 (hi : Int)] w fun e w' => e = .returned (.int .i64 (K : Int)) ∧ w = w' := by
  have hb := withinI_bounds n 0 hi (by omega)
  refine ⟨(withinI n 0 hi).toNat, by omega, fun w => ?_⟩
  rw [Int.toNat_of_nonneg (by omega)]
  exact within_any n 0 hi w (by omega) (by omega) (by omega)
/-- The bits of the burst that are turned behind k rounds. -/
def took (b lim k : Nat) : Nat := b % 2 ^ (min k lim)
theorem took_zero (b lim : Nat) : took b lim 0 = 0 := by unfold took; rw [Nat.zero_min, Nat.pow_zero, Nat.mod_one]
theorem mod_succ (b k : Nat) : b % 2 ^ (k + 1) = b % 2 ^ k + 2 ^ k * (b / 2 ^ k % 2) := by
  rw [Nat.pow_succ, Nat.mod_mul]
theorem took_no (b lim k : Nat) (h : ¬ (b / 2 ^ k % 2 = 1 ∧ k < lim)) : took b lim (k + 1) = took b lim k := by
  unfold took
  by_cases hl : k < lim
  · have h0 : b / 2 ^ k % 2 = 0 := by omega
    rw [Nat.min_eq_left (by omega), Nat.min_eq_left (by omega), mod_succ, h0, Nat.mul_zero, Nat.add_zero]
  · rw [Nat.min_eq_right (by omega), Nat.min_eq_right (by omega)]
theorem took_yes (b lim k : Nat) (h1 : b / 2 ^ k % 2 = 1) (h2 : k < lim) : took b lim (k + 1) = took b lim k ^^^ 2 ^ k := by
  unfold took
  rw [Nat.min_eq_left (by omega), Nat.min_eq_left (by omega), mod_succ, h1, Nat.mul_one]
  have hlt : b % 2 ^ k < 2 ^ k := Nat.mod_lt _ (Nat.two_pow_pos k)
  apply Nat.eq_of_testBit_eq
  intro i
  have e : b % 2 ^ k + 2 ^ k = 2 ^ k * 1 + b % 2 ^ k := by omega
  rw [e, Nat.testBit_two_pow_mul_add _ hlt, Nat.testBit_xor, Nat.testBit_two_pow]
  by_cases hi : i < k
  · have : ¬ k = i := by omega
    simp [hi, this]
  · have h3 : (b % 2 ^ k).testBit i = false := Nat.testBit_lt_two_pow (Nat.lt_of_lt_of_le hlt (Nat.pow_le_pow_right (by omega) (by omega)))
    rw [h3, if_neg hi]
    by_cases h4 : k = i
    · subst h4; simp
    · have h5 : i - k ≠ 0 := by omega
      have h6 : Nat.testBit 1 (i - k) = false := Nat.testBit_lt_two_pow (Nat.one_lt_two_pow h5)
      simp [h4, h6]
theorem took_lt (b lim k : Nat) (hb : b < 4294967296) : took b lim k < 4294967296 := Nat.lt_of_le_of_lt (Nat.mod_le _ _) hb
theorem shift_xor (at_ x k : Nat) : 2 ^ at_ * (x ^^^ 2 ^ k) = 2 ^ at_ * x ^^^ 2 ^ (at_ + k) := by
  rw [Nat.pow_add]
  apply Nat.eq_of_testBit_eq
  intro i
  rw [Nat.testBit_xor, Nat.testBit_two_pow_mul, Nat.testBit_two_pow_mul, Nat.testBit_two_pow_mul, Nat.testBit_xor]
  by_cases h : i ≥ at_ <;> simp [h]
theorem took_pos {b lim k : Nat} (h1 : b / 2 ^ k % 2 = 1) (h2 : k < lim) : took b lim (k + 1) ≠ 0 := by
  unfold took
  rw [Nat.min_eq_left (by omega), mod_succ, h1, Nat.mul_one]
  have := Nat.two_pow_pos k
  omega
theorem bit_test (b k : Nat) (h : b < 4294967296) : bits .and .u32 ((b : Int) / 2 ^ k) 1 = ((b / 2 ^ k % 2 : Nat) : Int) := by
  have e : ((b : Int) / 2 ^ k) = ((b / 2 ^ k : Nat) : Int) := by
    rw [Int.natCast_ediv]; congr 1
  rw [e]
  exact u32_and_one _ (Nat.lt_of_le_of_lt (Nat.div_le_self _ _) h)
def anyB (b lim k : Nat) : Bool := decide (took b lim k ≠ 0)
/-- Behind k rounds. -/
structure Round (W wr : World) (g cap n T B k : Nat) (zs ys : List Int) : Prop where
  len : ys.length = n
  oct : Octets ys
  turned : Turned (2 ^ T * took B (8 * n - T) k) (nats zs) (nats ys)
  own : wr.ownsRow W.heap.size 5 1 (.slice (some ⟨g, 0, none⟩) n cap) n (cellsOf ys)
  old : Below W.heap.size W wr
theorem nats_set (ys : List Int) (q z : Nat) : nats (ys.set q (z : Int)) = (nats ys).set q z := by
  unfold nats; rw [List.map_set]; rfl
theorem nats_getD (ys : List Int) (q : Nat) : (nats ys).getD q 0 = (ix ys q).toNat := by
  unfold nats ix; rw [List.getD_eq_getElem?_getD, List.getElem?_map, List.getD_eq_getElem?_getD]
  cases ys[q]? <;> rfl
theorem Round.next {W wr : World} {g cap n T B k q r : Nat} {zs ys : List Int} (h : Round W wr g cap n T B k zs ys) (hg : W.heap.size ≤ g) (hq : q < n) (hr : r < 8) (hqr : T + k = 8 * q + r)
    (ht : took B (8 * n - T) (k + 1) = took B (8 * n - T) k ^^^ 2 ^ k) :
    Round W (wr.setCell ⟨g, q, none⟩ (.int .u8 (bits .xor .u8 (ix ys q) (2 ^ r % 256)))).drew g cap n T B (k + 1) zs (ys.set q ((ix ys q).toNat ^^^ 2 ^ r : Nat)) := by
  have ho := h.oct.ix q
  have h2 : 2 ^ r < 2 ^ 8 := Nat.pow_lt_pow_right (by omega) hr
  rw [show (2 : Nat) ^ 8 = 256 from rfl] at h2
  have hx : (ix ys q).toNat ^^^ 2 ^ r < 256 := Nat.xor_lt_two_pow (n := 8) (by omega) h2
  have hv : bits .xor .u8 (ix ys q) (2 ^ r % 256) = (((ix ys q).toNat ^^^ 2 ^ r : Nat) : Int) := by
    have e1 : ((2 : Int) ^ r % 256) = ((2 ^ r : Nat) : Int) := by
      have : ((2 ^ r : Nat) : Int) = (2 : Int) ^ r := by push_cast; rfl
      rw [← this]; exact Int.emod_eq_of_lt (Int.natCast_nonneg _) (Int.ofNat_lt.2 h2)
    rw [e1]
    have e := u8_xor_nat (ix ys q).toNat (2 ^ r) (by omega) h2
    rwa [Int.toNat_of_nonneg ho.1] at e
  rw [hv]
  refine ⟨by rw [List.length_set]; exact h.len, ?_, ?_, ?_, (h.old.setCell (p := ⟨g, q, none⟩) hg _).drew⟩
  · intro z hz
    rcases List.mem_or_eq_of_mem_set hz with h1 | h1
    · exact h.oct z h1
    · subst h1; omega
  · have hl := turned_length h.turned
    rw [length_nats, length_nats] at hl
    have hi := turned_set (i := T + k) h.turned (by rw [length_nats, ← hl, h.len]; omega)
    have e1 : (T + k) / 8 = q := by omega
    have e2 : (T + k) % 8 = r := by omega
    rw [e1, e2, nats_getD, ← nats_set] at hi
    rw [ht, shift_xor]
    exact hi
  · have hst := (h.own.stored q (.int .u8 (((ix ys q).toNat ^^^ 2 ^ r : Nat) : Int))).1
    unfold cellsOf at hst ⊢
    rw [List.map_set]
    exact hst.drew
set_option maxHeartbeats 2000000 in
theorem walk (a0 : Int) (A : Option Addr) (n c : Nat) (zs : List Int) (a2 a3 : Int) (W : World) (b0 : 0 ≤ a0 ∧ a0 ≤ 4294967295) (s : SliceIn W A n c zs) (_ : -9223372036854775808 ≤ a2 ∧ a2 ≤ 9223372036854775807) (b3 : 0 ≤ a3 ∧ a3 ≤ 4294967295) :
    Calls Try.prog 6 #[.int .u32 a0, .slice A n c, .int .i64 a2, .int .u32 a3] W fun e w' => e = .returned (.bool true) ∧ Below W.heap.size W w' := by
  obtain ⟨X, rfl⟩ := Int.eq_ofNat_of_zero_le b0.1
  obtain ⟨B, rfl⟩ := Int.eq_ofNat_of_zero_le b3.1
  have hX : X < 4294967296 := by omega
  have hB : B < 4294967296 := by omega
  have lc := s.room
  have lnc := s.le
  have S := hide s
  clear s b0 b3
  by_cases h0 : n = 0
  · subst h0
    go_enter Try.func6, Try.ntmps6
    go_wp2_with (go_at_call 3; (with_reducible refine (runs_any _).mono ?_); rintro e w9 ⟨rfl, hb9⟩)
    go_ret
    exact ⟨rfl, hb9⟩
  by_cases h1 : 1000 < n
  · have hz : ((n : Int) == 0) = false := by simp; omega
    go_enter Try.func6, Try.ntmps6
    go_wp2_with (go_at_call 3; (with_reducible refine (runs_any _).mono ?_); rintro e w9 ⟨rfl, hb9⟩)
    go_ret
    exact ⟨rfl, hb9⟩
  have hz : ((n : Int) == 0) = false := by simp; omega
  have hn1 : n ≤ 1000 := by omega
  have hn0 : 1 ≤ n := by omega
  obtain ⟨T, hT, hw⟩ := within_to a2 (8 * n - 1) (by omega)
  have hw := hide hw
  have eT : ((8 * n - 1 : Nat) : Int) = 8 * (n : Int) - 1 := by omega
  rw [eT] at hw
  clear eT h0 h1
  have hl0 := hide S.out.lies
  obtain ⟨i0, hi, hz0, hz1, hz2⟩ := info_parts Try.info5
  go_enter Try.func6, Try.ntmps6
  go_wp2_with (at_builtin; refine wpList_append_lies rfl (.tmp 22) (.tmp 23) 24 rfl W.heap.size 5 i0 (.int .u8 0) Try.underlying24 hi hz0 hz1 hz2 rfl _ 0 [] rfl (World.ownsRow_lit W #[] 0 (Nat.le_refl _) (by unfold maxLen; omega) rfl) A n c zs rfl S.out.len S.out.nil (hl0.out.alloc _) (by omega) (by simp) ?_)
  intro v1 w1 hown1 hb1
  rcases hown1.2 with ⟨hv, hx⟩ | ⟨g, cap, cur, hv, hg, hcells, hfr, hmx, hsz, htk⟩
  · omega
  subst hv
  have hown1 := hide hown1
  have hb1 := hide hb1
  clear hcells hfr hmx hsz htk
  go_wp2_with (go_at_call 12; (with_reducible refine (hw.out _).mono ?_); rintro e w2 ⟨rfl, rfl⟩)
  go_loopw [11, 12] (fun t i wr => ∃ (k : Nat) (ys : List Int), k ≤ 32 ∧ i = .int .i64 k ∧ t = .bool (anyB B (8 * n - T) k) ∧ Round W wr g cap n T B k zs ys) (fun _ i _ => 32 - (intOf i).toNat)
  case atStart =>
    refine ⟨0, zs, by omega, rfl, by unfold anyB; rw [took_zero]; rfl, S.out.len, S.out.oct, ?_, hown1.out, ?_⟩
    · rw [took_zero, Nat.mul_zero]; exact turned_refl _
    · exact ((Below.refl _ _).alloc (Nat.le_refl _) _).trans hb1.out
  case round =>
    obtain ⟨k, ys, hk, rfl, rfl, hr⟩ := hrel
    have hr := hide hr
    clear hown1 hb1
    by_cases hlt : k < 32
    · have ht := bit_test B k hB
      by_cases hone : B / 2 ^ k % 2 = 1
      · have h1 : ((bits .and .u32 ((B : Int) / 2 ^ k) 1 : Int) == 1) = true := by rw [ht, hone]; rfl
        clear ht
        by_cases hlim : T + k < 8 * n
        · have hone := hide hone
          obtain ⟨q, r, hqr, hq, hr8⟩ : ∃ q r : Nat, T + k = 8 * q + r ∧ q < n ∧ r < 8 := ⟨(T + k) / 8, (T + k) % 8, by omega, by omega, by omega⟩
          have hc := hr.out.own.cellAt q (by omega)
          rw [cellsOf_at ys (by rw [hr.out.len]; exact hq)] at hc
          have hf := hr.out.own.frozenAt q
          have e1 : IntKind.i64.wrap ((T : Int) + (k : Int)) = (T : Int) + (k : Int) := IntWalk.i64_in _ ⟨by omega, by omega⟩
          have e2 : ((T : Int) + (k : Int)).tdiv 8 = (q : Int) := by rw [Int.tdiv_eq_ediv_of_nonneg (by omega)]; omega
          have e8 : ((T : Int) + (k : Int)) / 8 = (q : Int) := by omega
          have e9 : ((T : Int) + (k : Int)) % 8 = (r : Int) := by omega
          have e3 : ((T : Int) + (k : Int)).tmod 8 = (r : Int) := by rw [Int.tmod_eq_emod_of_nonneg (by omega)]; omega
          have e4 : (0 : Int) ≤ (q : Int) := by omega
          have e5 : (q : Int) < (n : Int) := by omega
          have e6 : (0 : Int) ≤ (r : Int) := by omega
          have e7 : (r : Int) < 8 := by omega
          have HQ := hide hqr
          clear hqr
          go_wp2
          go_region
          have htk := hide (took_yes B (8 * n - T) k hone.out (by omega))
          have htp := hide (took_pos (b := B) (lim := 8 * n - T) (k := k) hone.out (by omega))
          go_wp2
          go_roundw
          case rel =>
            refine ⟨k + 1, ys.set q ((ix ys q).toNat ^^^ 2 ^ r : Nat), by omega, by go_num, ?_, ?_⟩
            · unfold anyB; rw [decide_eq_true htp.out]
            · exact Round.next hr.out hg hq hr8 (by have := HQ.out; omega) htk.out
          case measure => simp [intOf]; omega
        · have htk := hide (took_no B (8 * n - T) k (fun h => hlim (by have := h.2; omega)))
          have hone := hide hone
          go_wp2
          go_roundw
          case rel => exact ⟨k + 1, ys, by omega, by go_num, by unfold anyB; rw [htk.out], hr.out.len, hr.out.oct, by rw [htk.out]; exact hr.out.turned, hr.out.own, hr.out.old⟩
          case measure => simp [intOf]; omega
      · have h1 : ((bits .and .u32 ((B : Int) / 2 ^ k) 1 : Int) == 1) = false := by rw [ht]; generalize B / 2 ^ k % 2 = v at hone; rw [beq_eq_false_iff_ne]; omega
        have htk := hide (took_no B (8 * n - T) k (fun h => hone h.1))
        clear ht hone
        go_wp2
        go_roundw
        case rel => exact ⟨k + 1, ys, by omega, by go_num, by unfold anyB; rw [htk.out], hr.out.len, hr.out.oct, by rw [htk.out]; exact hr.out.turned, hr.out.own, hr.out.old⟩
        case measure => simp [intOf]; omega
    · obtain rfl : k = 32 := by omega
      have heq : (((crc X (nats zs) : Nat) : Int) == ((crc X (nats ys) : Nat) : Int)) = !anyB B (8 * n - T) 32 := by
        have h := crc_unlike (c := X) hr.out.turned (took_lt B (8 * n - T) 32 hB)
        unfold anyB
        rw [Bool.eq_iff_iff]
        simp only [beq_iff_eq, Bool.not_eq_true', decide_eq_false_iff_not, Decidable.not_not]
        rw [← h]; omega
      go_wp2_with (first
        | (go_at_call 9; (with_reducible refine (on_any A n c zs X _ hX S.out.len (hl0.out.below hr.out.old) S.out.oct (by omega)).mono ?_); rintro e w2 ⟨rfl, rfl⟩)
        | (go_at_call 9; (with_reducible refine (on_any _ n cap ys X _ hX hr.out.len (Lies.of_own hr.out.own) hr.out.oct (by omega)).mono ?_); rintro e w2 ⟨rfl, rfl⟩)
        | (go_at_call 3; (with_reducible refine (runs_any _).mono ?_); rintro e w9 ⟨rfl, hb9⟩))
      go_ret
      exact ⟨rfl, kept_trans hr.out.old hb9⟩
set_option maxRecDepth 100000 in
theorem lifted (os : Os) (started : os.Started) (H : Type) (enc : TypeId × Value → H) :
    ReturnsInHanded {} Try.checked os 6 .any (Rows.sumUnlikeSpec.pre6 enc Try.prog Try.f6 Rows.sumUnlikeRow.domain false) (Rows.sumUnlikeSpec.post enc Try.prog Try.f6 false true false false) := by
  refine returnsInHanded_of_change_sized (C := Try.checked) own started (by kernel_rfl) Try.func6
    (ChangeSpec.witness6 (enc := enc) (C := Try.checked) false ⟨#[], #[.int .u32 0, .slice none 0 0, .int .i64 0, .int .u32 0], []⟩ 8 (by kernel_rfl) (by kernel_rfl) (by kernel_rfl) (by kernel_rfl)) ?_
  intro W base args ds gs before hval0 hW _ hsz0 _
  have hval : ∀ (j : Nat) t v, Try.f6.params[j]? = some t → args[j]? = some v → Value.okWide Try.prog W .any base t v := hval0
  have hW' := hW
  obtain ⟨p, q, hA0, hV, rfl, _, _⟩ := hW
  have hA : DataW.TrodAll enc Try.prog W 0 (fun _ => true) true Try.f6.params.toList args.toList ds p := hA0
  have hsz : (DataW.weightsEach Try.prog (Try.f6.params.toList ++ Rows.sumUnlikeSpec.plain.varTypes Try.prog) (ds ++ gs)).all (· ≤ reachBytes) = true := hsz0
  rw [Try.params6] at hA hval hsz
  obtain ⟨v0, vs0, d0, ds0, p0, q0, hargs, rfl, rfl, h0, r0⟩ := trodAll_cons hA
  obtain ⟨v1, vs1, d1, ds1, p1, q1, rfl, rfl, rfl, h1, r1⟩ := trodAll_cons r0
  obtain ⟨v2, vs2, d2, ds2, p2, q2, rfl, rfl, rfl, h2, r2⟩ := trodAll_cons r1
  obtain ⟨v3, vs3, d3, ds3, p3, q3, rfl, rfl, rfl, h3, r3⟩ := trodAll_cons r2
  obtain ⟨rfl, rfl, rfl⟩ := trodAll_nil r3
  obtain rfl : args = #[v0, v1, v2, v3] := by cases args; simp_all
  obtain ⟨rfl, rfl⟩ := trodVars_none hV
  obtain ⟨a0, rfl, rfl, rfl, w0⟩ := open_int Try.underlying22 (hval 0 22 v0 rfl rfl) h0
  have k1 := h1
  have lt1 : ∀ x ∈ p1, x.block < W.heap.size := by obtain ⟨m, hm⟩ := k1; exact DataW.trod_lt m _ _ _ hm
  obtain ⟨A1, n1, c1, rfl⟩ := okWide_slice Try.underlying24 (hval 1 24 v1 rfl rfl)
  obtain ⟨z1, s1⟩ := slice_in (j := 1) h1 hsz rfl rfl
  obtain ⟨a2, rfl, rfl, rfl, w2⟩ := open_int Try.underlying3 (hval 2 3 v2 rfl rfl) h2
  obtain ⟨a3, rfl, rfl, rfl, w3⟩ := open_int Try.underlying22 (hval 3 22 v3 rfl rfl) h3
  clear hA0 hval0
  refine (walk a0 A1 n1 c1 z1 a2 a3 W (bounds_u32 w0) s1 (bounds_i64 w2) (bounds_u32 w3)).mono fun e W' ⟨he, bel⟩ => ?_
  subst he
  exact ⟨_, rfl, _, _, _, [], _, [], hW', trodAll_mk1 (shut_bool Try.underlying4 _), (trodAll_cons_mk (shut_int Try.underlying22 w0) (trodAll_cons_mk (Below.trod laidOut (by kernel_rfl) (of_decide_eq_true (by kernel_rfl)) k1 bel lt1) (trodAll_cons_mk (shut_int Try.underlying3 w2) (trodAll_cons_mk (shut_int Try.underlying22 w3) trodAll_mk0)))), rfl, bel.frame _, fun h => by cases h⟩
theorem over : Rows.sumUnlikeRow.holds Try.pinned (OpenSpec.ofChange Rows.sumUnlikeSpec) :=
  OpenClaim.holds_of_wide 6 Try.f6 rfl rfl rfl rfl rfl rfl rfl ⟨rfl, rfl, rfl, rfl, rfl⟩ rfl rfl rfl rfl rfl (by kernel_rfl) Try.func6 (by kernel_rfl)
    (of_decide_eq_true (by kernel_rfl)) (by unfold Func.isWrapper; first | (rw [if_pos (by decide +kernel)]; kernel_rfl) | (rw [if_neg (by decide +kernel)]; exact ⟨rfl, rfl⟩))
    (fun os started H enc _ => lifted os started H enc)
theorem proved : Rows.SumUnlikeSaid := over
end Go.Proofs.Ytipfjlopgidbcaa.sumUnlike
