/- What number and count of package pack come to. Conditions: the slice lies in memory and holds bytes, its length has room. -/
import Derived.Test.YtpngcocmjbkfgaaFlag
namespace Go.Proofs.Ytpngcocmjbkfgaa
open Go.RowKit
theorem or_step {v q k : Nat} (hv : v < 128 ^ k) (h : v + q * 128 ^ k < 18446744073709551616) :
    bits .or .u64 (v : Int) (IntKind.u64.wrap ((q : Int) * 2 ^ (k * 7))) = ((v + q * 128 ^ k : Nat) : Int) := by
  have e : (q : Int) * 2 ^ (k * 7) = ((q * 128 ^ k : Nat) : Int) := by
    rw [Int.natCast_mul, Int.natCast_pow, Nat.mul_comm k 7, Int.pow_mul]; rfl
  rw [e, IntWalk.u64_in _ ⟨by omega, by omega⟩, u64_or_nat v _ (by omega) (by omega)]
  rw [pow128_two] at *
  rw [Nat.mul_comm q, Nat.or_comm, ← Nat.two_pow_add_eq_or_of_lt hv, Nat.add_comm]
theorem drop_ix {zs : List Int} {k : Nat} (h : k < zs.length) : zs.drop k = ix zs k :: zs.drop (k + 1) := by
  rw [List.drop_eq_getElem_cons h, ix_lt zs h]
theorem ret_three {k l m : IntKind} {a b c d x y : Int} (h : a = b) (g : c = d) (i : x = y) : Ending.returned (.tuple #[.int k a, .int l c, .int m x]) = .returned (.tuple #[.int k b, .int l d, .int m y]) := by rw [h, g, i]
theorem rd_of {zs : List Int} {v s : Nat} {e : Int} (h : rdN 0 0 zs = (v, s, e)) : rdV zs = zagI v ∧ rdS zs = s ∧ rdE zs = e := by
  unfold rdV rdS rdE; rw [h]; exact ⟨rfl, rfl, rfl⟩
theorem rd_none {zs : List Int} {e : Int} (h : rdN 0 0 zs = (0, 0, e)) : rdV zs = 0 ∧ ((rdS zs : Nat) : Int) = 0 ∧ rdE zs = e := by
  obtain ⟨a, b, c⟩ := rd_of h
  exact ⟨a, by rw [b]; rfl, c⟩
theorem low7_int {p : Int} {q : Nat} (w : World) (h0 : 0 ≤ p) (h1 : p ≤ 255) (hq : (p % 128).toNat = q) :
    Calls Try.prog 42 #[.int .u64 p, .int .i64 7] w fun e w' => e = .returned (.int .u64 (q : Nat)) ∧ w = w' := by
  obtain ⟨P, rfl⟩ := Int.eq_ofNat_of_zero_le h0
  exact low7_to (v := P) w (by omega) (by omega)
/-- What the tests of a byte say. -/
theorem tests {k : Nat} {p : Int} (hk : k ≤ 9) (h : ¬ ((0 < k ∧ p = 0) ∨ (k = 9 ∧ 1 < p))) :
    (decide (0 < k) = false ∧ decide (0 < (k : Int)) = false ∧ ((k : Int) == 9) = false) ∨ (decide (0 < k) = true ∧ decide (0 < (k : Int)) = true ∧ (p == 0) = false ∧ ((k : Int) == 9) = false) ∨
    (decide (0 < k) = true ∧ decide (0 < (k : Int)) = true ∧ (p == 0) = false ∧ ((k : Int) == 9) = true ∧ decide (1 < p) = false) := by
  by_cases h0 : k = 0
  · left; subst h0; exact ⟨by decide, by decide, by decide⟩
  · right
    have a : decide (0 < (k : Int)) = true := by rw [decide_eq_true_iff]; omega
    have a' : decide (0 < k) = true := by rw [decide_eq_true_iff]; omega
    have b : (p == 0) = false := by rw [beq_eq_false_iff_ne]; omega
    by_cases h9 : k = 9
    · right; subst h9; exact ⟨a', a, b, by decide, by rw [decide_eq_false_iff_not]; omega⟩
    · left; exact ⟨a', a, b, by rw [beq_eq_false_iff_ne]; omega⟩
theorem tests_bad {k : Nat} {p : Int} (h : (0 < k ∧ p = 0) ∨ (k = 9 ∧ 1 < p)) :
    (decide (0 < k) = true ∧ decide (0 < (k : Int)) = true ∧ (p == 0) = true) ∨ (decide (0 < k) = true ∧ decide (0 < (k : Int)) = true ∧ (p == 0) = false ∧ ((k : Int) == 9) = true ∧ decide (1 < p) = true) := by
  by_cases hp : p = 0
  · left; exact ⟨by rw [decide_eq_true_iff]; omega, by rw [decide_eq_true_iff]; omega, by rw [hp]; rfl⟩
  · right
    obtain ⟨rfl, h1⟩ : k = 9 ∧ 1 < p := by omega
    exact ⟨by decide, by decide, by rw [beq_eq_false_iff_ne]; omega, by decide, by rw [decide_eq_true_iff]; omega⟩
set_option maxRecDepth 100000 in
set_option maxHeartbeats 1000000 in
theorem number_any (A : Option Addr) (n c : Nat) (zs : List Int) (w : World) (hn : zs.length = n) (hz : Lies w A zs) (ho : Octets zs) (ln : n ≤ 4611686018427387904) :
    Calls Try.prog 44 #[.slice A n c] w fun e w' => e = .returned (.tuple #[.int .i64 (rdV zs), .int .i64 (rdS zs : Nat), .int .i64 (rdE zs)]) ∧ w = w' := by
  subst hn
  go_enter Try.func44, Try.ntmps44
  go_wp2
  go_loop [5, 10] (fun u i => ∃ k v : Nat, k ≤ zs.length ∧ k ≤ 9 ∧ i = .int .i64 k ∧ u = .int .u64 v ∧ Hid (v < 128 ^ k) ∧ Hid (rdN 0 0 zs = rdN k v (zs.drop k))) (fun _ i => zs.length - (intOf i).toNat)
  case atStart => exact ⟨0, 0, by omega, by omega, rfl, rfl, hide (by simp), hide rfl⟩
  case round =>
    obtain ⟨k, v, hk, hk9, rfl, rfl, hv, hs⟩ := hrel
    by_cases hlt : k < zs.length
    · obtain ⟨b1, o1, rfl, _, hc1⟩ := hz.at_ (k := k) hlt
      have o := ho.ix k
      have hd := drop_ix hlt
      have HZ := hide hz; have HO := hide ho
      clear hz ho
      generalize ix zs k = p at *
      obtain ⟨p0, p1⟩ := o
      by_cases hf : (0 < k ∧ p = 0) ∨ (k = 9 ∧ 1 < p)
      · have hr := hide (rd_none (show rdN 0 0 zs = (0, 0, 4) by rw [hs.out, hd, rdN_form hf]))
        have ht := tests_bad hf
        clear hf hs hv hd
        rcases ht with ⟨t0, t1, t2⟩ | ⟨t0, t1, t2, t3, t4⟩
        all_goals
          go_wp2
          go_ret3
          exact ⟨ret_three hr.out.1.symm hr.out.2.1.symm hr.out.2.2.symm, rfl⟩
      · obtain ⟨q, hq⟩ : ∃ q, (p % 128).toNat = q := ⟨_, rfl⟩
        have hst := step_lt hk9 hv.out p0 p1 hf
        rw [hq] at hst
        obtain ⟨U, hU⟩ : ∃ U, v + q * 128 ^ k = U := ⟨_, rfl⟩
        rw [hU] at hst
        have hor : bits .or .u64 (v : Int) (IntKind.u64.wrap ((q : Int) * 2 ^ (k * 7))) = (U : Int) := by rw [or_step hv.out (by rw [hU]; exact hst.1), hU]
        have hUl := hide hst.1
        have hUs := hide hst.2
        have hq' := hide hq
        have ht := tests hk9 hf
        by_cases hl : p < 128
        · have hr := hide (rd_of (show rdN 0 0 zs = (U, k + 1, 0) by rw [hs.out, hd, rdN_last hf hl, hq, hU]))
          clear hf hs hv hd hU hst hq
          rcases ht with ⟨t0, t1, t3⟩ | ⟨t0, t1, t2, t3⟩ | ⟨t0, t1, t2, t3, t4⟩
          all_goals
            go_wp2_with (first
              | (go_at_call 42; (with_reducible refine (low7_int _ p0 p1 hq'.out).mono ?_); rintro e w3 ⟨rfl, rfl⟩)
              | (go_at_call 46; (with_reducible refine (zag_any U _ hUl.out).mono ?_); rintro e w3 ⟨rfl, rfl⟩))
            go_ret3
            exact ⟨ret_three hr.out.1.symm (by rw [hr.out.2.1]; rfl) hr.out.2.2.symm, rfl⟩
        · have hr := hide (show rdN 0 0 zs = rdN (k + 1) U (zs.drop (k + 1)) by rw [hs.out, hd, rdN_more hf hl, hq, hU])
          have hk8 : k < 9 := by omega
          clear hf hs hv hd hU hst hq
          rcases ht with ⟨t0, t1, t3⟩ | ⟨t0, t1, t2, t3⟩ | ⟨t0, t1, t2, t3, t4⟩
          all_goals
            go_wp2_with (first
              | (go_at_call 42; (with_reducible refine (low7_int _ p0 p1 hq'.out).mono ?_); rintro e w3 ⟨rfl, rfl⟩))
            go_round
            case rel => exact ⟨k + 1, U, by omega, by omega, by go_num, rfl, hide (hUs.out hk8), hr⟩
            case measure => simp [intOf]; omega
    · obtain rfl : k = zs.length := by omega
      have hr := hide (rd_none (show rdN 0 0 zs = (0, 0, 3) by rw [hs.out, List.drop_length]; rfl))
      clear hs hv
      go_wp2
      go_ret3
      exact ⟨ret_three hr.out.1.symm hr.out.2.1.symm hr.out.2.2.symm, rfl⟩
end Go.Proofs.Ytpngcocmjbkfgaa
