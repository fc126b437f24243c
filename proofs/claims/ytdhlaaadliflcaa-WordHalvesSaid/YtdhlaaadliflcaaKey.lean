/- What Key, Inst and the document's own order of instances come to. Conditions: the bounds of the arguments' kinds. -/
import Derived.Test.YtdhlaaadliflcaaScal
import Derived.BigQuiet
import Derived.Deep.QuietTactic
namespace Go.Proofs.Ytdhlaaadliflcaa
open Go.RowKit
theorem quiet_l {P : Program} {f : FuncId} {args : Array Value} {w : World} {n : Nat} {v : Value} (h : Calls P f args (w.drewN n) fun e w' => e = .returned v ∧ w.drewN n = w') :
    Calls P f args (w.drewN n) fun e w'' => e = .returned v ∧ ∃ m, w'' = w.drewN m := h.mono fun _ _ ⟨he, hm⟩ => ⟨he, n, hm.symm⟩
def keyI (r s : Int) : Int := r % 4294967296 * 4294967296 + s % 4294967296
theorem low_32 (n : Int) : lowI (IntKind.u64.wrap n) 32 = n % 4294967296 := by
  unfold lowI
  rw [if_neg (by omega), if_neg (by omega), IntKind.wrap_u64]
  have e : (2 : Int) ^ (32 : Int).toNat = 4294967296 := rfl
  rw [e]; omega
theorem key_or (r s : Int) : bits .or .u64 (IntKind.u64.wrap (lowI (IntKind.u64.wrap r) 32 * 4294967296)) (lowI (IntKind.u64.wrap s) 32) = keyI r s := by
  rw [low_32, low_32]
  unfold keyI
  have a0 := Int.emod_nonneg r (show (4294967296 : Int) ≠ 0 by omega)
  have a1 := Int.emod_lt_of_pos r (show (0 : Int) < 4294967296 by omega)
  have b0 := Int.emod_nonneg s (show (4294967296 : Int) ≠ 0 by omega)
  have b1 := Int.emod_lt_of_pos s (show (0 : Int) < 4294967296 by omega)
  generalize r % 4294967296 = a at *
  generalize s % 4294967296 = b at *
  rw [IntWalk.u64_in _ ⟨by omega, by omega⟩]
  obtain ⟨X, rfl⟩ := Int.eq_ofNat_of_zero_le a0
  obtain ⟨Y, rfl⟩ := Int.eq_ofNat_of_zero_le b0
  have e : (X : Int) * 4294967296 = ((2 ^ 32 * X : Nat) : Int) := by omega
  rw [e, u64_or_nat _ _ (by omega) (by omega), ← Nat.two_pow_add_eq_or_of_lt (show Y < 2 ^ 32 by omega)]
  omega
theorem wrap_bounds (n : Int) : 0 ≤ IntKind.u64.wrap n ∧ IntKind.u64.wrap n ≤ 18446744073709551615 := by rw [IntKind.wrap_u64]; omega
theorem low_wrap (n b : Int) (w : World) : Calls Try.prog 13 #[.int .u64 (IntKind.u64.wrap n), .int .i64 b] w fun e w' => e = .returned (.int .u64 (lowI (IntKind.u64.wrap n) b)) ∧ w = w' :=
  low_any _ _ _ (wrap_bounds n).1 (wrap_bounds n).2
set_option maxHeartbeats 400000 in
theorem key_any (r s : Int) (w : World) :
    Calls Try.prog 20 #[.agg #[.int .i64 r, .int .i64 s]] w fun e w' => e = .returned (.int .u64 (keyI r s)) ∧ Below w.heap.size w w' := by
  have hk := hide (key_or r s)
  go_enter Try.func20, Try.ntmps20
  go_wp2
  go_quiet ((go_at_call 13; exact quiet_l (low_wrap _ _ _)))
  go_wp2
  go_ret
  exact ⟨ret_int hk.out, below_drewN' ((Below.refl _ _).alloc (Nat.le_refl _) _) _⟩
theorem inst_low (u : Int) : lowI u 32 = u % 4294967296 := by
  unfold lowI
  rw [if_neg (by omega), if_neg (by omega)]; rfl
set_option maxHeartbeats 400000 in
theorem inst_any (u : Int) (w : World) (h0 : 0 ≤ u) (h1 : u ≤ 18446744073709551615) :
    Calls Try.prog 31 #[.int .u64 u] w fun e w' => e = .returned (.agg #[.int .i64 (u / 4294967296), .int .i64 (u % 4294967296)]) ∧ Below w.heap.size w w' := by
  have hl := inst_low u
  have l0 : 0 ≤ lowI u 32 := by rw [hl]; omega
  have l1 : lowI u 32 ≤ 4294967295 := by rw [hl]; omega
  have HL := hide hl
  clear hl
  go_enter Try.func31, Try.ntmps31
  go_wp2_with (go_at_call 13; refine (low_any _ _ _ h0 h1).mono ?_; rintro e w' ⟨rfl, rfl⟩)
  exact bodyPost_ret (v := .agg #[.int .i64 (u / 4294967296), .int .i64 (lowI u 32)]) (by simp [results, Try.results31, go_sem]) rfl ⟨by rw [HL.out], (Below.refl _ _).alloc (Nat.le_refl _) _⟩
def lessB (a b c d : Int) : Bool := decide (a < c) || (a == c && decide (b < d))
set_option maxHeartbeats 1000000 in
theorem less_any (a b c d : Int) (w : World) :
    Calls Try.prog 33 #[.agg #[.int .i64 a, .int .i64 b], .agg #[.int .i64 c, .int .i64 d]] w fun e w' => e = .returned (.bool (lessB a b c d)) ∧ Below w.heap.size w w' := by
  by_cases h1 : a < c
  · go_enter Try.func33, Try.ntmps33
    go_wp2
    go_ret
    exact ⟨ret_bool (by simp [lessB, h1]), ((Below.refl _ _).alloc (Nat.le_refl _) _).alloc (by simp) _⟩
  · by_cases h2 : a = c
    · have hb : ((a : Int) == c) = true := by rw [h2]; simp
      have h1' : decide (a < c) = false := by simpa using h1
      have H2 := hide h2
      clear h2
      by_cases h3 : b < d
      · go_enter Try.func33, Try.ntmps33
        go_wp2
        go_ret
        exact ⟨ret_bool (by simp [lessB, H2.out, h3]), ((Below.refl _ _).alloc (Nat.le_refl _) _).alloc (by simp) _⟩
      · go_enter Try.func33, Try.ntmps33
        go_wp2
        go_ret
        exact ⟨ret_bool (by simp [lessB, H2.out]; omega), ((Below.refl _ _).alloc (Nat.le_refl _) _).alloc (by simp) _⟩
    · have hb : ((a : Int) == c) = false := by simpa using h2
      go_enter Try.func33, Try.ntmps33
      go_wp2
      go_ret
      exact ⟨ret_bool (by simp [lessB, h2]; omega), ((Below.refl _ _).alloc (Nat.le_refl _) _).alloc (by simp) _⟩
end Go.Proofs.Ytdhlaaadliflcaa
