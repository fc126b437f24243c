/- WordRuns returns true, and leaves what was there. No condition. -/
import Derived.Test.YtdhlaaadliflcaaTurn
import Derived.Test.YtdhlaaadliflcaaGet
import Derived.Test.YtdhlaaadliflcaaPut
import Derived.Test.YtdhlaaadliflcaaSame
import Derived.Test.YtdhlaaadliflcaaKey
namespace Go.Proofs.Ytdhlaaadliflcaa
open Go.RowKit
theorem low_run (w : World) : Calls Try.prog 13 #[.int .u64 511, .int .i64 8] w fun e w' => e = .returned (.int .u64 255) ∧ w = w' := low_any 511 8 w (by omega) (by omega)
theorem sign_run1 (w : World) : Calls Try.prog 14 #[.int .u64 255, .int .i64 8] w fun e w' => e = .returned (.int .i64 (-1)) ∧ w = w' := sign_any 255 8 w (by omega) (by omega)
theorem sign_run2 (w : World) : Calls Try.prog 14 #[.int .u64 127, .int .i64 8] w fun e w' => e = .returned (.int .i64 127) ∧ w = w' := sign_any 127 8 w (by omega) (by omega)
theorem turn_run (w : World) : Calls Try.prog 15 #[.int .u64 1, .int .i64 (-1)] w fun e w' => e = .returned (.int .u64 9223372036854775808) ∧ ∃ n, w' = w.drewN n := by
  have h := turn_any 1 (-1) w (by omega) (by omega)
  rwa [show turnI 1 (-1) = 9223372036854775808 by decide +kernel] at h
theorem zig_run (w : World) : Calls Try.prog 16 #[.int .i64 (-2)] w fun e w' => e = .returned (.int .u64 3) ∧ w = w' := zig_any (-2) w (by omega) (by omega)
theorem zag_run (w : World) : Calls Try.prog 17 #[.int .u64 3] w fun e w' => e = .returned (.int .i64 (-2)) ∧ w = w' := zag_any 3 w (by omega) (by omega)
theorem get_run (w : World) : Calls Try.prog 12 #[.slice (some ⟨w.heap.size, 0, none⟩) 2 2, .int .i64 0, .int .i64 2] (w.alloc (.cells #[.int .u8 1, .int .u8 2] 5)) fun e w' =>
    e = .returned (.tuple #[.int .u64 513, .int .i64 0]) ∧ w.alloc (.cells #[.int .u8 1, .int .u8 2] 5) = w' := by
  have h := get_any (some ⟨w.heap.size, 0, none⟩) 2 2 [1, 2] 0 2 (w.alloc (.cells #[.int .u8 1, .int .u8 2] 5)) rfl (Lies.of_own (World.ownsRow_lit (base := 0) w #[.int .u8 1, .int .u8 2] 2 (by omega) (by unfold maxLen; omega) rfl)) (by unfold Octets; decide) (by omega)
  rwa [show getV [1, 2] 0 2 = 513 by decide +kernel, show getE [1, 2] 0 2 = 0 by decide +kernel] at h
theorem put_run (w : World) : Calls Try.prog 19 #[.slice none 0 0, .int .i64 3, .int .u64 66051] w fun e w' =>
    ∃ A, e = .returned (.slice A 3 3) ∧ Lies w' A [3, 2, 1] ∧ Below w.heap.size w w' :=
  (put_any none 0 0 [] 3 66051 w rfl Lies.none_ (fun _ => rfl) (by omega)).mono fun _ _ ⟨he, ho, hb⟩ => ⟨_, he, Lies.of_own (zs := [3, 2, 1]) ho, hb⟩
theorem same_run (A : Option Addr) (w : World) (h : Lies w A [3, 2, 1]) : Calls Try.prog 18 #[.slice A 3 3, .slice (some ⟨w.heap.size, 0, none⟩) 3 3] (w.alloc (.cells #[.int .u8 3, .int .u8 2, .int .u8 1] 5)) fun e w' =>
    e = .returned (.bool true) ∧ ∃ q, w' = (w.alloc (.cells #[.int .u8 3, .int .u8 2, .int .u8 1] 5)).drewN q :=
  same_any A _ 3 3 3 3 [3, 2, 1] [3, 2, 1] _ rfl rfl (h.alloc _) (Lies.of_own (World.ownsRow_lit (base := 0) w #[.int .u8 3, .int .u8 2, .int .u8 1] 3 (by omega) (by unfold maxLen; omega) rfl)) (by omega) (by omega)
theorem key_run (w : World) : Calls Try.prog 20 #[.agg #[.int .i64 2, .int .i64 5]] w fun e w' => e = .returned (.int .u64 8589934597) ∧ Below w.heap.size w w' := key_any 2 5 w
set_option maxHeartbeats 1000000 in
theorem runs_any (w : World) : Calls Try.prog 3 #[] w fun e w' => e = .returned (.bool true) ∧ Below w.heap.size w w' := by
  go_enter Try.func3, Try.ntmps3
  go_wp2_with (first
    | (go_at_call 12; (with_reducible refine (get_run _).mono ?_); rintro e w1 ⟨rfl, rfl⟩)
    | (go_at_call 13; (with_reducible refine (low_run _).mono ?_); rintro e w1 ⟨rfl, rfl⟩)
    | (go_at_call 15; (with_reducible refine (turn_run _).mono ?_); rintro e w1 ⟨rfl, q1, rfl⟩)
    | (go_at_call 16; (with_reducible refine (zig_run _).mono ?_); rintro e w1 ⟨rfl, rfl⟩)
    | (go_at_call 17; (with_reducible refine (zag_run _).mono ?_); rintro e w1 ⟨rfl, rfl⟩)
    | (go_at_call 14; (with_reducible refine (sign_run1 _).mono ?_); rintro e w1 ⟨rfl, rfl⟩)
    | (go_at_call 14; (with_reducible refine (sign_run2 _).mono ?_); rintro e w1 ⟨rfl, rfl⟩)
    | (go_at_call 19; (with_reducible refine (put_run _).mono ?_); rintro e w2 ⟨A2, rfl, hl2, hb2⟩)
    | (go_at_call 18; (with_reducible refine (same_run A2 w2 hl2).mono ?_); rintro e w3 ⟨rfl, q3, rfl⟩)
    | (go_at_call 20; (with_reducible refine (key_run _).mono ?_); rintro e w4 ⟨rfl, hb4⟩))
  go_ret
  exact ⟨rfl, kept_trans (kept_drewN (kept_alloc (kept_trans (kept_drewN (kept_alloc (kept_refl w) _) _) hb2) _) _) hb4⟩
end Go.Proofs.Ytdhlaaadliflcaa
