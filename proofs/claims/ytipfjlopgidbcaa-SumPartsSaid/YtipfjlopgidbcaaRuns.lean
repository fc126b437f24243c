/- SumRuns returns true, and leaves what was there. No condition. -/
import Derived.Test.YtipfjlopgidbcaaOn
import Derived.Lib.SlBytesConst
namespace Go.Proofs.Ytipfjlopgidbcaa
open Go.RowKit
theorem of_run (w : World) : Calls Try.prog 7 #[.slice (some ⟨w.heap.size, 0, none⟩) 9 9] (w.alloc (.cells #[.int .u8 49, .int .u8 50, .int .u8 51, .int .u8 52, .int .u8 53, .int .u8 54, .int .u8 55, .int .u8 56, .int .u8 57] 5 (9, 10))) fun e w' =>
    e = .returned (.int .u32 3421780262) ∧ w.alloc (.cells #[.int .u8 49, .int .u8 50, .int .u8 51, .int .u8 52, .int .u8 53, .int .u8 54, .int .u8 55, .int .u8 56, .int .u8 57] 5 (9, 10)) = w' := by
  have h := of_any (some ⟨w.heap.size, 0, none⟩) 9 9 [49, 50, 51, 52, 53, 54, 55, 56, 57] (w.alloc (.cells #[.int .u8 49, .int .u8 50, .int .u8 51, .int .u8 52, .int .u8 53, .int .u8 54, .int .u8 55, .int .u8 56, .int .u8 57] 5 (9, 10))) rfl (lies_lit w [49, 50, 51, 52, 53, 54, 55, 56, 57] 5 (9, 10)) (by unfold Octets; decide) (by omega)
  rwa [show ((crc 0 (nats [49, 50, 51, 52, 53, 54, 55, 56, 57]) : Nat) : Int) = 3421780262 by decide +kernel] at h
theorem of_nil (w : World) : Calls Try.prog 7 #[.slice none 0 0] w fun e w' => e = .returned (.int .u32 0) ∧ w = w' := by
  have h := of_any none 0 0 [] w rfl Lies.none_ (by unfold Octets; decide) (by omega)
  rwa [show ((crc 0 (nats []) : Nat) : Int) = 0 by decide +kernel] at h
set_option maxHeartbeats 1000000 in
theorem runs_any (w : World) : Calls Try.prog 3 #[] w fun e w' => e = .returned (.bool true) ∧ Below w.heap.size w w' := by
  have kc := fun (w : World) (C : Array Value) (n c : Nat) => Lib.run_convert_bytes_const (P := Try.prog) w 24 5 C n c Try.underlying24 Try.underlying5
  go_enter Try.func3, Try.ntmps3
  go_wp2_with (first
    | (go_at_call 7; (with_reducible refine (of_run _).mono ?_); rintro e w1 ⟨rfl, rfl⟩)
    | (go_at_call 7; (with_reducible refine (of_nil _).mono ?_); rintro e w1 ⟨rfl, rfl⟩))
  go_ret
  exact ⟨rfl, kept_alloc (kept_refl w) _⟩
end Go.Proofs.Ytipfjlopgidbcaa
