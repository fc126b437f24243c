/- PackRuns returns true, and leaves what was there. No condition. -/
import Derived.Test.YtmjnidgjehlniaaUse
import Derived.Test.YtmjnidgjehlniaaWrong
namespace Go.Proofs.Ytmjnidgjehlniaa
open Go.RowKit
theorem wrong_lit {n : Nat} {zs : List Int} {cs : Array Value} {k m r : Int} (w : World) (hn : zs.length = n) (ln : n ≤ 1000) (hcs : cs = (cellsOf zs).toArray) (ho : Octets zs) (hk : 1 ≤ k ∧ k ≤ 3) (hr : itE zs 0 0 k m = r) :
    Calls Try.prog 13 #[.slice (some ⟨w.heap.size, 0, none⟩) n n, .int .i64 k, .int .i64 m] (w.alloc (.cells cs 5)) fun e w' => e = .returned (.int .i64 r) ∧ Below w.heap.size w w' := by
  subst hr
  exact (wrong_any _ n n zs k m _ hn (lit_lies w hcs) ho (fun h => by cases h) (by omega) hk).mono fun _ _ ⟨he, hb⟩ => ⟨he, (kept_trans (kept_alloc (kept_refl w) _) hb)⟩
set_option maxRecDepth 100000 in
set_option maxHeartbeats 2000000 in
theorem runs_any (w : World) : Calls Try.prog 3 #[] w fun e w' => e = .returned (.bool true) ∧ Below w.heap.size w w' := by
  have f1 := hide (show (#[.int .u8 1] : Array Value) = (cellsOf [1]).toArray from rfl)
  have f2 := hide (show (#[.int .u8 128, .int .u8 1] : Array Value) = (cellsOf [128, 1]).toArray from rfl)
  have f3 := hide (show (#[.int .u8 4, .int .u8 97, .int .u8 98] : Array Value) = (cellsOf [4, 97, 98]).toArray from rfl)
  have f4 := hide (show (#[.int .u8 128, .int .u8 0] : Array Value) = (cellsOf [128, 0]).toArray from rfl)
  have f5 := hide (show (#[.int .u8 128] : Array Value) = (cellsOf [128]).toArray from rfl)
  have f6 := hide (show (#[.int .u8 2] : Array Value) = (cellsOf [2]).toArray from rfl)
  have n1 := hide (show num7 (-1) = [1] by decide)
  have n2 := hide (show num7 64 = [128, 1] by decide)
  have n3 := hide (show text7 ⟨#[97, 98]⟩ = [4, 97, 98] by decide)
  have l1' := hide (show ([1] : List Int).length = 1 from rfl)
  have l2' := hide (show ([128, 1] : List Int).length = 2 from rfl)
  have l3' := hide (show ([4, 97, 98] : List Int).length = 3 from rfl)
  have l4' := hide (show ([128, 0] : List Int).length = 2 from rfl)
  have l5' := hide (show ([128] : List Int).length = 1 from rfl)
  have l6' := hide (show ([2] : List Int).length = 1 from rfl)
  have o3 := hide (show Octets [4, 97, 98] by unfold Octets; decide)
  have o4 := hide (show Octets [128, 0] by unfold Octets; decide)
  have o5 := hide (show Octets [128] by unfold Octets; decide)
  have o6 := hide (show Octets [2] by unfold Octets; decide)
  have r4 := hide (show itE [128, 0] 0 0 1 0 = 4 by decide)
  have r5 := hide (show itE [128] 0 0 1 0 = 3 by decide)
  have r3 := hide (show itE [4, 97, 98] 0 0 2 1 = 2 by decide)
  have r6 := hide (show itE [2] 0 0 3 0 = 4 by decide)
  have s3 := hide (show (⟨#[97, 98]⟩ : ByteArray).size ≤ 1000 by decide)
  go_enter Try.func3, Try.ntmps3
  go_wp2_with (first
    | (go_at_call 11; (with_reducible refine (num_nil (m := -1) (ys := [1]) (n := 1) w (by omega) (by omega) n1.out l1'.out).mono ?_); rintro e w1 ⟨A1, c1, rfl, _, l1, _, b1⟩; have l1 := hide l1; have b1 := hide b1)
    | (go_at_call 10; (with_reducible refine (same_lit (zs := [1]) (n := 1) l1.out l1'.out (by omega) f1.out).mono ?_); rintro e w2 ⟨rfl, k2⟩; have b2 := hide (kept_trans b1.out k2); clear k2)
    | (go_at_call 11; (with_reducible refine (num_nil (m := 64) (ys := [128, 1]) (n := 2) w2 (by omega) (by omega) n2.out l2'.out).mono ?_); rintro e w3 ⟨A3, c3, rfl, _, l3, _, k3⟩; have l3 := hide l3; have b3 := hide (kept_trans b2.out k3); clear k3)
    | (go_at_call 10; (with_reducible refine (same_lit (zs := [128, 1]) (n := 2) l3.out l2'.out (by omega) f2.out).mono ?_); rintro e w4 ⟨rfl, k4⟩; have b4 := hide (kept_trans b3.out k4); clear k4)
    | (go_at_call 12; (with_reducible refine (text_nil (ys := [4, 97, 98]) (n := 3) w4 s3.out n3.out l3'.out).mono ?_); rintro e w5 ⟨A5, c5, rfl, _, l5, _, k5⟩; have l5 := hide l5; have b5 := hide (kept_trans b4.out k5); clear k5)
    | (go_at_call 10; (with_reducible refine (same_lit (zs := [4, 97, 98]) (n := 3) l5.out l3'.out (by omega) f3.out).mono ?_); rintro e w6 ⟨rfl, k6⟩; have b6 := hide (kept_trans b5.out k6); clear k6)
    | (go_at_call 13; (with_reducible refine (wrong_lit (zs := [128, 0]) (n := 2) (r := 4) w6 l4'.out (by omega) f4.out o4.out (by omega) r4.out).mono ?_); rintro e w7 ⟨rfl, k7⟩; have b7 := hide (kept_trans b6.out k7); clear k7)
    | (go_at_call 13; (with_reducible refine (wrong_lit (zs := [128]) (n := 1) (k := 1) (r := 3) w7 l5'.out (by omega) f5.out o5.out (by omega) r5.out).mono ?_); rintro e w8 ⟨rfl, k8⟩; have b8 := hide (kept_trans b7.out k8); clear k8)
    | (go_at_call 13; (with_reducible refine (wrong_lit (zs := [4, 97, 98]) (n := 3) (r := 2) w8 l3'.out (by omega) f3.out o3.out (by omega) r3.out).mono ?_); rintro e w9 ⟨rfl, k9⟩; have b9 := hide (kept_trans b8.out k9); clear k9)
    | (go_at_call 13; (with_reducible refine (wrong_lit (zs := [2]) (n := 1) (k := 3) (r := 4) w9 l6'.out (by omega) f6.out o6.out (by omega) r6.out).mono ?_); rintro e wa ⟨rfl, ka⟩; have ba := hide (kept_trans b9.out ka); clear ka))
  go_ret
  exact ⟨rfl, ba.out⟩
end Go.Proofs.Ytmjnidgjehlniaa
