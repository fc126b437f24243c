/- What the error of one call comes to. Conditions: the slice lies in memory and holds bytes, its length has room. -/
import Derived.Test.YtmjnidgjehlniaaCall
namespace Go.Proofs.Ytmjnidgjehlniaa
open Go.RowKit
theorem deep_nil (w : World) (B : Nat) : Deep w B none [] := fun h => absurd h (by simp)
set_option maxRecDepth 100000 in
set_option maxHeartbeats 1000000 in
theorem wrong_any (A : Option Addr) (n c : Nat) (zs : List Int) (k m : Int) (w : World) (hn : zs.length = n) (hz : Lies w A zs) (ho : Octets zs) (hc : A = none → c = 0) (ln : n ≤ 140737488355328) (hk : 1 ≤ k ∧ k ≤ 3) :
    Calls Try.prog 13 #[.slice A n c, .int .i64 k, .int .i64 m] w fun x w' => x = .returned (.int .i64 (itE zs 0 0 k m)) ∧ Below w.heap.size w w' := by
  have hR := hide (pread_any A n c zs w hn hz ho hc ln)
  have hk' := hide hk
  clear hn hz ho hc hk
  go_enter Try.func13, Try.ntmps13
  go_wp2_with (first
    | (go_at_call 20; (with_reducible refine hR.out.mono ?_); rintro x w1 ⟨g, rfl, hg0, hp, hb1⟩; have hp := hide hp; have hb1 := hide hb1)
    | (go_at_call 21; (with_reducible refine (rread_any none 0 0 0 [] w1 rfl (deep_nil _ _) (Nat.zero_le _) (by unfold Octets; decide) (Nat.le_refl _) (by omega)).mono ?_); rintro x w2 ⟨h, rfl, hh0, hr, hb2⟩; have hgl := hp.out.lt; have gh : g < h := Nat.lt_of_lt_of_le hgl hh0; have hp2 := hide (hp.out.below hb2); have hr := hide hr; have hb2 := hide hb2)
    | (go_at_call 22; (with_reducible refine (callx_any hp2.out hr.out gh (Nat.zero_le _) k m hk'.out _ _).mono ?_); rintro x w3 ⟨b, rfl, hp3, hb3⟩; have hp3 := hide hp3; have hb3 := hide hb3)
    | (go_at_call 23; (with_reducible refine (pwrong_any hp3.out).mono ?_); rintro x w4 ⟨rfl, rfl⟩))
  go_ret
  exact ⟨rfl, (kept_trans hb1.out hb2.out).trans (hb3.out.mono hg0)⟩
end Go.Proofs.Ytmjnidgjehlniaa
