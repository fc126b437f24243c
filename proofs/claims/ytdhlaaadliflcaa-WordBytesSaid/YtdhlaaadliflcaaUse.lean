/- Put, the document's Put and Roomy, said for their callers: where the answer lies. Conditions: those of their contracts. -/
import Derived.Test.YtdhlaaadliflcaaPut
import Derived.Test.YtdhlaaadliflcaaRoom
namespace Go.Proofs.Ytdhlaaadliflcaa
open Go.RowKit
theorem put_use {A : Option Addr} {n c : Nat} {zs : List Int} {m u : Int} (s M : Nat) (w : World) (hn : zs.length = n) (hz : Lies w A zs) (hc : A = none → c = 0) (ln : n ≤ 140737488355320) (hM : putM m = M) (hs : n + M = s) :
    Calls Try.prog 19 #[.slice A n c, .int .i64 m, .int .u64 u] w fun e w' => ∃ A', e = .returned (.slice A' s s) ∧ Lies w' A' (zs ++ putL u M) ∧ (A' = none → s = 0) ∧ Below w.heap.size w w' := by
  subst hM hs
  exact (put_any A n c zs m u w hn hz hc ln).mono fun _ _ ⟨he, ho, hb⟩ => ⟨_, he, Lies.of_own ho, fun h => (by cases h), hb⟩
theorem put_nil {m u : Int} (M : Nat) (w : World) (hM : putM m = M) :
    Calls Try.prog 19 #[.slice none 0 0, .int .i64 m, .int .u64 u] w fun e w' => ∃ A', e = .returned (.slice A' M M) ∧ Lies w' A' (putL u M) ∧ (A' = none → M = 0) ∧ Below w.heap.size w w' :=
  put_use (zs := []) M M w rfl Lies.none_ (fun _ => rfl) (by omega) hM (Nat.zero_add M)
theorem rput_use {A : Option Addr} {n c : Nat} {zs : List Int} {m u : Int} (w : World) (hn : zs.length = n) (hz : Lies w A zs) (hc : A = none → c = 0) (ln : n ≤ 140737488355320) :
    Calls Try.prog 28 #[.slice A n c, .int .i64 m, .int .u64 u] w fun e w' => ∃ A' c', e = .returned (.slice A' (n + putM m) c') ∧ Lies w' A' (zs ++ putL u (putM m)) ∧ Below w.heap.size w w' :=
  (rput_any A n c zs m u w hn hz hc ln).mono fun _ _ ⟨v, he, ho, hb⟩ => by
    obtain ⟨A', c', rfl, _⟩ := own_shape ho
    exact ⟨A', c', he, Lies.of_own ho, hb⟩
theorem roomy_use {A : Option Addr} {n c : Nat} {zs : List Int} {z : Int} (w : World) (hn : zs.length = n) (hz : Lies w A zs) (ln : n ≤ 140737488355240) :
    Calls Try.prog 26 #[.slice A n c, .int .u8 z] w fun e w' => ∃ A', e = .returned (.slice A' (n + 80) (n + 80)) ∧ Lies w' A' (zs ++ pad 80 z) ∧ A' ≠ none ∧ Below w.heap.size w w' :=
  (roomy_any A n c zs z w hn hz ln).mono fun _ _ ⟨he, ho, hb⟩ => ⟨_, he, Lies.of_own ho, (by intro h; cases h), hb⟩
end Go.Proofs.Ytdhlaaadliflcaa
