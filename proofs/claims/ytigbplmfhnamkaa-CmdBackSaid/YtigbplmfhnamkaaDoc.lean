/- What the document's own Right, Keys, Writes, Clash come to. Conditions: the keys have room. -/
import Derived.Test.YtigbplmfhnamkaaClas
import Derived.Test.YtigbplmfhnamkaaSref
namespace Go.Proofs.Ytigbplmfhnamkaa
open Go.RowKit
/-- The document's own, in plain words. -/
def badC (x : Cm) : Bool := decide (x.k < 1) || (decide (5 < x.k) || (decide (x.c < 1) || (decide (8 < x.c) || (decide (x.q < 1) || (decide (1099511627776 < x.q) || (decide (16 < x.key.size) || (decide (16 < x.en.size) || (decide (64 < x.old.size) || decide (64 < x.val.size)))))))))
def bareC (x : Cm) : Cm :=
  if x.k = 2 then ⟨x.k, x.c, x.q, x.key, noT, noT, x.val⟩
  else if x.k = 4 then ⟨x.k, x.c, x.q, x.key, noT, x.old, x.val⟩
  else if x.k = 5 then ⟨x.k, x.c, x.q, x.key, x.en, noT, noT⟩
  else ⟨x.k, x.c, x.q, x.key, noT, noT, noT⟩
def rrightC (x : Cm) : Bool := sameC x zeroC || (!badC x && (sameC x (bareC x) && (decide (x.k = 5) || !nilB x.key)))
theorem rwrites_any (k c q : Int) (a b o v : ByteArray) (w : World) :
    Calls Try.prog 18 #[.agg #[.int .i64 k, .int .i64 c, .int .i64 q, .string a, .string b, .string o, .string v]] w fun e w' => e = .returned (.bool (writesC k)) ∧ Below w.heap.size w w' := by
  have e : writesC k = (k == 2 || k == 3 || k == 4) := by
    rw [Bool.eq_iff_iff]; simp [writesC]; omega
  rw [e]
  clear e
  go_enter Try.func18, Try.ntmps18
  go_wp2
  all_goals go_ret
  all_goals exact ⟨ret_bool (by first | rfl | simp_all), (Below.refl _ _).alloc (Nat.le_refl _) _⟩
set_option maxRecDepth 100000 in
set_option maxHeartbeats 2000000 in
theorem rkeys_any (k c q : Int) (a b o v : ByteArray) (w : World) (ha : a.size ≤ 140737488355328) :
    Calls Try.prog 14 #[.agg #[.int .i64 k, .int .i64 c, .int .i64 q, .string a, .string b, .string o, .string v]] w fun e w' => e = .returned (keysV ⟨k, c, q, a, b, o, v⟩) ∧ Below w.heap.size w w' := by
  have hl : ¬ (a.size + 1 > 9223372036854775807) := by omega
  have hn : a ++ ⟨#[0]⟩ = nextT a := rfl
  clear ha
  rcases kinds51 k with h4 | rfl | ⟨k1, k2, k3, k4, k5⟩
  · rcases h4 with rfl | rfl | rfl | rfl
    all_goals
      go_enter Try.func14, Try.ntmps14
      go_wp2
      refine bodyPost_ret (v := keysV ⟨_, c, q, a, b, o, v⟩) (by simp [results, Try.results14, go_sem, keysV, loC, hiC, hasC]) rfl ⟨rfl, ?_⟩
      repeat' first | exact Below.refl _ _ | refine Below.drew ?_ | refine bit_alloc ?_ (Nat.le_refl _) _
  · go_enter Try.func14, Try.ntmps14
    go_wp2
    refine bodyPost_ret (v := keysV ⟨5, c, q, a, b, o, v⟩) (by simp [results, Try.results14, go_sem, keysV, loC, hiC, hasC]) rfl ⟨rfl, ?_⟩
    repeat' first | exact Below.refl _ _ | refine Below.drew ?_ | refine bit_alloc ?_ (Nat.le_refl _) _
  · have e : keysV ⟨k, c, q, a, b, o, v⟩ = .tuple #[.agg #[.string noT, .string noT], .bool false] := by rw [keys_no (hasC_no k1 k2 k3 k4 k5)]
    rw [e]
    clear e
    go_enter Try.func14, Try.ntmps14
    go_wp2
    refine bodyPost_ret (v := .tuple #[.agg #[.string noT, .string noT], .bool false]) (by simp [results, Try.results14, go_sem, noT]) rfl ⟨rfl, ?_⟩
    repeat' first | exact Below.refl _ _ | refine Below.drew ?_ | refine bit_alloc ?_ (Nat.le_refl _) _
end Go.Proofs.Ytigbplmfhnamkaa
