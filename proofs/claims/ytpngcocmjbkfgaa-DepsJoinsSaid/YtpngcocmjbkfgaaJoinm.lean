/- Joining, in plain words; Join of what lies in blocks of their own. No condition. -/
import Derived.Test.YtpngcocmjbkfgaaJoinc
import Derived.Test.YtpngcocmjbkfgaaCutr
import Derived.Test.YtpngcocmjbkfgaaCov
namespace Go.Proofs.Ytpngcocmjbkfgaa
open Go.RowKit
theorem ix_maxA (a b : List Int) {i : Nat} (h : i < 8) : ix (maxA a b) i = max (ix a i) (ix b i) := tab8_ix _ h
theorem tab8_same {f g : Nat → Int} (h : ∀ i, i < 8 → f i = g i) : tab8 f = tab8 g := by
  unfold tab8
  rw [h 0 (by omega), h 1 (by omega), h 2 (by omega), h 3 (by omega), h 4 (by omega), h 5 (by omega), h 6 (by omega), h 7 (by omega)]
theorem join_turned (a b c : List Int) : joinL [c, b, a] = joinL [a, b, c] := by
  show tab8 (fun i => max (ix (maxA c b) i) (ix a i)) = tab8 (fun i => max (ix (maxA a b) i) (ix c i))
  refine tab8_same fun i hi => ?_
  show max (ix (maxA c b) i) (ix a i) = max (ix (maxA a b) i) (ix c i)
  rw [ix_maxA _ _ hi, ix_maxA _ _ hi]; omega
theorem join_parts (a b c : List Int) : joinL [joinL [a, b], c] = joinL [a, b, c] := rfl
theorem join_twice (a b c : List Int) : joinL [a, b, c, b] = joinL [a, b, c] := by
  show tab8 (fun i => max (ix (maxA (maxA a b) c) i) (ix b i)) = tab8 (fun i => max (ix (maxA a b) i) (ix c i))
  refine tab8_same fun i hi => ?_
  show max (ix (maxA (maxA a b) c) i) (ix b i) = max (ix (maxA a b) i) (ix c i)
  rw [ix_maxA _ _ hi, ix_maxA _ _ hi]; omega
theorem join_one (a : List Int) : joinL [a] = a := rfl
theorem join_ix (a b c : List Int) {i : Nat} (h : i < 8) : ix (joinL [a, b, c]) i = max (max (ix a i) (ix b i)) (ix c i) := by
  show ix (maxA (maxA a b) c) i = _
  rw [ix_maxA _ _ h, ix_maxA _ _ h]
theorem all_of2 {x y : List Int} (hx : x.length = 8) (hy : y.length = 8) : All 8 [x, y] := All.cons_ hx (All.cons_ hy All.nil_)
/-- Join of what lies in a block of its own. -/
theorem join_rows {w : World} {l : List (Nat × TypeId × Array Value)} (h : Rows w l) (g n : Nat) (ls : List (List Int)) (cs : Array Value) (hm : (g, 25, cs) ∈ l) (hc : cs.toList = cellsL ls) (h8 : All 8 ls) (hn : ls.length = n) {z0 z1 z2 z3 z4 z5 z6 z7 : Int} (hz : joinL ls = [z0, z1, z2, z3, z4, z5, z6, z7]) (ln : n ≤ 9223372036854775807) :
    Calls Try.prog 13 #[.slice (some ⟨g, 0, none⟩) n n] w fun e w' => e = .returned (.agg #[.int .i64 z0, .int .i64 z1, .int .i64 z2, .int .i64 z3, .int .i64 z4, .int .i64 z5, .int .i64 z6, .int .i64 z7]) ∧ Below w.heap.size w w' :=
  (join_any _ n n ls w hn h8 (its_row (h _ hm) h8 hc) (Nat.le_refl _) ln).mono fun _ _ ⟨h1, h2⟩ => ⟨by rw [h1, hz]; rfl, h2⟩
end Go.Proofs.Ytpngcocmjbkfgaa
