/- A state of eight owners and no pairs, built. No condition. -/
import Derived.Test.YtjadbppcjndmlaaTu
namespace Go.Proofs.Ytjadbppcjndmlaa
open Go.RowKit
theorem fill_list (off : Nat) : ∀ (l : List Value) (k : Nat) (cells : Array Value), off + k + l.length ≤ cells.size →
    (l.zipIdx k).foldl (fun cs x => cs.setIfInBounds (off + x.2) x.1) cells = (cells.toList.take (off + k) ++ l ++ cells.toList.drop (off + k + l.length)).toArray
  | [], k, cells, _ => by
    simp only [List.zipIdx_nil, List.foldl_nil, List.append_nil, List.length_nil, Nat.add_zero, List.take_append_drop, Array.toArray_toList]
  | v :: rest, k, cells, h => by
    have hl : off + k + rest.length + 1 ≤ cells.size := by simpa [Nat.add_assoc] using h
    rw [List.zipIdx_cons, List.foldl_cons]
    have ih := fill_list off rest (k + 1) (cells.setIfInBounds (off + k) v) (by rw [Array.size_setIfInBounds]; omega)
    rw [ih, Array.toList_setIfInBounds]
    congr 1
    exact list_seg_step cells.toList (off + k) v rest (by rw [Array.length_toList]; omega)
/-- The state's cells. -/
def stA (L : List Co) : Array Value := #[.slice none 0 0] ++ arr L
theorem stA_size {L : List Co} (h : L.length = 8) : (stA L).size = 49 := by unfold stA; rw [Array.size_append, arr_size h]; rfl
theorem stA_at {L : List Co} (i : Nat) : (stA L)[1 + i]? = (arr L)[i]? := by
  unfold stA
  rw [Array.getElem?_append_right (by simp)]
  simp
theorem fill_eight {L : List Co} (h : L.length = 8) (z : Array Value) (hz : z.size = 49) (h0 : z.toList.take 1 = [.slice none 0 0]) : (arr L).zipIdx.foldl (fun cs x => cs.setIfInBounds (1 + x.2) x.1) z = stA L := by
  rw [← Array.foldl_toList, Array.toList_zipIdx, fill_list 1 (arr L).toList 0 z (by rw [Array.length_toList, arr_size h, hz]; omega), Nat.add_zero, h0, List.drop_of_length_le (by rw [Array.length_toList, Array.length_toList, arr_size h, hz]; omega)]
  unfold stA
  apply Array.toList_inj.1
  simp
theorem fill_state {L : List Co} (h : L.length = 8) (z : Array Value) (hz : z.size = 49) (h0 : z.toList.take 1 = [.slice none 0 0]) : Instr.fill (fun x => ([(0, 1), (1, 48)] : List (Nat × Nat))[x]?) (Value.agg z).cells [(1, .agg (arr L))] = some (stA L) := by
  have e := fill_eight h z hz h0
  have hs := arr_size h
  unfold Instr.fill
  simp only [List.getElem?_cons_succ, List.getElem?_cons_zero, Value.cells]
  refine (if_neg (fun hc => ?_)).trans ?_
  · have hc : (decide ((arr L).size ≠ 48) || decide (1 + (arr L).size > z.size)) = true := hc
    rw [hs, hz] at hc
    exact absurd hc (by decide)
  · unfold Instr.fill
    exact congrArg some e
theorem exec_state {o : Oper} {a : Act} {w : World} {x : Operand} {L : List Co} (ho : o.op = .build 35 #[(1, x)]) (hx : a.eval x = .agg (arr L)) (hl : L.length = 8) :
    (execOp a.eval o).run Try.prog w = .ok (.value (.agg (stA L))) w := by
  have hf := fill_state hl #[.slice none 0 0, .int .i64 0, .int .i64 0, .bool false, .string { data := #[] }, .int .i64 0, .slice none 0 0, .int .i64 0, .int .i64 0, .bool false, .string { data := #[] }, .int .i64 0, .slice none 0 0, .int .i64 0, .int .i64 0, .bool false, .string { data := #[] }, .int .i64 0, .slice none 0 0, .int .i64 0, .int .i64 0, .bool false, .string { data := #[] }, .int .i64 0, .slice none 0 0, .int .i64 0, .int .i64 0, .bool false, .string { data := #[] }, .int .i64 0, .slice none 0 0, .int .i64 0, .int .i64 0, .bool false, .string { data := #[] }, .int .i64 0, .slice none 0 0, .int .i64 0, .int .i64 0, .bool false, .string { data := #[] }, .int .i64 0, .slice none 0 0, .int .i64 0, .int .i64 0, .bool false, .string { data := #[] }, .int .i64 0, .slice none 0 0] rfl rfl
  unfold execOp
  simp only [ho]
  simp [Instr.build, hx]
  rw [hf]
  rfl
end Go.Proofs.Ytjadbppcjndmlaa
