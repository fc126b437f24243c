/- What the laws on Put, Delete and Get use, said of calls. Conditions: the lists lie in memory, their lengths have room. -/
import Derived.Test.YtmcemijipplkgaaRuns
import Derived.Test.YtmcemijipplkgaaRis
import Derived.Test.YtmcemijipplkgaaIn
namespace Go.Proofs.Ytmcemijipplkgaa
open Go.RowKit
theorem put_len_le (l : List Pr) (key value : ByteArray) : (putL l key value).length ≤ l.length + 1 := by
  have h := st_le l key
  unfold putL
  split
  · simp
  · unfold putP behP
    split
    · rw [List.length_append, List.length_cons, List.length_take, List.length_drop]; omega
    · rw [List.length_append, List.length_cons, List.length_take, List.length_drop]; omega
theorem del_len_le (l : List Pr) (key : ByteArray) : (delP l key).length ≤ l.length := by
  have h := st_le l key
  unfold delP
  split
  · rw [List.length_append, List.length_take, List.length_drop]; omega
  · exact Nat.le_refl _
theorem put_room {l : List Pr} {key value : ByteArray} (hf : fullB l key = false) : putL l key value = putP l key value := by unfold putL; rw [hf]; simp
/-- A pair and a bool are answered; nothing of before is turned. -/
def Got (w : World) (p : Pr) (t : Bool) (e : Ending) (w' : World) : Prop := e = .returned (.tuple #[.agg #[.string p.k, .string p.v, .int .i64 p.n], .bool t]) ∧ Below w.heap.size w w'
theorem get_got (v : Value) (l : List Pr) (key : ByteArray) (w : World) (h : Pin w v l) (ln : l.length ≤ 4611686018427387904) : Calls Try.prog 11 #[v, .string key] w (Got w (getP l key) (isB l key)) := get_any v l key w h ln
theorem get_put_other {l : List Pr} {key other value : ByteArray} (h : Up l) (hne : key ≠ other) (hf : fullB l key = false) (ln : l.length ≤ 1000) (v : Value) (w : World) (hp : Pin w v (putL l key value)) : Calls Try.prog 11 #[v, .string other] w (Got w (getP l other) (isB l other)) := by
  have hl := put_len_le l key value
  have e := put_room (value := value) hf
  have := get_got v _ other w hp (by omega)
  rw [e, (put_other h hne).1, (put_other h hne).2] at this
  exact this
theorem get_put_self {l : List Pr} {key value : ByteArray} (h : Up l) (hf : fullB l key = false) (ln : l.length ≤ 1000) (v : Value) (w : World) (hp : Pin w v (putL l key value)) : Calls Try.prog 11 #[v, .string key] w (Got w ⟨key, value, verP l key⟩ true) := by
  have hl := put_len_le l key value
  have e := put_room (value := value) hf
  have := get_got v _ key w hp (by omega)
  rw [e, (put_self h key value).1, (put_self h key value).2] at this
  exact this
theorem get_del_other {l : List Pr} {key other : ByteArray} (h : Up l) (hne : key ≠ other) (ln : l.length ≤ 1000) (v : Value) (w : World) (hp : Pin w v (delP l key)) : Calls Try.prog 11 #[v, .string other] w (Got w (getP l other) (isB l other)) := by
  have hl := del_len_le l key
  have := get_got v _ other w hp (by omega)
  rw [(del_other h hne).1, (del_other h hne).2] at this
  exact this
/-- A pair in a block of its own, behind an answer. -/
def Pbox (w : World) (g : Nat) (p : Pr) : Prop := Row w g 29 #[.string p.k, .string p.v, .int .i64 p.n]
theorem Pbox.new (w : World) (p : Pr) : Pbox (w.alloc (.cells #[.string p.k, .string p.v, .int .i64 p.n] 29)) w.heap.size p := Row.new w _ _
theorem Pbox.below {w w' : World} {g : Nat} {p : Pr} (h : Pbox w g p) (hb : Below w.heap.size w w') : Pbox w' g p := Row.below h hb (Row.lt h)
theorem Pbox.three {w : World} {g : Nat} {p : Pr} (h : Pbox w g p) : w.cell? ⟨g, 0, none⟩ = some (.string p.k) ∧ w.cell? ⟨g, 1, none⟩ = some (.string p.v) ∧ w.cell? ⟨g, 2, none⟩ = some (.int .i64 p.n) := Row.three h
theorem pair_self (p : Pr) (w : World) : (binOp .eql 29 (.agg #[.string p.k, .string p.v, .int .i64 p.n]) (.agg #[.string p.k, .string p.v, .int .i64 p.n])).run Try.prog w = .ok (.bool true) w := by rw [eql_pair, decide_eq_true rfl]
end Go.Proofs.Ytmcemijipplkgaa
