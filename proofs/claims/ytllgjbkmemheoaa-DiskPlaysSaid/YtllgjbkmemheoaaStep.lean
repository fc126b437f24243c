/- append of a slice of bytes that lies anywhere, nil or not, onto a row of the call's own, as one step of a region that draws its order. No condition: nothing here speaks of one function. -/
import Derived.Test.YtllgjbkmemheoaaMem
import Derived.Deep.AppendLies
namespace Go.Proofs.Ytllgjbkmemheoaa
open Go.RowKit
theorem run_append_lies {P : Program} {w : World} (base : Nat) (t ty e : TypeId) (i : TypeInfo) (z : Value) (ht : P.underlying t = some (.slice e)) (hi : P.info? e = some i) (hz : i.zero = some z) (hsize : i.size = 1) (hby : i.bytes = 1) (hzs : z.cells.size = 1)
    (v : Value) (n : Nat) (xs : List Int) (hown : w.ownsRow base e 1 v n (cellsOf xs))
    (A : Option Addr) (m c : Nat) (zs : List Int) (hm : zs.length = m) (hc : A = none → c = 0) (hl : Lies w A zs) (hb : n + m ≤ 140737488355328) (hbase : base ≤ w.heap.size) :
    ∃ v' w', (Builtin.append_ #[t, t] ty #[v, .slice A m c]).run P w = .ok v' w' ∧ w'.ownsRow base e 1 v' (n + m) (cellsOf (xs ++ zs)) ∧ Below base w w' := by
  subst hm
  rcases A with _ | ad
  · have h0 := hl.nil_ rfl
    have hz0 : zs = [] := List.eq_nil_of_length_eq_zero h0
    subst hz0
    obtain rfl := hc rfl
    exact ⟨v, w, run_append_owned_none (P := P) (w := w) base t ty e i 1 ht hi v n (cellsOf xs) hown, by simpa using hown, Below.refl _ _⟩
  · obtain ⟨v', w', hr, h1, h2, _⟩ := run_append_own (P := P) w base t ty e i z 1 1 ht hi hz hsize hby hzs (by omega) v n (cellsOf xs) hown ad zs.length c (cellsOf zs) (by rw [length_cellsOf]; omega) (by
      intro j u hj
      obtain ⟨hk, _⟩ := cellsOf_some hj
      obtain ⟨b, off, e', _⟩ := hl (by omega)
      injection e' with e'
      subst e'
      exact Lies.cells hl j u hj) cellsOf_one (by unfold maxLen; omega) (by omega) hbase
    exact ⟨v', w', hr, by rw [cellsOf_append]; exact h1, (Below.refl _ _).grown h2 hbase (fun k hk => (hown.lt k hk).1)⟩
theorem step_append_bytes {P : Program} {w : World} {ops : Array Oper} {o : Oper} {a : Act} {K : Act → World → Prop} {Q : Exit → Act → World → Prop} {E : Prop} (hgd : o.guard = none) (s x : Operand) (t : TypeId)
    (ho : o.op = .call { callee := .builtin .append, args := #[s, x], argTypes := #[t, t] })
    (base : Nat) (e : TypeId) (i : TypeInfo) (z : Value) (ht : P.underlying t = some (.slice e)) (hi : P.info? e = some i) (hz : i.zero = some z) (hsize : i.size = 1) (hby : i.bytes = 1) (hzs : z.cells.size = 1)
    (v : Value) (n : Nat) (xs : List Int) (hs : a.eval s = v) (hown : w.ownsRow base e 1 v n (cellsOf xs))
    (A : Option Addr) (m c : Nat) (zs : List Int) (hx : a.eval x = .slice A m c) (hm : zs.length = m) (hc : A = none → c = 0) (hl : Lies w A zs) (hb : n + m ≤ 140737488355328) (hbase : base ≤ w.heap.size)
    (h : ∀ v' w', w'.ownsRow base e 1 v' (n + m) (cellsOf (xs ++ zs)) → Below base w w' → K (a.put o.dst v') w') :
    if Region.wanted o (yielded ops a.tmps) = true then Oper.wp P o a w K Q else E := by
  have hw : Region.wanted o (yielded ops a.tmps) = true := by simp [Region.wanted, hgd]
  rw [if_pos hw]
  obtain ⟨v', w', hr, h2, h3⟩ := run_append_lies (P := P) (w := w) base t o.type e i z ht hi hz hsize hby hzs v n xs hown A m c zs hm hc hl hb hbase
  unfold Oper.wp execOp
  simp only [ho, resolve, invoke, builtin, Sem.run_bind, Sem.run_pure, Result.andThen_ok, List.map_toArray, List.map_cons, List.map_nil, hs, hx, hr]
  exact h v' w' h2 h3
end Go.Proofs.Ytllgjbkmemheoaa
