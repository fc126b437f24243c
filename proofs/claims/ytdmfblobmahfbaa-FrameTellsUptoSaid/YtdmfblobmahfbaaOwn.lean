/- append that tells which block is turned; slices that lie in blocks that are not. No condition: nothing here speaks of one function. -/
import Derived.Test.YtdmfblobmahfbaaBlk
import Derived.Test.YtdmfblobmahfbaaClo
import Derived.Maps.AppendAt
namespace Go.Proofs.Ytdmfblobmahfbaa
open Go.RowKit
theorem own_below {w w' : World} {b k n : Nat} {e : TypeId} {v : Value} {xs : List Value} (h : w.ownsRow b e k v n xs) (hb : Below w.heap.size w w') : w'.ownsRow b e k v n xs :=
  h.kept (grown_below hb) (by cases hv : v.ownBlock with
    | none => exact .inl rfl
    | some g => exact .inr (by simp))
theorem own_nil {w : World} {b n k c : Nat} {e : TypeId} {A : Option Addr} {xs : List Value} (h : w.ownsRow b e 1 (.slice A k c) n xs) : A = none → c = 0 := by
  obtain ⟨A', c', he, hA⟩ := own_shape h
  injection he with h1 _ h3
  subst h1 h3
  exact hA
theorem Lies.grown {w w' : World} {row : Option Nat} {A : Option Addr} {zs : List Int} (h : Lies w A zs) (hg : w.grownBy w' row) (hne : ∀ a, A = some a → some a.block ≠ row) : Lies w' A zs := fun hn => by
  obtain ⟨b, off, e, hlt, hc⟩ := h hn
  have hb : some b ≠ row := hne ⟨b, off, none⟩ e
  exact ⟨b, off, e, Nat.lt_of_lt_of_le hlt hg.size, fun k hk => hg.cell (hc k hk) hb⟩
/-- What lies in a block of a call's own, made behind another one's. -/
theorem own_other {w w1 : World} {b k n m c : Nat} {e e' : TypeId} {v : Value} {A : Option Addr} {xs ys : List Value} (h : w.ownsRow b e k v n xs) (g : w1.ownsRow w.heap.size e' 1 (.slice A m c) m ys) : ∀ a, A = some a → some a.block ≠ v.ownBlock := by
  rintro a rfl hv
  have h1 := h.lt a.block hv.symm
  have h2 := g.lt a.block rfl
  omega
theorem own_lt {w : World} {b n m c : Nat} {e : TypeId} {A : Option Addr} {ys : List Value} (g : w.ownsRow b e 1 (.slice A m c) n ys) : ∀ a, A = some a → a.block < w.heap.size := by
  rintro a rfl
  exact (g.lt a.block rfl).2
theorem own_still {w : World} {v v' : Value} {A : Option Addr} (hne : ∀ a, A = some a → some a.block ≠ v.ownBlock) (hlt : ∀ a, A = some a → a.block < w.heap.size) (h : v'.ownBlock = v.ownBlock ∨ v'.ownBlock = some w.heap.size) : ∀ a, A = some a → some a.block ≠ v'.ownBlock := by
  intro a ha hv
  rcases h with h | h
  · exact hne a ha (hv.trans h)
  · rw [h] at hv
    injection hv with hv
    have := hlt a ha; omega
theorem wpList_append_grown {P : Program} {w : World} {ops : Array Oper} {rest : List Oper} {o : Oper} {a : Act} {Q : Exit → Act → World → Prop} (hgd : o.guard = none) (s x : Operand) (t : TypeId)
    (ho : o.op = .call { callee := .builtin .append, args := #[s, x], argTypes := #[t, t] })
    (base : Nat) (e : TypeId) (i : TypeInfo) (z : Value) (ht : P.underlying t = some (.slice e)) (hi : P.info? e = some i) (hz : i.zero = some z) (hsize : i.size = 1) (hby : i.bytes = 1) (hzs : z.cells.size = 1)
    (v : Value) (n : Nat) (xs : List Int) (hs : a.eval s = v) (hown : w.ownsRow base e 1 v n (cellsOf xs))
    (A : Option Addr) (m c : Nat) (zs : List Int) (hx : a.eval x = .slice A m c) (hm : zs.length = m) (hc : A = none → c = 0) (hl : Lies w A zs) (hb : n + m ≤ 140737488355328) (hbase : base ≤ w.heap.size)
    (h : ∀ v' w', w'.ownsRow base e 1 v' (n + m) (cellsOf (xs ++ zs)) → w.grownBy w' v.ownBlock → (v'.ownBlock = v.ownBlock ∨ v'.ownBlock = some w.heap.size) → wpList P ops Q rest (a.put o.dst v') w') : wpList P ops Q (o :: rest) a w := by
  subst hm
  rcases A with _ | ad
  · have h0 := hl.nil_ rfl
    have hz0 : zs = [] := List.eq_nil_of_length_eq_zero h0
    subst hz0
    obtain rfl := hc rfl
    exact wpList_append_own_none hgd s x t ho base e i 1 ht hi v n (cellsOf xs) hs hown hx (h v w (by simpa using hown) (grown_refl w _) (.inl rfl))
  · refine wpList_append_own_at w hgd s x t ho base e i z 1 1 ht hi hz hsize hby hzs (by omega) v n (cellsOf xs) hs hown ad zs.length c (cellsOf zs) hx (by rw [length_cellsOf]; omega) ?_ cellsOf_one (by unfold maxLen; omega) (by omega) hbase ?_
    · intro j u hj
      obtain ⟨hk, _⟩ := cellsOf_some hj
      obtain ⟨b, off, e', _⟩ := hl (by omega)
      injection e' with e'
      subst e'
      exact Lies.cells hl j u hj
    · intro v' w' h1 h2 _ h4
      exact h v' w' (by rw [cellsOf_append]; exact h1) h2 h4
end Go.Proofs.Ytdmfblobmahfbaa
