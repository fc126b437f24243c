/- What Roomy and Intact come to. Conditions: the slices lie in memory, their lengths have room. -/
import Derived.Test.YtpngcocmjbkfgaaSame
import Derived.Deep.DeepCutAuto
import Derived.Laws.CopyOwn
namespace Go.Proofs.Ytpngcocmjbkfgaa
open Go.RowKit
theorem zeros_cells (n : Nat) : (madeCells #[Value.int .u8 0] n).toList = cellsOf (pad n 0) := by
  rw [toList_madeCells_one]; unfold cellsOf pad; rw [List.map_replicate]
theorem own_block {w : World} {base g n : Nat} {e : TypeId} {xs : List Value} (h : w.ownsRow base e 1 (.slice (some ⟨g, 0, none⟩) n n) n xs) : base ≤ g ∧ n ≤ maxLen ∧ xs.length = n ∧ w.heap[g]? = some (.cells xs.toArray e (0, 0)) := by
  have hl : xs.length = n := by have := h.1; omega
  rcases h.2 with ⟨h0, _⟩ | ⟨g', cap, cur, hv, hb, hh, _, hm, hs, ht⟩
  · cases h0
  · injection hv with h1 _ h3
    injection h1 with h1
    injection h1 with h1
    subst h1 h3
    refine ⟨hb, hm, hl, ?_⟩
    have : xs.toArray = cur := by
      rw [← ht, List.take_of_length_le (by rw [Array.length_toList, hs]; exact Nat.le_refl _)]
    rw [this]; exact hh
theorem block_own {w : World} {base g n : Nat} {e : TypeId} {xs : List Value} (hb : base ≤ g) (hm : n ≤ maxLen) (hl : xs.length = n) (h : w.heap[g]? = some (.cells xs.toArray e (0, 0))) : w.ownsRow base e 1 (.slice (some ⟨g, 0, none⟩) n n) n xs :=
  ⟨by omega, .inr ⟨g, n, xs.toArray, rfl, hb, h, Nat.le_refl _, hm, by simp; omega, by rw [List.take_of_length_le (by simp; omega)]⟩⟩
/-- copy of a slice that lies anywhere to the head of a row of the call's own. -/
theorem wpList_copy_lies {P : Program} {w : World} {ops : Array Oper} {rest : List Oper} {o : Oper} {a : Act} {Q : Exit → Act → World → Prop} (hgd : o.guard = none) (d s : Operand) (t : TypeId)
    (ho : o.op = .call { callee := .builtin .copy, args := #[d, s], argTypes := #[t, t] }) (e : TypeId) (hu : P.underlying t = some (.slice e)) (hsz : (P.info? e).map (·.size) = some 1)
    (base g n : Nat) (xs : List Int) (hd : a.eval d = .slice (some ⟨g, 0, none⟩) n n) (hown : w.ownsRow base e 1 (.slice (some ⟨g, 0, none⟩) n n) n (cellsOf xs))
    (A : Option Addr) (m c : Nat) (zs : List Int) (hs : a.eval s = .slice A m c) (hm : zs.length = m) (hl : Lies w A zs) (hfit : m ≤ n) (w0 : World) (hb : Below base w0 w)
    (h : ∀ w', w'.ownsRow base e 1 (.slice (some ⟨g, 0, none⟩) n n) n (cellsOf (zs ++ xs.drop m)) → Below base w0 w' → wpList P ops Q rest (a.put o.dst (goInt m)) w') : wpList P ops Q (o :: rest) a w := by
  obtain ⟨hbg, hmx, hlen, hblk⟩ := own_block hown
  have hlx : xs.length = n := by rw [length_cellsOf] at hlen; exact hlen
  refine wpList_copy_splice hgd d s t t ho e hu hsz _ A n n m c hd hs g 0 (cellsOf xs) e hblk (cellsOf zs) (by rw [length_cellsOf]; show zs.length = min m n; omega) ?_ (by rw [length_cellsOf, length_cellsOf]; omega) cellsOf_one base w0 hb hbg ?_
  · intro hpos
    rw [length_cellsOf] at hpos
    obtain ⟨b, off, rfl, _⟩ := hl hpos
    exact ⟨rfl, _, rfl, fun j v hj => Lies.cells hl j v hj⟩
  · intro w' hw hb'
    have hsp : splice (cellsOf xs) 0 (cellsOf zs) = cellsOf (zs ++ xs.drop m) := by
      unfold splice
      rw [cellsOf_append, List.take_zero, List.nil_append, length_cellsOf, Nat.zero_add, hm]
      unfold cellsOf
      rw [List.map_drop]
    have hw' := hw.out
    rw [hsp] at hw'
    rw [length_cellsOf, hm]
    exact h w' (block_own hbg hmx (by rw [length_cellsOf, List.length_append, List.length_drop]; omega) hw') hb'
theorem fill_step (zs : List Int) (z : Int) (j : Nat) (h : j < 80) : (zs ++ pad j z ++ pad (80 - j) 0).set (zs.length + j) z = zs ++ pad (j + 1) z ++ pad (80 - (j + 1)) 0 := by
  unfold pad
  have e : 80 - j = (80 - (j + 1)) + 1 := by omega
  rw [e, List.replicate_succ, List.set_append_right _ _ (by simp), List.replicate_succ']
  have e2 : zs.length + j - (zs ++ List.replicate j z).length = 0 := by simp
  rw [e2, List.set_cons_zero]
  simp
end Go.Proofs.Ytpngcocmjbkfgaa
