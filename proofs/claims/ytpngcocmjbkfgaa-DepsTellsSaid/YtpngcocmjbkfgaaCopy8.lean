/- copy of structs of ints; eight cells stored side by side. No program is spoken of. -/
import Derived.Test.YtpngcocmjbkfgaaIts
import Derived.Laws.CopyOwn
namespace Go.Proofs.Ytpngcocmjbkfgaa
open Go.RowKit
theorem run_copy_its {P : Program} (w : World) (dT sT ty elem : TypeId) (g dLen dCap : Nat) (A : Option Addr) (n c m : Nat) (l : List (List Int)) (hu : P.underlying dT = some (.slice elem)) (hs : (P.info? elem).map (·.size) = some m)
    (cur : Array Value) (t : TypeId) (hg : w.heap[g]? = some (.cells cur t (0, 0))) (hn : l.length = n) (hfit : n ≤ dLen) (hsz : n * m ≤ cur.size) (ha : All m l) (hl : Its m w A l) :
    (Builtin.copy_ #[dT, sT] ty #[.slice (some ⟨g, 0, none⟩) dLen dCap, .slice A n c]).run P w = .ok (goInt n) (w.setRow g (cellsL l ++ cur.toList.drop (n * m)).toArray) := by
  have hlen : (cellsL l).length = n * m := by rw [length_cellsL ha, hn]
  have h1 : ∀ v ∈ cellsL l, v.oneCell' = true := fun v hv => by
    unfold cellsL cellsR at hv
    simp only [List.mem_flatMap, List.mem_map] at hv
    obtain ⟨_, _, _, _, rfl⟩ := hv
    rfl
  have hmin : Nat.min n dLen = n := Nat.min_eq_left hfit
  have hst := run_storeCells_at P g 0 t (cellsL l) 0 cur w hg (by rw [hlen]; omega) h1
  rw [Nat.zero_add, Nat.zero_add, List.take_zero, List.nil_append, hlen] at hst
  cases hq : P.info? elem with
  | none => simp [hq] at hs
  | some i =>
    have hi : i.size = m := by simpa [hq] using hs
    cases A with
    | some a =>
      have hsrc : ∀ j v, (cellsL l)[j]? = some v → w.cell? (a.add j) = some v := fun j v hj => by
        have hp : 0 < l.length := by
          rcases Nat.eq_zero_or_pos l.length with h0 | h0
          · obtain rfl := List.eq_nil_of_length_eq_zero h0
            simp [cellsL] at hj
          · exact h0
        obtain ⟨b, off, e, _, _⟩ := hl hp
        injection e with e
        subst e
        exact hl.cells ha j v hj
      have hld := run_loadCells_list (P := P) w a (cellsL l) hsrc
      rw [hlen] at hld
      simp [Builtin.copy_, run_underlying hu, Builtin.lenOf, Builtin.firstCells, sizeOf, typeInfo, hq, hi, hmin, hld, hst]
    | none =>
      have h0 : n = 0 := by
        rcases Nat.eq_zero_or_pos n with h0 | h0
        · exact h0
        · obtain ⟨b, off, e, _⟩ := hl (by omega)
          cases e
      have e0 : l = [] := List.eq_nil_of_length_eq_zero (by omega)
      subst h0
      rw [e0] at hst ⊢
      simp [cellsL] at hst ⊢
      simp [Builtin.copy_, run_underlying hu, Builtin.lenOf, Builtin.firstCells, sizeOf, typeInfo, hq, hst]
theorem wpList_copy_its {P : Program} {w : World} {ops : Array Oper} {rest : List Oper} {o : Oper} {a : Act} {Q : Exit → Act → World → Prop} (hgd : o.guard = none) (d s : Operand) (t : TypeId)
    (ho : o.op = .call { callee := .builtin .copy, args := #[d, s], argTypes := #[t, t] }) (elem : TypeId) (m : Nat) (hu : P.underlying t = some (.slice elem)) (hsz : (P.info? elem).map (·.size) = some m)
    (g dLen dCap : Nat) (hd : a.eval d = .slice (some ⟨g, 0, none⟩) dLen dCap) (A : Option Addr) (n c : Nat) (hs : a.eval s = .slice A n c) (l : List (List Int)) (cur : Array Value) (e : TypeId)
    (hg : w.heap[g]? = some (.cells cur e (0, 0))) (hn : l.length = n) (hfit : n ≤ dLen) (hcs : n * m ≤ cur.size) (ha : All m l) (hl : Its m w A l)
    (h : ∀ w', w' = w.setRow g (cellsL l ++ cur.toList.drop (n * m)).toArray → wpList P ops Q rest (a.put o.dst (goInt n)) w') : wpList P ops Q (o :: rest) a w := by
  refine wpList_plain hgd fun K hK => ?_
  have hrun := run_copy_its (P := P) w t t o.type elem g dLen dCap A n c m l hu hsz cur e hg hn hfit hcs ha hl
  unfold Oper.wp
  simp [execOp, ho, resolve, invoke, builtin, hd, hs, hrun, Result.andThen]
  exact hK _ _ (h _ rfl)
/-- Eight cells of an array set. -/
def put8 (cs : Array Value) (p : Nat) (v0 v1 v2 v3 v4 v5 v6 v7 : Value) : Array Value :=
  (((((((cs.setIfInBounds p v0).setIfInBounds (p + 1) v1).setIfInBounds (p + 2) v2).setIfInBounds (p + 3) v3).setIfInBounds (p + 4) v4).setIfInBounds (p + 5) v5).setIfInBounds (p + 6) v6).setIfInBounds (p + 7) v7
theorem size_put8 (cs : Array Value) (p : Nat) (v0 v1 v2 v3 v4 v5 v6 v7 : Value) : (put8 cs p v0 v1 v2 v3 v4 v5 v6 v7).size = cs.size := by simp [put8]
theorem put8_other (cs : Array Value) {p q : Nat} (h : q < p ∨ p + 8 ≤ q) (v0 v1 v2 v3 v4 v5 v6 v7 : Value) : (put8 cs p v0 v1 v2 v3 v4 v5 v6 v7)[q]? = cs[q]? := by
  unfold put8
  simp only [Array.getElem?_setIfInBounds]
  rw [if_neg (by omega), if_neg (by omega), if_neg (by omega), if_neg (by omega), if_neg (by omega), if_neg (by omega), if_neg (by omega), if_neg (by omega)]
theorem put8_in (cs : Array Value) {p i : Nat} (h : p + 8 ≤ cs.size) (hi : i < 8) (v0 v1 v2 v3 v4 v5 v6 v7 : Value) : (put8 cs p v0 v1 v2 v3 v4 v5 v6 v7)[p + i]? = [v0, v1, v2, v3, v4, v5, v6, v7][i]? := by
  unfold put8
  simp only [Array.getElem?_setIfInBounds, Array.size_setIfInBounds]
  match i, hi with
  | 0, _ => simp; omega
  | 1, _ => simp; omega
  | 2, _ => simp; omega
  | 3, _ => simp; omega
  | 4, _ => simp; omega
  | 5, _ => simp; omega
  | 6, _ => simp; omega
  | 7, _ => simp; omega
theorem Row.put8 {w : World} {g : Nat} {t : TypeId} {cs : Array Value} (h : Row w g t cs) (p : Nat) (v0 v1 v2 v3 v4 v5 v6 v7 : Value) :
    Row ((((((((w.setCell ⟨g, p, none⟩ v0).setCell ⟨g, p + 1, none⟩ v1).setCell ⟨g, p + 2, none⟩ v2).setCell ⟨g, p + 3, none⟩ v3).setCell ⟨g, p + 4, none⟩ v4).setCell ⟨g, p + 5, none⟩ v5).setCell ⟨g, p + 6, none⟩ v6).setCell ⟨g, p + 7, none⟩ v7) g t (put8 cs p v0 v1 v2 v3 v4 v5 v6 v7) :=
  (((((((h.put p v0).put (p + 1) v1).put (p + 2) v2).put (p + 3) v3).put (p + 4) v4).put (p + 5) v5).put (p + 6) v6).put (p + 7) v7
theorem below_put8 {B : Nat} {W w : World} {g : Nat} (h : Below B W w) (hg : B ≤ g) (p : Nat) (v0 v1 v2 v3 v4 v5 v6 v7 : Value) :
    Below B W ((((((((w.setCell ⟨g, p, none⟩ v0).setCell ⟨g, p + 1, none⟩ v1).setCell ⟨g, p + 2, none⟩ v2).setCell ⟨g, p + 3, none⟩ v3).setCell ⟨g, p + 4, none⟩ v4).setCell ⟨g, p + 5, none⟩ v5).setCell ⟨g, p + 6, none⟩ v6).setCell ⟨g, p + 7, none⟩ v7) :=
  (((((((h.setCell hg v0).setCell hg v1).setCell hg v2).setCell hg v3).setCell hg v4).setCell hg v5).setCell hg v6).setCell hg v7
end Go.Proofs.Ytpngcocmjbkfgaa
