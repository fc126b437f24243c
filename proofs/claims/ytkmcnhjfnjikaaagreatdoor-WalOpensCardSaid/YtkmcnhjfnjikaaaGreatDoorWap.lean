/- append of a row of records onto a row of records. No condition: nothing here speaks of one function. -/
import Derived.Test.YtkmcnhjfnjikaaaGreatDoorWks
namespace Go.Proofs.YtkmcnhjfnjikaaaGreatDoor
open Go.RowKit Go.Maps
set_option maxRecDepth 100000 in
theorem append_wnt {Z : Nat → Prop} {w : World} {ops : Array Oper} {rest : List Oper} {o : Oper} {a : Act} {Q : Exit → Act → World → Prop} (hgd : o.guard = none) (s x : Operand)
    (ho : o.op = .call { callee := .builtin .append, args := #[s, x], argTypes := #[27, 27] }) (v : Value) (L : List (List Int)) (vs : List Value) (hs : a.eval s = v) (hown : w.ownsRow 0 31 1 v L.length vs)
    (v2 : Value) (M : List (List Int)) (hx : a.eval x = v2) (h2 : Wnt Z w v2 M) (hb : (L.length + M.length) * 24 ≤ 140737488355328)
    (h : ∀ us v' w', (∀ (j : Nat) (p : List Int), M[j]? = some p → ∃ A' c', us[j]? = some (Value.slice A' p.length c') ∧ El w p A' c' ∧ ∀ a, A' = some a → Z a.block ∧ a.block < w.heap.size) → w'.ownsRow 0 31 1 v' (L.length + M.length) (vs ++ us) → w.grownBy w' v.ownBlock →
      (v'.ownBlock = v.ownBlock ∨ v'.ownBlock = some w.heap.size) → wpList Tryz.prog ops Q rest (a.put o.dst v') w') : wpList Tryz.prog ops Q (o :: rest) a w := by
  obtain ⟨i0, hi, hz0, hz1, hz2⟩ := info_parts Tryz.info31
  obtain ⟨us, ho2, hl2⟩ := h2.own
  have hul : us.length = M.length := by have := ho2.1; omega
  rcases ho2.2 with ⟨rfl, hx0⟩ | ⟨g, cap, cur, rfl, hbb, hh, hnc, hcs⟩
  · have h0 : M = [] := List.eq_nil_of_length_eq_zero hx0
    subst h0
    obtain rfl : us = [] := List.eq_nil_of_length_eq_zero hul
    exact wpList_append_own_none hgd s x 27 ho 0 31 i0 1 Tryz.underlying27 hi v L.length vs hs hown hx (h [] v w (fun j p hj => by simp at hj) (by rw [List.append_nil]; exact hown) (grown_refl w _) (.inl rfl))
  · refine wpList_append_own_at w hgd s x 27 ho 0 31 i0 (.slice none 0 0) 1 24 Tryz.underlying27 hi hz0 hz1 hz2 rfl (by omega) v L.length vs hs hown ⟨g, 0, none⟩ M.length cap us hx (by omega) (fun j u hj => ?_) (fun u hu => ?_) (by unfold maxLen; omega) hb (Nat.zero_le _) ?_
    · have hjl : j < us.length := by
        rcases Nat.lt_or_ge j us.length with h1 | h1
        · exact h1
        · rw [List.getElem?_eq_none h1] at hj; cases hj
      have := ho2.cellAt j (by omega)
      rw [hj] at this
      rcases j with _ | j
      · exact this
      · show w.cell? ⟨g, 0 + (j + 1), none⟩ = _
        rw [Nat.zero_add]; exact this
    · obtain ⟨j, hj⟩ := List.mem_iff_getElem?.1 hu
      have hjl : j < M.length := by
        rcases Nat.lt_or_ge j us.length with h1 | h1
        · omega
        · rw [List.getElem?_eq_none h1] at hj; cases hj
      obtain ⟨A', c', h1, _⟩ := hl2 j M[j] (List.getElem?_eq_getElem hjl)
      rw [h1] at hj; injection hj with hj; rw [← hj]; rfl
    · intro v' w' o' g' _ at'
      exact h us v' w' hl2 o' g' at'
end Go.Proofs.YtkmcnhjfnjikaaaGreatDoor
