/- Many records more are wanted at once. Conditions: as the calls' own. -/
import Derived.Test.YtkmcnhjfnjikaaaGreatDoorLas
namespace Go.Proofs.YtkmcnhjfnjikaaaGreatDoor
open Go.RowKit Go.Maps
theorem Wnt.mores {Z : Nat → Prop} {w w' : World} {v v' : Value} {L M : List (List Int)} {vs us : List Value} {n : Nat} (hm : ∀ (j : Nat) (p : List Int), M[j]? = some p → ∃ A' c', us[j]? = some (Value.slice A' p.length c') ∧ El w p A' c' ∧ ∀ a, A' = some a → Z a.block ∧ a.block < w.heap.size) (hap : ∀ k, v.ownBlock = some k → ¬ Z k) (hZ : ∀ k, Z k → k < w.heap.size)
    (hl : ∀ (j : Nat) (p : List Int), L[j]? = some p → ∃ A' c', vs[j]? = some (Value.slice A' p.length c') ∧ El w p A' c' ∧ ∀ a, A' = some a → Z a.block ∧ a.block < w.heap.size) (hvl : vs.length = L.length) (hn : n = (L ++ M).length)
    (ho : w'.ownsRow 0 31 1 v' n (vs ++ us)) (hg : w.grownBy w' v.ownBlock) (hat : v'.ownBlock = v.ownBlock ∨ v'.ownBlock = some w.heap.size) : Wnt Z w' v' (L ++ M) := by
  have still : ∀ {q : List Int} {A' : Option Addr} {c' : Nat}, El w q A' c' → (∀ a, A' = some a → Z a.block ∧ a.block < w.heap.size) → El w' q A' c' ∧ ∀ a, A' = some a → Z a.block ∧ a.block < w'.heap.size := fun h h2 =>
    ⟨⟨h.lies.grown hg (fun a ha e => hap _ e.symm (h2 a ha).1), h.le, h.nil⟩, fun a ha => ⟨(h2 a ha).1, Nat.lt_of_lt_of_le (h2 a ha).2 hg.size⟩⟩
  refine ⟨⟨vs ++ us, by rw [← hn]; exact ho, fun j q hj => ?_⟩, fun k hk hz => ?_⟩
  · by_cases hlt : j < L.length
    · rw [List.getElem?_append_left hlt] at hj
      obtain ⟨A', c', e, h1, h2⟩ := hl j q hj
      exact ⟨A', c', by rw [List.getElem?_append_left (by omega)]; exact e, still h1 h2⟩
    · rw [List.getElem?_append_right (by omega)] at hj
      obtain ⟨A', c', e, h1, h2⟩ := hm _ q hj
      exact ⟨A', c', by rw [List.getElem?_append_right (by omega), hvl]; exact e, still h1 h2⟩
  · rcases hat with e | e
    · exact hap k (by rw [← e]; exact hk) hz
    · rw [e] at hk
      injection hk with hk
      have := hZ k hz
      omega
/-- Many records more are wanted. -/
theorem Wk.grows {W w w1 w' : World} {Y : Nat → Prop} {p g : Nat} {d : DS} {x : WS} {v v' : Value} {L M : List (List Int)} {vs us : List Value} {n : Nat} (h : Wk W w Y p g d x v L) (hb : Below w.heap.size w w1)
    (hm : ∀ (j : Nat) (q : List Int), M[j]? = some q → ∃ A' c', us[j]? = some (Value.slice A' q.length c') ∧ El w1 q A' c' ∧ ∀ a, A' = some a → Y a.block ∧ a.block < w1.heap.size)
    (hl : ∀ (j : Nat) (q : List Int), L[j]? = some q → ∃ A' c', vs[j]? = some (Value.slice A' q.length c') ∧ El w1 q A' c' ∧ ∀ a, A' = some a → Y a.block ∧ a.block < w1.heap.size) (hvl : vs.length = L.length) (hv : ∀ k, v.ownBlock = some k → W.heap.size ≤ k) (hn : n = (L ++ M).length)
    (ho : w'.ownsRow 0 31 1 v' n (vs ++ us)) (hg : w1.grownBy w' v.ownBlock) (hat : v'.ownBlock = v.ownBlock ∨ v'.ownBlock = some w1.heap.size) : Wk W w' Y p g d x v' (L ++ M) := by
  have h1 := h.below hb
  have hY := h1.small
  refine ⟨h1.low.trans ⟨hg.os, hg.tape, hg.output, hg.size, fun k hk => hg.block k (Nat.lt_of_lt_of_le hk h1.low.size) fun e => by have := hv k e.symm; omega⟩, h1.q.grow hg (fun k e => .inr e) fun k hk => ?_, Wnt.mores hm h.want.apart hY hl hvl hn ho hg hat, h.xs⟩
  rcases hk with hk | hk
  · exact .inl (.inl hk)
  · rcases hat with e | e
    · exact .inl (.inr (by rw [← e]; exact hk))
    · rw [e] at hk
      injection hk with hk
      subst hk
      refine .inr ⟨Nat.le_refl _, ?_⟩
      have := (ho.lt w1.heap.size e).2
      exact this
/-- Anew, along a law's loop. -/
theorem Wk.anew {W w w1 : World} {Y Y' : Nat → Prop} {p g : Nat} {d d' : DS} {x x' : WS} {v : Value} {L : List (List Int)} {A : Option Addr} {n c : Nat} {F : List (List Int)} {y : Int} (h : Wk W w Y p g d x v L) (hb : Below w.heap.size w w1) (hr : Recs Y' w1 A c F) (hY : ∀ k, Y' k → Y k ∨ v.ownBlock = some k ∨ (w.heap.size ≤ k ∧ k < w1.heap.size)) (hn : F.length = n) (hl : n ≤ 100000) (hs : ∀ q, q ∈ F → q.length ≤ 1000000)
    (hG : x.G < 99) (hln : d.l.length ≤ 80) (hx : anE d x F = y ∧ anS d x F = d' ∧ anW d x F = x') :
    Calls Tryz.prog 13 #[.pointer (some ⟨p, 0, none⟩), .slice A n c] w1 fun e w' => e = .returned (.int .i64 y) ∧ Wk W w' Y p g d' x' v L ∧ Kx (fun k => Y k ∨ v.ownBlock = some k ∨ (w.heap.size ≤ k ∧ k < w1.heap.size)) w1 w' := by
  obtain ⟨rfl, rfl, rfl⟩ := hx
  have hq := h.q.more (Y := fun k => (Y k ∨ v.ownBlock = some k) ∨ (w.heap.size ≤ k ∧ k < w1.heap.size)) hb fun k hk => hk
  exact (anew_any hq hG hln hr (fun k hk => by rcases hY k hk with z | z | z; exact .inl (.inl z); exact .inl (.inr z); exact .inr z) hn hl hs).mono fun e w2 h2 => ⟨(h.op hb (fun k hk => .inl hk) h2).1, (h.op hb (fun k hk => .inl hk) h2).2, h2.2.2.mono fun k hk => by rcases hk with z | z | z; exact .inl (.inl z); exact .inl (.inr z); exact .inr z⟩
end Go.Proofs.YtkmcnhjfnjikaaaGreatDoor
