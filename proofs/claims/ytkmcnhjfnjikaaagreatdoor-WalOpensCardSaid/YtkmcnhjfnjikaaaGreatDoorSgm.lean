/- WalSegments: as many records as one likes go over several segments. No condition. -/
import Derived.Test.YtkmcnhjfnjikaaaGreatDoorFul
namespace Go.Proofs.YtkmcnhjfnjikaaaGreatDoor
open Go.RowKit Go.Maps
/-- More blocks are kept apart from the Wal. -/
theorem Wk.wider {W w w' : World} {Y Y' : Nat → Prop} {p g : Nat} {d : DS} {x : WS} {v : Value} {L : List (List Int)} (h : Wk W w Y p g d x v L) (hb : Below w.heap.size w w') (h1 : ∀ k, Y k → Y' k) (h2 : ∀ k, Y' k → Y k ∨ (w.heap.size ≤ k ∧ k < w'.heap.size)) : Wk W w' Y' p g d x v L := by
  have hw := (h.below hb).want
  refine ⟨kept_trans h.low hb, h.q.more hb fun k hk => ?_, ⟨?_, fun k hk hz => ?_⟩, fun k hk => h1 k (h.xs k hk)⟩
  · rcases hk with hk | hk
    · exact (h2 k hk).imp .inl id
    · exact .inl (.inr hk)
  · obtain ⟨vs, ho, hl⟩ := hw.own
    exact ⟨vs, ho, fun j q hj => by
      obtain ⟨A, c, e, h3, h4⟩ := hl j q hj
      exact ⟨A, c, e, h3, fun a ha => ⟨h1 _ (h4 a ha).1, (h4 a ha).2⟩⟩⟩
  · rcases h2 k hz with z | z
    · exact hw.apart k hk z
    · have := h.want.lt k hk; omega
/-- What holds at the head of round j. -/
structure Sgr (j : Nat) (d : DS) (K : Nat) (F : Nat → List (List Int)) (L : List (List Int)) (n : Nat) : Prop where
  g : Gd d 1 K F
  k : 1 ≤ K ∧ K ≤ j + 1
  q : d.q = 1048576
  ct : (cat F K).tail = L
  ln : L.length ≤ j
  sz : ∀ p, p ∈ L → p.length ≤ 3000 ∧ Octets p
  tot : total d.l ≤ 3006 * j + 30
  n : (enc (F K)).length = n
theorem Sgr.more {j K : Nat} {d : DS} {F : Nat → List (List Int)} {L : List (List Int)} {p : List Int} {n : Nat} (h : Sgr j d K F L n) (hj : j < 30) (hp : (1 ≤ p.length ∧ p.length ≤ 3000) ∧ Octets p) :
    ∃ K' F', adE d ⟨1, K, false⟩ [p] = 0 ∧ adW d ⟨1, K, false⟩ [p] = ⟨1, K', false⟩ ∧ K' = (if 4096 < n then K + 1 else K) ∧ Sgr (j + 1) (adS d ⟨1, K, false⟩ [p]) K' F' (L ++ [p]) ((if 4096 < n then 0 else n) + p.length + 6) := by
  have hk := h.k
  have hl := enc_one_len p
  obtain ⟨K', F', ha⟩ := h.g.add (new := [p]) (by omega) (by omega) (mayB_one (by omega)) (fun x hx => by rcases List.mem_singleton.1 hx with rfl; exact hp.2) (by rw [h.q, hl]; have := h.tot; omega)
  have hn := ha.next (by simp)
  rw [h.n] at hn
  have hla := ha.last
  rw [h.n, hl] at hla
  refine ⟨K', F', ha.e, ha.w, hn, ⟨ha.g, by have := ha.k1; omega, by rw [ha.q]; exact h.q, ?_, by rw [List.length_append]; have := h.ln; simp; omega, fun x hx => ?_, by rw [ha.tot, hl]; have := h.tot; omega, ?_⟩⟩
  · rw [ha.cat]
    have hne := cat_ne h.g.ne h.k.1
    cases hc : cat F K with
    | nil => exact absurd hc hne
    | cons a r =>
      have := h.ct
      rw [hc] at this
      simp only [List.cons_append, List.tail_cons] at this ⊢
      rw [this]
  · rcases List.mem_append.1 hx with h1 | h1
    · exact h.sz x h1
    · rcases List.mem_singleton.1 h1 with rfl; exact ⟨hp.1.2, hp.2⟩
  · rw [hla]
    by_cases hc : 4096 < n
    · rw [if_pos hc] at hn ⊢
      rw [if_neg (by omega)]
      omega
    · rw [if_neg hc] at hn ⊢
      rw [if_pos (by omega)]
      omega
theorem Sgr.start : anE (newS 1048576) ⟨0, 0, false⟩ [] = 0 ∧ anW (newS 1048576) ⟨0, 0, false⟩ [] = ⟨1, 1, false⟩ ∧ ∃ n, n ≤ 30 ∧ Sgr 0 (anS (newS 1048576) ⟨0, 0, false⟩ []) 1 (fun _ => anF []) [] n := by
  have l0 := num7_len (([] : List (List Int)).length : Nat)
  have e0 : (enc (anF [])).length = (num7 (([] : List (List Int)).length : Nat)).length + 6 := by
    unfold anF
    rw [enc_cons, enc_nil]
    simp only [List.length_append, length_frm, List.length_nil]
  have y := (Od.empty 1048576).anew (new := []) (by omega) (by omega) (by decide) (fun p hp => by cases hp) (by decide) (by show ((0 : Nat) : Int) + _ ≤ (1048576 : Int); omega)
  have ht : total (anS (newS 1048576) ⟨0, 0, false⟩ []).l = (enc (anF [])).length := y.tot
  exact ⟨y.e, y.w, (enc (anF [])).length, by omega, ⟨y.g, by omega, y.q, rfl, Nat.le_refl _, fun p hp => (by cases hp), by omega, rfl⟩⟩
/-- The names are just the segments'. -/
theorem Gd.count {d : DS} {G K : Nat} {F : Nat → List (List Int)} (h : Gd d G K F) (hG : 1 ≤ G ∧ G < 100) (hK : K < 99) : d.l.length = K := by
  have h1 := h.len hG (by omega)
  have h2 := found_le hG h.up (k := K) (by omega) fun k h3 h4 => by rw [h.has k h3 h4]; rfl
  omega
end Go.Proofs.YtkmcnhjfnjikaaaGreatDoor
