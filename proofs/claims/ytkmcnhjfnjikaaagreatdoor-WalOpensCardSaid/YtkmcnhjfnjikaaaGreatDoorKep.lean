/- WalKeeps, without a program: what holds at the head of each round. No condition. -/
import Derived.Test.YtkmcnhjfnjikaaaGreatDoorWap
import Derived.Test.YtkmcnhjfnjikaaaGreatDoorSgx
namespace Go.Proofs.YtkmcnhjfnjikaaaGreatDoor
theorem fewL_ok {W : World} {A : Option Addr} {m c : Nat} {it : Nat → Sb} (h : PartsIn W A m c it) {j : Nat} (hj : j ≤ m) : ∀ p, p ∈ fewL it j → (1 ≤ p.length ∧ p.length ≤ 1500) ∧ Octets p := fun p hp => by
  unfold fewL at hp
  obtain ⟨h1, h2⟩ := List.mem_filter.1 hp
  simp only [Bool.and_eq_true, decide_eq_true_eq] at h2
  obtain ⟨i, hi, rfl⟩ := List.mem_map.1 h1
  obtain ⟨_, _, _, _, _, hs⟩ := h.at_ i (by have := List.mem_range.1 hi; omega)
  exact ⟨h2, hs.oct⟩
theorem mayB_few {M : List (List Int)} (h : ∀ p, p ∈ M → (1 ≤ p.length ∧ p.length ≤ 1500) ∧ Octets p) : mayB M = true := by
  unfold mayB
  apply List.all_eq_true.2
  intro p hp
  have := (h p hp).1
  simp only [Bool.and_eq_true, decide_eq_true_eq]
  omega
theorem enc_few : ∀ {M : List (List Int)}, (∀ p, p ∈ M → (1 ≤ p.length ∧ p.length ≤ 1500) ∧ Octets p) → (enc M).length ≤ 1506 * M.length
  | [], _ => by rw [enc_nil]; exact Nat.le_refl _
  | p :: r, h => by
    have h1 := enc_few (M := r) fun q hq => h q (List.mem_cons_of_mem _ hq)
    have h2 := (h p List.mem_cons_self).1
    rw [enc_cons, List.length_append, length_frm, List.length_cons]
    omega
/-- What holds at the head of round j. -/
structure Ke (j : Nat) (d : DS) (G K : Nat) (F : Nat → List (List Int)) (L : List (List Int)) : Prop where
  g : Gd d G K F
  G : 1 ≤ G ∧ G ≤ j + 1
  k : 1 ≤ K ∧ K ≤ j + 1
  q : d.q = 1048576
  ct : (cat F K).tail = L
  ln : L.length ≤ 6 * j
  sz : ∀ p, p ∈ L → (1 ≤ p.length ∧ p.length ≤ 1500) ∧ Octets p
  tot : total d.l ≤ 9036 * j + 30
section
variable {j G K : Nat} {d : DS} {F : Nat → List (List Int)} {L M : List (List Int)}
theorem Ke.next (h : Ke j d G K F L) : Ke (j + 1) d G K F L := ⟨h.g, by have := h.G; omega, by have := h.k; omega, h.q, h.ct, by have := h.ln; omega, h.sz, by have := h.tot; omega⟩
theorem Ke.add (h : Ke j d G K F L) (hj : j ≤ 40) (hm : ∀ p, p ∈ M → (1 ≤ p.length ∧ p.length ≤ 1500) ∧ Octets p) (h6 : M.length ≤ 6) :
    ∃ K' F', adE d ⟨G, K, false⟩ M = 0 ∧ adW d ⟨G, K, false⟩ M = ⟨G, K', false⟩ ∧ Ke (j + 1) (adS d ⟨G, K, false⟩ M) G K' F' (L ++ M) := by
  have hG := h.G
  have hk := h.k
  have hl := enc_few hm
  have ht := h.tot
  obtain ⟨K', F', ha⟩ := h.g.add (new := M) (by omega) (by omega) (mayB_few hm) (fun p hp => (hm p hp).2) (by rw [h.q]; omega)
  refine ⟨K', F', ha.e, ha.w, ha.g, by omega, by have := ha.k1; omega, by rw [ha.q]; exact h.q, ?_, by rw [List.length_append]; have := h.ln; omega, fun p hp => ?_, by rw [ha.tot]; omega⟩
  · rw [ha.cat]
    have hne := cat_ne h.g.ne h.k.1
    cases hc : cat F K with
    | nil => exact absurd hc hne
    | cons a r =>
      have := h.ct
      rw [hc] at this
      simp only [List.cons_append, List.tail_cons] at this ⊢
      rw [this]
  · rcases List.mem_append.1 hp with h1 | h1
    · exact h.sz p h1
    · exact hm p h1
theorem Ke.anew (h : Ke j d G K F L) (hj : j ≤ 40) (hm : ∀ p, p ∈ M → (1 ≤ p.length ∧ p.length ≤ 1500) ∧ Octets p) (h6 : M.length ≤ 6) :
    anE d ⟨G, K, false⟩ M = 0 ∧ anW d ⟨G, K, false⟩ M = ⟨G + 1, 1, false⟩ ∧ Ke (j + 1) (anS d ⟨G, K, false⟩ M) (G + 1) 1 (fun _ => anF M) M := by
  have hG := h.G
  have hk := h.k
  have hl := enc_few hm
  have ht := h.tot
  have l0 := num7_len (M.length : Nat)
  have e0 : (enc (anF M)).length = (num7 (M.length : Nat)).length + 6 + (enc M).length := by unfold anF; rw [enc_cons, List.length_append, length_frm]
  have y := (h.g.old hG.1).anew (new := M) (by omega) (by omega) (mayB_few hm) (fun p hp => (hm p hp).2) (by omega) (by rw [h.q]; omega)
  exact ⟨y.e, y.w, ⟨y.g, by omega, by omega, by rw [y.q]; exact h.q, rfl, by omega, hm, by rw [y.tot]; omega⟩⟩
theorem Ke.open (h : Ke j d G K F L) (hj : j ≤ 40) : opE d = 0 ∧ opS d = d ∧ opL d = L ∧ opG d = G ∧ (opZ d).k = K := by
  have hG := h.G
  have hk := h.k
  have o := h.g.open (by omega) (by omega)
  exact ⟨o.1, o.2.1, by rw [o.2.2]; exact h.ct, h.g.opG (by omega) (by omega), by rw [h.g.opZ (by omega) (by omega)]⟩
theorem Ke.start : anE (newS 1048576) ⟨0, 0, false⟩ [] = 0 ∧ anW (newS 1048576) ⟨0, 0, false⟩ [] = ⟨1, 1, false⟩ ∧ Ke 0 (anS (newS 1048576) ⟨0, 0, false⟩ []) 1 1 (fun _ => anF []) [] := by
  obtain ⟨h1, h2, n, _, h3⟩ := Sgr.start
  exact ⟨h1, h2, h3.g, by omega, by omega, h3.q, rfl, Nat.le_refl _, fun p hp => (by cases hp), by have := h3.tot; omega⟩
end
end Go.Proofs.YtkmcnhjfnjikaaaGreatDoor
