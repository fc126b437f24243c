/- A slice of slices of slices of bytes, as it comes in. No condition. -/
import Derived.Test.YtkmcnhjfnjikaaaGreatDoorLas
namespace Go.Proofs.YtkmcnhjfnjikaaaGreatDoor
open Go.ChangeShapes Go.WideShapes Go.ChangeAt Go.RowKit Go.Joins
/-- A slice of slices of bytes. -/
structure Pb where
  A : Option Addr
  m : Nat
  c : Nat
  it : Nat → Sb
structure PpsIn (w : World) (A : Option Addr) (n c : Nat) (it : Nat → Pb) : Prop where
  le : n ≤ c
  room : c ≤ 9223372036854775807
  at_ : ∀ j, j < n → ∃ b off, A = some ⟨b, off, none⟩ ∧ b < w.heap.size ∧ w.cell? ⟨b, off + j, none⟩ = some (.slice (it j).A (it j).m (it j).c) ∧ PartsIn w (it j).A (it j).m (it j).c (it j).it
section
variable {H : Type} {enc : TypeId × Value → H} {W : World}
set_option maxRecDepth 100000 in
theorem pparts_in {A : Option Addr} {n c : Nat} {d : DataW H} {p : List MemPlace} {ts : List TypeId} {ds : List (DataW H)} {j : Nat}
    (h : DataW.Trod enc Tryz.prog W 0 (fun _ => true) true 63 (.slice A n c) d p) (hsz : (DataW.weightsEach Tryz.prog ts ds).all (· ≤ reachBytes) = true) (ht : ts[j]? = some 63) (hd : ds[j]? = some d) : ∃ it, PpsIn W A n c it := by
  obtain ⟨fuel, hf⟩ := h
  have hw : ∀ n ∈ d.weights Tryz.prog 63, n ≤ reachBytes := fun n hn => by
    have := List.all_eq_true.1 hsz _ (DataW.weights_mem_each ht hd n hn)
    simpa using this
  rcases Go.Deep.open_slice Tryz.underlying63 hf with ⟨hcs, _⟩ | ⟨a, len, cap, m, nf, D, Pl, hcs, _, hl, hm, hmm, hx, hi⟩
  · simp [Value.cells] at hcs
    obtain ⟨rfl, rfl, rfl⟩ := hcs
    exact ⟨fun _ => ⟨none, 0, 0, fun _ => ⟨none, 0, 0, []⟩⟩, Nat.le_refl _, by omega, fun j hj => absurd hj (by omega)⟩
  · simp [Value.cells] at hcs
    obtain ⟨rfl, rfl, rfl⟩ := hcs
    have hmc : m = c := by simpa using hmm
    simp only [Prod.mk.injEq] at hx
    have hx1 := hx.1
    have each : ∀ j, j < n → ∃ x : Pb, PartsIn W x.A x.m x.c x.it ∧ ∃ b off, a = ⟨b, off, none⟩ ∧ b < W.heap.size ∧ W.cell? ⟨b, off + j, none⟩ = some (.slice x.A x.m x.c) := by
      intro j hj
      obtain ⟨cs', hc, ht'⟩ := hi j (by omega)
      rw [cellsPP] at hc
      obtain ⟨_, hlen, hat⟩ := World.cells?_some hc
      obtain ⟨B, k, e, it, rfl, hs⟩ := parts_cell ht' fun k hk => by
        apply hw
        rw [hx1]
        unfold DataW.weights
        rw [Tryz.underlying63]
        refine List.mem_cons_of_mem _ (List.mem_append_left _ (weights_all (d := D j) ?_ k hk))
        exact List.mem_map.2 ⟨j, List.mem_range.2 hj, rfl⟩
      have a0 := hat 0 (by omega)
      have hsp : a.spot = none := by
        obtain ⟨cs0, hc0, ht0⟩ := hi 0 (by omega)
        rw [cellsPP] at hc0
        obtain ⟨_, hlen0, hat0⟩ := World.cells?_some hc0
        have h0 := hat0 0 (by omega)
        rw [List.getElem?_eq_getElem (by omega)] at h0
        have := World.cell?_spot h0
        unfold Addr.add at this
        simpa using this
      obtain ⟨b, off, spot⟩ := a
      obtain rfl : spot = none := hsp
      rw [Go.WideShapes.add_plain, Go.WideShapes.add_plain] at a0
      simp only [Nat.mul_one, Nat.add_zero] at a0
      refine ⟨⟨B, k, e, it⟩, hs, b, off, rfl, ?_, a0⟩
      rcases Nat.lt_or_ge b W.heap.size with h1 | h1
      · exact h1
      · simp [World.cell?, Array.getElem?_eq_none h1] at a0
    refine ⟨fun j => if h : j < n then Classical.choose (each j h) else ⟨none, 0, 0, fun _ => ⟨none, 0, 0, []⟩⟩, hl, hm, fun j hj => ?_⟩
    obtain ⟨hs, b, off, rfl, hb, hx⟩ := Classical.choose_spec (each j hj)
    refine ⟨b, off, rfl, hb, ?_, ?_⟩
    · simp only [dif_pos hj]; exact hx
    · simp only [dif_pos hj]; exact hs
end
end Go.Proofs.YtkmcnhjfnjikaaaGreatDoor
