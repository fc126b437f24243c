/- Slices of slices of bytes that come in. No condition. -/
import Derived.Test.YtdmfblobmahfbaaFrame
import Derived.Deep.Slices
import Derived.Deep.Fields
import Derived.ChangeSame
namespace Go.Proofs.Ytdmfblobmahfbaa
open Go.ChangeShapes Go.WideShapes Go.ChangeAt Go.RowKit Go.Joins
theorem weights_all {H : Type} {P : Program} {e : TypeId} : ∀ {ds : List (DataW H)} {d : DataW H}, d ∈ ds → ∀ n ∈ d.weights P e, n ∈ DataW.weightsAll P e ds
  | x :: r, d, hd, n, hn => by
    rw [DataW.weightsAll, List.mem_append]
    rcases List.mem_cons.1 hd with rfl | hd
    · exact .inl hn
    · exact .inr (weights_all hd n hn)
theorem Try.cells22 : Try.prog.cellsOf 22 = 1 := by kernel_rfl
section
variable {H : Type} {enc : TypeId × Value → H} {W : World}
/-- One slice of bytes, out of its reading. -/
theorem bytes_cell {fuel : Nat} {cs : List Value} {x : DataW H × List MemPlace} (ht : DataW.trod enc Try.prog W 0 (fun _ => true) true fuel 22 cs = some x) (hsz : ∀ n ∈ x.1.weights Try.prog 22, n ≤ reachBytes) :
    ∃ A n c zs, cs = [.slice A n c] ∧ SliceIn W A n c zs := by
  rcases open_ints Try.underlying22 Try.underlying5 Try.cells5 ht with ⟨rfl, _⟩ | ⟨a, l, c', zs, rfl, _, hl, _, hz, hx, hcell, hwz⟩
  · exact ⟨none, 0, 0, [], rfl, rfl, Nat.le_refl _, by omega, fun z hz => (by cases hz), Lies.none_, fun _ => rfl⟩
  · have hz' : zs.length = c' := by simpa using hz
    rw [hx] at hsz
    have hs := hsz ((zs.take l).length + (zs.drop l).length) (by
      unfold DataW.weights
      rw [Try.underlying22]
      simp only
      rw [Try.bytes5, Nat.mul_one, length_lits, length_lits]
      exact List.mem_cons_self ..)
    rw [List.length_take, List.length_drop] at hs
    have hr : reachBytes = 140737488351232 := rfl
    refine ⟨some a, l, c', zs.take l, rfl, by rw [List.length_take]; omega, hl, by omega, fun z hz => ?_, fun hn => ?_, fun h => by cases h⟩
    · exact bounds_u8 (hwz z (List.mem_of_mem_take hz))
    · rw [List.length_take] at hn
      obtain ⟨b, off, rfl, hc⟩ := ints_at hcell (by omega)
      have h0 := hc 0 (by omega)
      refine ⟨b, off, rfl, ?_, fun k hk => ?_⟩
      · rcases Nat.lt_or_ge b W.heap.size with h1 | h1
        · exact h1
        · simp [World.cell?, Array.getElem?_eq_none h1] at h0
      · rw [List.length_take] at hk
        have e : ix (zs.take l) k = zs.getD k 0 := by
          rw [ix_lt _ (by rw [List.length_take]; omega), List.getElem_take, ← ix_lt zs (by omega)]; rfl
        rw [e]
        exact hc k (by omega)
/-- A slice of bytes: its parts. -/
structure Sb where
  A : Option Addr
  n : Nat
  c : Nat
  zs : List Int
/-- A slice of slices of bytes that came in. -/
structure PartsIn (w : World) (A : Option Addr) (n c : Nat) (it : Nat → Sb) : Prop where
  le : n ≤ c
  room : c ≤ 9223372036854775807
  at_ : ∀ j, j < n → ∃ b off, A = some ⟨b, off, none⟩ ∧ b < w.heap.size ∧ w.cell? ⟨b, off + j, none⟩ = some (.slice (it j).A (it j).n (it j).c) ∧ SliceIn w (it j).A (it j).n (it j).c (it j).zs
set_option maxRecDepth 100000 in
theorem parts_in {A : Option Addr} {n c : Nat} {d : DataW H} {p : List MemPlace} {ts : List TypeId} {ds : List (DataW H)} {j : Nat}
    (h : DataW.Trod enc Try.prog W 0 (fun _ => true) true 31 (.slice A n c) d p) (hsz : (DataW.weightsEach Try.prog ts ds).all (· ≤ reachBytes) = true) (ht : ts[j]? = some 31) (hd : ds[j]? = some d) : ∃ it, PartsIn W A n c it := by
  obtain ⟨fuel, hf⟩ := h
  have hw : ∀ n ∈ d.weights Try.prog 31, n ≤ reachBytes := fun n hn => by
    have := List.all_eq_true.1 hsz _ (DataW.weights_mem_each ht hd n hn)
    simpa using this
  rcases Go.Deep.open_slice Try.underlying31 hf with ⟨hcs, _⟩ | ⟨a, len, cap, m, nf, D, Pl, hcs, _, hl, hm, hmm, hx, hi⟩
  · simp [Value.cells] at hcs
    obtain ⟨rfl, rfl, rfl⟩ := hcs
    exact ⟨fun _ => ⟨none, 0, 0, []⟩, Nat.le_refl _, by omega, fun j hj => absurd hj (by omega)⟩
  · simp [Value.cells] at hcs
    obtain ⟨rfl, rfl, rfl⟩ := hcs
    have hmc : m = c := by simpa using hmm
    simp only [Prod.mk.injEq] at hx
    have hx1 := hx.1
    have each : ∀ j, j < n → ∃ x : Sb, SliceIn W x.A x.n x.c x.zs ∧ ∃ b off, a = ⟨b, off, none⟩ ∧ b < W.heap.size ∧ W.cell? ⟨b, off + j, none⟩ = some (.slice x.A x.n x.c) := by
      intro j hj
      obtain ⟨cs', hc, ht'⟩ := hi j (by omega)
      rw [Try.cells22] at hc
      obtain ⟨_, hlen, hat⟩ := World.cells?_some hc
      obtain ⟨B, k, e, zs, rfl, hs⟩ := bytes_cell ht' fun k hk => by
        apply hw
        rw [hx1]
        unfold DataW.weights
        rw [Try.underlying31]
        refine List.mem_cons_of_mem _ (List.mem_append_left _ (weights_all (d := D j) ?_ k hk))
        exact List.mem_map.2 ⟨j, List.mem_range.2 hj, rfl⟩
      have a0 := hat 0 (by omega)
      have hsp : a.spot = none := by
        obtain ⟨cs0, hc0, ht0⟩ := hi 0 (by omega)
        rw [Try.cells22] at hc0
        obtain ⟨_, hlen0, hat0⟩ := World.cells?_some hc0
        have h0 := hat0 0 (by omega)
        rw [List.getElem?_eq_getElem (by omega)] at h0
        have := World.cell?_spot h0
        unfold Addr.add at this
        simpa using this
      obtain ⟨b, off, spot⟩ := a
      obtain rfl : spot = none := hsp
      rw [Go.WideShapes.add_plain, Go.WideShapes.add_plain] at a0
      simp only [Nat.mul_one, Nat.add_zero] at a0
      refine ⟨⟨B, k, e, zs⟩, hs, b, off, rfl, ?_, a0⟩
      rcases Nat.lt_or_ge b W.heap.size with h1 | h1
      · exact h1
      · simp [World.cell?, Array.getElem?_eq_none h1] at a0
    refine ⟨fun j => if h : j < n then Classical.choose (each j h) else ⟨none, 0, 0, []⟩, hl, hm, fun j hj => ?_⟩
    obtain ⟨hs, b, off, rfl, hb, hx⟩ := Classical.choose_spec (each j hj)
    refine ⟨b, off, rfl, hb, ?_, ?_⟩
    · simp only [dif_pos hj]; exact hx
    · simp only [dif_pos hj]; exact hs
end
end Go.Proofs.Ytdmfblobmahfbaa
