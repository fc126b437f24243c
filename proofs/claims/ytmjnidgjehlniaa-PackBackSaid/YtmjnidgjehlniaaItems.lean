/- Slices of items that come in: what their cells hold. No condition. -/
import Derived.Test.YtmjnidgjehlniaaFrame
import Derived.Deep.Slices
import Derived.Deep.Fields
import Derived.ChangeSame
namespace Go.Proofs.Ytmjnidgjehlniaa
open Go.ChangeShapes Go.WideShapes Go.ChangeAt Go.RowKit Go.Joins
/-- An item. -/
structure It where
  k : Int
  n : Int
  s : ByteArray
  f : Bool
/-- What lies at item j of a slice that begins at ⟨b, off⟩. -/
structure ItAt (w : World) (b off j : Nat) (x : It) : Prop where
  c0 : w.cell? ⟨b, off + j * 4, none⟩ = some (.int .i64 x.k)
  c1 : w.cell? ⟨b, off + j * 4 + 1, none⟩ = some (.int .i64 x.n)
  c2 : w.cell? ⟨b, off + j * 4 + 2, none⟩ = some (.string x.s)
  c3 : w.cell? ⟨b, off + j * 4 + 3, none⟩ = some (.bool x.f)
  k : -9223372036854775808 ≤ x.k ∧ x.k ≤ 9223372036854775807
  n : -9223372036854775808 ≤ x.n ∧ x.n ≤ 9223372036854775807
  s : x.s.size ≤ 9223372036854775807
/-- A slice of items that came in. -/
structure ItemsIn (w : World) (A : Option Addr) (n c : Nat) (it : Nat → It) : Prop where
  le : n ≤ c
  room : c ≤ 9223372036854775807
  at_ : ∀ j, j < n → ∃ b off, A = some ⟨b, off, none⟩ ∧ b < w.heap.size ∧ ItAt w b off j (it j)
theorem ItAt.below {w w' : World} {B b off j : Nat} {x : It} (h : ItAt w b off j x) (hb : Below B w w') (hl : b < B) : ItAt w' b off j x :=
  ⟨(hb.cell (p := ⟨b, off + j * 4, none⟩) hl).trans h.c0, (hb.cell (p := ⟨b, off + j * 4 + 1, none⟩) hl).trans h.c1, (hb.cell (p := ⟨b, off + j * 4 + 2, none⟩) hl).trans h.c2, (hb.cell (p := ⟨b, off + j * 4 + 3, none⟩) hl).trans h.c3, h.k, h.n, h.s⟩
theorem one_of {α : Type} {l : List α} {n : Nat} {x : α} (h : (l.drop n).take 1 = [x]) : l[n]? = some x := by
  rcases Nat.lt_or_ge n l.length with h1 | h1
  · rw [List.drop_eq_getElem_cons h1] at h
    injection h with h _
    rw [List.getElem?_eq_getElem h1, h]
  · rw [List.drop_of_length_le h1] at h; cases h
theorem Try.cells32 : Try.prog.cellsOf 32 = 4 := by kernel_rfl
theorem Try.cells3 : Try.prog.cellsOf 3 = 1 := by kernel_rfl
theorem Try.cells9 : Try.prog.cellsOf 9 = 1 := by kernel_rfl
theorem Try.cells4 : Try.prog.cellsOf 4 = 1 := by kernel_rfl
theorem items_in {H : Type} {enc : TypeId × Value → H} {W : World} {A : Option Addr} {n c : Nat} {d : DataW H} {p : List MemPlace}
    (h : DataW.Trod enc Try.prog W 0 (fun _ => true) true 29 (.slice A n c) d p) : ∃ it, ItemsIn W A n c it := by
  obtain ⟨fuel, hf⟩ := h
  rcases Go.Deep.open_slice Try.underlying29 hf with ⟨hcs, _⟩ | ⟨a, len, cap, m, nf, D, Pl, hcs, _, hl, hm, hmm, _, hi⟩
  · simp [Value.cells] at hcs
    obtain ⟨rfl, rfl, rfl⟩ := hcs
    exact ⟨fun _ => ⟨0, 0, ⟨#[]⟩, false⟩, Nat.le_refl _, by omega, fun j hj => absurd hj (by omega)⟩
  · simp [Value.cells] at hcs
    obtain ⟨rfl, rfl, rfl⟩ := hcs
    have hmc : m = c := by simpa using hmm
    have each : ∀ j, j < n → ∃ x : It, ∃ b off, a = ⟨b, off, none⟩ ∧ b < W.heap.size ∧ ItAt W b off j x := by
      intro j hj
      obtain ⟨cs', hc, ht⟩ := hi j (by omega)
      rw [Try.cells32] at hc
      obtain ⟨_, hlen, hat⟩ := World.cells?_some hc
      obtain ⟨ys, n', _, _, _, hyl, hfs⟩ := DataW.trod_struct Try.underlying32 ht
      have hyl4 : ys.length = 4 := hyl
      have g0 := hfs 0 _ rfl
      have g1 := hfs 1 _ rfl
      have g2 := hfs 2 _ rfl
      have g3 := hfs 3 _ rfl
      change DataW.trod enc Try.prog W 0 (fun _ => true) true n' 3 ((cs'.drop 0).take (Try.prog.cellsOf 3)) = _ at g0
      change DataW.trod enc Try.prog W 0 (fun _ => true) true n' 3 ((cs'.drop 1).take (Try.prog.cellsOf 3)) = _ at g1
      change DataW.trod enc Try.prog W 0 (fun _ => true) true n' 9 ((cs'.drop 2).take (Try.prog.cellsOf 9)) = _ at g2
      change DataW.trod enc Try.prog W 0 (fun _ => true) true n' 4 ((cs'.drop 3).take (Try.prog.cellsOf 4)) = _ at g3
      rw [Try.cells3, List.getElem?_eq_getElem (by omega)] at g0 g1
      rw [Try.cells9, List.getElem?_eq_getElem (by omega)] at g2
      rw [Try.cells4, List.getElem?_eq_getElem (by omega)] at g3
      obtain ⟨k, e0, _, w0⟩ := DataW.trod_int Try.underlying3 g0
      obtain ⟨v, e1, _, w1⟩ := DataW.trod_int Try.underlying3 g1
      obtain ⟨s, e2, _, w2⟩ := DataW.trod_string Try.underlying9 g2
      obtain ⟨f, e3, _⟩ := DataW.trod_bool Try.underlying4 g3
      have a0 := (hat 0 (by omega)).trans (one_of e0)
      have a1 := (hat 1 (by omega)).trans (one_of e1)
      have a2 := (hat 2 (by omega)).trans (one_of e2)
      have a3 := (hat 3 (by omega)).trans (one_of e3)
      have hsp : a.spot = none := by
        obtain ⟨cs0, hc0, ht0⟩ := hi 0 (by omega)
        rw [Try.cells32] at hc0
        obtain ⟨_, hlen0, hat0⟩ := World.cells?_some hc0
        have h0 := hat0 0 (by omega)
        rw [List.getElem?_eq_getElem (by omega)] at h0
        have := World.cell?_spot h0
        unfold Addr.add at this
        simpa using this
      obtain ⟨b, off, spot⟩ := a
      obtain rfl : spot = none := hsp
      rw [Go.WideShapes.add_plain, Go.WideShapes.add_plain] at a0 a1 a2 a3
      refine ⟨⟨k, v, s, f⟩, b, off, rfl, ?_, a0, a1, a2, a3, bounds_i64 w0, bounds_i64 w1, w2⟩
      rcases Nat.lt_or_ge b W.heap.size with h1 | h1
      · exact h1
      · simp [World.cell?, Array.getElem?_eq_none h1] at a0
    refine ⟨fun j => if h : j < n then Classical.choose (each j h) else ⟨0, 0, ⟨#[]⟩, false⟩, hl, hm, fun j hj => ?_⟩
    obtain ⟨b, off, rfl, hb, hx⟩ := Classical.choose_spec (each j hj)
    refine ⟨b, off, rfl, hb, ?_⟩
    rw [dif_pos hj]
    exact hx
end Go.Proofs.Ytmjnidgjehlniaa
