/- A slice of calls that comes in. No condition. -/
import Derived.Test.YtnbknhgfjjgcjaaSliceIn
namespace Go.Proofs.Ytnbknhgfjjgcjaa
open Go.ChangeShapes Go.WideShapes Go.ChangeAt Go.RowKit Go.Joins
theorem cells_ask : Try.prog.cellsOf 42 = 3 := by kernel_rfl
/-- What the three cells of a call hold. -/
theorem ask_cells {H : Type} {enc : TypeId × Value → H} {W : World} {base fuel : Nat} {spare : Nat → Bool} {held : Bool} {cs : List Value} {x : DataW H × List MemPlace}
    (ht : DataW.trod enc Try.prog W base spare held fuel 42 cs = some x) : ∃ y : Int × (Int × Int), cs = .int .i64 y.1 :: ic y.2 ∧ I64 y.1 ∧ Ok y.2 := by
  obtain ⟨ys, n', _, _, hlen, hyl, hfs⟩ := DataW.trod_struct Try.underlying42 ht
  rw [cells_ask] at hlen
  obtain ⟨c0, c1, c2, rfl⟩ : ∃ c0 c1 c2, cs = [c0, c1, c2] := by
    match cs, hlen with
    | [c0, c1, c2], _ => exact ⟨c0, c1, c2, rfl⟩
  have g0 := hfs 0 _ rfl
  have g1 := hfs 1 _ rfl
  clear hfs
  change DataW.trod enc Try.prog W base spare held n' 3 (([c0, c1, c2].drop 0).take (Try.prog.cellsOf 3)) = _ at g0
  change DataW.trod enc Try.prog W base spare held n' 25 (([c0, c1, c2].drop 1).take (Try.prog.cellsOf 25)) = _ at g1
  have hyl2 : ys.length = 2 := hyl
  obtain ⟨y0, y1, rfl⟩ : ∃ y0 y1, ys = [y0, y1] := by
    match ys, hyl2 with
    | [y0, y1], _ => exact ⟨y0, y1, rfl⟩
  change _ = some y0 at g0
  change _ = some y1 at g1
  rw [cells_int] at g0
  rw [Try.cells25] at g1
  obtain ⟨k, e0, _, w0⟩ := DataW.trod_int Try.underlying3 g0
  obtain ⟨y, e1, ok⟩ := pair_cells g1
  simp [ic] at e0 e1
  obtain ⟨e1, e2⟩ := e1
  subst e0 e1 e2
  exact ⟨(k, y), rfl, wf_i64.1 w0, ok⟩
/-- A slice of calls that came in. -/
structure AsksIn (w : World) (A : Option Addr) (n c : Nat) (l : List (Int × (Int × Int))) : Prop where
  len : l.length = n
  le : n ≤ c
  room : c ≤ 9223372036854775807
  at_ : ∀ j x, l[j]? = some x → ∃ b off, A = some ⟨b, off, none⟩ ∧ b < w.heap.size ∧ w.cell? ⟨b, off + j * 3, none⟩ = some (.int .i64 x.1) ∧ w.cell? ⟨b, off + j * 3 + 1, none⟩ = some (.int .i64 x.2.1) ∧ w.cell? ⟨b, off + j * 3 + 2, none⟩ = some (.int .i64 x.2.2) ∧ I64 x.1 ∧ Ok x.2
theorem asks_in {H : Type} {enc : TypeId × Value → H} {W : World} {A : Option Addr} {n c : Nat} {d : DataW H} {p : List MemPlace}
    (h : DataW.Trod enc Try.prog W 0 (fun _ => true) true 40 (.slice A n c) d p) : ∃ l, AsksIn W A n c l := by
  obtain ⟨fuel, hf⟩ := h
  rcases Go.Deep.open_slice Try.underlying40 hf with ⟨hcs, _⟩ | ⟨a, len, cap, m, nf, D, Pl, hcs, _, hl, hm, hmm, _, hi⟩
  · simp [Value.cells] at hcs
    obtain ⟨rfl, rfl, rfl⟩ := hcs
    exact ⟨[], rfl, Nat.le_refl _, by omega, fun j x hx => (by simp at hx)⟩
  · simp [Value.cells] at hcs
    obtain ⟨rfl, rfl, rfl⟩ := hcs
    have hmc : m = c := by simpa using hmm
    have each : ∀ j, j < n → ∃ x : Int × (Int × Int), (I64 x.1 ∧ Ok x.2) ∧ ∃ b off, a = ⟨b, off, none⟩ ∧ b < W.heap.size ∧ W.cell? ⟨b, off + j * 3, none⟩ = some (.int .i64 x.1) ∧ W.cell? ⟨b, off + j * 3 + 1, none⟩ = some (.int .i64 x.2.1) ∧ W.cell? ⟨b, off + j * 3 + 2, none⟩ = some (.int .i64 x.2.2) := by
      intro j hj
      obtain ⟨cs', hc, ht'⟩ := hi j (by omega)
      rw [cells_ask] at hc
      obtain ⟨_, hlen, hat⟩ := World.cells?_some hc
      obtain ⟨x, rfl, ok1, ok2⟩ := ask_cells ht'
      have hsp : a.spot = none := by
        obtain ⟨cs0, hc0, ht0⟩ := hi 0 (by omega)
        rw [cells_ask] at hc0
        obtain ⟨_, hlen0, hat0⟩ := World.cells?_some hc0
        have h0 := hat0 0 (by omega)
        rw [List.getElem?_eq_getElem (by omega)] at h0
        have := World.cell?_spot h0
        unfold Addr.add at this
        simpa using this
      obtain ⟨b, off, spot⟩ := a
      obtain rfl : spot = none := hsp
      have a0 := hat 0 (by omega)
      have a1 := hat 1 (by omega)
      have a2 := hat 2 (by omega)
      rw [Go.WideShapes.add_plain, Go.WideShapes.add_plain] at a0 a1 a2
      refine ⟨x, ⟨ok1, ok2⟩, b, off, rfl, ?_, a0, a1, a2⟩
      rcases Nat.lt_or_ge b W.heap.size with h1 | h1
      · exact h1
      · simp [World.cell?, Array.getElem?_eq_none h1, ic] at a0
    let f : Nat → Int × (Int × Int) := fun j => if h : j < n then Classical.choose (each j h) else (0, 0, 0)
    have hf : ∀ j (hj : j < n), (I64 (f j).1 ∧ Ok (f j).2) ∧ ∃ b off, a = ⟨b, off, none⟩ ∧ b < W.heap.size ∧ W.cell? ⟨b, off + j * 3, none⟩ = some (.int .i64 (f j).1) ∧ W.cell? ⟨b, off + j * 3 + 1, none⟩ = some (.int .i64 (f j).2.1) ∧ W.cell? ⟨b, off + j * 3 + 2, none⟩ = some (.int .i64 (f j).2.2) := by
      intro j hj
      have := Classical.choose_spec (each j hj)
      simp only [f, dif_pos hj]
      exact this
    refine ⟨(List.range n).map f, by simp, hl, by unfold maxLen at hm; omega, fun j x hx => ?_⟩
    have hjn : j < n := by
      rcases Nat.lt_or_ge j n with h1 | h1
      · exact h1
      · rw [List.getElem?_eq_none (by simpa using h1)] at hx; cases hx
    obtain ⟨⟨ok1, ok2⟩, b, off, rfl, hlt, h0, h1, h2⟩ := hf j hjn
    have ex : x = f j := by
      rw [List.getElem?_map, List.getElem?_range hjn] at hx
      exact (Option.some.inj hx).symm
    rw [ex]
    exact ⟨b, off, rfl, hlt, h0, h1, h2, ok1, ok2⟩
end Go.Proofs.Ytnbknhgfjjgcjaa
