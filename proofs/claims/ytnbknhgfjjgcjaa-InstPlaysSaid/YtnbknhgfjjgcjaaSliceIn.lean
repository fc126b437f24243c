/- Slices that come in: of instances, of calls, of ints. No condition. -/
import Derived.Test.YtnbknhgfjjgcjaaNew
import Derived.Deep.Slices
import Derived.Deep.Fields
import Derived.ChangeSame
namespace Go.Proofs.Ytnbknhgfjjgcjaa
open Go.ChangeShapes Go.WideShapes Go.ChangeAt Go.RowKit Go.Joins
theorem cell_at {α : Type} {l : List α} {n : Nat} {x : α} (h : (l.drop n).take 1 = [x]) : l[n]? = some x := by
  rcases Nat.lt_or_ge n l.length with h1 | h1
  · rw [List.drop_eq_getElem_cons h1] at h
    injection h with h _
    rw [List.getElem?_eq_getElem h1, h]
  · rw [List.drop_of_length_le h1] at h; cases h
/-- What the two cells of an instance hold. -/
theorem pair_cells {H : Type} {enc : TypeId × Value → H} {W : World} {base fuel : Nat} {spare : Nat → Bool} {held : Bool} {cs : List Value} {x : DataW H × List MemPlace}
    (ht : DataW.trod enc Try.prog W base spare held fuel 25 cs = some x) : ∃ y : Int × Int, cs = ic y ∧ Ok y := by
  obtain ⟨ys, n', _, _, hlen, hyl, hfs⟩ := DataW.trod_struct Try.underlying25 ht
  rw [Try.cells25] at hlen
  obtain ⟨c0, c1, rfl⟩ : ∃ c0 c1, cs = [c0, c1] := by
    match cs, hlen with
    | [c0, c1], _ => exact ⟨c0, c1, rfl⟩
  have g0 := hfs 0 _ rfl
  have g1 := hfs 1 _ rfl
  clear hfs
  change DataW.trod enc Try.prog W base spare held n' 3 (([c0, c1].drop 0).take (Try.prog.cellsOf 3)) = _ at g0
  change DataW.trod enc Try.prog W base spare held n' 3 (([c0, c1].drop 1).take (Try.prog.cellsOf 3)) = _ at g1
  have hyl2 : ys.length = 2 := hyl
  obtain ⟨y0, y1, rfl⟩ : ∃ y0 y1, ys = [y0, y1] := by
    match ys, hyl2 with
    | [y0, y1], _ => exact ⟨y0, y1, rfl⟩
  change _ = some y0 at g0
  change _ = some y1 at g1
  rw [cells_int] at g0 g1
  obtain ⟨k, e0, _, w0⟩ := DataW.trod_int Try.underlying3 g0
  obtain ⟨c, e1, _, w1⟩ := DataW.trod_int Try.underlying3 g1
  simp at e0 e1
  subst e0 e1
  exact ⟨(k, c), rfl, wf_i64.1 w0, wf_i64.1 w1⟩
/-- A slice of instances that came in. -/
structure InstsIn (w : World) (A : Option Addr) (n c : Nat) (l : List (Int × Int)) : Prop where
  len : l.length = n
  le : n ≤ c
  room : c ≤ 9223372036854775807
  ok : ∀ x, x ∈ l → Ok x
  lies : Ins w A l
theorem insts_in {H : Type} {enc : TypeId × Value → H} {W : World} {A : Option Addr} {n c : Nat} {d : DataW H} {p : List MemPlace}
    (h : DataW.Trod enc Try.prog W 0 (fun _ => true) true 29 (.slice A n c) d p) : ∃ l, InstsIn W A n c l := by
  obtain ⟨fuel, hf⟩ := h
  rcases Go.Deep.open_slice Try.underlying29 hf with ⟨hcs, _⟩ | ⟨a, len, cap, m, nf, D, Pl, hcs, _, hl, hm, hmm, _, hi⟩
  · simp [Value.cells] at hcs
    obtain ⟨rfl, rfl, rfl⟩ := hcs
    exact ⟨[], rfl, Nat.le_refl _, by omega, fun x hx => (by cases hx), Ins.nil_⟩
  · simp [Value.cells] at hcs
    obtain ⟨rfl, rfl, rfl⟩ := hcs
    have hmc : m = c := by simpa using hmm
    have each : ∀ j, j < n → ∃ x : Int × Int, Ok x ∧ ∃ b off, a = ⟨b, off, none⟩ ∧ b < W.heap.size ∧ W.cell? ⟨b, off + j * 2, none⟩ = some (.int .i64 x.1) ∧ W.cell? ⟨b, off + j * 2 + 1, none⟩ = some (.int .i64 x.2) := by
      intro j hj
      obtain ⟨cs', hc, ht'⟩ := hi j (by omega)
      rw [Try.cells25] at hc
      obtain ⟨_, hlen, hat⟩ := World.cells?_some hc
      obtain ⟨x, rfl, ok⟩ := pair_cells ht'
      have hsp : a.spot = none := by
        obtain ⟨cs0, hc0, ht0⟩ := hi 0 (by omega)
        rw [Try.cells25] at hc0
        obtain ⟨_, hlen0, hat0⟩ := World.cells?_some hc0
        have h0 := hat0 0 (by omega)
        rw [List.getElem?_eq_getElem (by omega)] at h0
        have := World.cell?_spot h0
        unfold Addr.add at this
        simpa using this
      obtain ⟨b, off, spot⟩ := a
      obtain rfl : spot = none := hsp
      have a0 := hat 0 (by omega)
      have a1 := hat 1 (by omega)
      rw [Go.WideShapes.add_plain, Go.WideShapes.add_plain] at a0 a1
      refine ⟨x, ok, b, off, rfl, ?_, a0, a1⟩
      rcases Nat.lt_or_ge b W.heap.size with h1 | h1
      · exact h1
      · simp [World.cell?, Array.getElem?_eq_none h1, ic] at a0
    let f : Nat → Int × Int := fun j => if h : j < n then Classical.choose (each j h) else (0, 0)
    have hf : ∀ j (hj : j < n), Ok (f j) ∧ ∃ b off, a = ⟨b, off, none⟩ ∧ b < W.heap.size ∧ W.cell? ⟨b, off + j * 2, none⟩ = some (.int .i64 (f j).1) ∧ W.cell? ⟨b, off + j * 2 + 1, none⟩ = some (.int .i64 (f j).2) := by
      intro j hj
      have := Classical.choose_spec (each j hj)
      simp only [f, dif_pos hj]
      exact this
    refine ⟨(List.range n).map f, by simp, hl, by unfold maxLen at hm; omega, fun x hx => ?_, fun hn => ?_⟩
    · obtain ⟨j, hj, rfl⟩ := List.mem_map.1 hx
      exact (hf j (List.mem_range.1 hj)).1
    · have hn' : 0 < n := by simpa using hn
      obtain ⟨_, b, off, rfl, hb, _⟩ := hf 0 hn'
      refine ⟨b, off, rfl, hb, fun k x hk => ?_⟩
      have hkn : k < n := by
        rcases Nat.lt_or_ge k n with h1 | h1
        · exact h1
        · rw [List.getElem?_eq_none (by simpa using h1)] at hk; cases hk
      obtain ⟨_, b', off', e, _, h0, h1⟩ := hf k hkn
      injection e with e1 e2
      subst e1 e2
      have ex : x = f k := by
        rw [List.getElem?_map, List.getElem?_range hkn] at hk
        exact (Option.some.inj hk).symm
      rw [ex]
      exact ⟨h0, h1⟩
/-- A slice of ints that came in. -/
structure IntsIn (w : World) (A : Option Addr) (n c : Nat) (l : List Int) : Prop where
  len : l.length = n
  le : n ≤ c
  room : c ≤ 9223372036854775807
  at_ : ∀ j x, l[j]? = some x → ∃ b off, A = some ⟨b, off, none⟩ ∧ b < w.heap.size ∧ w.cell? ⟨b, off + j, none⟩ = some (.int .i64 x) ∧ I64 x
theorem ints_in {H : Type} {enc : TypeId × Value → H} {W : World} {A : Option Addr} {n c : Nat} {d : DataW H} {p : List MemPlace}
    (h : DataW.Trod enc Try.prog W 0 (fun _ => true) true 45 (.slice A n c) d p) : ∃ l, IntsIn W A n c l := by
  obtain ⟨fuel, hf⟩ := h
  rcases open_ints Try.underlying45 Try.underlying3 cells_int hf with ⟨hcs, _⟩ | ⟨x, l, c', zs, hcs, _, hl, hm, hz, hx, hcell, hwz⟩
  · simp [Value.cells] at hcs
    obtain ⟨rfl, rfl, rfl⟩ := hcs
    exact ⟨[], rfl, Nat.le_refl _, by omega, fun j x hx => (by simp at hx)⟩
  · simp [Value.cells] at hcs
    obtain ⟨rfl, rfl, rfl⟩ := hcs
    have hz' : zs.length = c := by simpa using hz
    refine ⟨zs.take n, by rw [List.length_take]; omega, hl, by unfold maxLen at hm; omega, fun j y hj => ?_⟩
    have hjn : j < n := by
      rcases Nat.lt_or_ge j n with h1 | h1
      · exact h1
      · rw [List.getElem?_take_eq_none h1] at hj; cases hj
    rw [List.getElem?_take_of_lt hjn] at hj
    obtain ⟨b, off, rfl, hc⟩ := ints_at hcell (by omega)
    have h0 := hc j (by omega)
    have ey : zs.getD j 0 = y := by rw [List.getD_eq_getElem?_getD, hj]; rfl
    rw [ey] at h0
    refine ⟨b, off, rfl, ?_, h0, wf_i64.1 (hwz y (List.mem_of_getElem? hj))⟩
    rcases Nat.lt_or_ge b W.heap.size with h1 | h1
    · exact h1
    · simp [World.cell?, Array.getElem?_eq_none h1] at h0
end Go.Proofs.Ytnbknhgfjjgcjaa
