/- How rows of slots, attributes and slices of them come in. No condition. -/
import Derived.Test.YtpngcocmjbkfgaaKey8
import Derived.Deep.Slices
import Derived.Deep.Fields
import Derived.ChangeSame
namespace Go.Proofs.Ytpngcocmjbkfgaa
open Go.ChangeShapes Go.WideShapes Go.ChangeAt Go.RowKit Go.Joins
section
variable {H : Type} {enc : TypeId × Value → H} {W : World} {base : Nat} {spare : Nat → Bool} {held : Bool}
theorem int_cell {m : Nat} {c : Value} {y : DataW H × List MemPlace} (h : DataW.trod enc Try.prog W base spare held m 3 [c] = some y) : ∃ n, c = .int .i64 n ∧ I64 n := by
  obtain ⟨k, e0, _, w0⟩ := DataW.trod_int Try.underlying3 h
  simp at e0
  exact ⟨k, e0, wf_i64.1 w0⟩
theorem deps_cells {fuel : Nat} {cs : List Value} {x : DataW H × List MemPlace} (ht : DataW.trod enc Try.prog W base spare held fuel 23 cs = some x) : ∃ d1 d2 d3 d4 d5 d6 d7 : Int, cs = [.int .i64 d1, .int .i64 d2, .int .i64 d3, .int .i64 d4, .int .i64 d5, .int .i64 d6, .int .i64 d7] ∧ ∀ n, n ∈ [d1, d2, d3, d4, d5, d6, d7] → I64 n := by
  obtain ⟨ys, m, _, _, hlen, hyl, hfs⟩ := DataW.trod_array Try.underlying23 ht
  rw [cells_deps] at hlen
  obtain ⟨c0, c1, c2, c3, c4, c5, c6, rfl⟩ : ∃ c0 c1 c2 c3 c4 c5 c6, cs = [c0, c1, c2, c3, c4, c5, c6] := by
    match cs, hlen with
    | [c0, c1, c2, c3, c4, c5, c6], _ => exact ⟨c0, c1, c2, c3, c4, c5, c6, rfl⟩
  have each : ∀ i, i < 7 → ∃ c, ([c0, c1, c2, c3, c4, c5, c6] : List Value)[i]? = some c ∧ ∃ n, c = .int .i64 n ∧ I64 n := fun i hi => by
    have g := hfs i hi
    rw [cells_int, Nat.mul_one, List.getElem?_eq_getElem (by omega), List.drop_eq_getElem_cons (by simpa using hi)] at g
    exact ⟨_, List.getElem?_eq_getElem (by simpa using hi), int_cell g⟩
  obtain ⟨_, e0, d1, rfl, o1⟩ := each 0 (by omega)
  obtain ⟨_, e1, d2, rfl, o2⟩ := each 1 (by omega)
  obtain ⟨_, e2, d3, rfl, o3⟩ := each 2 (by omega)
  obtain ⟨_, e3, d4, rfl, o4⟩ := each 3 (by omega)
  obtain ⟨_, e4, d5, rfl, o5⟩ := each 4 (by omega)
  obtain ⟨_, e5, d6, rfl, o6⟩ := each 5 (by omega)
  obtain ⟨_, e6, d7, rfl, o7⟩ := each 6 (by omega)
  simp at e0 e1 e2 e3 e4 e5 e6
  subst e0 e1 e2 e3 e4 e5 e6
  refine ⟨d1, d2, d3, d4, d5, d6, d7, rfl, fun n hn => ?_⟩
  simp at hn
  rcases hn with rfl | rfl | rfl | rfl | rfl | rfl | rfl <;> assumption
theorem attr_cells {fuel : Nat} {cs : List Value} {x : DataW H × List MemPlace} (ht : DataW.trod enc Try.prog W base spare held fuel 25 cs = some x) : ∃ a0 a1 a2 a3 a4 a5 a6 a7 : Int, cs = [.int .i64 a0, .int .i64 a1, .int .i64 a2, .int .i64 a3, .int .i64 a4, .int .i64 a5, .int .i64 a6, .int .i64 a7] ∧ Ok8 [a0, a1, a2, a3, a4, a5, a6, a7] := by
  obtain ⟨ys, n', _, _, hlen, hyl, hfs⟩ := DataW.trod_struct Try.underlying25 ht
  rw [cells_attr] at hlen
  obtain ⟨c0, r, rfl, hr⟩ : ∃ c0 r, cs = c0 :: r ∧ r.length = 7 := by
    match cs, hlen with
    | c0 :: r, h => exact ⟨c0, r, rfl, by simpa using h⟩
  have g0 := hfs 0 _ rfl
  have g1 := hfs 1 _ rfl
  clear hfs
  change DataW.trod enc Try.prog W base spare held n' 3 (((c0 :: r).drop 0).take (Try.prog.cellsOf 3)) = _ at g0
  change DataW.trod enc Try.prog W base spare held n' 23 (((c0 :: r).drop 1).take (Try.prog.cellsOf 23)) = _ at g1
  have hyl2 : ys.length = 2 := hyl
  obtain ⟨y0, y1, rfl⟩ : ∃ y0 y1, ys = [y0, y1] := by
    match ys, hyl2 with
    | [y0, y1], _ => exact ⟨y0, y1, rfl⟩
  change _ = some y0 at g0
  change _ = some y1 at g1
  rw [cells_int] at g0
  rw [cells_deps, List.drop_succ_cons, List.drop_zero, List.take_of_length_le (by omega)] at g1
  obtain ⟨n, rfl, hn⟩ := int_cell (c := c0) g0
  obtain ⟨a1, a2, a3, a4, a5, a6, a7, rfl, hd⟩ := deps_cells g1
  refine ⟨n, a1, a2, a3, a4, a5, a6, a7, rfl, rfl, fun k hk => ?_⟩
  rcases List.mem_cons.1 hk with rfl | hk
  · exact hn
  · exact hd k hk
theorem agg_arr {r : Reach} {b0 : Nat} {t e : TypeId} {n : Nat} {v : Value} {W : World} (ht : Try.prog.underlying t = some (.array n e)) (h : Value.okWide Try.prog W r b0 t v) : ∃ cs, v = .agg cs ∧ cs.size = Try.prog.cellsOf t := by
  simp only [Value.okWide, ht] at h
  obtain ⟨cs, h1, h2, _⟩ := h
  exact ⟨cs, h1, h2⟩
/-- A row of slots that came in. -/
theorem deps_in {b0 : Nat} {r : Reach} {v : Value} {d : DataW H} {p : List MemPlace} (hv : Value.okWide Try.prog W r b0 23 v) (h : DataW.Trod enc Try.prog W base spare held 23 v d p) : ∃ d1 d2 d3 d4 d5 d6 d7 : Int, v = .agg #[.int .i64 d1, .int .i64 d2, .int .i64 d3, .int .i64 d4, .int .i64 d5, .int .i64 d6, .int .i64 d7] ∧ ∀ n, n ∈ [d1, d2, d3, d4, d5, d6, d7] → I64 n := by
  obtain ⟨cs, rfl, _⟩ := agg_arr Try.underlying23 hv
  obtain ⟨fuel, hf⟩ := h
  obtain ⟨d1, d2, d3, d4, d5, d6, d7, e, ok⟩ := deps_cells hf
  exact ⟨d1, d2, d3, d4, d5, d6, d7, congrArg Value.agg (Array.toList_inj.1 (by simpa [Value.cells] using e)), ok⟩
/-- Attributes that came in. -/
theorem attr_in {b0 : Nat} {r : Reach} {v : Value} {d : DataW H} {p : List MemPlace} (hv : Value.okWide Try.prog W r b0 25 v) (h : DataW.Trod enc Try.prog W base spare held 25 v d p) : ∃ a0 a1 a2 a3 a4 a5 a6 a7 : Int, v = .agg #[.int .i64 a0, .int .i64 a1, .int .i64 a2, .int .i64 a3, .int .i64 a4, .int .i64 a5, .int .i64 a6, .int .i64 a7] ∧ Ok8 [a0, a1, a2, a3, a4, a5, a6, a7] := by
  obtain ⟨cs, rfl, _⟩ := okWide_struct Try.underlying25 hv
  obtain ⟨fuel, hf⟩ := h
  obtain ⟨a0, a1, a2, a3, a4, a5, a6, a7, e, ok⟩ := attr_cells hf
  exact ⟨a0, a1, a2, a3, a4, a5, a6, a7, congrArg Value.agg (Array.toList_inj.1 (by simpa [Value.cells] using e)), ok⟩
end
/-- A slice of attributes that came in. -/
structure AttrsIn (w : World) (A : Option Addr) (n c : Nat) (l : List (List Int)) : Prop where
  len : l.length = n
  le : n ≤ c
  room : c ≤ 9223372036854775807
  ok : ∀ x, x ∈ l → Ok8 x
  lies : Its 8 w A l
  nil : A = none → c = 0
theorem attrs_in {H : Type} {enc : TypeId × Value → H} {W : World} {A : Option Addr} {n c : Nat} {d : DataW H} {p : List MemPlace}
    (h : DataW.Trod enc Try.prog W 0 (fun _ => true) true 37 (.slice A n c) d p) : ∃ l, AttrsIn W A n c l := by
  obtain ⟨fuel, hf⟩ := h
  rcases Go.Deep.open_slice Try.underlying37 hf with ⟨hcs, _⟩ | ⟨a, len, cap, m, nf, D, Pl, hcs, _, hl, hm, hmm, _, hi⟩
  · simp [Value.cells] at hcs
    obtain ⟨rfl, rfl, rfl⟩ := hcs
    exact ⟨[], rfl, Nat.le_refl _, by omega, fun x hx => (by cases hx), Its.nil_, fun _ => rfl⟩
  · simp [Value.cells] at hcs
    obtain ⟨rfl, rfl, rfl⟩ := hcs
    have hmc : m = c := by simpa using hmm
    have each : ∀ j, j < n → ∃ x : List Int, Ok8 x ∧ ∃ b off, a = ⟨b, off, none⟩ ∧ b < W.heap.size ∧ ∀ i, i < 8 → W.cell? ⟨b, off + j * 8 + i, none⟩ = some (.int .i64 (ix x i)) := by
      intro j hj
      obtain ⟨cs', hc, ht'⟩ := hi j (by omega)
      rw [cells_attr] at hc
      obtain ⟨_, hlen, hat⟩ := World.cells?_some hc
      obtain ⟨x0, x1, x2, x3, x4, x5, x6, x7, rfl, ok⟩ := attr_cells ht'
      have hsp : a.spot = none := by
        obtain ⟨cs0, hc0, ht0⟩ := hi 0 (by omega)
        rw [cells_attr] at hc0
        obtain ⟨_, hlen0, hat0⟩ := World.cells?_some hc0
        have h0 := hat0 0 (by omega)
        rw [List.getElem?_eq_getElem (by omega)] at h0
        have := World.cell?_spot h0
        unfold Addr.add at this
        simpa using this
      obtain ⟨b, off, spot⟩ := a
      obtain rfl : spot = none := hsp
      have at_ : ∀ i, i < 8 → W.cell? ⟨b, off + j * 8 + i, none⟩ = some (.int .i64 (ix [x0, x1, x2, x3, x4, x5, x6, x7] i)) := fun i hi => by
        have a0 := hat i hi
        rw [Go.WideShapes.add_plain, Go.WideShapes.add_plain] at a0
        rw [a0]
        exact cellsR_at [x0, x1, x2, x3, x4, x5, x6, x7] hi
      refine ⟨[x0, x1, x2, x3, x4, x5, x6, x7], ok, b, off, rfl, ?_, at_⟩
      rcases Nat.lt_or_ge b W.heap.size with h1 | h1
      · exact h1
      · have := at_ 0 (by omega)
        simp [World.cell?, Array.getElem?_eq_none h1] at this
    let f : Nat → List Int := fun j => if h : j < n then Classical.choose (each j h) else []
    have hf : ∀ j (hj : j < n), Ok8 (f j) ∧ ∃ b off, a = ⟨b, off, none⟩ ∧ b < W.heap.size ∧ ∀ i, i < 8 → W.cell? ⟨b, off + j * 8 + i, none⟩ = some (.int .i64 (ix (f j) i)) := by
      intro j hj
      have := Classical.choose_spec (each j hj)
      simp only [f, dif_pos hj]
      exact this
    refine ⟨(List.range n).map f, by simp, hl, by unfold maxLen at hm; omega, fun x hx => ?_, fun hn => ?_, fun e => by cases e⟩
    · obtain ⟨j, hj, rfl⟩ := List.mem_map.1 hx
      exact (hf j (List.mem_range.1 hj)).1
    · have hn' : 0 < n := by simpa using hn
      obtain ⟨_, b, off, rfl, hb, _⟩ := hf 0 hn'
      refine ⟨b, off, rfl, hb, fun k x hk => ?_⟩
      have hkn : k < n := by
        rcases Nat.lt_or_ge k n with h1 | h1
        · exact h1
        · rw [List.getElem?_eq_none (by simpa using h1)] at hk; cases hk
      obtain ⟨_, b', off', e, _, h0⟩ := hf k hkn
      injection e with e1 e2
      subst e1 e2
      have ex : x = f k := by
        rw [List.getElem?_map, List.getElem?_range hkn] at hk
        exact (Option.some.inj hk).symm
      rw [ex]
      exact h0
end Go.Proofs.Ytpngcocmjbkfgaa
