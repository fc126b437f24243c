/- Letters and cells as they come in. No condition. -/
import Derived.Test.YtjkdccokiaejhaaQa
import Derived.Test.YtjkdccokiaejhaaQg
import Derived.Deep.Slices
import Derived.Deep.Fields
import Derived.ChangeSame
import Derived.RegionTactic
import Derived.Test.YtjkdccokiaejhaaQc
import Derived.Test.YtjkdccokiaejhaaQd
import Derived.Test.YtjkdccokiaejhaaRows
import Derived.WalkKit
import Derived.WalkSpells
import Derived.WalkLawsBesides
import Derived.LoopTactic
namespace Go.Proofs.Ytjkdccokiaejhaa
set_option maxRecDepth 100000
open Go.ChangeShapes Go.WideShapes Go.ChangeAt Go.RowKit Go.Joins
theorem cells_bool : Try.prog.cellsOf 4 = 1 := by kernel_rfl
theorem cells_str : Try.prog.cellsOf 9 = 1 := by kernel_rfl
theorem cells_cm : Try.prog.cellsOf 32 = 7 := by kernel_rfl
theorem cells_bal : Try.prog.cellsOf 30 = 2 := by kernel_rfl
theorem cells_inst : Try.prog.cellsOf 40 = 2 := by kernel_rfl
theorem cells_cell : Try.prog.cellsOf 34 = 21 := by kernel_rfl
theorem list_of {α : Type} {p : Nat → α → Prop} : ∀ n, (∀ j, j < n → ∃ y, p j y) → ∃ l : List α, l.length = n ∧ ∀ j y, l[j]? = some y → p j y
  | 0, _ => ⟨[], rfl, fun j y h => by simp at h⟩
  | n + 1, h => by
    obtain ⟨l, hl, hp⟩ := list_of n (fun j hj => h j (by omega))
    obtain ⟨y, hy⟩ := h n (by omega)
    refine ⟨l ++ [y], by simp [hl], fun j z hz => ?_⟩
    rcases Nat.lt_or_ge j n with h1 | h1
    · rw [List.getElem?_append_left (by omega)] at hz; exact hp j z hz
    · rw [List.getElem?_append_right (by omega), hl] at hz
      have h2 : j = n := by
        rcases Nat.eq_or_lt_of_le h1 with h2 | h2
        · exact h2.symm
        · rw [List.getElem?_eq_none (by simp; omega)] at hz; cases hz
      subst h2
      rw [Nat.sub_self] at hz
      have : y = z := by simpa using hz
      subst this; exact hy
theorem weights_all {H : Type} {P : Program} {e : TypeId} : ∀ {ds : List (DataW H)} {d : DataW H}, d ∈ ds → ∀ n ∈ d.weights P e, n ∈ DataW.weightsAll P e ds
  | x :: r, d, hd, n, hn => by
    rw [DataW.weightsAll, List.mem_append]
    rcases List.mem_cons.1 hd with rfl | hd
    · exact .inl hn
    · exact .inr (weights_all hd n hn)
/-- A slice of structs that came in: what each is read as, that they lie. -/
theorem els_in {α H : Type} {enc : TypeId × Value → H} {P : Program} {W : World} {t e : TypeId} {m by' : Nat} (f : α → List Value) (Ok : α → Prop) (hu : P.underlying t = some (.slice e)) (hc : P.cellsOf e = m) (hm0 : 0 < m) (hb : P.bytesOf e = by')
    (rd : ∀ {fuel : Nat} {cs : List Value} {x : DataW H × List MemPlace}, DataW.trod enc P W 0 (fun _ => true) true fuel e cs = some x → (∀ n ∈ x.1.weights P e, n ≤ reachBytes) → ∃ y : α, cs = f y ∧ Ok y)
    {A : Option Addr} {n c fuel : Nat} {x : DataW H × List MemPlace} (hf : DataW.trod enc P W 0 (fun _ => true) true fuel t [.slice A n c] = some x) (hw : ∀ n ∈ x.1.weights P t, n ≤ reachBytes) :
    ∃ l : List α, l.length = n ∧ n ≤ c ∧ c ≤ maxLen ∧ c * by' ≤ 140737488351232 ∧ (A = none → c = 0) ∧ (∀ y ∈ l, Ok y) ∧ Els m W A (l.map f) := by
  rcases Go.Deep.open_slice hu hf with ⟨hcs, _⟩ | ⟨a, len, cap, m', nf, D, Pl, hcs, _, hl, hm, hmm, hx, hi⟩
  · injection hcs with hcs _
    injection hcs with h1 h2 h3
    subst h1 h2 h3
    exact ⟨[], rfl, Nat.le_refl _, by unfold maxLen; omega, by omega, fun _ => rfl, fun _ h => absurd h (by simp), Els.nil_⟩
  · injection hcs with hcs _
    injection hcs with h1 h2 h3
    subst h1 h2 h3
    have hmc : m' = c := by simpa using hmm
    subst hmc
    have hx1 := congrArg Prod.fst hx
    dsimp only at hx1
    have hroom : m' * by' ≤ 140737488351232 := by
      have := hw ((((List.range n).map D).length + ((List.range (m' - n)).map fun j => D (n + j)).length) * P.bytesOf e) (by rw [hx1]; unfold DataW.weights; rw [hu]; exact List.mem_cons_self ..)
      rw [hb] at this
      simp only [List.length_map, List.length_range] at this
      rw [show n + (m' - n) = m' by omega] at this
      exact this
    have each : ∀ j, j < n → ∃ y : α, Ok y ∧ ∃ b off, a = ⟨b, off, none⟩ ∧ b < W.heap.size ∧ ∀ i, i < m → W.cell? ⟨b, off + j * m + i, none⟩ = (f y)[i]? := by
      intro j hj
      obtain ⟨cs', hc', ht'⟩ := hi j (by omega)
      rw [hc] at hc'
      obtain ⟨_, hlen, hat⟩ := World.cells?_some hc'
      obtain ⟨y, rfl, ok⟩ := rd ht' fun k hk => by
        apply hw
        rw [hx1]
        unfold DataW.weights
        rw [hu]
        refine List.mem_cons_of_mem _ (List.mem_append_left _ (weights_all (d := D j) ?_ k hk))
        exact List.mem_map.2 ⟨j, List.mem_range.2 hj, rfl⟩
      have hsp : a.spot = none := by
        obtain ⟨cs0, hc0, ht0⟩ := hi 0 (by omega)
        rw [hc] at hc0
        obtain ⟨_, hlen0, hat0⟩ := World.cells?_some hc0
        have h0 := hat0 0 (by omega)
        rw [List.getElem?_eq_getElem (by omega)] at h0
        have := World.cell?_spot h0
        unfold Addr.add at this
        simpa using this
      obtain ⟨b, off, spot⟩ := a
      obtain rfl : spot = none := hsp
      refine ⟨y, ok, b, off, rfl, ?_, fun i hi => ?_⟩
      · have a0 := hat 0 (by omega)
        rw [Go.WideShapes.add_plain, Go.WideShapes.add_plain, List.getElem?_eq_getElem (by omega)] at a0
        rcases Nat.lt_or_ge b W.heap.size with h1 | h1
        · exact h1
        · simp [World.cell?, Array.getElem?_eq_none h1] at a0
      · have a0 := hat i hi
        rw [Go.WideShapes.add_plain, Go.WideShapes.add_plain] at a0
        exact a0
    obtain ⟨l, hln, hl2⟩ := list_of n each
    refine ⟨l, hln, hl, hm, hroom, (fun h => by cases h), fun y hy => ?_, fun hp => ?_⟩
    · obtain ⟨j, hj⟩ := List.getElem?_of_mem hy
      exact (hl2 j y hj).1
    · rw [List.length_map] at hp
      obtain ⟨_, b, off, rfl, hb', _⟩ := hl2 0 l[0] (List.getElem?_eq_getElem hp)
      refine ⟨b, off, rfl, hb', fun k x hk i hi => ?_⟩
      rw [List.getElem?_map, Option.map_eq_some_iff] at hk
      obtain ⟨y, hy, rfl⟩ := hk
      obtain ⟨_, b2, off2, e2, _, h2⟩ := hl2 k y hy
      cases e2
      exact h2 i hi
section
variable {H : Type} {enc : TypeId × Value → H} {W : World} {base : Nat} {spare : Nat → Bool} {held : Bool}
theorem int_cell {m : Nat} {c : Value} {y : DataW H × List MemPlace} (h : DataW.trod enc Try.prog W base spare held m 3 [c] = some y) : ∃ n, c = .int .i64 n ∧ I64 n := by
  obtain ⟨k, e0, _, w0⟩ := DataW.trod_int Try.underlying3 h
  simp at e0
  exact ⟨k, e0, wf_i64.1 w0⟩
theorem deps_cells {fuel : Nat} {cs : List Value} {x : DataW H × List MemPlace} (ht : DataW.trod enc Try.prog W base spare held fuel 24 cs = some x) : ∃ d1 d2 d3 d4 d5 d6 d7 : Int, cs = [.int .i64 d1, .int .i64 d2, .int .i64 d3, .int .i64 d4, .int .i64 d5, .int .i64 d6, .int .i64 d7] ∧ ∀ n, n ∈ [d1, d2, d3, d4, d5, d6, d7] → I64 n := by
  obtain ⟨ys, m, _, _, hlen, hyl, hfs⟩ := DataW.trod_array Try.underlying24 ht
  rw [cells_deps] at hlen
  obtain ⟨c0, c1, c2, c3, c4, c5, c6, rfl⟩ : ∃ c0 c1 c2 c3 c4 c5 c6, cs = [c0, c1, c2, c3, c4, c5, c6] := by
    match cs, hlen with
    | [c0, c1, c2, c3, c4, c5, c6], _ => exact ⟨c0, c1, c2, c3, c4, c5, c6, rfl⟩
  have each : ∀ i, i < 7 → ∃ c, ([c0, c1, c2, c3, c4, c5, c6] : List Value)[i]? = some c ∧ ∃ n, c = .int .i64 n ∧ I64 n := fun i hi => by
    have g := hfs i hi
    rw [cells_int, Nat.mul_one, List.getElem?_eq_getElem (by omega), List.drop_eq_getElem_cons (by simpa using hi)] at g
    exact ⟨_, List.getElem?_eq_getElem (by simpa using hi), int_cell g⟩
  obtain ⟨_, e0, d1, rfl, o1⟩ := each 0 (by omega)
  obtain ⟨_, e1, d2, rfl, o2⟩ := each 1 (by omega)
  obtain ⟨_, e2, d3, rfl, o3⟩ := each 2 (by omega)
  obtain ⟨_, e3, d4, rfl, o4⟩ := each 3 (by omega)
  obtain ⟨_, e4, d5, rfl, o5⟩ := each 4 (by omega)
  obtain ⟨_, e5, d6, rfl, o6⟩ := each 5 (by omega)
  obtain ⟨_, e6, d7, rfl, o7⟩ := each 6 (by omega)
  simp at e0 e1 e2 e3 e4 e5 e6
  subst e0 e1 e2 e3 e4 e5 e6
  refine ⟨d1, d2, d3, d4, d5, d6, d7, rfl, fun n hn => ?_⟩
  simp at hn
  rcases hn with rfl | rfl | rfl | rfl | rfl | rfl | rfl <;> assumption
theorem attr_cells {fuel : Nat} {cs : List Value} {x : DataW H × List MemPlace} (ht : DataW.trod enc Try.prog W base spare held fuel 26 cs = some x) : ∃ a0 a1 a2 a3 a4 a5 a6 a7 : Int, cs = [.int .i64 a0, .int .i64 a1, .int .i64 a2, .int .i64 a3, .int .i64 a4, .int .i64 a5, .int .i64 a6, .int .i64 a7] ∧ Ok8 [a0, a1, a2, a3, a4, a5, a6, a7] := by
  obtain ⟨ys, n', _, _, hlen, hyl, hfs⟩ := DataW.trod_struct Try.underlying26 ht
  rw [cells_attr] at hlen
  obtain ⟨c0, r, rfl, hr⟩ : ∃ c0 r, cs = c0 :: r ∧ r.length = 7 := by
    match cs, hlen with
    | c0 :: r, h => exact ⟨c0, r, rfl, by simpa using h⟩
  have g0 := hfs 0 _ rfl
  have g1 := hfs 1 _ rfl
  clear hfs
  change DataW.trod enc Try.prog W base spare held n' 3 (((c0 :: r).drop 0).take (Try.prog.cellsOf 3)) = _ at g0
  change DataW.trod enc Try.prog W base spare held n' 24 (((c0 :: r).drop 1).take (Try.prog.cellsOf 24)) = _ at g1
  have hyl2 : ys.length = 2 := hyl
  obtain ⟨y0, y1, rfl⟩ : ∃ y0 y1, ys = [y0, y1] := by
    match ys, hyl2 with
    | [y0, y1], _ => exact ⟨y0, y1, rfl⟩
  change _ = some y0 at g0
  change _ = some y1 at g1
  rw [cells_int] at g0
  rw [cells_deps, List.drop_succ_cons, List.drop_zero, List.take_of_length_le (by omega)] at g1
  obtain ⟨n, rfl, hn⟩ := int_cell (c := c0) g0
  obtain ⟨a1, a2, a3, a4, a5, a6, a7, rfl, hd⟩ := deps_cells g1
  refine ⟨n, a1, a2, a3, a4, a5, a6, a7, rfl, rfl, fun k hk => ?_⟩
  rcases List.mem_cons.1 hk with rfl | hk
  · exact hn
  · exact hd k hk
end
/-- What a letter's texts may be. -/
structure ClIn (x : Cl) : Prop where
  a : x.a.length = 8
  c : CmOk x.c
structure LtIn (m : Lt) : Prop where
  wf : LtWf m
  c : CmOk m.c
  x : CmOk m.x.c
  z : m.z.size ≤ 140737488351232
section
variable {H : Type} {enc : TypeId × Value → H} {W : World} {base : Nat} {spare : Nat → Bool} {held : Bool}
theorem pair_cells {T : TypeId} {fs : Array Field} (hu : Try.prog.underlying T = some (.struct fs)) (hT : Try.prog.cellsOf T = 2) (h0 : ∃ f0 f1, fs = #[f0, f1] ∧ f0.type = 3 ∧ f0.offset = 0 ∧ f1.type = 3 ∧ f1.offset = 1) {fuel : Nat} {cs : List Value} {x : DataW H × List MemPlace}
    (ht : DataW.trod enc Try.prog W base spare held fuel T cs = some x) : ∃ a b : Int, cs = [.int .i64 a, .int .i64 b] := by
  obtain ⟨f0, f1, rfl, t0, o0, t1, o1⟩ := h0
  obtain ⟨ys, n', _, _, hlen, hyl, hfs⟩ := DataW.trod_struct hu ht
  rw [hT] at hlen
  have hyl2 : ys.length = 2 := hyl
  obtain ⟨y0, y1, rfl⟩ : ∃ y0 y1, ys = [y0, y1] := by
    match ys, hyl2 with
    | [y0, y1], _ => exact ⟨y0, y1, rfl⟩
  obtain ⟨c0, c1, rfl⟩ : ∃ c0 c1, cs = [c0, c1] := by
    match cs, hlen with
    | [c0, c1], _ => exact ⟨c0, c1, rfl⟩
  have g0 := hfs 0 f0 rfl
  have g1 := hfs 1 f1 rfl
  rw [t0, o0, cells_int] at g0
  rw [t1, o1, cells_int] at g1
  change DataW.trod enc Try.prog W base spare held n' 3 [c0] = some y0 at g0
  change DataW.trod enc Try.prog W base spare held n' 3 [c1] = some y1 at g1
  obtain ⟨a, rfl, _⟩ := int_cell g0
  obtain ⟨b, rfl, _⟩ := int_cell g1
  exact ⟨a, b, rfl⟩
theorem bal_cells {fuel : Nat} {cs : List Value} {x : DataW H × List MemPlace} (ht : DataW.trod enc Try.prog W base spare held fuel 30 cs = some x) : ∃ a b : Int, cs = [.int .i64 a, .int .i64 b] :=
  pair_cells Try.underlying30 cells_bal ⟨_, _, rfl, rfl, rfl, rfl, rfl⟩ ht
theorem inst_cells {fuel : Nat} {cs : List Value} {x : DataW H × List MemPlace} (ht : DataW.trod enc Try.prog W base spare held fuel 40 cs = some x) : ∃ a b : Int, cs = [.int .i64 a, .int .i64 b] :=
  pair_cells Try.underlying40 cells_inst ⟨_, _, rfl, rfl, rfl, rfl, rfl⟩ ht
theorem attr8_cells {fuel : Nat} {cs : List Value} {x : DataW H × List MemPlace} (ht : DataW.trod enc Try.prog W base spare held fuel 26 cs = some x) : ∃ a : List Int, cs = cellsR a ∧ a.length = 8 := by
  obtain ⟨a0, a1, a2, a3, a4, a5, a6, a7, e, _⟩ := attr_cells ht
  exact ⟨[a0, a1, a2, a3, a4, a5, a6, a7], e, rfl⟩
theorem deps7_cells {fuel : Nat} {cs : List Value} {x : DataW H × List MemPlace} (ht : DataW.trod enc Try.prog W base spare held fuel 24 cs = some x) : ∃ a : List Int, cs = cellsR a ∧ a.length = 7 := by
  obtain ⟨a1, a2, a3, a4, a5, a6, a7, e, _⟩ := deps_cells ht
  exact ⟨[a1, a2, a3, a4, a5, a6, a7], e, rfl⟩
theorem drop_part (cs : List Value) (o n : Nat) : cs.drop o = (cs.drop o).take n ++ cs.drop (o + n) := by rw [← List.drop_drop, List.take_append_drop]
theorem cell_cells {fuel : Nat} {cs : List Value} {x : DataW H × List MemPlace} (ht : DataW.trod enc Try.prog W base spare held fuel 34 cs = some x) (hsz : ∀ n ∈ x.1.weights Try.prog 34, n ≤ reachBytes) : ∃ y : Cl, cs = y.l ∧ ClIn y := by
  obtain ⟨ys, n', _, rfl, hlen, hyl, hfs⟩ := DataW.trod_struct Try.underlying34 ht
  rw [cells_cell] at hlen
  have hyl6 : ys.length = 6 := hyl
  obtain ⟨y0, y1, y2, y3, y4, y5, rfl⟩ : ∃ y0 y1 y2 y3 y4 y5, ys = [y0, y1, y2, y3, y4, y5] := by
    match ys, hyl6 with
    | [y0, y1, y2, y3, y4, y5], _ => exact ⟨y0, y1, y2, y3, y4, y5, rfl⟩
  have g0 := hfs 0 _ rfl
  have g1 := hfs 1 _ rfl
  have g2 := hfs 2 _ rfl
  have g3 := hfs 3 _ rfl
  have g4 := hfs 4 _ rfl
  have g5 := hfs 5 _ rfl
  clear hfs
  change DataW.trod enc Try.prog W base spare held n' 3 ((cs.drop 0).take (Try.prog.cellsOf 3)) = some y0 at g0
  change DataW.trod enc Try.prog W base spare held n' 30 ((cs.drop 1).take (Try.prog.cellsOf 30)) = some y1 at g1
  change DataW.trod enc Try.prog W base spare held n' 30 ((cs.drop 3).take (Try.prog.cellsOf 30)) = some y2 at g2
  change DataW.trod enc Try.prog W base spare held n' 32 ((cs.drop 5).take (Try.prog.cellsOf 32)) = some y3 at g3
  change DataW.trod enc Try.prog W base spare held n' 26 ((cs.drop 12).take (Try.prog.cellsOf 26)) = some y4 at g4
  change DataW.trod enc Try.prog W base spare held n' 4 ((cs.drop 20).take (Try.prog.cellsOf 4)) = some y5 at g5
  rw [cells_int] at g0
  rw [cells_bal] at g1 g2
  rw [cells_cm] at g3
  rw [cells_attr] at g4
  rw [cells_bool] at g5
  obtain ⟨st, e0, _, _⟩ := DataW.trod_int Try.underlying3 g0
  obtain ⟨p1, p2, e1⟩ := bal_cells g1
  obtain ⟨v1, v2, e2⟩ := bal_cells g2
  obtain ⟨c, e3, hc⟩ := cmd_cells g3 fun n hn => by
    apply hsz
    unfold DataW.weights
    rw [Try.underlying34]
    exact DataW.weights_mem_each (ts := [3, 30, 30, 32, 26, 4]) (j := 3) rfl rfl n hn
  obtain ⟨a, e4, ha⟩ := attr8_cells g4
  obtain ⟨s, e5, _⟩ := DataW.trod_bool Try.underlying4 g5
  refine ⟨⟨st, (p1, p2), (v1, v2), c, a, s⟩, ?_, ha, hc⟩
  have h1 := drop_part cs 0 1
  rw [drop_part cs (0 + 1) 2, drop_part cs (0 + 1 + 2) 2, drop_part cs (0 + 1 + 2 + 2) 7, drop_part cs (0 + 1 + 2 + 2 + 7) 8, drop_part cs (0 + 1 + 2 + 2 + 7 + 8) 1, List.drop_zero, List.drop_of_length_le (show cs.length ≤ 0 + 1 + 2 + 2 + 7 + 8 + 1 by omega)] at h1
  rw [List.drop_zero] at e0
  rw [e0, e1, e2, e3, e4, e5] at h1
  rw [h1]
  unfold Cl.l
  simp
end
/-- A slice of cells that came in. -/
structure ClsIn (w : World) (A : Option Addr) (n c : Nat) (l : List Cl) : Prop where
  len : l.length = n
  le : n ≤ c
  room : c ≤ 9223372036854775807
  ok : ∀ y ∈ l, ClIn y
  lies : Els 21 w A (l.map Cl.l)
theorem bytes_cell : Try.prog.bytesOf 34 = 200 := by kernel_rfl
end Go.Proofs.Ytjkdccokiaejhaa
/- The document's Join of two. No condition. -/
namespace Go.Proofs.Ytjkdccokiaejhaa
open Go.RowKit
/-- While it goes on: the first one's block (it becomes the joined one), the second one's, the answer's. -/
structure Jr (W w : World) (x y : List Int) : Prop where
  low : Below W.heap.size W w
  j : Row w W.heap.size 26 (cA x)
  b : Row w (W.heap.size + 1) 26 (cA y)
  res : Row w (W.heap.size + 1 + 1) 26 (cA zero8)
theorem Jr.put {W w : World} {x y z : List Int} (h : Jr W w x y) (i : Nat) (v : Value) (he : (cA x).setIfInBounds i v = cA z) : Jr W (w.setCell ⟨W.heap.size, i, none⟩ v) z y :=
  ⟨h.low.setCell (Nat.le_refl _) v, he ▸ h.j.put i v, (Below.heap_setCell w ⟨W.heap.size, i, none⟩ v (W.heap.size + 1) (by show W.heap.size + 1 ≠ W.heap.size; omega)).trans h.b, (Below.heap_setCell w ⟨W.heap.size, i, none⟩ v (W.heap.size + 1 + 1) (by show W.heap.size + 1 + 1 ≠ W.heap.size; omega)).trans h.res⟩
theorem Jr.drew {W w : World} {x y : List Int} (h : Jr W w x y) : Jr W w.drew x y := ⟨kept_drewN h.low 1, h.j.drew, h.b.drew, h.res.drew⟩
set_option maxRecDepth 100000 in
set_option maxHeartbeats 4000000 in
theorem refjoin_any (a0 a1 a2 a3 a4 a5 a6 a7 b0 b1 b2 b3 b4 b5 b6 b7 : Int) (w : World) : Calls Try.prog 40 #[.agg #[.int .i64 a0, .int .i64 a1, .int .i64 a2, .int .i64 a3, .int .i64 a4, .int .i64 a5, .int .i64 a6, .int .i64 a7], .agg #[.int .i64 b0, .int .i64 b1, .int .i64 b2, .int .i64 b3, .int .i64 b4, .int .i64 b5, .int .i64 b6, .int .i64 b7]] w fun e w' => e = .returned (.agg (cA (maxA [a0, a1, a2, a3, a4, a5, a6, a7] [b0, b1, b2, b3, b4, b5, b6, b7]))) ∧ Below w.heap.size w w' := by
  have KW := hide (show Jr w (((w.alloc (.cells #[.int .i64 a0, .int .i64 a1, .int .i64 a2, .int .i64 a3, .int .i64 a4, .int .i64 a5, .int .i64 a6, .int .i64 a7] 26)).alloc (.cells #[.int .i64 b0, .int .i64 b1, .int .i64 b2, .int .i64 b3, .int .i64 b4, .int .i64 b5, .int .i64 b6, .int .i64 b7] 26)).alloc (.cells (cA zero8) 26)) [a0, a1, a2, a3, a4, a5, a6, a7] [b0, b1, b2, b3, b4, b5, b6, b7] from
    ⟨kept_alloc (kept_alloc (kept_alloc (kept_refl w) _) _) _, ((Row.new w _ _).alloc _).alloc _, by have h := (Row.new (w.alloc (.cells #[.int .i64 a0, .int .i64 a1, .int .i64 a2, .int .i64 a3, .int .i64 a4, .int .i64 a5, .int .i64 a6, .int .i64 a7] 26)) 26 #[.int .i64 b0, .int .i64 b1, .int .i64 b2, .int .i64 b3, .int .i64 b4, .int .i64 b5, .int .i64 b6, .int .i64 b7]).alloc (.cells (cA zero8) 26); simpa [cA, cellsR] using h,
      by have h := Row.new ((w.alloc (.cells #[.int .i64 a0, .int .i64 a1, .int .i64 a2, .int .i64 a3, .int .i64 a4, .int .i64 a5, .int .i64 a6, .int .i64 a7] 26)).alloc (.cells #[.int .i64 b0, .int .i64 b1, .int .i64 b2, .int .i64 b3, .int .i64 b4, .int .i64 b5, .int .i64 b6, .int .i64 b7] 26)) 26 (cA zero8); simpa using h⟩)
  go_enter Try.func40, Try.ntmps40
  go_upto_region 1 with (fail)
  replace KW : Hid (Jr w (((w.alloc (.cells #[.int .i64 a0, .int .i64 a1, .int .i64 a2, .int .i64 a3, .int .i64 a4, .int .i64 a5, .int .i64 a6, .int .i64 a7] 26)).alloc (.cells #[.int .i64 b0, .int .i64 b1, .int .i64 b2, .int .i64 b3, .int .i64 b4, .int .i64 b5, .int .i64 b6, .int .i64 b7] 26)).alloc (.cells #[.int .i64 0, .int .i64 0, .int .i64 0, .int .i64 0, .int .i64 0, .int .i64 0, .int .i64 0, .int .i64 0] 26)) [a0, a1, a2, a3, a4, a5, a6, a7] [b0, b1, b2, b3, b4, b5, b6, b7]) := KW
  generalize World.alloc (World.alloc (World.alloc w _) _) _ = w1 at KW ⊢
  have f0 : w1.cell? ⟨w.heap.size, 0, none⟩ = some (.int .i64 a0) := KW.out.j.cell 0
  have f1 : w1.cell? ⟨w.heap.size + 1, 0, none⟩ = some (.int .i64 b0) := KW.out.b.cell 0
  have g0 := KW.out.j.free 0
  have KJ := hide (KW.out.put 0 (.int .i64 (max a0 b0)) (set_mix0 (a := [a0, a1, a2, a3, a4, a5, a6, a7]) [b0, b1, b2, b3, b4, b5, b6, b7] rfl))
  clear KW
  go_upto_region 2 with (fail)
  generalize World.setCell w1 _ _ = w2 at KJ ⊢
  clear f0 f1 g0
  go_wp2
  go_loopw [5] (fun i wr => ∃ m : Nat, m ≤ 7 ∧ i = .int .i64 m ∧ Hid (Jr w wr (mixA [a0, a1, a2, a3, a4, a5, a6, a7] [b0, b1, b2, b3, b4, b5, b6, b7] m) [b0, b1, b2, b3, b4, b5, b6, b7])) (fun i _ => 7 - (intOf i).toNat)
  case atStart => exact ⟨0, by omega, rfl, KJ⟩
  case round =>
    clear KJ
    obtain ⟨m, hm, rfl, J2⟩ := hrel
    by_cases hm7 : m < 7
    · have f0 := row_cA J2.out.drew.j (1 + m) (by rw [len_mixA]; omega)
      have f1 := row_cA J2.out.drew.b (1 + m) (by show 1 + m < 8; omega)
      have g0 := J2.out.drew.j.free (1 + m)
      have J3 := hide (J2.out.drew.put (1 + m) _ (set_mix [a0, a1, a2, a3, a4, a5, a6, a7] [b0, b1, b2, b3, b4, b5, b6, b7] hm7))
      generalize ix [b0, b1, b2, b3, b4, b5, b6, b7] (1 + m) = q at f1 J3
      generalize ix (mixA [a0, a1, a2, a3, a4, a5, a6, a7] [b0, b1, b2, b3, b4, b5, b6, b7] m) (1 + m) = p at f0 J3
      have hm0 : (0 : Int) ≤ m := by omega
      have hm8 : (m : Int) < 7 := by omega
      clear J2
      go_wp2
      go_region
      go_wp2
      go_roundw
      case rel => exact ⟨m + 1, by omega, by go_num, J3⟩
      case measure => simp [intOf]; omega
    · obtain rfl : m = 7 := by omega
      have HZ := hide (mix_all [a0, a1, a2, a3, a4, a5, a6, a7] [b0, b1, b2, b3, b4, b5, b6, b7])
      have hz := len_mixA [a0, a1, a2, a3, a4, a5, a6, a7] [b0, b1, b2, b3, b4, b5, b6, b7] 7
      generalize mixA [a0, a1, a2, a3, a4, a5, a6, a7] [b0, b1, b2, b3, b4, b5, b6, b7] 7 = z at HZ hz J2
      obtain ⟨z0, z1, z2, z3, z4, z5, z6, z7, rfl⟩ := len8 hz
      obtain ⟨e0, e1, e2, e3, e4, e5, e6, e7⟩ := J2.out.j.eight
      replace e0 : wr.cell? ⟨w.heap.size, 0, none⟩ = some (.int .i64 z0) := e0
      replace e1 : wr.cell? ⟨w.heap.size, 1, none⟩ = some (.int .i64 z1) := e1
      replace e2 : wr.cell? ⟨w.heap.size, 2, none⟩ = some (.int .i64 z2) := e2
      replace e3 : wr.cell? ⟨w.heap.size, 3, none⟩ = some (.int .i64 z3) := e3
      replace e4 : wr.cell? ⟨w.heap.size, 4, none⟩ = some (.int .i64 z4) := e4
      replace e5 : wr.cell? ⟨w.heap.size, 5, none⟩ = some (.int .i64 z5) := e5
      replace e6 : wr.cell? ⟨w.heap.size, 6, none⟩ = some (.int .i64 z6) := e6
      replace e7 : wr.cell? ⟨w.heap.size, 7, none⟩ = some (.int .i64 z7) := e7
      obtain ⟨k0, k1, k2, k3, k4, k5, k6, k7⟩ := J2.out.res.eight
      replace k0 : wr.cell? ⟨w.heap.size + 1 + 1, 0, none⟩ = some (.int .i64 0) := k0
      replace k1 : wr.cell? ⟨w.heap.size + 1 + 1, 1, none⟩ = some (.int .i64 0) := k1
      replace k2 : wr.cell? ⟨w.heap.size + 1 + 1, 2, none⟩ = some (.int .i64 0) := k2
      replace k3 : wr.cell? ⟨w.heap.size + 1 + 1, 3, none⟩ = some (.int .i64 0) := k3
      replace k4 : wr.cell? ⟨w.heap.size + 1 + 1, 4, none⟩ = some (.int .i64 0) := k4
      replace k5 : wr.cell? ⟨w.heap.size + 1 + 1, 5, none⟩ = some (.int .i64 0) := k5
      replace k6 : wr.cell? ⟨w.heap.size + 1 + 1, 6, none⟩ = some (.int .i64 0) := k6
      replace k7 : wr.cell? ⟨w.heap.size + 1 + 1, 7, none⟩ = some (.int .i64 0) := k7
      obtain ⟨g0, g1, g2, g3, g4, g5, g6, g7⟩ := J2.out.res.free8
      clear hz
      go_wp2
      exact bodyPost_ret (results_at8 Try.results40 rfl (row_eight J2.out.res _ _ _ _ _ _ _ _)) rfl ⟨by rw [← HZ.out]; rfl, below_eight J2.out.low (by omega) _ _ _ _ _ _ _ _⟩
end Go.Proofs.Ytjkdccokiaejhaa
/- What replies come to (chapter 17), in plain words: the decisions on a proposal's replies and on a Prepare's, and what follows of them. No program. -/
namespace Go.Proofs.Ytjkdccokiaejhaa
set_option maxRecDepth 100000
/-- How many of these are just that. -/
def sameN (own : List Int) (rs : List (List Int)) : Nat := rs.countP fun x => decide (x = own)
/-- All joined. -/
def allA (own : List Int) (rs : List (List Int)) : List Int := rs.foldl maxA own
/-- What the replies to a proposal come to. -/
def preL (n : Nat) (first : Bool) (own : List Int) (rs : List (List Int)) (late : Bool) : Int × List Int :=
  if first && decide (n ≤ sameN own rs + 2) then (1, own)
  else if decide (n / 2 ≤ rs.length) && (!first || late || decide (sameN own rs + 2 ≤ rs.length)) then (2, allA own rs)
  else (0, zero8)
/-- The first cell of such a Status at the greatest Voted, behind one that was found. -/
def bestF (st : Int) (o : Option Cl) (e : Int × Cl) : Option Cl :=
  if e.2.st = st then (match o with | none => some e.2 | some b => if ltP b.v e.2.v then some e.2 else some b) else o
def bestL (st : Int) (o : Option Cl) (l : List (Int × Cl)) : Option Cl := l.foldl (bestF st) o
/-- Those that are just the owner's proposal. -/
def sameL (owner : Int) (l : List (Int × Cl)) : List (Int × Cl) := l.filter fun e => decide (e.2.st = 1) && (decide (e.1 ≠ owner) && e.2.s)
/-- What was said to a Prepare comes to. -/
def prepL (n : Nat) (owner : Int) (l : List (Int × Cl)) : Int × Cm × List Int :=
  if l.length < n / 2 + 1 then (0, zeroC, zero8)
  else match l.find? fun e => decide (e.2.st = 3) with
    | some e => (1, e.2.c, e.2.a)
    | none => match bestL 2 none l with
      | some c => (2, c.c, c.a)
      | none => match bestL 1 none l with
        | none => (4, zeroC, zero8)
        | some c => if (l.all fun e => decide (e.1 ≠ owner)) && decide (n / 2 ≤ (sameL owner l).length) then (2, ((sameL owner l).headD (0, zeroCl)).2.c, ((sameL owner l).headD (0, zeroCl)).2.a)
          else (3, c.c, c.a)
theorem bestL_nil (st : Int) (o : Option Cl) : bestL st o [] = o := rfl
theorem bestL_cons (st : Int) (o : Option Cl) (e : Int × Cl) (l : List (Int × Cl)) : bestL st o (e :: l) = bestL st (bestF st o e) l := rfl
theorem bestL_snoc (st : Int) (o : Option Cl) (l : List (Int × Cl)) (e : Int × Cl) : bestL st o (l ++ [e]) = bestF st (bestL st o l) e := by unfold bestL; rw [List.foldl_append]; rfl
theorem bestL_no {st : Int} : ∀ {l : List (Int × Cl)} (o : Option Cl), (∀ e, e ∈ l → e.2.st ≠ st) → bestL st o l = o
  | [], _, _ => rfl
  | e :: l, o, h => by
    rw [bestL_cons, show bestF st o e = o from if_neg (h e (List.mem_cons_self))]
    exact bestL_no o fun x hx => h x (List.mem_cons_of_mem _ hx)
/-- What is found has that Status and was found ahead, or is there. -/
theorem bestL_from {st : Int} : ∀ {l : List (Int × Cl)} {o : Option Cl} {c : Cl}, bestL st o l = some c → o = some c ∨ ∃ e, e ∈ l ∧ e.2 = c ∧ e.2.st = st
  | [], _, _, h => .inl h
  | e :: l, o, c, h => by
    rw [bestL_cons] at h
    rcases bestL_from h with h | ⟨x, hx, hc, hs⟩
    · unfold bestF at h
      by_cases hst : e.2.st = st
      · rw [if_pos hst] at h
        cases o with
        | none => cases h; exact .inr ⟨e, List.mem_cons_self, rfl, hst⟩
        | some b =>
          simp only at h
          split at h
          · cases h; exact .inr ⟨e, List.mem_cons_self, rfl, hst⟩
          · exact .inl h
      · rw [if_neg hst] at h
        exact .inl h
    · exact .inr ⟨x, List.mem_cons_of_mem _ hx, hc, hs⟩
theorem bestL_some {st : Int} : ∀ {l : List (Int × Cl)} {o : Option Cl}, (o ≠ none ∨ ∃ e, e ∈ l ∧ e.2.st = st) → bestL st o l ≠ none
  | [], o, h => by
    rcases h with h | ⟨e, he, _⟩
    · exact h
    · cases he
  | e :: l, o, h => by
    rw [bestL_cons]
    refine bestL_some ?_
    by_cases hst : e.2.st = st
    · refine .inl ?_
      unfold bestF
      rw [if_pos hst]
      cases o with
      | none => simp
      | some b => simp only; split <;> simp
    · rw [show bestF st o e = o from if_neg hst]
      rcases h with h | ⟨x, hx, hs⟩
      · exact .inl h
      · rcases List.mem_cons.1 hx with rfl | hx
        · exact absurd hs hst
        · exact .inr ⟨x, hx, hs⟩
/-- Where one stands at b and all others of that Status below b or are as good, one of these is found. -/
theorem bestL_top {st : Int} {P : Cl → Prop} {b : Int × Int} (hP : ∀ c, P c → c.v = b) : ∀ {l : List (Int × Cl)} {o : Option Cl}, (∀ e, e ∈ l → e.2.st = st → P e.2 ∨ ltP e.2.v b = true) →
    (∀ c, o = some c → P c ∨ ltP c.v b = true) → ((∃ c, o = some c ∧ P c) ∨ ∃ e, e ∈ l ∧ e.2.st = st ∧ P e.2) → ∃ c, bestL st o l = some c ∧ P c
  | [], o, _, _, h => by
    rcases h with h | ⟨e, he, _⟩
    · exact h
    · cases he
  | e :: l, o, ha, ho, h => by
    rw [bestL_cons]
    refine bestL_top hP (fun x hx => ha x (List.mem_cons_of_mem _ hx)) ?_ ?_
    · intro c hc
      unfold bestF at hc
      by_cases hst : e.2.st = st
      · rw [if_pos hst] at hc
        cases o with
        | none => cases hc; exact ha e List.mem_cons_self hst
        | some d =>
          simp only at hc
          split at hc
          · cases hc; exact ha e List.mem_cons_self hst
          · cases hc; exact ho _ rfl
      · rw [if_neg hst] at hc
        exact ho c hc
    · rcases h with ⟨c, rfl, hc⟩ | ⟨x, hx, hs, hxP⟩
      · refine .inl ⟨c, ?_, hc⟩
        unfold bestF
        by_cases hst : e.2.st = st
        · rw [if_pos hst]
          simp only
          have hn : ltP c.v e.2.v = false := by
            rw [hP c hc]
            rcases ha e List.mem_cons_self hst with h1 | h1
            · rw [hP _ h1]
              unfold ltP
              simp
            · unfold ltP at h1 ⊢
              simp only [Bool.or_eq_true, Bool.and_eq_true, decide_eq_true_eq, beq_iff_eq] at h1
              simp only [Bool.or_eq_false_iff, Bool.and_eq_false_iff, decide_eq_false_iff_not, beq_eq_false_iff_ne]
              omega
          rw [hn]
          rfl
        · rw [if_neg hst]
      · rcases List.mem_cons.1 hx with rfl | hx
        · refine .inl ?_
          unfold bestF
          rw [if_pos hs]
          cases o with
          | none => exact ⟨_, rfl, hxP⟩
          | some d =>
            simp only
            by_cases hlt : ltP d.v x.2.v = true
            · rw [if_pos hlt]; exact ⟨_, rfl, hxP⟩
            · rw [if_neg hlt]
              rcases ho d rfl with h1 | h1
              · exact ⟨_, rfl, h1⟩
              · rw [hP _ hxP] at hlt
                exact absurd h1 hlt
        · exact .inr ⟨x, hx, hs, hxP⟩
theorem find_no {l : List (Int × Cl)} (h : ∀ e, e ∈ l → e.2.st ≠ 3) : (l.find? fun e => decide (e.2.st = 3)) = none := by
  rw [List.find?_eq_none]
  intro e he
  simpa using h e he
/-- QuorumSlow's: the value accepted at the greatest ballot is taken. -/
theorem prep_slow {n : Nat} {owner : Int} {l : List (Int × Cl)} {b : Int × Int} {c : Cm} {a : List Int} (hl : n / 2 + 1 ≤ l.length) (h : ∀ e, e ∈ l → (e.2.st = 2 ∧ e.2.v = b ∧ e.2.c = c ∧ e.2.a = a) ∨ (e.2.st ≠ 3 ∧ (e.2.st = 2 → ltP e.2.v b = true)))
    (hs : ∃ e, e ∈ l ∧ e.2.st = 2 ∧ e.2.v = b ∧ e.2.c = c ∧ e.2.a = a) : prepL n owner l = (2, c, a) := by
  unfold prepL
  rw [if_neg (by omega), find_no (fun e he => by rcases h e he with h1 | h1 <;> omega)]
  obtain ⟨x, hx, ⟨_, h2, h3⟩⟩ := bestL_top (st := 2) (P := fun x => x.v = b ∧ x.c = c ∧ x.a = a) (b := b) (fun _ h => h.1) (l := l) (o := none)
    (fun e he hst => by
      rcases h e he with h1 | h1
      · exact .inl h1.2
      · exact .inr (h1.2 hst)) (fun _ h => by cases h) (by
      obtain ⟨e, he, hst, hr⟩ := hs
      exact .inr ⟨e, he, hst, hr⟩)
  rw [hx]
  simp only
  rw [h2, h3]
/-- QuorumFast's: so many that are the owner's own proposal, the owner not among them. -/
theorem prep_fast {n : Nat} {owner : Int} {l : List (Int × Cl)} {c : Cm} {a : List Int} (hn : 2 ≤ n) (hl : n / 2 + 1 ≤ l.length) (ho : ∀ e, e ∈ l → e.1 ≠ owner) (h : ∀ e, e ∈ l → e.2.st = 1 ∨ e.2.st = 0)
    (hs : ∀ e, e ∈ l → e.2.st = 1 → e.2.s = true → e.2.c = c ∧ e.2.a = a) (hk : n / 2 ≤ (sameL owner l).length) : prepL n owner l = (2, c, a) := by
  unfold prepL
  rw [if_neg (by omega), find_no (fun e he => by rcases h e he with h1 | h1 <;> omega), bestL_no none (fun e he => by rcases h e he with h1 | h1 <;> omega)]
  have hne : sameL owner l ≠ [] := fun e => by rw [e] at hk; simp at hk; omega
  obtain ⟨x, xs, hx⟩ := List.exists_cons_of_ne_nil hne
  have hm : x ∈ sameL owner l := by rw [hx]; exact List.mem_cons_self
  have hm' := hm
  unfold sameL at hm'
  rw [List.mem_filter] at hm'
  obtain ⟨h1, h2⟩ := hm'
  simp only [Bool.and_eq_true, decide_eq_true_eq] at h2
  obtain ⟨e1, e2⟩ := hs x h1 h2.1 h2.2.2
  obtain ⟨d, hd⟩ : ∃ d, bestL 1 none l = some d := by
    cases hb : bestL 1 none l with
    | none => exact absurd hb (bestL_some (.inr ⟨x, h1, h2.1⟩))
    | some d => exact ⟨d, rfl⟩
  simp only
  rw [hd]
  simp only
  rw [if_pos (by simp only [Bool.and_eq_true, decide_eq_true_eq, List.all_eq_true]; exact ⟨ho, hk⟩), hx]
  simp only [List.headD_cons]
  rw [e1, e2]
/-- QuorumOwner's: the owner among them, nothing accepted. -/
theorem prep_owner {n : Nat} {owner : Int} {l : List (Int × Cl)} {c : Cm} {a : List Int} (hl : n / 2 + 1 ≤ l.length) (ho : ∃ e, e ∈ l ∧ e.1 = owner) (h : ∀ e, e ∈ l → (e.2.st = 1 ∧ e.2.c = c ∧ e.2.a = a) ∨ e.2.st = 0) :
    prepL n owner l = if ∃ e, e ∈ l ∧ e.2.st = 1 then (3, c, a) else (4, zeroC, zero8) := by
  unfold prepL
  rw [if_neg (by omega), find_no (fun e he => by rcases h e he with h1 | h1 <;> omega), bestL_no none (fun e he => by rcases h e he with h1 | h1 <;> omega)]
  simp only
  have hall : (l.all fun e => decide (e.1 ≠ owner)) = false := by
    obtain ⟨e, he, h1⟩ := ho
    rw [← Bool.not_eq_true, List.all_eq_true]
    intro hh
    have := hh e he
    simp [h1] at this
  rw [hall]
  simp only [Bool.false_and]
  by_cases hs : ∃ e, e ∈ l ∧ e.2.st = 1
  · rw [if_pos hs]
    obtain ⟨d, hd⟩ : ∃ d, bestL 1 none l = some d := by
      cases hb : bestL 1 none l with
      | none => exact absurd hb (bestL_some (.inr hs))
      | some d => exact ⟨d, rfl⟩
    rw [hd]
    rcases bestL_from hd with h1 | ⟨e, he, h1, h2⟩
    · cases h1
    · subst h1
      rcases h e he with h3 | h3
      · simp only; rw [h3.2.1, h3.2.2]; rfl
      · omega
  · rw [if_neg hs, bestL_no none (fun e he h1 => hs ⟨e, he, h1⟩)]
/-- QuorumFew's. -/
theorem prep_few {n : Nat} {owner : Int} {l : List (Int × Cl)} (h : l.length < n / 2 + 1) : prepL n owner l = (0, zeroC, zero8) := by unfold prepL; rw [if_pos h]
theorem allA_ge {i : Nat} (hi : i < 8) : ∀ (rs : List (List Int)) (own : List Int), ix own i ≤ ix (allA own rs) i
  | [], own => Int.le_refl _
  | r :: rs, own => by
    have h1 := allA_ge hi rs (maxA own r)
    have h2 : ix (maxA own r) i = max (ix own i) (ix r i) := tab8_ix _ hi
    show _ ≤ ix (allA (maxA own r) rs) i
    omega
theorem pre_few {n : Nat} {own : List Int} {rs : List (List Int)} (h : rs.length < n / 2) : preL n false own rs true = (0, zero8) := by
  unfold preL
  rw [show decide (n / 2 ≤ rs.length) = false by simp; omega]
  simp
theorem pre_more {n : Nat} {own : List Int} {rs : List (List Int)} (h : n / 2 ≤ rs.length) : preL n false own rs true = (2, allA own rs) := by
  unfold preL
  rw [show decide (n / 2 ≤ rs.length) = true by simp; omega]
  simp
/-- QuorumFast's: all but one of the others are with the owner. -/
theorem pre_fast {n k : Nat} {own : List Int} (h : n ≤ k + 2) : preL n true own (List.replicate k own) false = (1, own) := by
  unfold preL
  have : sameN own (List.replicate k own) = k := by
    unfold sameN
    rw [List.countP_replicate]
    simp
  rw [this, show decide (n ≤ k + 2) = true by simp; omega]
  simp
end Go.Proofs.Ytjkdccokiaejhaa
/- Attributes (eight numbers) as steps: a store of all of them, loads out of lists; two held against each other; the document's Join. Conditions: they are eight. -/
namespace Go.Proofs.Ytjkdccokiaejhaa
set_option maxRecDepth 100000
open Go.RowKit
theorem cA_size {x : List Int} (h : x.length = 8) : (cA x).size = 8 := by unfold cA; rw [List.size_toArray, length_cellsR, h]
theorem at_sz {x : List Int} (h : x.length = 8) : (Try.prog.info? 26).map (·.size) = some (cellsR x).length := by rw [length_cellsR, h]; exact at_info
theorem Row.at8 {w : World} {b : Nat} {t : TypeId} {x : List Int} (R : Row w b t (cA x)) : w.rangeAt b 0 (cellsR x) := R.mid (A := []) (B := []) (by simp [cA]) rfl
section
variable {op : Oper} {ops : Array Oper} {rest : List Oper} {d : Option Tmp} {ty : TypeId} {ps : String} {af : Array Edge} {a : Act} {w : World} {K : Act → World → Prop} {Q : Exit → Act → World → Prop} {b : Nat} {x u : Operand} {t : TypeId} {y z : List Int}
theorem Row.all_put {ys vs : List Value} (R : Row w b t ys.toArray) (hl : vs.length = ys.length) : Row (w.setCells b 0 vs) b t vs.toArray := by
  have h := Row.puts vs 0 R
  have e := puts_mid vs ys [] [] hl
  simp only [List.nil_append, List.append_nil, List.length_nil] at e
  rw [e] at h
  exact h
theorem Row.all_there {ys : List Value} (R : Row w b t ys.toArray) : w.there b 0 ys.length := fun j hj => ⟨by rw [Nat.zero_add, R.cell, Array.getElem?_eq_getElem (by simpa using hj)]; rfl, R.free _⟩
theorem wp_store_at (ho : op.op = .store 26 x u) (wy : y.length = 8) (hx : a.eval x = .pointer (some ⟨b, 0, none⟩)) (hy : a.eval u = .agg (cA y)) (R : Row w b t (cA z)) (wz : z.length = 8) (h : ∀ w', Row w' b t (cA y) → w.grownBy w' (some b) → K (a.put op.dst undef) w') : op.wp Try.prog a w K Q := by
  have e : (cellsR y).length = (cellsR z).length := by rw [length_cellsR, length_cellsR, wy, wz]
  have hth := Row.all_there (ys := cellsR z) R
  rw [← e] at hth
  refine wp_store_mid 26 x u ho b 0 (cellsR y).toArray hx hy (by rw [List.size_toArray]; exact hth) (by rw [List.size_toArray]; exact at_sz wy) (all_oneCell_toArray one_ints) ?_
  exact h _ (Row.all_put (ys := cellsR z) R e) (grown_setCells b (cellsR y) 0 w)
theorem wpList_store_at (wy : y.length = 8) (hx : a.eval x = .pointer (some ⟨b, 0, none⟩)) (hy : a.eval u = .agg (cA y)) (R : Row w b t (cA z)) (wz : z.length = 8) (h : ∀ w', Row w' b t (cA y) → w.grownBy w' (some b) → wpList Try.prog ops Q rest (a.put d undef) w') :
    wpList Try.prog ops Q ({ dst := d, op := .store 26 x u, type := ty, pos := ps, after := af, guard := none } :: rest) a w :=
  wpList_plain rfl fun _ hK => wp_store_at rfl wy hx hy R wz fun w' h1 h2 => hK _ _ (h w' h1 h2)
end
theorem eql_at {x y : List Int} (hx : x.length = 8) (hy : y.length = 8) (w : World) : (binOp .eql 26 (.agg (cA x)) (.agg (cA y))).run Try.prog w = .ok (.bool (decide (x = y))) w := by
  obtain ⟨x0, x1, x2, x3, x4, x5, x6, x7, rfl⟩ := len8 hx
  obtain ⟨y0, y1, y2, y3, y4, y5, y6, y7, rfl⟩ := len8 hy
  exact eql_attr x0 x1 x2 x3 x4 x5 x6 x7 y0 y1 y2 y3 y4 y5 y6 y7 w
theorem refjoin8 {x y : List Int} (hx : x.length = 8) (hy : y.length = 8) (w : World) : Calls Try.prog 40 #[.agg (cA x), .agg (cA y)] w fun e w' => e = .returned (.agg (cA (maxA x y))) ∧ Below w.heap.size w w' := by
  obtain ⟨x0, x1, x2, x3, x4, x5, x6, x7, rfl⟩ := len8 hx
  obtain ⟨y0, y1, y2, y3, y4, y5, y6, y7, rfl⟩ := len8 hy
  exact refjoin_any x0 x1 x2 x3 x4 x5 x6 x7 y0 y1 y2 y3 y4 y5 y6 y7 w
/-- One of a list of attributes, as a range of cells. -/
theorem its_range {w : World} {A : Option Addr} {zs : List (List Int)} (hz : Its 8 w A zs) (a8 : All 8 zs) {k : Nat} {x : List Int} (hx : zs[k]? = some x) : ∃ q off, A = some ⟨q, off, none⟩ ∧ w.rangeAt q (off + k * 8) (cellsR x) := by
  obtain ⟨q, off, rfl, _, hc⟩ := hz.at_ hx
  refine ⟨q, off, rfl, fun j v hj => ?_⟩
  have hj8 : j < 8 := by
    have := (List.getElem?_eq_some_iff.1 hj).1
    rwa [length_cellsR, a8.at_ hx] at this
  rw [hc j hj8, ← cellsR_at x (by rw [a8.at_ hx]; exact hj8), hj]
theorem results_pre {fn : Func} {tmps : Array Value} {w : World} {a b q : Nat} {t : TypeId} {z : Value} {x : List Int} (hf : fn.results = #[.tmp a, .cell b 26]) (ha : tmps[a]? = some z)
    (hb : tmps[b]? = some (.pointer (some ⟨q, 0, none⟩))) (R : Row w q t (cA x)) (hx : x.length = 8) : (results fn tmps).run Try.prog w = .ok (.tuple #[z, .agg (cA x)]) w := by
  have h2 := run_loadVar_row w q t 26 (cA x) _ _ R at_under rfl (by rw [cA_size hx]; exact at_info)
  simp only [results, hf]
  simp [asAddr, ha, hb, h2]
theorem sameN_snoc (own : List Int) {l : List (List Int)} {k : Nat} {x : List Int} (h : l[k]? = some x) : sameN own (l.take (k + 1)) = sameN own (l.take k) + if x = own then 1 else 0 := by
  unfold sameN
  rw [take_snoc h, List.countP_append, List.countP_singleton]
  by_cases e : x = own
  · simp [e]
  · simp [e]
theorem allA_snoc (own : List Int) {l : List (List Int)} {k : Nat} {x : List Int} (h : l[k]? = some x) : allA own (l.take (k + 1)) = maxA (allA own (l.take k)) x := fold_snoc own h
theorem allA_len {own : List Int} (h : own.length = 8) (l : List (List Int)) : (allA own l).length = 8 := fold_len h l
theorem sameN_le (own : List Int) (l : List (List Int)) : sameN own l ≤ l.length := List.countP_le_length
end Go.Proofs.Ytjkdccokiaejhaa
/- What Within comes to. Conditions: the bounds are no negative numbers and have room. -/
namespace Go.Proofs.Ytjkdccokiaejhaa
set_option maxRecDepth 100000
open Go.RowKit
def withinI (n lo hi : Int) : Int := lo + n % (hi - lo + 1)
theorem withinI_bounds (n lo hi : Int) (h : lo ≤ hi) : lo ≤ withinI n lo hi ∧ withinI n lo hi ≤ hi := by
  unfold withinI
  have h0 := Int.emod_nonneg n (show hi - lo + 1 ≠ 0 by omega)
  have h1 := Int.emod_lt_of_pos n (show 0 < hi - lo + 1 by omega)
  omega
/-! ### Within -/
theorem tmod_rest (n m : Int) : n % m = n.tmod m % m := by
  have h := Int.mul_tdiv_add_tmod n m
  have e : n % m = (n.tmod m + m * n.tdiv m) % m := by rw [Int.add_comm, h]
  rw [e, Int.add_mul_emod_self_left]
theorem tmod_bounds (n m : Int) (hm : 0 < m) : -m < n.tmod m ∧ n.tmod m < m := by
  refine ⟨?_, Int.tmod_lt_of_pos n hm⟩
  have h := Int.tmod_lt_of_pos (-n) hm
  rw [Int.neg_tmod] at h
  omega
theorem tmod_neg (n m : Int) (hm : 0 < m) (h : n.tmod m < 0) : n % m = n.tmod m + m := by
  have hb := tmod_bounds n m hm
  rw [tmod_rest n m, ← Int.add_emod_right, Int.emod_eq_of_lt (by omega) (by omega)]
theorem tmod_pos (n m : Int) (hm : 0 < m) (h : 0 ≤ n.tmod m) : n % m = n.tmod m := by
  have hb := tmod_bounds n m hm
  rw [tmod_rest n m, Int.emod_eq_of_lt (by omega) (by omega)]

set_option maxHeartbeats 400000 in
theorem within_any (n lo hi : Int) (w : World) (l0 : 0 ≤ lo) (l1 : lo ≤ hi) (l2 : hi ≤ 4611686018427387904) :
    Calls Try.prog 32 #[.int .i64 n, .int .i64 lo, .int .i64 hi] w fun e w' => e = .returned (.int .i64 (withinI n lo hi)) ∧ w = w' := by
  have hb := tmod_bounds n (hi - lo + 1) (by omega)
  by_cases c : n.tmod (hi - lo + 1) < 0
  · go_enter Try.func32, Try.ntmps32
    go_wp2
    go_ret
    exact ⟨ret_int (by unfold withinI; rw [tmod_neg n _ (by omega) c]; omega), rfl⟩
  · go_enter Try.func32, Try.ntmps32
    go_wp2
    go_ret
    exact ⟨ret_int (by unfold withinI; rw [tmod_pos n _ (by omega) (by omega)]), rfl⟩
end Go.Proofs.Ytjkdccokiaejhaa
/- Two slow quorums have one in common; a slow one without the owner has all but one of a fast one's: three, five or seven replicas, asked one by one. No program. -/
namespace Go.Proofs.Ytjkdccokiaejhaa
/-- Of k replicas these (w) are more than half: some of any slow quorum, counted on from f, is among them. -/
def meets (k : Nat) (w : List Bool) : Bool :=
  if k / 2 + 1 ≤ ((List.range k).countP fun i => w.getD i false) then (List.range k).all fun f => (List.range (k / 2 + 1)).any fun i => w.getD ((f + i) % k) false else true
def rows7 : List (List Bool) := (List.range 128).map fun m => (List.range 7).map fun i => m.testBit i
def meetAll : Bool := [3, 5, 7].all fun k => rows7.all fun w => meets k w
theorem meet_all : meetAll = true := by kernel_rfl
theorem rows7_all (w : List Bool) (h : w.length = 7) : w ∈ rows7 := by
  match w, h with
  | [a, b, c, d, e, f, g], _ => cases a <;> cases b <;> cases c <;> cases d <;> cases e <;> cases f <;> cases g <;> decide
theorem slow_meets {k : Nat} (hk : k = 3 ∨ k = 5 ∨ k = 7) {w : List Bool} (hw : w.length = 7) (hm : k / 2 + 1 ≤ ((List.range k).countP fun i => w.getD i false)) {f : Nat} (hf : f < k) : ∃ i, i < k / 2 + 1 ∧ w.getD ((f + i) % k) false = true := by
  have h := meet_all
  unfold meetAll at h
  rw [List.all_eq_true] at h
  have h1 := h k (by simp; omega)
  rw [List.all_eq_true] at h1
  have h2 := h1 w (rows7_all w hw)
  unfold meets at h2
  rw [if_pos hm, List.all_eq_true] at h2
  have h3 := h2 f (List.mem_range.2 hf)
  rw [List.any_eq_true] at h3
  obtain ⟨i, hi, hv⟩ := h3
  exact ⟨i, List.mem_range.1 hi, hv⟩
/-- A slow quorum without the owner o, the x-th from the one next to it on: none is o, at most one is the one left out. -/
def fastAll : Bool := [3, 5, 7].all fun k => (List.range k).all fun o => (List.range (k - 1)).all fun x => (List.range k).all fun left =>
  left == 0 || (((List.range (k / 2 + 1)).all fun i => (o + 1 + (x + i) % (k - 1)) % k != o) && decide (k / 2 ≤ ((List.range (k / 2 + 1)).countP fun i => (o + 1 + (x + i) % (k - 1)) % k != (o + left) % k)))
theorem fast_all : fastAll = true := by kernel_rfl
theorem fast_meets {k : Nat} (hk : k = 3 ∨ k = 5 ∨ k = 7) {o x left : Nat} (ho : o < k) (h0 : 0 < left) (hl : left < k) :
    (∀ i, i < k / 2 + 1 → (o + 1 + (x + i) % (k - 1)) % k ≠ o) ∧ k / 2 ≤ ((List.range (k / 2 + 1)).countP fun i => (o + 1 + (x + i) % (k - 1)) % k != (o + left) % k) := by
  have e : ∀ i, (x + i) % (k - 1) = (x % (k - 1) + i) % (k - 1) := fun i => by rw [Nat.mod_add_mod]
  simp only [e]
  have h := fast_all
  unfold fastAll at h
  rw [List.all_eq_true] at h
  have h1 := h k (by simp; omega)
  rw [List.all_eq_true] at h1
  have h2 := h1 o (List.mem_range.2 ho)
  rw [List.all_eq_true] at h2
  have h3 := h2 (x % (k - 1)) (List.mem_range.2 (Nat.mod_lt _ (by omega)))
  rw [List.all_eq_true] at h3
  have h4 := h3 left (List.mem_range.2 hl)
  have hn : (left == 0) = false := by simp; omega
  rw [hn, Bool.false_or, Bool.and_eq_true, List.all_eq_true] at h4
  exact ⟨fun i hi => by have := h4.1 i (List.mem_range.2 hi); simpa using this, of_decide_eq_true h4.2⟩
end Go.Proofs.Ytjkdccokiaejhaa
