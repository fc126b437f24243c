/- The calls of layer 10's laws, as they come in. No condition. -/
import Derived.Test.YtkmcnhjfnjikaaaGreatDoorFew
namespace Go.Proofs.YtkmcnhjfnjikaaaGreatDoor
open Go.ChangeShapes Go.WideShapes Go.ChangeAt Go.RowKit Go.Joins
theorem cellsPP : Tryz.prog.cellsOf 27 = 1 := by kernel_rfl
theorem Tryz.cells46 : Tryz.prog.cellsOf 46 = 4 := by kernel_rfl
section
variable {H : Type} {enc : TypeId × Value → H} {W : World}
set_option maxRecDepth 100000 in
theorem parts_cell {fuel : Nat} {cs : List Value} {x : DataW H × List MemPlace} (ht : DataW.trod enc Tryz.prog W 0 (fun _ => true) true fuel 27 cs = some x) (hw : ∀ n ∈ x.1.weights Tryz.prog 27, n ≤ reachBytes) :
    ∃ A n c it, cs = [.slice A n c] ∧ PartsIn W A n c it := by
  rcases Go.Deep.open_slice Tryz.underlying27 ht with ⟨hcs, _⟩ | ⟨a, len, cap, m, nf, D, Pl, hcs, _, hl, hm, hmm, hx, hi⟩
  · subst hcs
    exact ⟨none, 0, 0, fun _ => ⟨none, 0, 0, []⟩, rfl, Nat.le_refl _, by omega, fun j hj => absurd hj (by omega)⟩
  · subst hcs
    have hmc : m = cap := by simpa using hmm
    have hx1 := congrArg Prod.fst hx
    dsimp only at hx1
    have each : ∀ j, j < len → ∃ x : Sb, SliceIn W x.A x.n x.c x.zs ∧ ∃ b off, a = ⟨b, off, none⟩ ∧ b < W.heap.size ∧ W.cell? ⟨b, off + j, none⟩ = some (.slice x.A x.n x.c) := by
      intro j hj
      obtain ⟨cs', hc, ht'⟩ := hi j (by omega)
      rw [Tryz.cells31] at hc
      obtain ⟨_, hlen, hat⟩ := World.cells?_some hc
      obtain ⟨B, k, e, zs, rfl, hs⟩ := bytes_cell ht' fun k hk => by
        apply hw
        rw [hx1]
        unfold DataW.weights
        rw [Tryz.underlying27]
        refine List.mem_cons_of_mem _ (List.mem_append_left _ (weights_all (d := D j) ?_ k hk))
        exact List.mem_map.2 ⟨j, List.mem_range.2 hj, rfl⟩
      have a0 := hat 0 (by omega)
      have hsp : a.spot = none := by
        obtain ⟨cs0, hc0, ht0⟩ := hi 0 (by omega)
        rw [Tryz.cells31] at hc0
        obtain ⟨_, hlen0, hat0⟩ := World.cells?_some hc0
        have h0 := hat0 0 (by omega)
        rw [List.getElem?_eq_getElem (by omega)] at h0
        have := World.cell?_spot h0
        unfold Addr.add at this
        simpa using this
      obtain ⟨b, off, spot⟩ := a
      obtain rfl : spot = none := hsp
      rw [Go.WideShapes.add_plain, Go.WideShapes.add_plain] at a0
      simp only [Nat.mul_one, Nat.add_zero] at a0
      refine ⟨⟨B, k, e, zs⟩, hs, b, off, rfl, ?_, a0⟩
      rcases Nat.lt_or_ge b W.heap.size with h1 | h1
      · exact h1
      · simp [World.cell?, Array.getElem?_eq_none h1] at a0
    refine ⟨some a, len, cap, fun j => if h : j < len then Classical.choose (each j h) else ⟨none, 0, 0, []⟩, rfl, hl, hm, fun j hj => ?_⟩
    obtain ⟨hs, b, off, rfl, hb, hx⟩ := Classical.choose_spec (each j hj)
    refine ⟨b, off, rfl, hb, ?_, ?_⟩
    · simp only [dif_pos hj]; exact hx
    · simp only [dif_pos hj]; exact hs
/-- A call: its kind, a number, records, picks. -/
structure La where
  k : Int
  n : Int
  A : Option Addr
  m : Nat
  c : Nat
  it : Nat → Sb
  p : Sb
structure LaOk (W : World) (x : La) : Prop where
  k : -9223372036854775808 ≤ x.k ∧ x.k ≤ 9223372036854775807
  n : -9223372036854775808 ≤ x.n ∧ x.n ≤ 9223372036854775807
  r : PartsIn W x.A x.m x.c x.it
  p : IntsIn W x.p.A x.p.n x.p.c x.p.zs
def La.l (x : La) : List Value := [.int .i64 x.k, .int .i64 x.n, .slice x.A x.m x.c, .slice x.p.A x.p.n x.p.c]
set_option maxRecDepth 100000 in
theorem la_cells {fuel : Nat} {cs : List Value} {x : DataW H × List MemPlace} (ht : DataW.trod enc Tryz.prog W 0 (fun _ => true) true fuel 46 cs = some x)
    (hsz : ∀ n ∈ x.1.weights Tryz.prog 46, n ≤ reachBytes) : ∃ y : La, cs = y.l ∧ LaOk W y := by
  obtain ⟨ys, n', _, rfl, hlen, hyl, hfs⟩ := DataW.trod_struct Tryz.underlying46 ht
  rw [Tryz.cells46] at hlen
  have hyl6 : ys.length = 4 := hyl
  obtain ⟨y0, y1, y2, y3, rfl⟩ : ∃ y0 y1 y2 y3, ys = [y0, y1, y2, y3] := by
    match ys, hyl6 with
    | [y0, y1, y2, y3], _ => exact ⟨y0, y1, y2, y3, rfl⟩
  obtain ⟨c0, c1, c2, c3, rfl⟩ : ∃ c0 c1 c2 c3, cs = [c0, c1, c2, c3] := by
    match cs, hlen with
    | [c0, c1, c2, c3], _ => exact ⟨c0, c1, c2, c3, rfl⟩
  have g0 := hfs 0 _ rfl
  have g1 := hfs 1 _ rfl
  have g2 := hfs 2 _ rfl
  have g3 := hfs 3 _ rfl
  clear hfs
  change DataW.trod enc Tryz.prog W 0 (fun _ => true) true n' 3 (([c0, c1, c2, c3].drop 0).take (Tryz.prog.cellsOf 3)) = some y0 at g0
  change DataW.trod enc Tryz.prog W 0 (fun _ => true) true n' 3 (([c0, c1, c2, c3].drop 1).take (Tryz.prog.cellsOf 3)) = some y1 at g1
  change DataW.trod enc Tryz.prog W 0 (fun _ => true) true n' 27 (([c0, c1, c2, c3].drop 2).take (Tryz.prog.cellsOf 27)) = some y2 at g2
  change DataW.trod enc Tryz.prog W 0 (fun _ => true) true n' 44 (([c0, c1, c2, c3].drop 3).take (Tryz.prog.cellsOf 44)) = some y3 at g3
  rw [Tryz.cells3] at g0 g1
  rw [cellsPP] at g2
  rw [Tryz.cells44] at g3
  have hw : ∀ k t (y : DataW H × List MemPlace), ([3, 3, 27, 44] : List TypeId)[k]? = some t → [y0, y1, y2, y3][k]? = some y → ∀ n ∈ y.1.weights Tryz.prog t, n ≤ reachBytes := fun k t y ht hy n hn => by
    refine hsz n ?_
    unfold DataW.weights
    rw [Tryz.underlying46]
    exact DataW.weights_mem_each (ts := [3, 3, 27, 44]) (j := k) ht (by rw [List.getElem?_map, hy]; rfl) n hn
  obtain ⟨k, e0, _, w0⟩ := DataW.trod_int Tryz.underlying3 g0
  obtain ⟨m, e1, _, w1⟩ := DataW.trod_int Tryz.underlying3 g1
  obtain ⟨A2, n2, d2, z2, e2, s2⟩ := parts_cell g2 (hw 2 _ _ rfl rfl)
  obtain ⟨A3, n3, d3, z3, e3, s3⟩ := ints_cell g3
  simp at e0 e1 e2 e3
  subst e0 e1 e2 e3
  exact ⟨⟨k, m, A2, n2, d2, z2, ⟨A3, n3, d3, z3⟩⟩, rfl, bounds_i64 w0, bounds_i64 w1, s2, s3⟩
/-- What lies at call j of a slice that begins at ⟨b, off⟩. -/
structure LaAt (w : World) (b off j : Nat) (x : La) : Prop where
  c0 : w.cell? ⟨b, off + j * 4, none⟩ = some (.int .i64 x.k)
  c1 : w.cell? ⟨b, off + j * 4 + 1, none⟩ = some (.int .i64 x.n)
  c2 : w.cell? ⟨b, off + j * 4 + 2, none⟩ = some (.slice x.A x.m x.c)
  c3 : w.cell? ⟨b, off + j * 4 + 3, none⟩ = some (.slice x.p.A x.p.n x.p.c)
theorem LaAt.below {w w' : World} {B b off j : Nat} {x : La} (h : LaAt w b off j x) (hb : Below B w w') (hl : b < B) : LaAt w' b off j x :=
  ⟨(hb.cell (p := ⟨b, off + j * 4, none⟩) hl).trans h.c0, (hb.cell (p := ⟨b, off + j * 4 + 1, none⟩) hl).trans h.c1, (hb.cell (p := ⟨b, off + j * 4 + 2, none⟩) hl).trans h.c2, (hb.cell (p := ⟨b, off + j * 4 + 3, none⟩) hl).trans h.c3⟩
/-- A slice of calls that came in. -/
structure LasIn (w : World) (A : Option Addr) (n c : Nat) (it : Nat → La) : Prop where
  le : n ≤ c
  room : c ≤ 9223372036854775807
  at_ : ∀ j, j < n → ∃ b off, A = some ⟨b, off, none⟩ ∧ b < w.heap.size ∧ LaAt w b off j (it j) ∧ LaOk w (it j)
set_option maxRecDepth 100000 in
theorem lasks_in {A : Option Addr} {n c : Nat} {d : DataW H} {p : List MemPlace} {ts : List TypeId} {ds : List (DataW H)} {j : Nat}
    (h : DataW.Trod enc Tryz.prog W 0 (fun _ => true) true 36 (.slice A n c) d p) (hsz : (DataW.weightsEach Tryz.prog ts ds).all (· ≤ reachBytes) = true) (ht : ts[j]? = some 36) (hd : ds[j]? = some d) : ∃ it, LasIn W A n c it := by
  obtain ⟨fuel, hf⟩ := h
  have hw : ∀ n ∈ d.weights Tryz.prog 36, n ≤ reachBytes := fun n hn => by
    have := List.all_eq_true.1 hsz _ (DataW.weights_mem_each ht hd n hn)
    simpa using this
  rcases Go.Deep.open_slice Tryz.underlying36 hf with ⟨hcs, _⟩ | ⟨a, len, cap, m, nf, D, Pl, hcs, _, hl, hm, hmm, hx, hi⟩
  · simp [Value.cells] at hcs
    obtain ⟨rfl, rfl, rfl⟩ := hcs
    exact ⟨fun _ => ⟨0, 0, none, 0, 0, fun _ => ⟨none, 0, 0, []⟩, ⟨none, 0, 0, []⟩⟩, Nat.le_refl _, by omega, fun j hj => absurd hj (by omega)⟩
  · simp [Value.cells] at hcs
    obtain ⟨rfl, rfl, rfl⟩ := hcs
    have hmc : m = c := by simpa using hmm
    simp only [Prod.mk.injEq] at hx
    have hx1 := hx.1
    have each : ∀ j, j < n → ∃ x : La, LaOk W x ∧ ∃ b off, a = ⟨b, off, none⟩ ∧ b < W.heap.size ∧ LaAt W b off j x := by
      intro j hj
      obtain ⟨cs', hc, ht'⟩ := hi j (by omega)
      rw [Tryz.cells46] at hc
      obtain ⟨_, hlen, hat⟩ := World.cells?_some hc
      obtain ⟨x, rfl, ok⟩ := la_cells ht' fun k hk => by
        apply hw
        rw [hx1]
        unfold DataW.weights
        rw [Tryz.underlying36]
        refine List.mem_cons_of_mem _ (List.mem_append_left _ (weights_all (d := D j) ?_ k hk))
        exact List.mem_map.2 ⟨j, List.mem_range.2 hj, rfl⟩
      have hsp : a.spot = none := by
        obtain ⟨cs0, hc0, ht0⟩ := hi 0 (by omega)
        rw [Tryz.cells46] at hc0
        obtain ⟨_, hlen0, hat0⟩ := World.cells?_some hc0
        have h0 := hat0 0 (by omega)
        rw [List.getElem?_eq_getElem (by omega)] at h0
        have := World.cell?_spot h0
        unfold Addr.add at this
        simpa using this
      obtain ⟨b, off, spot⟩ := a
      obtain rfl : spot = none := hsp
      have a0 := hat 0 (by omega)
      have a1 := hat 1 (by omega)
      have a2 := hat 2 (by omega)
      have a3 := hat 3 (by omega)
      rw [Go.WideShapes.add_plain, Go.WideShapes.add_plain] at a0 a1 a2 a3
      refine ⟨x, ok, b, off, rfl, ?_, a0, a1, a2, a3⟩
      rcases Nat.lt_or_ge b W.heap.size with h1 | h1
      · exact h1
      · simp [World.cell?, Array.getElem?_eq_none h1, La.l] at a0
    refine ⟨fun j => if h : j < n then Classical.choose (each j h) else ⟨0, 0, none, 0, 0, fun _ => ⟨none, 0, 0, []⟩, ⟨none, 0, 0, []⟩⟩, hl, hm, fun j hj => ?_⟩
    obtain ⟨hs, b, off, rfl, hb, hx⟩ := Classical.choose_spec (each j hj)
    refine ⟨b, off, rfl, hb, ?_, ?_⟩
    · simp only [dif_pos hj]; exact hx
    · simp only [dif_pos hj]; exact hs
end
end Go.Proofs.YtkmcnhjfnjikaaaGreatDoor
