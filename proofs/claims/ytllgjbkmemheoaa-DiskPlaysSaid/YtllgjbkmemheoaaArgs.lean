/- Slices of slices of bytes, of ints, of calls that come in. No condition. -/
import Derived.Test.YtllgjbkmemheoaaFrame
import Derived.Test.YtllgjbkmemheoaaTear
import Derived.Deep.Slices
import Derived.Deep.Fields
import Derived.ChangeSame
namespace Go.Proofs.Ytllgjbkmemheoaa
open Go.ChangeShapes Go.WideShapes Go.ChangeAt Go.RowKit Go.Joins
theorem weights_all {H : Type} {P : Program} {e : TypeId} : ∀ {ds : List (DataW H)} {d : DataW H}, d ∈ ds → ∀ n ∈ d.weights P e, n ∈ DataW.weightsAll P e ds
  | x :: r, d, hd, n, hn => by
    rw [DataW.weightsAll, List.mem_append]
    rcases List.mem_cons.1 hd with rfl | hd
    · exact .inl hn
    · exact .inr (weights_all hd n hn)
theorem Try.cells3 : Try.prog.cellsOf 3 = 1 := by kernel_rfl
theorem Try.cells9 : Try.prog.cellsOf 9 = 1 := by kernel_rfl
theorem Try.cells27 : Try.prog.cellsOf 27 = 1 := by kernel_rfl
theorem Try.cells39 : Try.prog.cellsOf 39 = 1 := by kernel_rfl
theorem Try.cells41 : Try.prog.cellsOf 41 = 6 := by kernel_rfl
section
variable {H : Type} {enc : TypeId × Value → H} {W : World}
/-- One slice of bytes, out of its reading. -/
theorem bytes_cell {fuel : Nat} {cs : List Value} {x : DataW H × List MemPlace} (ht : DataW.trod enc Try.prog W 0 (fun _ => true) true fuel 27 cs = some x) (hsz : ∀ n ∈ x.1.weights Try.prog 27, n ≤ reachBytes) :
    ∃ A n c zs, cs = [.slice A n c] ∧ SliceIn W A n c zs := by
  rcases open_ints Try.underlying27 Try.underlying5 Try.cells5 ht with ⟨rfl, _⟩ | ⟨a, l, c', zs, rfl, _, hl, _, hz, hx, hcell, hwz⟩
  · exact ⟨none, 0, 0, [], rfl, rfl, Nat.le_refl _, by omega, fun z hz => (by cases hz), Lies.none_, fun _ => rfl⟩
  · have hz' : zs.length = c' := by simpa using hz
    rw [hx] at hsz
    have hs := hsz ((zs.take l).length + (zs.drop l).length) (by
      unfold DataW.weights
      rw [Try.underlying27]
      simp only
      rw [Try.bytes5, Nat.mul_one, length_lits, length_lits]
      exact List.mem_cons_self ..)
    rw [List.length_take, List.length_drop] at hs
    have hr : reachBytes = 140737488351232 := rfl
    refine ⟨some a, l, c', zs.take l, rfl, by rw [List.length_take]; omega, hl, by omega, fun z hz => ?_, fun hn => ?_, fun h => by cases h⟩
    · exact bounds_u8 (hwz z (List.mem_of_mem_take hz))
    · rw [List.length_take] at hn
      obtain ⟨b, off, rfl, hc⟩ := ints_at hcell (by omega)
      have h0 := hc 0 (by omega)
      refine ⟨b, off, rfl, ?_, fun k hk => ?_⟩
      · rcases Nat.lt_or_ge b W.heap.size with h1 | h1
        · exact h1
        · simp [World.cell?, Array.getElem?_eq_none h1] at h0
      · rw [List.length_take] at hk
        have e : ix (zs.take l) k = zs.getD k 0 := by
          rw [ix_lt _ (by rw [List.length_take]; omega), List.getElem_take, ← ix_lt zs (by omega)]; rfl
        rw [e]
        exact hc k (by omega)
/-- A slice of ints that came in. -/
structure IntsIn (w : World) (A : Option Addr) (n c : Nat) (ps : List Int) : Prop where
  len : ps.length = n
  le : n ≤ c
  room : c ≤ 9223372036854775807
  ok : ∀ p, p ∈ ps → -9223372036854775808 ≤ p ∧ p ≤ 9223372036854775807
  lies : LiesI w A ps
theorem ints_cell {fuel : Nat} {cs : List Value} {x : DataW H × List MemPlace} (ht : DataW.trod enc Try.prog W 0 (fun _ => true) true fuel 39 cs = some x) : ∃ A n c ps, cs = [.slice A n c] ∧ IntsIn W A n c ps := by
  rcases open_ints Try.underlying39 Try.underlying3 Try.cells3 ht with ⟨rfl, _⟩ | ⟨a, l, c', zs, rfl, _, hl, hm, hz, hx, hcell, hwz⟩
  · exact ⟨none, 0, 0, [], rfl, rfl, Nat.le_refl _, by omega, fun z hz => (by cases hz), fun h => absurd h (by simp)⟩
  · have hz' : zs.length = c' := by simpa using hz
    refine ⟨some a, l, c', zs.take l, rfl, by rw [List.length_take]; omega, hl, by unfold maxLen at hm; omega, fun z hz => bounds_i64 (hwz z (List.mem_of_mem_take hz)), fun hn => ?_⟩
    rw [List.length_take] at hn
    obtain ⟨b, off, rfl, hc⟩ := ints_at hcell (by omega)
    have h0 := hc 0 (by omega)
    refine ⟨b, off, rfl, ?_, fun k hk => ?_⟩
    · rcases Nat.lt_or_ge b W.heap.size with h1 | h1
      · exact h1
      · simp [World.cell?, Array.getElem?_eq_none h1] at h0
    · rw [List.length_take] at hk
      have e : ix (zs.take l) k = zs.getD k 0 := by
        rw [ix_lt _ (by rw [List.length_take]; omega), List.getElem_take, ← ix_lt zs (by omega)]; rfl
      rw [e]
      exact hc k (by omega)
theorem dints_in {A : Option Addr} {n c : Nat} {d : DataW H} {p : List MemPlace} (h : DataW.Trod enc Try.prog W 0 (fun _ => true) true 39 (.slice A n c) d p) : ∃ ps, IntsIn W A n c ps := by
  obtain ⟨fuel, hf⟩ := h
  obtain ⟨A', n', c', ps, e, hi⟩ := ints_cell hf
  simp [Value.cells] at e
  obtain ⟨rfl, rfl, rfl⟩ := e
  exact ⟨ps, hi⟩
/-- A slice of bytes: its parts. -/
structure Sb where
  A : Option Addr
  n : Nat
  c : Nat
  zs : List Int
/-- A slice of slices of bytes that came in. -/
structure PartsIn (w : World) (A : Option Addr) (n c : Nat) (it : Nat → Sb) : Prop where
  le : n ≤ c
  room : c ≤ 9223372036854775807
  at_ : ∀ j, j < n → ∃ b off, A = some ⟨b, off, none⟩ ∧ b < w.heap.size ∧ w.cell? ⟨b, off + j, none⟩ = some (.slice (it j).A (it j).n (it j).c) ∧ SliceIn w (it j).A (it j).n (it j).c (it j).zs
set_option maxRecDepth 100000 in
theorem parts_in {A : Option Addr} {n c : Nat} {d : DataW H} {p : List MemPlace} {ts : List TypeId} {ds : List (DataW H)} {j : Nat}
    (h : DataW.Trod enc Try.prog W 0 (fun _ => true) true 47 (.slice A n c) d p) (hsz : (DataW.weightsEach Try.prog ts ds).all (· ≤ reachBytes) = true) (ht : ts[j]? = some 47) (hd : ds[j]? = some d) : ∃ it, PartsIn W A n c it := by
  obtain ⟨fuel, hf⟩ := h
  have hw : ∀ n ∈ d.weights Try.prog 47, n ≤ reachBytes := fun n hn => by
    have := List.all_eq_true.1 hsz _ (DataW.weights_mem_each ht hd n hn)
    simpa using this
  rcases Go.Deep.open_slice Try.underlying47 hf with ⟨hcs, _⟩ | ⟨a, len, cap, m, nf, D, Pl, hcs, _, hl, hm, hmm, hx, hi⟩
  · simp [Value.cells] at hcs
    obtain ⟨rfl, rfl, rfl⟩ := hcs
    exact ⟨fun _ => ⟨none, 0, 0, []⟩, Nat.le_refl _, by omega, fun j hj => absurd hj (by omega)⟩
  · simp [Value.cells] at hcs
    obtain ⟨rfl, rfl, rfl⟩ := hcs
    have hmc : m = c := by simpa using hmm
    simp only [Prod.mk.injEq] at hx
    have hx1 := hx.1
    have each : ∀ j, j < n → ∃ x : Sb, SliceIn W x.A x.n x.c x.zs ∧ ∃ b off, a = ⟨b, off, none⟩ ∧ b < W.heap.size ∧ W.cell? ⟨b, off + j, none⟩ = some (.slice x.A x.n x.c) := by
      intro j hj
      obtain ⟨cs', hc, ht'⟩ := hi j (by omega)
      rw [Try.cells27] at hc
      obtain ⟨_, hlen, hat⟩ := World.cells?_some hc
      obtain ⟨B, k, e, zs, rfl, hs⟩ := bytes_cell ht' fun k hk => by
        apply hw
        rw [hx1]
        unfold DataW.weights
        rw [Try.underlying47]
        refine List.mem_cons_of_mem _ (List.mem_append_left _ (weights_all (d := D j) ?_ k hk))
        exact List.mem_map.2 ⟨j, List.mem_range.2 hj, rfl⟩
      have a0 := hat 0 (by omega)
      have hsp : a.spot = none := by
        obtain ⟨cs0, hc0, ht0⟩ := hi 0 (by omega)
        rw [Try.cells27] at hc0
        obtain ⟨_, hlen0, hat0⟩ := World.cells?_some hc0
        have h0 := hat0 0 (by omega)
        rw [List.getElem?_eq_getElem (by omega)] at h0
        have := World.cell?_spot h0
        unfold Addr.add at this
        simpa using this
      obtain ⟨b, off, spot⟩ := a
      obtain rfl : spot = none := hsp
      rw [Go.WideShapes.add_plain, Go.WideShapes.add_plain] at a0
      simp only [Nat.mul_one, Nat.add_zero] at a0
      refine ⟨⟨B, k, e, zs⟩, hs, b, off, rfl, ?_, a0⟩
      rcases Nat.lt_or_ge b W.heap.size with h1 | h1
      · exact h1
      · simp [World.cell?, Array.getElem?_eq_none h1] at a0
    refine ⟨fun j => if h : j < n then Classical.choose (each j h) else ⟨none, 0, 0, []⟩, hl, hm, fun j hj => ?_⟩
    obtain ⟨hs, b, off, rfl, hb, hx⟩ := Classical.choose_spec (each j hj)
    refine ⟨b, off, rfl, hb, ?_, ?_⟩
    · simp only [dif_pos hj]; exact hx
    · simp only [dif_pos hj]; exact hs
/-- A call. -/
structure As where
  k : Int
  n : Int
  nm : ByteArray
  tn : ByteArray
  d : Sb
  p : Sb
structure AsOk (W : World) (x : As) : Prop where
  k : -9223372036854775808 ≤ x.k ∧ x.k ≤ 9223372036854775807
  n : -9223372036854775808 ≤ x.n ∧ x.n ≤ 9223372036854775807
  nm : x.nm.size ≤ 140737488351232
  tn : x.tn.size ≤ 140737488351232
  d : SliceIn W x.d.A x.d.n x.d.c x.d.zs
  p : IntsIn W x.p.A x.p.n x.p.c x.p.zs
def As.l (x : As) : List Value := [.int .i64 x.k, .int .i64 x.n, .string x.nm, .string x.tn, .slice x.d.A x.d.n x.d.c, .slice x.p.A x.p.n x.p.c]
set_option maxRecDepth 100000 in
theorem ask_cells {fuel : Nat} {cs : List Value} {x : DataW H × List MemPlace} (ht : DataW.trod enc Try.prog W 0 (fun _ => true) true fuel 41 cs = some x)
    (hsz : ∀ n ∈ x.1.weights Try.prog 41, n ≤ reachBytes) : ∃ y : As, cs = y.l ∧ AsOk W y := by
  obtain ⟨ys, n', _, rfl, hlen, hyl, hfs⟩ := DataW.trod_struct Try.underlying41 ht
  rw [Try.cells41] at hlen
  have hyl6 : ys.length = 6 := hyl
  obtain ⟨y0, y1, y2, y3, y4, y5, rfl⟩ : ∃ y0 y1 y2 y3 y4 y5, ys = [y0, y1, y2, y3, y4, y5] := by
    match ys, hyl6 with
    | [y0, y1, y2, y3, y4, y5], _ => exact ⟨y0, y1, y2, y3, y4, y5, rfl⟩
  obtain ⟨c0, c1, c2, c3, c4, c5, rfl⟩ : ∃ c0 c1 c2 c3 c4 c5, cs = [c0, c1, c2, c3, c4, c5] := by
    match cs, hlen with
    | [c0, c1, c2, c3, c4, c5], _ => exact ⟨c0, c1, c2, c3, c4, c5, rfl⟩
  have g0 := hfs 0 _ rfl
  have g1 := hfs 1 _ rfl
  have g2 := hfs 2 _ rfl
  have g3 := hfs 3 _ rfl
  have g4 := hfs 4 _ rfl
  have g5 := hfs 5 _ rfl
  clear hfs
  change DataW.trod enc Try.prog W 0 (fun _ => true) true n' 3 (([c0, c1, c2, c3, c4, c5].drop 0).take (Try.prog.cellsOf 3)) = some y0 at g0
  change DataW.trod enc Try.prog W 0 (fun _ => true) true n' 3 (([c0, c1, c2, c3, c4, c5].drop 1).take (Try.prog.cellsOf 3)) = some y1 at g1
  change DataW.trod enc Try.prog W 0 (fun _ => true) true n' 9 (([c0, c1, c2, c3, c4, c5].drop 2).take (Try.prog.cellsOf 9)) = some y2 at g2
  change DataW.trod enc Try.prog W 0 (fun _ => true) true n' 9 (([c0, c1, c2, c3, c4, c5].drop 3).take (Try.prog.cellsOf 9)) = some y3 at g3
  change DataW.trod enc Try.prog W 0 (fun _ => true) true n' 27 (([c0, c1, c2, c3, c4, c5].drop 4).take (Try.prog.cellsOf 27)) = some y4 at g4
  change DataW.trod enc Try.prog W 0 (fun _ => true) true n' 39 (([c0, c1, c2, c3, c4, c5].drop 5).take (Try.prog.cellsOf 39)) = some y5 at g5
  rw [Try.cells3] at g0 g1
  rw [Try.cells9] at g2 g3
  rw [Try.cells27] at g4
  rw [Try.cells39] at g5
  have hr : reachBytes = 140737488351232 := rfl
  have hw : ∀ k t (y : DataW H × List MemPlace), ([3, 3, 9, 9, 27, 39] : List TypeId)[k]? = some t → [y0, y1, y2, y3, y4, y5][k]? = some y → ∀ n ∈ y.1.weights Try.prog t, n ≤ reachBytes := fun k t y ht hy n hn => by
    refine hsz n ?_
    unfold DataW.weights
    rw [Try.underlying41]
    exact DataW.weights_mem_each (ts := [3, 3, 9, 9, 27, 39]) (j := k) ht (by rw [List.getElem?_map, hy]; rfl) n hn
  obtain ⟨k, e0, _, w0⟩ := DataW.trod_int Try.underlying3 g0
  obtain ⟨m, e1, _, w1⟩ := DataW.trod_int Try.underlying3 g1
  obtain ⟨a, e2, f2, _⟩ := DataW.trod_string Try.underlying9 g2
  obtain ⟨b, e3, f3, _⟩ := DataW.trod_string Try.underlying9 g3
  obtain ⟨A4, n4, d4, z4, e4, s4⟩ := bytes_cell g4 (hw 4 _ _ rfl rfl)
  obtain ⟨A5, n5, d5, z5, e5, s5⟩ := ints_cell g5
  have h2 := hw 2 _ _ rfl rfl a.data.toList.length (by rw [f2]; simp [DataW.weights])
  have h3 := hw 3 _ _ rfl rfl b.data.toList.length (by rw [f3]; simp [DataW.weights])
  simp at e0 e1 e2 e3 e4 e5
  subst e0 e1 e2 e3 e4 e5
  exact ⟨⟨k, m, a, b, ⟨A4, n4, d4, z4⟩, ⟨A5, n5, d5, z5⟩⟩, rfl, bounds_i64 w0, bounds_i64 w1, by rw [hr] at h2; exact h2, by rw [hr] at h3; exact h3, s4, s5⟩
/-- What lies at call j of a slice that begins at ⟨b, off⟩. -/
structure AsAt (w : World) (b off j : Nat) (x : As) : Prop where
  c0 : w.cell? ⟨b, off + j * 6, none⟩ = some (.int .i64 x.k)
  c1 : w.cell? ⟨b, off + j * 6 + 1, none⟩ = some (.int .i64 x.n)
  c2 : w.cell? ⟨b, off + j * 6 + 2, none⟩ = some (.string x.nm)
  c3 : w.cell? ⟨b, off + j * 6 + 3, none⟩ = some (.string x.tn)
  c4 : w.cell? ⟨b, off + j * 6 + 4, none⟩ = some (.slice x.d.A x.d.n x.d.c)
  c5 : w.cell? ⟨b, off + j * 6 + 5, none⟩ = some (.slice x.p.A x.p.n x.p.c)
theorem AsAt.below {w w' : World} {B b off j : Nat} {x : As} (h : AsAt w b off j x) (hb : Below B w w') (hl : b < B) : AsAt w' b off j x :=
  ⟨(hb.cell (p := ⟨b, off + j * 6, none⟩) hl).trans h.c0, (hb.cell (p := ⟨b, off + j * 6 + 1, none⟩) hl).trans h.c1, (hb.cell (p := ⟨b, off + j * 6 + 2, none⟩) hl).trans h.c2, (hb.cell (p := ⟨b, off + j * 6 + 3, none⟩) hl).trans h.c3,
    (hb.cell (p := ⟨b, off + j * 6 + 4, none⟩) hl).trans h.c4, (hb.cell (p := ⟨b, off + j * 6 + 5, none⟩) hl).trans h.c5⟩
/-- A slice of calls that came in. -/
structure AsksIn (w : World) (A : Option Addr) (n c : Nat) (it : Nat → As) : Prop where
  le : n ≤ c
  room : c ≤ 9223372036854775807
  at_ : ∀ j, j < n → ∃ b off, A = some ⟨b, off, none⟩ ∧ b < w.heap.size ∧ AsAt w b off j (it j) ∧ AsOk w (it j)
set_option maxRecDepth 100000 in
theorem dasks_in {A : Option Addr} {n c : Nat} {d : DataW H} {p : List MemPlace} {ts : List TypeId} {ds : List (DataW H)} {j : Nat}
    (h : DataW.Trod enc Try.prog W 0 (fun _ => true) true 35 (.slice A n c) d p) (hsz : (DataW.weightsEach Try.prog ts ds).all (· ≤ reachBytes) = true) (ht : ts[j]? = some 35) (hd : ds[j]? = some d) : ∃ it, AsksIn W A n c it := by
  obtain ⟨fuel, hf⟩ := h
  have hw : ∀ n ∈ d.weights Try.prog 35, n ≤ reachBytes := fun n hn => by
    have := List.all_eq_true.1 hsz _ (DataW.weights_mem_each ht hd n hn)
    simpa using this
  rcases Go.Deep.open_slice Try.underlying35 hf with ⟨hcs, _⟩ | ⟨a, len, cap, m, nf, D, Pl, hcs, _, hl, hm, hmm, hx, hi⟩
  · simp [Value.cells] at hcs
    obtain ⟨rfl, rfl, rfl⟩ := hcs
    exact ⟨fun _ => ⟨0, 0, ⟨#[]⟩, ⟨#[]⟩, ⟨none, 0, 0, []⟩, ⟨none, 0, 0, []⟩⟩, Nat.le_refl _, by omega, fun j hj => absurd hj (by omega)⟩
  · simp [Value.cells] at hcs
    obtain ⟨rfl, rfl, rfl⟩ := hcs
    have hmc : m = c := by simpa using hmm
    simp only [Prod.mk.injEq] at hx
    have hx1 := hx.1
    have each : ∀ j, j < n → ∃ x : As, AsOk W x ∧ ∃ b off, a = ⟨b, off, none⟩ ∧ b < W.heap.size ∧ AsAt W b off j x := by
      intro j hj
      obtain ⟨cs', hc, ht'⟩ := hi j (by omega)
      rw [Try.cells41] at hc
      obtain ⟨_, hlen, hat⟩ := World.cells?_some hc
      obtain ⟨x, rfl, ok⟩ := ask_cells ht' fun k hk => by
        apply hw
        rw [hx1]
        unfold DataW.weights
        rw [Try.underlying35]
        refine List.mem_cons_of_mem _ (List.mem_append_left _ (weights_all (d := D j) ?_ k hk))
        exact List.mem_map.2 ⟨j, List.mem_range.2 hj, rfl⟩
      have hsp : a.spot = none := by
        obtain ⟨cs0, hc0, ht0⟩ := hi 0 (by omega)
        rw [Try.cells41] at hc0
        obtain ⟨_, hlen0, hat0⟩ := World.cells?_some hc0
        have h0 := hat0 0 (by omega)
        rw [List.getElem?_eq_getElem (by omega)] at h0
        have := World.cell?_spot h0
        unfold Addr.add at this
        simpa using this
      obtain ⟨b, off, spot⟩ := a
      obtain rfl : spot = none := hsp
      have a0 := hat 0 (by omega)
      have a1 := hat 1 (by omega)
      have a2 := hat 2 (by omega)
      have a3 := hat 3 (by omega)
      have a4 := hat 4 (by omega)
      have a5 := hat 5 (by omega)
      rw [Go.WideShapes.add_plain, Go.WideShapes.add_plain] at a0 a1 a2 a3 a4 a5
      refine ⟨x, ok, b, off, rfl, ?_, a0, a1, a2, a3, a4, a5⟩
      rcases Nat.lt_or_ge b W.heap.size with h1 | h1
      · exact h1
      · simp [World.cell?, Array.getElem?_eq_none h1, As.l] at a0
    refine ⟨fun j => if h : j < n then Classical.choose (each j h) else ⟨0, 0, ⟨#[]⟩, ⟨#[]⟩, ⟨none, 0, 0, []⟩, ⟨none, 0, 0, []⟩⟩, hl, hm, fun j hj => ?_⟩
    obtain ⟨hs, b, off, rfl, hb, hx⟩ := Classical.choose_spec (each j hj)
    refine ⟨b, off, rfl, hb, ?_, ?_⟩
    · simp only [dif_pos hj]; exact hx
    · simp only [dif_pos hj]; exact hs
end
end Go.Proofs.Ytllgjbkmemheoaa
