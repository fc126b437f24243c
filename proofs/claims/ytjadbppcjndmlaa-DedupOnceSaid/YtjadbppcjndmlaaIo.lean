/- Replies and owners, as they come in. No condition. -/
import Derived.Test.YtjadbppcjndmlaaOw
import Derived.Test.YtjadbppcjndmlaaIn
namespace Go.Proofs.Ytjadbppcjndmlaa
open Go.ChangeShapes Go.WideShapes Go.ChangeAt Go.RowKit Go.Joins
theorem cells_chunks {m : Nat} : ∀ (l : List (List Value)) (cs : List Value), cs.length = l.length * m → (∀ j x, l[j]? = some x → (cs.drop (j * m)).take m = x) → cs = cellsV l
  | [], cs, hl, _ => by
    have : cs.length = 0 := by simpa using hl
    exact List.eq_nil_of_length_eq_zero this
  | x :: r, cs, hl, h => by
    have h0 := h 0 x rfl
    rw [Nat.zero_mul, List.drop_zero] at h0
    have ih := cells_chunks (m := m) r (cs.drop m) (by rw [List.length_drop, hl, List.length_cons, Nat.add_mul]; omega) (fun j y hj => by
      have := h (j + 1) y (by simpa using hj)
      rw [List.drop_drop, show m + j * m = (j + 1) * m by rw [Nat.add_mul]; omega]
      exact this)
    rw [cellsV_cons, ← h0, ← ih, List.take_append_drop]
section
variable {H : Type} {enc : TypeId × Value → H} {W : World}
/-- What is said of a slice of pairs. -/
structure PsOk (w : World) (A : Option Addr) (c : Nat) (l : List Pr) : Prop where
  pin : Pin w (.slice A l.length c) l
  room : l.length ≤ 3518437208780
theorem ps_cell {fuel : Nat} {cs : List Value} {x : DataW H × List MemPlace} (ht : DataW.trod enc Try.prog W 0 (fun _ => true) true fuel 23 cs = some x) (hw : ∀ n ∈ x.1.weights Try.prog 23, n ≤ reachBytes) :
    ∃ A c l, cs = [.slice A (List.length l) c] ∧ PsOk W A c l := by
  obtain ⟨A, n, c, rfl⟩ : ∃ A n c, cs = [.slice A n c] := by
    rcases Go.Deep.open_slice Try.underlying23 ht with ⟨hcs, _⟩ | ⟨a, len, cap, m', nf, D, Pl, hcs, _⟩
    · exact ⟨_, _, _, hcs⟩
    · exact ⟨_, _, _, hcs⟩
  obtain ⟨l, h1, h2, h3, h4, h5, _, h7⟩ := els_in Pr.l (fun y => I64 y.n) Try.underlying23 Try.cells49 (by omega) Try.bytes49 (fun ht _ => pair_cells ht) ht hw
  subst h1
  exact ⟨A, c, l, rfl, ⟨A, c, rfl, h5, h2, by unfold maxLen at h3; omega, h7⟩, by omega⟩
theorem Try.cells23 : Try.prog.cellsOf 23 = 1 := by kernel_rfl
theorem Try.cells4 : Try.prog.cellsOf 4 = 1 := by kernel_rfl
theorem Try.cells22 : Try.prog.cellsOf 22 = 1 := by kernel_rfl
theorem Try.cells25 : Try.prog.cellsOf 25 = 5 := by kernel_rfl
theorem Try.cells27 : Try.prog.cellsOf 27 = 6 := by kernel_rfl
theorem Try.cells28 : Try.prog.cellsOf 28 = 48 := by kernel_rfl
/-- What is said of a reply that came in. -/
structure ReOk (w : World) (r : Re) (A : Option Addr) (c : Nat) : Prop where
  why : I64 r.why
  ver : I64 r.ver
  ps : PsOk w A c r.l
theorem reply_cells {fuel : Nat} {cs : List Value} {x : DataW H × List MemPlace} (ht : DataW.trod enc Try.prog W 0 (fun _ => true) true fuel 25 cs = some x) (hsz : ∀ n ∈ x.1.weights Try.prog 25, n ≤ reachBytes) :
    ∃ r A c, cs = [.int .i64 r.why, .bool r.fnd, .string r.val, .int .i64 r.ver, .slice A (List.length r.l) c] ∧ ReOk W r A c := by
  obtain ⟨ys, n', _, rfl, hlen, hyl, hfs⟩ := DataW.trod_struct Try.underlying25 ht
  rw [Try.cells25] at hlen
  have hyl6 : ys.length = 5 := hyl
  obtain ⟨y0, y1, y2, y3, y4, rfl⟩ : ∃ y0 y1 y2 y3 y4, ys = [y0, y1, y2, y3, y4] := by
    match ys, hyl6 with
    | [y0, y1, y2, y3, y4], _ => exact ⟨y0, y1, y2, y3, y4, rfl⟩
  obtain ⟨c0, c1, c2, c3, c4, rfl⟩ : ∃ c0 c1 c2 c3 c4, cs = [c0, c1, c2, c3, c4] := by
    match cs, hlen with
    | [c0, c1, c2, c3, c4], _ => exact ⟨c0, c1, c2, c3, c4, rfl⟩
  have g0 := hfs 0 _ rfl
  have g1 := hfs 1 _ rfl
  have g2 := hfs 2 _ rfl
  have g3 := hfs 3 _ rfl
  have g4 := hfs 4 _ rfl
  clear hfs
  change DataW.trod enc Try.prog W 0 (fun _ => true) true n' 22 (([c0, c1, c2, c3, c4].drop 0).take (Try.prog.cellsOf 22)) = some y0 at g0
  change DataW.trod enc Try.prog W 0 (fun _ => true) true n' 4 (([c0, c1, c2, c3, c4].drop 1).take (Try.prog.cellsOf 4)) = some y1 at g1
  change DataW.trod enc Try.prog W 0 (fun _ => true) true n' 9 (([c0, c1, c2, c3, c4].drop 2).take (Try.prog.cellsOf 9)) = some y2 at g2
  change DataW.trod enc Try.prog W 0 (fun _ => true) true n' 3 (([c0, c1, c2, c3, c4].drop 3).take (Try.prog.cellsOf 3)) = some y3 at g3
  change DataW.trod enc Try.prog W 0 (fun _ => true) true n' 23 (([c0, c1, c2, c3, c4].drop 4).take (Try.prog.cellsOf 23)) = some y4 at g4
  rw [Try.cells22] at g0
  rw [Try.cells4] at g1
  rw [Try.cells9] at g2
  rw [Try.cells3] at g3
  rw [Try.cells23] at g4
  have hw : ∀ k t (y : DataW H × List MemPlace), ([22, 4, 9, 3, 23] : List TypeId)[k]? = some t → [y0, y1, y2, y3, y4][k]? = some y → ∀ n ∈ y.1.weights Try.prog t, n ≤ reachBytes := fun k t y ht hy n hn => by
    refine hsz n ?_
    unfold DataW.weights
    rw [Try.underlying25]
    exact DataW.weights_mem_each (ts := [22, 4, 9, 3, 23]) (j := k) ht (by rw [List.getElem?_map, hy]; rfl) n hn
  obtain ⟨k, e0, _, w0⟩ := DataW.trod_int Try.underlying22 g0
  obtain ⟨f, e1, _⟩ := DataW.trod_bool Try.underlying4 g1
  obtain ⟨s, e2, _, _⟩ := DataW.trod_string Try.underlying9 g2
  obtain ⟨m, e3, _, w3⟩ := DataW.trod_int Try.underlying3 g3
  obtain ⟨A, c, l, e4, s4⟩ := ps_cell g4 (hw 4 _ _ rfl rfl)
  simp at e0 e1 e2 e3 e4
  subst e0 e1 e2 e3 e4
  exact ⟨⟨k, f, s, m, l⟩, A, c, rfl, bounds_i64 w0, bounds_i64 w3, s4⟩
/-- What is said of an owner that came in. -/
structure CoOk (w : World) (x : Co) : Prop where
  s : I64 x.o.s
  r : ReOk w x.o.r x.A x.c
theorem owner_cells {fuel : Nat} {cs : List Value} {x : DataW H × List MemPlace} (ht : DataW.trod enc Try.prog W 0 (fun _ => true) true fuel 27 cs = some x) (hsz : ∀ n ∈ x.1.weights Try.prog 27, n ≤ reachBytes) :
    ∃ y : Co, cs = y.cs ∧ CoOk W y := by
  obtain ⟨ys, n', _, rfl, hlen, hyl, hfs⟩ := DataW.trod_struct Try.underlying27 ht
  rw [Try.cells27] at hlen
  have hyl6 : ys.length = 2 := hyl
  obtain ⟨y0, y1, rfl⟩ : ∃ y0 y1, ys = [y0, y1] := by
    match ys, hyl6 with
    | [y0, y1], _ => exact ⟨y0, y1, rfl⟩
  obtain ⟨c0, c1, c2, c3, c4, c5, rfl⟩ : ∃ c0 c1 c2 c3 c4 c5, cs = [c0, c1, c2, c3, c4, c5] := by
    match cs, hlen with
    | [c0, c1, c2, c3, c4, c5], _ => exact ⟨c0, c1, c2, c3, c4, c5, rfl⟩
  have g0 := hfs 0 _ rfl
  have g1 := hfs 1 _ rfl
  clear hfs
  change DataW.trod enc Try.prog W 0 (fun _ => true) true n' 3 (([c0, c1, c2, c3, c4, c5].drop 0).take (Try.prog.cellsOf 3)) = some y0 at g0
  change DataW.trod enc Try.prog W 0 (fun _ => true) true n' 25 (([c0, c1, c2, c3, c4, c5].drop 1).take (Try.prog.cellsOf 25)) = some y1 at g1
  rw [Try.cells3] at g0
  rw [Try.cells25] at g1
  have hw : ∀ k t (y : DataW H × List MemPlace), ([3, 25] : List TypeId)[k]? = some t → [y0, y1][k]? = some y → ∀ n ∈ y.1.weights Try.prog t, n ≤ reachBytes := fun k t y ht hy n hn => by
    refine hsz n ?_
    unfold DataW.weights
    rw [Try.underlying27]
    exact DataW.weights_mem_each (ts := [3, 25]) (j := k) ht (by rw [List.getElem?_map, hy]; rfl) n hn
  obtain ⟨k, e0, _, w0⟩ := DataW.trod_int Try.underlying3 g0
  obtain ⟨r, A, c, e1, s1⟩ := reply_cells g1 (hw 1 _ _ rfl rfl)
  simp at e0 e1
  obtain ⟨e1, e2, e3, e4, e5⟩ := e1
  subst e0 e1 e2 e3 e4 e5
  exact ⟨⟨⟨k, r⟩, A, c⟩, rfl, bounds_i64 w0, s1⟩
/-- Eight owners that came in. -/
structure OwIn (w : World) (L : List Co) : Prop where
  len : L.length = 8
  ok : ∀ x ∈ L, CoOk w x
theorem OwIn.fine {w : World} {L : List Co} (h : OwIn w L) : Fine w L := ⟨h.len, fun x hx => ⟨(h.ok x hx).r.ps.pin, (h.ok x hx).r.ps.room⟩⟩
theorem owners_cells {fuel : Nat} {cs : List Value} {x : DataW H × List MemPlace} (ht : DataW.trod enc Try.prog W 0 (fun _ => true) true fuel 28 cs = some x) (hsz : ∀ n ∈ x.1.weights Try.prog 28, n ≤ reachBytes) :
    ∃ L, cs = (arr L).toList ∧ OwIn W L := by
  obtain ⟨ys, n', _, rfl, hlen, hyl, hfs⟩ := DataW.trod_array Try.underlying28 ht
  rw [Try.cells28] at hlen
  rw [Try.cells27] at hfs
  have each : ∀ j, j < 8 → ∃ y : Co, (cs.drop (j * 6)).take 6 = y.cs ∧ CoOk W y := fun j hj => by
    have g := hfs j hj
    rw [List.getElem?_eq_getElem (by rw [hyl]; exact hj)] at g
    refine owner_cells g fun n hn => hsz n ?_
    unfold DataW.weights
    rw [Try.underlying28]
    exact weights_all (d := ys[j].1) (List.mem_map.2 ⟨_, List.getElem_mem _, rfl⟩) n hn
  obtain ⟨L, hl, hL⟩ := list_of 8 each
  refine ⟨L, ?_, hl, fun y hy => ?_⟩
  · rw [arr_list]
    refine cells_chunks (m := 6) (coV L) cs (by rw [coV_len, hl]; exact hlen) fun j z hz => ?_
    unfold coV at hz
    rw [List.getElem?_map, Option.map_eq_some_iff] at hz
    obtain ⟨y, hy, rfl⟩ := hz
    exact (hL j y hy).1
  · obtain ⟨j, hj⟩ := List.getElem?_of_mem hy
    exact (hL j y hj).2
end
theorem agg_arr {r : Reach} {b0 : Nat} {t e : TypeId} {n : Nat} {v : Value} {W : World} (ht : Try.prog.underlying t = some (.array n e)) (h : Value.okWide Try.prog W r b0 t v) : ∃ cs, v = .agg cs ∧ cs.size = Try.prog.cellsOf t := by
  simp only [Value.okWide, ht] at h
  obtain ⟨cs, h1, h2, _⟩ := h
  exact ⟨cs, h1, h2⟩
section
variable {H : Type} {enc : TypeId × Value → H} {W : World} {b0 : Nat} {r : Reach} {v : Value} {d : DataW H} {p : List MemPlace} {ts : List TypeId} {ds : List (DataW H)} {j : Nat}
theorem owners_in (hv : Value.okWide Try.prog W r b0 28 v) (h : DataW.Trod enc Try.prog W 0 (fun _ => true) true 28 v d p) (hsz : (DataW.weightsEach Try.prog ts ds).all (· ≤ reachBytes) = true) (ht : ts[j]? = some 28) (hd : ds[j]? = some d) :
    ∃ L, v = .agg (arr L) ∧ OwIn W L := by
  obtain ⟨cs, rfl, _⟩ := agg_arr Try.underlying28 hv
  obtain ⟨fuel, hf⟩ := h
  obtain ⟨L, e, ok⟩ := owners_cells hf fun n hn => by
    have := List.all_eq_true.1 hsz _ (DataW.weights_mem_each ht hd n hn)
    simpa using this
  exact ⟨L, congrArg Value.agg (Array.toList_inj.1 (by simpa [Value.cells] using e)), ok⟩
theorem reply_in (hv : Value.okWide Try.prog W r b0 25 v) (h : DataW.Trod enc Try.prog W 0 (fun _ => true) true 25 v d p) (hsz : (DataW.weightsEach Try.prog ts ds).all (· ≤ reachBytes) = true) (ht : ts[j]? = some 25) (hd : ds[j]? = some d) :
    ∃ x A c, v = .agg #[.int .i64 x.why, .bool x.fnd, .string x.val, .int .i64 x.ver, .slice A (List.length x.l) c] ∧ ReOk W x A c := by
  obtain ⟨cs, rfl, _⟩ := okWide_struct Try.underlying25 hv
  obtain ⟨fuel, hf⟩ := h
  obtain ⟨x, A, c, e, ok⟩ := reply_cells hf fun n hn => by
    have := List.all_eq_true.1 hsz _ (DataW.weights_mem_each ht hd n hn)
    simpa using this
  exact ⟨x, A, c, congrArg Value.agg (Array.toList_inj.1 (by simpa [Value.cells] using e)), ok⟩
end
end Go.Proofs.Ytjadbppcjndmlaa
