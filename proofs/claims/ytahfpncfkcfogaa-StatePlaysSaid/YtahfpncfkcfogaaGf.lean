/- Replies and owners, as they come in. No condition. -/
import Derived.Test.YtahfpncfkcfogaaGd
import Derived.Test.YtahfpncfkcfogaaGc
import Derived.Test.YtahfpncfkcfogaaWithin
import Derived.Deep.WholeRow
import Derived.Test.YtahfpncfkcfogaaGa
namespace Go.Proofs.Ytahfpncfkcfogaa
set_option maxRecDepth 100000
open Go.ChangeShapes Go.WideShapes Go.ChangeAt Go.RowKit Go.Joins
theorem cells_chunks {m : Nat} : ∀ (l : List (List Value)) (cs : List Value), cs.length = l.length * m → (∀ j x, l[j]? = some x → (cs.drop (j * m)).take m = x) → cs = cellsV l
  | [], cs, hl, _ => by
    have : cs.length = 0 := by simpa using hl
    exact List.eq_nil_of_length_eq_zero this
  | x :: r, cs, hl, h => by
    have h0 := h 0 x rfl
    rw [Nat.zero_mul, List.drop_zero] at h0
    have ih := cells_chunks (m := m) r (cs.drop m) (by rw [List.length_drop, hl, List.length_cons, Nat.add_mul]; omega) (fun j y hj => by
      have := h (j + 1) y (by simpa using hj)
      rw [List.drop_drop, show m + j * m = (j + 1) * m by rw [Nat.add_mul]; omega]
      exact this)
    rw [cellsV_cons, ← h0, ← ih, List.take_append_drop]
section
variable {H : Type} {enc : TypeId × Value → H} {W : World}
/-- What is said of a slice of pairs. -/
structure PsOk (w : World) (A : Option Addr) (c : Nat) (l : List Pr) : Prop where
  pin : Pin w (.slice A l.length c) l
  room : l.length ≤ 3518437208780
theorem ps_cell {fuel : Nat} {cs : List Value} {x : DataW H × List MemPlace} (ht : DataW.trod enc Try.prog W 0 (fun _ => true) true fuel 22 cs = some x) (hw : ∀ n ∈ x.1.weights Try.prog 22, n ≤ reachBytes) :
    ∃ A c l, cs = [.slice A (List.length l) c] ∧ PsOk W A c l := by
  obtain ⟨A, n, c, rfl⟩ : ∃ A n c, cs = [.slice A n c] := by
    rcases Go.Deep.open_slice Try.underlying22 ht with ⟨hcs, _⟩ | ⟨a, len, cap, m', nf, D, Pl, hcs, _⟩
    · exact ⟨_, _, _, hcs⟩
    · exact ⟨_, _, _, hcs⟩
  obtain ⟨l, h1, h2, h3, h4, h5, _, h7⟩ := els_in Pr.l (fun y => I64 y.n) Try.underlying22 Try.cells47 (by omega) Try.bytes47 (fun ht _ => pair_cells ht) ht hw
  subst h1
  exact ⟨A, c, l, rfl, ⟨A, c, rfl, h5, h2, by unfold maxLen at h3; omega, h7⟩, by omega⟩
theorem Try.cells22 : Try.prog.cellsOf 22 = 1 := by kernel_rfl
theorem Try.cells4 : Try.prog.cellsOf 4 = 1 := by kernel_rfl
theorem Try.cells23 : Try.prog.cellsOf 23 = 1 := by kernel_rfl
theorem Try.cells25 : Try.prog.cellsOf 25 = 5 := by kernel_rfl
theorem Try.cells27 : Try.prog.cellsOf 27 = 6 := by kernel_rfl
theorem Try.cells28 : Try.prog.cellsOf 28 = 48 := by kernel_rfl
/-- What is said of a reply that came in. -/
structure ReOk (w : World) (r : Re) (A : Option Addr) (c : Nat) : Prop where
  why : I64 r.why
  ver : I64 r.ver
  ps : PsOk w A c r.l
theorem reply_cells {fuel : Nat} {cs : List Value} {x : DataW H × List MemPlace} (ht : DataW.trod enc Try.prog W 0 (fun _ => true) true fuel 25 cs = some x) (hsz : ∀ n ∈ x.1.weights Try.prog 25, n ≤ reachBytes) :
    ∃ r A c, cs = [.int .i64 r.why, .bool r.fnd, .string r.val, .int .i64 r.ver, .slice A (List.length r.l) c] ∧ ReOk W r A c := by
  obtain ⟨ys, n', _, rfl, hlen, hyl, hfs⟩ := DataW.trod_struct Try.underlying25 ht
  rw [Try.cells25] at hlen
  have hyl6 : ys.length = 5 := hyl
  obtain ⟨y0, y1, y2, y3, y4, rfl⟩ : ∃ y0 y1 y2 y3 y4, ys = [y0, y1, y2, y3, y4] := by
    match ys, hyl6 with
    | [y0, y1, y2, y3, y4], _ => exact ⟨y0, y1, y2, y3, y4, rfl⟩
  obtain ⟨c0, c1, c2, c3, c4, rfl⟩ : ∃ c0 c1 c2 c3 c4, cs = [c0, c1, c2, c3, c4] := by
    match cs, hlen with
    | [c0, c1, c2, c3, c4], _ => exact ⟨c0, c1, c2, c3, c4, rfl⟩
  have g0 := hfs 0 _ rfl
  have g1 := hfs 1 _ rfl
  have g2 := hfs 2 _ rfl
  have g3 := hfs 3 _ rfl
  have g4 := hfs 4 _ rfl
  clear hfs
  change DataW.trod enc Try.prog W 0 (fun _ => true) true n' 23 (([c0, c1, c2, c3, c4].drop 0).take (Try.prog.cellsOf 23)) = some y0 at g0
  change DataW.trod enc Try.prog W 0 (fun _ => true) true n' 4 (([c0, c1, c2, c3, c4].drop 1).take (Try.prog.cellsOf 4)) = some y1 at g1
  change DataW.trod enc Try.prog W 0 (fun _ => true) true n' 9 (([c0, c1, c2, c3, c4].drop 2).take (Try.prog.cellsOf 9)) = some y2 at g2
  change DataW.trod enc Try.prog W 0 (fun _ => true) true n' 3 (([c0, c1, c2, c3, c4].drop 3).take (Try.prog.cellsOf 3)) = some y3 at g3
  change DataW.trod enc Try.prog W 0 (fun _ => true) true n' 22 (([c0, c1, c2, c3, c4].drop 4).take (Try.prog.cellsOf 22)) = some y4 at g4
  rw [Try.cells23] at g0
  rw [Try.cells4] at g1
  rw [Try.cells9] at g2
  rw [Try.cells3] at g3
  rw [Try.cells22] at g4
  have hw : ∀ k t (y : DataW H × List MemPlace), ([23, 4, 9, 3, 22] : List TypeId)[k]? = some t → [y0, y1, y2, y3, y4][k]? = some y → ∀ n ∈ y.1.weights Try.prog t, n ≤ reachBytes := fun k t y ht hy n hn => by
    refine hsz n ?_
    unfold DataW.weights
    rw [Try.underlying25]
    exact DataW.weights_mem_each (ts := [23, 4, 9, 3, 22]) (j := k) ht (by rw [List.getElem?_map, hy]; rfl) n hn
  obtain ⟨k, e0, _, w0⟩ := DataW.trod_int Try.underlying23 g0
  obtain ⟨f, e1, _⟩ := DataW.trod_bool Try.underlying4 g1
  obtain ⟨s, e2, _, _⟩ := DataW.trod_string Try.underlying9 g2
  obtain ⟨m, e3, _, w3⟩ := DataW.trod_int Try.underlying3 g3
  obtain ⟨A, c, l, e4, s4⟩ := ps_cell g4 (hw 4 _ _ rfl rfl)
  simp at e0 e1 e2 e3 e4
  subst e0 e1 e2 e3 e4
  exact ⟨⟨k, f, s, m, l⟩, A, c, rfl, bounds_i64 w0, bounds_i64 w3, s4⟩
/-- What is said of an owner that came in. -/
structure CoOk (w : World) (x : Co) : Prop where
  s : I64 x.o.s
  r : ReOk w x.o.r x.A x.c
theorem owner_cells {fuel : Nat} {cs : List Value} {x : DataW H × List MemPlace} (ht : DataW.trod enc Try.prog W 0 (fun _ => true) true fuel 27 cs = some x) (hsz : ∀ n ∈ x.1.weights Try.prog 27, n ≤ reachBytes) :
    ∃ y : Co, cs = y.cs ∧ CoOk W y := by
  obtain ⟨ys, n', _, rfl, hlen, hyl, hfs⟩ := DataW.trod_struct Try.underlying27 ht
  rw [Try.cells27] at hlen
  have hyl6 : ys.length = 2 := hyl
  obtain ⟨y0, y1, rfl⟩ : ∃ y0 y1, ys = [y0, y1] := by
    match ys, hyl6 with
    | [y0, y1], _ => exact ⟨y0, y1, rfl⟩
  obtain ⟨c0, c1, c2, c3, c4, c5, rfl⟩ : ∃ c0 c1 c2 c3 c4 c5, cs = [c0, c1, c2, c3, c4, c5] := by
    match cs, hlen with
    | [c0, c1, c2, c3, c4, c5], _ => exact ⟨c0, c1, c2, c3, c4, c5, rfl⟩
  have g0 := hfs 0 _ rfl
  have g1 := hfs 1 _ rfl
  clear hfs
  change DataW.trod enc Try.prog W 0 (fun _ => true) true n' 3 (([c0, c1, c2, c3, c4, c5].drop 0).take (Try.prog.cellsOf 3)) = some y0 at g0
  change DataW.trod enc Try.prog W 0 (fun _ => true) true n' 25 (([c0, c1, c2, c3, c4, c5].drop 1).take (Try.prog.cellsOf 25)) = some y1 at g1
  rw [Try.cells3] at g0
  rw [Try.cells25] at g1
  have hw : ∀ k t (y : DataW H × List MemPlace), ([3, 25] : List TypeId)[k]? = some t → [y0, y1][k]? = some y → ∀ n ∈ y.1.weights Try.prog t, n ≤ reachBytes := fun k t y ht hy n hn => by
    refine hsz n ?_
    unfold DataW.weights
    rw [Try.underlying27]
    exact DataW.weights_mem_each (ts := [3, 25]) (j := k) ht (by rw [List.getElem?_map, hy]; rfl) n hn
  obtain ⟨k, e0, _, w0⟩ := DataW.trod_int Try.underlying3 g0
  obtain ⟨r, A, c, e1, s1⟩ := reply_cells g1 (hw 1 _ _ rfl rfl)
  simp at e0 e1
  obtain ⟨e1, e2, e3, e4, e5⟩ := e1
  subst e0 e1 e2 e3 e4 e5
  exact ⟨⟨⟨k, r⟩, A, c⟩, rfl, bounds_i64 w0, s1⟩
/-- Eight owners that came in. -/
structure OwIn (w : World) (L : List Co) : Prop where
  len : L.length = 8
  ok : ∀ x ∈ L, CoOk w x
theorem OwIn.fine {w : World} {L : List Co} (h : OwIn w L) : Fine w L := ⟨h.len, fun x hx => ⟨(h.ok x hx).r.ps.pin, (h.ok x hx).r.ps.room⟩⟩
theorem owners_cells {fuel : Nat} {cs : List Value} {x : DataW H × List MemPlace} (ht : DataW.trod enc Try.prog W 0 (fun _ => true) true fuel 28 cs = some x) (hsz : ∀ n ∈ x.1.weights Try.prog 28, n ≤ reachBytes) :
    ∃ L, cs = (arr L).toList ∧ OwIn W L := by
  obtain ⟨ys, n', _, rfl, hlen, hyl, hfs⟩ := DataW.trod_array Try.underlying28 ht
  rw [Try.cells28] at hlen
  rw [Try.cells27] at hfs
  have each : ∀ j, j < 8 → ∃ y : Co, (cs.drop (j * 6)).take 6 = y.cs ∧ CoOk W y := fun j hj => by
    have g := hfs j hj
    rw [List.getElem?_eq_getElem (by rw [hyl]; exact hj)] at g
    refine owner_cells g fun n hn => hsz n ?_
    unfold DataW.weights
    rw [Try.underlying28]
    exact weights_all (d := ys[j].1) (List.mem_map.2 ⟨_, List.getElem_mem _, rfl⟩) n hn
  obtain ⟨L, hl, hL⟩ := list_of 8 each
  refine ⟨L, ?_, hl, fun y hy => ?_⟩
  · rw [arr_list]
    refine cells_chunks (m := 6) (coV L) cs (by rw [coV_len, hl]; exact hlen) fun j z hz => ?_
    unfold coV at hz
    rw [List.getElem?_map, Option.map_eq_some_iff] at hz
    obtain ⟨y, hy, rfl⟩ := hz
    exact (hL j y hy).1
  · obtain ⟨j, hj⟩ := List.getElem?_of_mem hy
    exact (hL j y hj).2
end
theorem agg_arr {r : Reach} {b0 : Nat} {t e : TypeId} {n : Nat} {v : Value} {W : World} (ht : Try.prog.underlying t = some (.array n e)) (h : Value.okWide Try.prog W r b0 t v) : ∃ cs, v = .agg cs ∧ cs.size = Try.prog.cellsOf t := by
  simp only [Value.okWide, ht] at h
  obtain ⟨cs, h1, h2, _⟩ := h
  exact ⟨cs, h1, h2⟩
section
variable {H : Type} {enc : TypeId × Value → H} {W : World} {b0 : Nat} {r : Reach} {v : Value} {d : DataW H} {p : List MemPlace} {ts : List TypeId} {ds : List (DataW H)} {j : Nat}
theorem owners_in (hv : Value.okWide Try.prog W r b0 28 v) (h : DataW.Trod enc Try.prog W 0 (fun _ => true) true 28 v d p) (hsz : (DataW.weightsEach Try.prog ts ds).all (· ≤ reachBytes) = true) (ht : ts[j]? = some 28) (hd : ds[j]? = some d) :
    ∃ L, v = .agg (arr L) ∧ OwIn W L := by
  obtain ⟨cs, rfl, _⟩ := agg_arr Try.underlying28 hv
  obtain ⟨fuel, hf⟩ := h
  obtain ⟨L, e, ok⟩ := owners_cells hf fun n hn => by
    have := List.all_eq_true.1 hsz _ (DataW.weights_mem_each ht hd n hn)
    simpa using this
  exact ⟨L, congrArg Value.agg (Array.toList_inj.1 (by simpa [Value.cells] using e)), ok⟩
theorem reply_in (hv : Value.okWide Try.prog W r b0 25 v) (h : DataW.Trod enc Try.prog W 0 (fun _ => true) true 25 v d p) (hsz : (DataW.weightsEach Try.prog ts ds).all (· ≤ reachBytes) = true) (ht : ts[j]? = some 25) (hd : ds[j]? = some d) :
    ∃ x A c, v = .agg #[.int .i64 x.why, .bool x.fnd, .string x.val, .int .i64 x.ver, .slice A (List.length x.l) c] ∧ ReOk W x A c := by
  obtain ⟨cs, rfl, _⟩ := okWide_struct Try.underlying25 hv
  obtain ⟨fuel, hf⟩ := h
  obtain ⟨x, A, c, e, ok⟩ := reply_cells hf fun n hn => by
    have := List.all_eq_true.1 hsz _ (DataW.weights_mem_each ht hd n hn)
    simpa using this
  exact ⟨x, A, c, congrArg Value.agg (Array.toList_inj.1 (by simpa [Value.cells] using e)), ok⟩
end
end Go.Proofs.Ytahfpncfkcfogaa
/- Eight owners stored into a new block; two things boxed; what Look's answers are. No condition. -/
namespace Go.Proofs.Ytahfpncfkcfogaa
set_option maxRecDepth 100000
open Go.RowKit
/-- All eight are stored into the block that was made last, in the walk. -/
theorem wpList_store8n {ops : Array Oper} {rest : List Oper} {d : Option Tmp} {ty : TypeId} {ps : String} {af : Array Edge} {x y : Operand} {a : Act} {w : World} {Q : Exit → Act → World → Prop} {M : List Co}
    (hx : a.eval x = .pointer (some ⟨w.heap.size, 0, none⟩)) (hy : a.eval y = .agg (arr M)) (hm : M.length = 8)
    (h : wpList Try.prog ops Q rest (a.put d undef) (w.alloc (.cells (arr M) 28))) :
    wpList Try.prog ops Q ({ dst := d, op := .store 28 x y, type := ty, pos := ps, after := af, guard := none } :: rest) a (w.alloc (.cells #[.int .i64 0, .int .i64 0, .bool false, .string { data := #[] }, .int .i64 0, .slice none 0 0, .int .i64 0, .int .i64 0, .bool false, .string { data := #[] }, .int .i64 0, .slice none 0 0, .int .i64 0, .int .i64 0, .bool false, .string { data := #[] }, .int .i64 0, .slice none 0 0, .int .i64 0, .int .i64 0, .bool false, .string { data := #[] }, .int .i64 0, .slice none 0 0, .int .i64 0, .int .i64 0, .bool false, .string { data := #[] }, .int .i64 0, .slice none 0 0, .int .i64 0, .int .i64 0, .bool false, .string { data := #[] }, .int .i64 0, .slice none 0 0, .int .i64 0, .int .i64 0, .bool false, .string { data := #[] }, .int .i64 0, .slice none 0 0, .int .i64 0, .int .i64 0, .bool false, .string { data := #[] }, .int .i64 0, .slice none 0 0] 28)) := by
  rw [zero_arr]
  refine wpList_store8 hx hy (Row.new w _ (arr zeroL)) rfl hm ?_
  rw [World.setRow_alloc_new]
  exact h
/-- Eight owners and a reply boxed. -/
structure B2 (W w : World) (L : List Co) (r : Re) (p : Value) : Prop where
  r0 : Row w W.heap.size 28 (arr L)
  r1 : Row w (W.heap.size + 1) 25 #[.int .i64 r.why, .bool r.fnd, .string r.val, .int .i64 r.ver, p]
  bel : Below W.heap.size W w
theorem B2.new (w : World) (L : List Co) (r : Re) (p : Value) : B2 w ((w.alloc (.cells (arr L) 28)).alloc (.cells #[.int .i64 r.why, .bool r.fnd, .string r.val, .int .i64 r.ver, p] 25)) L r p := by
  have R1 := Row.new (w.alloc (.cells (arr L) 28)) 25 #[.int .i64 r.why, .bool r.fnd, .string r.val, .int .i64 r.ver, p]
  have hs : (w.alloc (.cells (arr L) 28)).heap.size = w.heap.size + 1 := by simp
  rw [hs] at R1
  exact ⟨(Row.new w _ _).alloc _, R1, kept_alloc (kept_alloc (kept_refl w) _) _⟩
theorem B2.below {W w w' : World} {L : List Co} {r : Re} {p : Value} (h : B2 W w L r p) (hb : Below w.heap.size w w') : B2 W w' L r p := ⟨h.r0.below hb h.r0.lt, h.r1.below hb h.r1.lt, h.bel.trans (hb.mono h.bel.size)⟩
def roomO (l : List Ow) : Prop := ∀ o, o ∈ l → o.r.l.length ≤ 3518437208780
theorem look_room {l : List Ow} (h : roomO l) (c s : Int) : (lookO l c s).2.l.length ≤ 3518437208780 := by
  unfold lookO
  split
  · unfold seenO
    split
    · exact Nat.zero_le _
    · split
      · exact Nat.zero_le _
      · cases ho : l[(c - 1).toNat]? with
        | none => exact Nat.zero_le _
        | some o => exact h o (List.mem_of_getElem? ho)
  · exact Nat.zero_le _
theorem fine_room {w : World} {L : List Co} (h : Fine w L) : roomO (ows L) := fun o ho => by
  unfold ows at ho
  obtain ⟨x, hx, rfl⟩ := List.mem_map.1 ho
  exact (h.2 x hx).2
theorem note_room {l : List Ow} (h : roomO l) {c s : Int} {r : Re} (hr : r.l.length ≤ 3518437208780) : roomO (noteO l c s r) := fun o ho => by
  unfold noteO at ho
  split at ho
  · rcases List.mem_or_eq_of_mem_set ho with h1 | rfl
    · exact h o h1
    · exact hr
  · exact h o ho
theorem cli_in {c : Int} (h : 1 ≤ c ∧ c ≤ 8) : cliB c = true := by unfold cliB; rw [decide_eq_true h.1, decide_eq_true h.2]; rfl
/-- Noting one client changes no other's. -/
theorem look_other {l : List Ow} {x y s o : Int} {r : Re} (hx : 1 ≤ x) (hy : 1 ≤ y) (hne : x ≠ y) : lookO (noteO l x s r) y o = lookO l y o := by
  unfold noteO
  split
  · unfold lookO
    rw [List.getElem?_set_ne (by omega)]
  · rfl
theorem look_self {l : List Ow} {x s o : Int} {r : Re} (hl : l.length = 8) (hx : 1 ≤ x ∧ x ≤ 8) : lookO (noteO l x s r) x o = seenO ⟨s, r⟩ o := by
  unfold noteO lookO
  rw [cli_in hx, if_pos rfl, if_pos rfl, List.getElem?_set_self (by omega)]
  rfl
theorem seen1 {s o : Int} {r : Re} (h : s < o) : seenO ⟨s, r⟩ o = (1, zeroR) := if_pos h
theorem seen2 (s : Int) (r : Re) : seenO ⟨s, r⟩ s = (2, r) := (if_neg (Int.lt_irrefl s)).trans (if_neg (Int.lt_irrefl s))
theorem seen3 {s o : Int} {r : Re} (h : o < s) : seenO ⟨s, r⟩ o = (3, zeroR) := (if_neg (Int.not_lt.2 (Int.le_of_lt h))).trans (if_pos h)
end Go.Proofs.Ytahfpncfkcfogaa
/- The law's turn: pairs of an own row are turned; nothing else is. Condition: their number has room. -/
namespace Go.Proofs.Ytahfpncfkcfogaa
set_option maxRecDepth 100000
open Go.RowKit
theorem pin_nil {w : World} {A : Option Addr} {n c : Nat} {l : List Pr} (h : Pin w (.slice A n c) l) : A = none → c = 0 := by
  obtain ⟨_, _, e, h1, _⟩ := h
  cases e; exact h1
theorem pin_lies {w : World} {A : Option Addr} {n c : Nat} {l : List Pr} (h : Pin w (.slice A n c) l) : Prs w A l := by
  obtain ⟨_, _, e, _, _, _, h1⟩ := h
  cases e; exact h1
/-- A write into an own block of before leaves what is younger. -/
theorem Mine.apart {b : Nat} {w w' : World} {v : Value} {l : List Pr} {row : Option Nat} (h : Mine b w v l) (hg : w.grownBy w' row) (hr : ∀ k, row = some k → k < b) : Mine b w' v l := by
  have hl := h.lt
  unfold Mine at h ⊢
  refine h.kept hg ?_
  cases hv : v.ownBlock with
  | none => exact .inl rfl
  | some k => exact .inr (fun e => by
      have h1 := hl k hv
      have h2 := hr k e.symm
      omega)
theorem grown_from {b : Nat} {w w' : World} {row : Option Nat} (hg : w.grownBy w' row) (hr : ∀ k, row = some k → b ≤ k) (hb : b ≤ w.heap.size) : Below b w w' :=
  (Below.refl b w).grown hg hb hr
theorem Mine.blk {b : Nat} {w : World} {v : Value} {l : List Pr} (h : Mine b w v l) : ∀ k, v.ownBlock = some k → b ≤ k ∧ k < w.heap.size := fun k hk => by
  unfold Mine at h
  exact h.lt k hk
theorem fine_mine {b : Nat} {w : World} {l : List Ow} {M : List Co} (h : ∀ x, x ∈ M → Mine b w x.p x.o.r.l) (hl : ows M = l) (h8 : M.length = 8) (hn : roomO l) : Fine w M :=
  ⟨h8, fun x hx => ⟨(h x hx).pin, hn x.o (by subst hl; exact List.mem_map.2 ⟨x, hx, rfl⟩)⟩⟩
theorem zero_room : roomO (ows zeroL) := fine_room (zero_fine default)
end Go.Proofs.Ytahfpncfkcfogaa
/- A state of eight owners and no pairs, built. No condition. -/
namespace Go.Proofs.Ytahfpncfkcfogaa
set_option maxRecDepth 100000
open Go.RowKit
theorem fill_list (off : Nat) : ∀ (l : List Value) (k : Nat) (cells : Array Value), off + k + l.length ≤ cells.size →
    (l.zipIdx k).foldl (fun cs x => cs.setIfInBounds (off + x.2) x.1) cells = (cells.toList.take (off + k) ++ l ++ cells.toList.drop (off + k + l.length)).toArray
  | [], k, cells, _ => by
    simp only [List.zipIdx_nil, List.foldl_nil, List.append_nil, List.length_nil, Nat.add_zero, List.take_append_drop, Array.toArray_toList]
  | v :: rest, k, cells, h => by
    have hl : off + k + rest.length + 1 ≤ cells.size := by simpa [Nat.add_assoc] using h
    rw [List.zipIdx_cons, List.foldl_cons]
    have ih := fill_list off rest (k + 1) (cells.setIfInBounds (off + k) v) (by rw [Array.size_setIfInBounds]; omega)
    rw [ih, Array.toList_setIfInBounds]
    congr 1
    exact list_seg_step cells.toList (off + k) v rest (by rw [Array.length_toList]; omega)
/-- The state's cells. -/
def stA (L : List Co) : Array Value := #[.slice none 0 0] ++ arr L
theorem stA_size {L : List Co} (h : L.length = 8) : (stA L).size = 49 := by unfold stA; rw [Array.size_append, arr_size h]; rfl
theorem stA_at {L : List Co} (i : Nat) : (stA L)[1 + i]? = (arr L)[i]? := by
  unfold stA
  rw [Array.getElem?_append_right (by simp)]
  simp
theorem fill_eight {L : List Co} (h : L.length = 8) (z : Array Value) (hz : z.size = 49) (h0 : z.toList.take 1 = [.slice none 0 0]) : (arr L).zipIdx.foldl (fun cs x => cs.setIfInBounds (1 + x.2) x.1) z = stA L := by
  rw [← Array.foldl_toList, Array.toList_zipIdx, fill_list 1 (arr L).toList 0 z (by rw [Array.length_toList, arr_size h, hz]; omega), Nat.add_zero, h0, List.drop_of_length_le (by rw [Array.length_toList, Array.length_toList, arr_size h, hz]; omega)]
  unfold stA
  apply Array.toList_inj.1
  simp
theorem fill_state {L : List Co} (h : L.length = 8) (z : Array Value) (hz : z.size = 49) (h0 : z.toList.take 1 = [.slice none 0 0]) : Instr.fill (fun x => ([(0, 1), (1, 48)] : List (Nat × Nat))[x]?) (Value.agg z).cells [(1, .agg (arr L))] = some (stA L) := by
  have e := fill_eight h z hz h0
  have hs := arr_size h
  unfold Instr.fill
  simp only [List.getElem?_cons_succ, List.getElem?_cons_zero, Value.cells]
  refine (if_neg (fun hc => ?_)).trans ?_
  · have hc : (decide ((arr L).size ≠ 48) || decide (1 + (arr L).size > z.size)) = true := hc
    rw [hs, hz] at hc
    exact absurd hc (by decide)
  · unfold Instr.fill
    exact congrArg some e
theorem exec_state {o : Oper} {a : Act} {w : World} {x : Operand} {L : List Co} (ho : o.op = .build 30 #[(1, x)]) (hx : a.eval x = .agg (arr L)) (hl : L.length = 8) :
    (execOp a.eval o).run Try.prog w = .ok (.value (.agg (stA L))) w := by
  have hf := fill_state hl #[.slice none 0 0, .int .i64 0, .int .i64 0, .bool false, .string { data := #[] }, .int .i64 0, .slice none 0 0, .int .i64 0, .int .i64 0, .bool false, .string { data := #[] }, .int .i64 0, .slice none 0 0, .int .i64 0, .int .i64 0, .bool false, .string { data := #[] }, .int .i64 0, .slice none 0 0, .int .i64 0, .int .i64 0, .bool false, .string { data := #[] }, .int .i64 0, .slice none 0 0, .int .i64 0, .int .i64 0, .bool false, .string { data := #[] }, .int .i64 0, .slice none 0 0, .int .i64 0, .int .i64 0, .bool false, .string { data := #[] }, .int .i64 0, .slice none 0 0, .int .i64 0, .int .i64 0, .bool false, .string { data := #[] }, .int .i64 0, .slice none 0 0, .int .i64 0, .int .i64 0, .bool false, .string { data := #[] }, .int .i64 0, .slice none 0 0] rfl rfl
  unfold execOp
  simp only [ho]
  simp [Instr.build, hx]
  rw [hf]
  rfl
end Go.Proofs.Ytahfpncfkcfogaa
/- The document's RightState, of eight owners and no pairs. Conditions: the lists of pairs lie in memory, none is great. -/
namespace Go.Proofs.Ytahfpncfkcfogaa
set_option maxRecDepth 100000
open Go.RowKit
/-- May it not be a client's, as the document says. -/
noncomputable def badO (o : Ow) : Bool := decide (o.s < 0) || (decide (1099511627776 < o.s) || (!okR o.r || ((o.s == 0) && !decide (o.r = zeroR))))
theorem right_nil : rightB [] = true := right_true ⟨Nat.zero_le _, fun j hj => absurd hj (by simp)⟩
theorem nilB_iff (a : ByteArray) : nilB a = true ↔ a = nilT := by
  unfold nilB
  rw [List.isEmpty_iff]
  constructor
  · intro h
    exact (eq_iff a nilT).1 (by unfold eqB; rw [h, nil_list]; rfl)
  · rintro rfl; exact nil_list
theorem ok_zeroR : okR zeroR = true := by
  unfold okR zeroR
  dsimp only
  rw [right_nil]
  have : nilT.size = 0 := rfl
  rw [this]; rfl
theorem null_iff (r : Re) : nullR r = decide (r = zeroR) := by
  rw [Bool.eq_iff_iff, decide_eq_true_iff]
  obtain ⟨why, fnd, val, ver, l⟩ := r
  unfold nullR zeroR
  simp only [Bool.and_eq_true, beq_iff_eq, Bool.not_eq_true', nilB_iff, decide_eq_true_eq, List.length_eq_zero_iff, Re.mk.injEq]
theorem may_bad (o : Ow) : mayO o = !badO o := by
  unfold mayO badO
  by_cases h0 : o.s = 0
  · rw [if_pos h0, null_iff, h0]
    by_cases hz : o.r = zeroR
    · rw [decide_eq_true hz, hz, ok_zeroR]; rfl
    · rw [decide_eq_false hz]
      cases okR o.r <;> rfl
  · rw [if_neg h0]
    have e : (o.s == 0) = false := by simpa using h0
    rw [e]
    cases okR o.r
    · simp
    · by_cases h1 : o.s < 0
      · rw [decide_eq_true h1, decide_eq_false (show ¬ 1 ≤ o.s by omega)]; rfl
      · rw [decide_eq_false h1, decide_eq_true (show 1 ≤ o.s by omega)]
        by_cases h2 : 1099511627776 < o.s
        · rw [decide_eq_true h2, decide_eq_false (show ¬ o.s ≤ 1099511627776 by omega)]; rfl
        · rw [decide_eq_false h2, decide_eq_true (show o.s ≤ 1099511627776 by omega)]; rfl
theorem Row.owner1 {w : World} {g : Nat} {t : TypeId} {L : List Co} (h : Row w g t (stA L)) {k : Nat} {x : Co} (hx : L[k]? = some x) :
    w.cell? ⟨g, 1 + k * 6, none⟩ = some (.int .i64 x.o.s) ∧ w.cell? ⟨g, 1 + k * 6 + 1, none⟩ = some (.int .i64 x.o.r.why) ∧ w.cell? ⟨g, 1 + k * 6 + 2, none⟩ = some (.bool x.o.r.fnd) ∧ w.cell? ⟨g, 1 + k * 6 + 3, none⟩ = some (.string x.o.r.val) ∧ w.cell? ⟨g, 1 + k * 6 + 4, none⟩ = some (.int .i64 x.o.r.ver) ∧ w.cell? ⟨g, 1 + k * 6 + 5, none⟩ = some x.p := by
  have hc : ∀ i, i < 6 → w.cell? ⟨g, 1 + k * 6 + i, none⟩ = x.cs[i]? := fun i hi => by
    rw [h.cell, Nat.add_assoc, stA_at, arr_at hx i hi]
  exact ⟨hc 0 (by omega), hc 1 (by omega), hc 2 (by omega), hc 3 (by omega), hc 4 (by omega), hc 5 (by omega)⟩
theorem right_bad {L : List Co} {k : Nat} {x : Co} (hx : L[k]? = some x) (hb : badO x.o = true) : rightO L = false := by
  unfold rightO
  rw [List.all_eq_false]
  exact ⟨x, List.mem_of_getElem? hx, by rw [may_bad, hb]; simp⟩
theorem Row.six {w : World} {g : Nat} {t : TypeId} {c0 c1 c2 c3 c4 c5 : Value} (h : Row w g t #[c0, c1, c2, c3, c4, c5]) : w.cell? ⟨g, 0, none⟩ = some c0 ∧ w.cell? ⟨g, 1, none⟩ = some c1 ∧ w.cell? ⟨g, 2, none⟩ = some c2 ∧ w.cell? ⟨g, 3, none⟩ = some c3 ∧ w.cell? ⟨g, 4, none⟩ = some c4 ∧ w.cell? ⟨g, 5, none⟩ = some c5 := ⟨h.cell 0, h.cell 1, h.cell 2, h.cell 3, h.cell 4, h.cell 5⟩
set_option maxRecDepth 100000 in
set_option maxHeartbeats 8000000 in
theorem rstate_any (L : List Co) (w : World) (h : Fine w L) :
    Calls Try.prog 21 #[.agg (stA L)] w fun e w' => e = .returned (.bool (rightO L)) ∧ Below w.heap.size w w' := by
  have HF := hide (h.below (kept_alloc (kept_refl w) (.cells (stA L) 30)))
  have HW := hide (kept_alloc (kept_refl w) (.cells (stA L) 30))
  have HR := hide (Row.new w 30 (stA L))
  have H8 := hide h.1
  clear h
  go_enter Try.func21, Try.ntmps21
  go_upto_region 1 with (fail)
  generalize w.alloc (.cells (stA L) 30) = w1 at HF HW HR ⊢
  have g0 := HR.out.lt
  generalize w.heap.size = g at HR g0 ⊢
  go_wp2
  go_loopw [3] (fun i wr => ∃ k : Nat, k ≤ 8 ∧ i = .int .i64 k ∧ Hid (∀ j x, j < k → L[j]? = some x → mayO x.o = true) ∧ Hid (Below w1.heap.size w1 wr)) (fun i _ => 8 - (intOf i).toNat)
  case atStart => exact ⟨0, by omega, rfl, (fun j x hj => absurd hj (by omega)), Below.refl _ _⟩
  case round =>
    obtain ⟨k, hk, rfl, hs, hb⟩ := hrel
    by_cases hlt : k < 8
    · obtain ⟨x, hx, hp, hn⟩ := HF.out.at_ hlt
      have hlt' : (k : Int) < 8 := by omega
      obtain ⟨c0, c1, c2, c3, c4, c5⟩ := (HR.out.below hb.out g0).owner1 hx
      have HX := hide hx
      have HP := hide hp
      unfold Co.p at c5 HP
      clear hx hp
      go_upto_region 5 with (fail)
      have HO := hide (Row.new wr 27 #[.int .i64 x.o.s, .int .i64 x.o.r.why, .bool x.o.r.fnd, .string x.o.r.val, .int .i64 x.o.r.ver, .slice x.A x.o.r.l.length x.c])
      have HB2 := hide (kept_trans hb.out (kept_alloc (kept_refl wr) (.cells #[.int .i64 x.o.s, .int .i64 x.o.r.why, .bool x.o.r.fnd, .string x.o.r.val, .int .i64 x.o.r.ver, .slice x.A x.o.r.l.length x.c] 27)))
      clear c0 c1 c2 c3 c4 c5
      generalize wr.alloc (.cells #[.int .i64 x.o.s, .int .i64 x.o.r.why, .bool x.o.r.fnd, .string x.o.r.val, .int .i64 x.o.r.ver, .slice x.A x.o.r.l.length x.c] 27) = w2 at HO HB2 ⊢
      generalize wr.heap.size = go at HO ⊢
      have hgo := HO.out.lt
      obtain ⟨d0, d1, d2, d3, d4, d5⟩ := HO.out.six
      have HQ := hide (rreply_any x.o.r _ w2 (HP.out.below HB2.out) hn)
      have HE0 := hide (fun (wz : World) (hz : Below w1.heap.size w1 wz) => show Calls Try.prog 13 #[.agg #[.int .i64 x.o.r.why, .bool x.o.r.fnd, .string x.o.r.val, .int .i64 x.o.r.ver, .slice x.A x.o.r.l.length x.c], .agg #[.int .i64 0, .bool false, .string { data := #[] }, .int .i64 0, .slice none 0 0]] wz (fun e w' => e = .returned (.bool (decide (x.o.r = zeroR))) ∧ Below wz.heap.size wz w') from replies_any x.o.r zeroR _ _ wz (HP.out.below hz) (Pin.nil_ wz) (by omega) (Nat.zero_le _))
      have hbad : badO x.o = (decide (x.o.s < 0) || (decide (1099511627776 < x.o.s) || (!okR x.o.r || ((x.o.s == 0) && !decide (x.o.r = zeroR))))) := rfl
      obtain ⟨t1, h1⟩ : ∃ t, decide (x.o.s < 0) = t := ⟨_, rfl⟩
      obtain ⟨t2, h2⟩ : ∃ t, decide (1099511627776 < x.o.s) = t := ⟨_, rfl⟩
      obtain ⟨t3, h3⟩ : ∃ t, okR x.o.r = t := ⟨_, rfl⟩
      obtain ⟨t4, h4⟩ : ∃ t, (x.o.s == 0) = t := ⟨_, rfl⟩
      obtain ⟨t5, h5⟩ : ∃ t, decide (x.o.r = zeroR) = t := ⟨_, rfl⟩
      rw [h1, h2, h3, h4, h5] at hbad
      rw [h3] at HQ
      rw [h5] at HE0
      clear h3 h5
      cases t1
      case true =>
        have HE := hide (right_bad HX.out (hbad.trans (by rfl)))
        clear hbad
        go_wp2_with (first | (go_at_call 48; (with_reducible refine HQ.out.mono ?_); rintro e w3 ⟨rfl, hb3⟩; have S := HO.out.below hb3 hgo; obtain ⟨d0, d1, d2, d3, d4, d5⟩ := S.six) | (go_at_call 13; (with_reducible refine (HE0.out _ (kept_trans HB2.out hb3)).mono ?_); rintro e w4 ⟨rfl, hb4⟩))
        go_ret
        exact ⟨by rw [HE.out]; rfl, kept_trans HW.out HB2.out⟩
      cases t2
      case true =>
        have HE := hide (right_bad HX.out (hbad.trans (by rfl)))
        clear hbad
        go_wp2_with (first | (go_at_call 48; (with_reducible refine HQ.out.mono ?_); rintro e w3 ⟨rfl, hb3⟩; have S := HO.out.below hb3 hgo; obtain ⟨d0, d1, d2, d3, d4, d5⟩ := S.six) | (go_at_call 13; (with_reducible refine (HE0.out _ (kept_trans HB2.out hb3)).mono ?_); rintro e w4 ⟨rfl, hb4⟩))
        go_ret
        exact ⟨by rw [HE.out]; rfl, kept_trans HW.out HB2.out⟩
      cases t3
      case false =>
        have HE := hide (right_bad HX.out (hbad.trans (by rfl)))
        clear hbad
        go_wp2_with (first | (go_at_call 48; (with_reducible refine HQ.out.mono ?_); rintro e w3 ⟨rfl, hb3⟩; have S := HO.out.below hb3 hgo; obtain ⟨d0, d1, d2, d3, d4, d5⟩ := S.six) | (go_at_call 13; (with_reducible refine (HE0.out _ (kept_trans HB2.out hb3)).mono ?_); rintro e w4 ⟨rfl, hb4⟩))
        go_ret
        exact ⟨by rw [HE.out]; rfl, kept_trans HW.out (kept_trans HB2.out hb3)⟩
      cases t4
      case false =>
        have HE : Hid (mayO x.o = true) := hide (by rw [may_bad, hbad]; rfl)
        clear hbad
        go_wp2_with (first | (go_at_call 48; (with_reducible refine HQ.out.mono ?_); rintro e w3 ⟨rfl, hb3⟩; have S := HO.out.below hb3 hgo; obtain ⟨d0, d1, d2, d3, d4, d5⟩ := S.six) | (go_at_call 13; (with_reducible refine (HE0.out _ (kept_trans HB2.out hb3)).mono ?_); rintro e w4 ⟨rfl, hb4⟩))
        go_roundw
        case rel => exact ⟨k + 1, by omega, by go_num, hide (fun j y hj hy => by
          rcases Nat.lt_or_ge j k with q1 | q1
          · exact hs.out j y q1 hy
          · obtain rfl : j = k := by omega
            cases HX.out.symm.trans hy
            exact HE.out), hide (kept_trans HB2.out hb3)⟩
        case measure => simp [intOf]; omega
      cases t5
      case false =>
        have HE := hide (right_bad HX.out (hbad.trans (by rfl)))
        clear hbad
        go_wp2_with (first | (go_at_call 48; (with_reducible refine HQ.out.mono ?_); rintro e w3 ⟨rfl, hb3⟩; have S := HO.out.below hb3 hgo; obtain ⟨d0, d1, d2, d3, d4, d5⟩ := S.six) | (go_at_call 13; (with_reducible refine (HE0.out _ (kept_trans HB2.out hb3)).mono ?_); rintro e w4 ⟨rfl, hb4⟩))
        go_ret
        exact ⟨by rw [HE.out]; rfl, kept_trans HW.out (kept_trans HB2.out (kept_trans hb3 hb4))⟩
      have HE : Hid (mayO x.o = true) := hide (by rw [may_bad, hbad]; rfl)
      clear hbad
      go_wp2_with (first | (go_at_call 48; (with_reducible refine HQ.out.mono ?_); rintro e w3 ⟨rfl, hb3⟩; have S := HO.out.below hb3 hgo; obtain ⟨d0, d1, d2, d3, d4, d5⟩ := S.six) | (go_at_call 13; (with_reducible refine (HE0.out _ (kept_trans HB2.out hb3)).mono ?_); rintro e w4 ⟨rfl, hb4⟩))
      go_roundw
      case rel => exact ⟨k + 1, by omega, by go_num, hide (fun j y hj hy => by
        rcases Nat.lt_or_ge j k with q1 | q1
        · exact hs.out j y q1 hy
        · obtain rfl : j = k := by omega
          cases HX.out.symm.trans hy
          exact HE.out), hide (kept_trans HB2.out (kept_trans hb3 hb4))⟩
      case measure => simp [intOf]; omega
    · obtain rfl : k = 8 := by omega
      have HE : Hid (rightO L = true) := hide (by
        unfold rightO
        rw [List.all_eq_true]
        intro x hx
        obtain ⟨j, hj⟩ := List.getElem?_of_mem hx
        have hl : j < L.length := by
          rcases Nat.lt_or_ge j L.length with h1 | h1
          · exact h1
          · rw [List.getElem?_eq_none h1] at hj; cases hj
        exact hs.out j x (by rw [H8.out] at hl; exact hl) hj)
      have c0 := (HR.out.below hb.out g0).cell 0
      replace c0 : wr.cell? ⟨g, 0, none⟩ = some (.slice none 0 0) := c0.trans (by unfold stA; rw [Array.getElem?_append_left (by simp)]; rfl)
      have HQ := hide (rright_below (.slice none 0 0) [] wr (Pin.nil_ wr) (Nat.zero_le _))
      rw [right_nil] at HQ
      go_wp2_with (go_at_call 49; (with_reducible refine HQ.out.mono ?_); rintro e w3 ⟨rfl, hb3⟩)
      go_ret
      exact ⟨by rw [HE.out]; rfl, kept_trans HW.out (kept_trans hb.out hb3)⟩
end Go.Proofs.Ytahfpncfkcfogaa
/- Regions that draw their order and load or store eight owners. No condition: nothing here speaks of a function. -/
namespace Go.Proofs.Ytahfpncfkcfogaa
open Go.RowKit
theorem exec_load8 {o : Oper} {a : Act} {w : World} {x : Operand} {b : Nat} {t : TypeId} {L : List Co} (ho : o.op = .load 28 x) (hx : a.eval x = .pointer (some ⟨b, 0, none⟩)) (R : Row w b t (arr L)) (hl : L.length = 8) :
    (execOp a.eval o).run Try.prog w = .ok (.value (.agg (arr L))) w := by
  unfold execOp
  simp only [ho, hx, Sem.run_bind, Sem.run_pure, load_eight R hl, Result.andThen_ok]
/-- It may go first where all worlds at hand have them. -/
theorem yields_load8 {ops : Array Oper} {S : World → Prop} {o : Oper} {a : Act} {x : Operand} {b : Nat} {t : TypeId} {L : List Co} (hw : Region.wanted o (yielded ops a.tmps) = true) (ho : o.op = .load 28 x) (hx : a.eval x = .pointer (some ⟨b, 0, none⟩)) (hl : L.length = 8) (hS : ∀ w, S w → Row w b t (arr L)) :
    YieldsIf Try.prog ops S o (.agg (arr L)) a := .inl ⟨hw, fun w h => exec_load8 ho hx (hS w h) hl⟩
/-- In a quiet region. -/
theorem wpQuiet_load8 {ops : Array Oper} {rest : List Oper} {d : Option Tmp} {ty : TypeId} {ps : String} {af : Array Edge} {gd : Option (Nat × Bool)} {x : Operand} {a : Act} {S : World → Prop} {Q : Act → Prop} {b : Nat} {t : TypeId} {L : List Co}
    (hw : Region.wanted ({ dst := d, op := .load 28 x, type := ty, pos := ps, after := af, guard := gd } : Oper) (yielded ops a.tmps) = true) (hx : a.eval x = .pointer (some ⟨b, 0, none⟩)) (hS : ∀ k : Sp S, Row k.w b t (arr L)) (hl : L.length = 8)
    (h : wpQuiet Try.prog ops (fun w' => ∃ k : Sp S, w' = k.w) Q rest (a.put d (.agg (arr L)))) :
    wpQuiet Try.prog ops (fun w' => ∃ k : Sp S, w' = k.w) Q ({ dst := d, op := .load 28 x, type := ty, pos := ps, after := af, guard := gd } :: rest) a := by
  unfold wpQuiet
  rw [if_pos hw]
  refine ⟨.agg (arr L), ?_, h⟩
  rintro w ⟨k, rfl⟩
  unfold Oper.quietAt
  rw [exec_load8 (o := { dst := d, op := .load 28 x, type := ty, pos := ps, after := af, guard := gd }) rfl hx (hS k) hl]
  exact ⟨rfl, rfl⟩
/-- The store of all eight as a step of a drawn region. -/
theorem step_store8 {ops : Array Oper} {d : Option Tmp} {ty : TypeId} {ps : String} {af : Array Edge} {x y : Operand} {a : Act} {w : World} {K : Act → World → Prop} {Q : Exit → Act → World → Prop} {E : Prop} {b : Nat} {t : TypeId} {L M : List Co}
    (hx : a.eval x = .pointer (some ⟨b, 0, none⟩)) (hy : a.eval y = .agg (arr M)) (R : Row w b t (arr L)) (hl : L.length = 8) (hm : M.length = 8)
    (h : K (a.put d undef) (w.setRow b (arr M))) :
    if Region.wanted ({ dst := d, op := .store 28 x y, type := ty, pos := ps, after := af, guard := none } : Oper) (yielded ops a.tmps) = true then Oper.wp Try.prog { dst := d, op := .store 28 x y, type := ty, pos := ps, after := af, guard := none } a w K Q else E := by
  rw [if_pos (by simp [Region.wanted])]
  unfold Oper.wp execOp
  simp only [hx, hy, Instr.storeAt, Instr.sureAddr, Sem.run_bind, Sem.run_pure, Result.andThen_ok, run_storeVar_row _ b t 28 _ _ R (arr_eight hm) (by rw [arr_size hl, arr_size hm]) (arr_one M)]
  exact h
end Go.Proofs.Ytahfpncfkcfogaa
