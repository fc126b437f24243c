/- States as they come in, with their numbers' bounds. No condition: nothing here speaks of a function. -/
import Derived.Test.YtahfpncfkcfogaaGj
import Derived.Test.YtahfpncfkcfogaaGk
import Derived.Test.YtahfpncfkcfogaaGf
import Derived.Test.YtahfpncfkcfogaaGw
import Derived.Test.YtahfpncfkcfogaaGu
import Derived.Test.YtahfpncfkcfogaaGq
namespace Go.Proofs.Ytahfpncfkcfogaa
set_option maxRecDepth 100000
open Go.ChangeShapes Go.WideShapes Go.ChangeAt Go.RowKit Go.Joins
section
variable {H : Type} {enc : TypeId × Value → H} {W : World}
/-- What is said of a slice of pairs. -/
structure PsOk2 (w : World) (A : Option Addr) (c : Nat) (l : List Pr) : Prop where
  pin : Pin w (.slice A l.length c) l
  room : l.length ≤ 3518437208780
  ok : ∀ y ∈ l, I64 y.n
theorem ps_cell2 {fuel : Nat} {cs : List Value} {x : DataW H × List MemPlace} (ht : DataW.trod enc Try.prog W 0 (fun _ => true) true fuel 22 cs = some x) (hw : ∀ n ∈ x.1.weights Try.prog 22, n ≤ reachBytes) :
    ∃ A c l, cs = [.slice A (List.length l) c] ∧ PsOk2 W A c l := by
  obtain ⟨A, n, c, rfl⟩ : ∃ A n c, cs = [.slice A n c] := by
    rcases Go.Deep.open_slice Try.underlying22 ht with ⟨hcs, _⟩ | ⟨a, len, cap, m', nf, D, Pl, hcs, _⟩
    · exact ⟨_, _, _, hcs⟩
    · exact ⟨_, _, _, hcs⟩
  obtain ⟨l, h1, h2, h3, h4, h5, h6, h7⟩ := els_in Pr.l (fun y => I64 y.n) Try.underlying22 Try.cells47 (by omega) Try.bytes47 (fun ht _ => pair_cells ht) ht hw
  subst h1
  exact ⟨A, c, l, rfl, ⟨A, c, rfl, h5, h2, by unfold maxLen at h3; omega, h7⟩, by omega, h6⟩
/-- What is said of a reply that came in. -/
structure ReOk2 (w : World) (r : Re) (A : Option Addr) (c : Nat) : Prop where
  why : I64 r.why
  ver : I64 r.ver
  ps : PsOk2 w A c r.l
theorem reply_cells2 {fuel : Nat} {cs : List Value} {x : DataW H × List MemPlace} (ht : DataW.trod enc Try.prog W 0 (fun _ => true) true fuel 25 cs = some x) (hsz : ∀ n ∈ x.1.weights Try.prog 25, n ≤ reachBytes) :
    ∃ r A c, cs = [.int .i64 r.why, .bool r.fnd, .string r.val, .int .i64 r.ver, .slice A (List.length r.l) c] ∧ ReOk2 W r A c := by
  obtain ⟨ys, n', _, rfl, hlen, hyl, hfs⟩ := DataW.trod_struct Try.underlying25 ht
  rw [Try.cells25] at hlen
  have hyl6 : ys.length = 5 := hyl
  obtain ⟨y0, y1, y2, y3, y4, rfl⟩ : ∃ y0 y1 y2 y3 y4, ys = [y0, y1, y2, y3, y4] := by
    match ys, hyl6 with
    | [y0, y1, y2, y3, y4], _ => exact ⟨y0, y1, y2, y3, y4, rfl⟩
  obtain ⟨c0, c1, c2, c3, c4, rfl⟩ : ∃ c0 c1 c2 c3 c4, cs = [c0, c1, c2, c3, c4] := by
    match cs, hlen with
    | [c0, c1, c2, c3, c4], _ => exact ⟨c0, c1, c2, c3, c4, rfl⟩
  have g0 := hfs 0 _ rfl
  have g1 := hfs 1 _ rfl
  have g2 := hfs 2 _ rfl
  have g3 := hfs 3 _ rfl
  have g4 := hfs 4 _ rfl
  clear hfs
  change DataW.trod enc Try.prog W 0 (fun _ => true) true n' 23 (([c0, c1, c2, c3, c4].drop 0).take (Try.prog.cellsOf 23)) = some y0 at g0
  change DataW.trod enc Try.prog W 0 (fun _ => true) true n' 4 (([c0, c1, c2, c3, c4].drop 1).take (Try.prog.cellsOf 4)) = some y1 at g1
  change DataW.trod enc Try.prog W 0 (fun _ => true) true n' 9 (([c0, c1, c2, c3, c4].drop 2).take (Try.prog.cellsOf 9)) = some y2 at g2
  change DataW.trod enc Try.prog W 0 (fun _ => true) true n' 3 (([c0, c1, c2, c3, c4].drop 3).take (Try.prog.cellsOf 3)) = some y3 at g3
  change DataW.trod enc Try.prog W 0 (fun _ => true) true n' 22 (([c0, c1, c2, c3, c4].drop 4).take (Try.prog.cellsOf 22)) = some y4 at g4
  rw [Try.cells23] at g0
  rw [Try.cells4] at g1
  rw [Try.cells9] at g2
  rw [Try.cells3] at g3
  rw [Try.cells22] at g4
  have hw : ∀ k t (y : DataW H × List MemPlace), ([23, 4, 9, 3, 22] : List TypeId)[k]? = some t → [y0, y1, y2, y3, y4][k]? = some y → ∀ n ∈ y.1.weights Try.prog t, n ≤ reachBytes := fun k t y ht hy n hn => by
    refine hsz n ?_
    unfold DataW.weights
    rw [Try.underlying25]
    exact DataW.weights_mem_each (ts := [23, 4, 9, 3, 22]) (j := k) ht (by rw [List.getElem?_map, hy]; rfl) n hn
  obtain ⟨k, e0, _, w0⟩ := DataW.trod_int Try.underlying23 g0
  obtain ⟨f, e1, _⟩ := DataW.trod_bool Try.underlying4 g1
  obtain ⟨s, e2, _, _⟩ := DataW.trod_string Try.underlying9 g2
  obtain ⟨m, e3, _, w3⟩ := DataW.trod_int Try.underlying3 g3
  obtain ⟨A, c, l, e4, s4⟩ := ps_cell2 g4 (hw 4 _ _ rfl rfl)
  simp at e0 e1 e2 e3 e4
  subst e0 e1 e2 e3 e4
  exact ⟨⟨k, f, s, m, l⟩, A, c, rfl, bounds_i64 w0, bounds_i64 w3, s4⟩
/-- What is said of an owner that came in. -/
structure CoOk2 (w : World) (x : Co) : Prop where
  s : I64 x.o.s
  r : ReOk2 w x.o.r x.A x.c
theorem owner_cells2 {fuel : Nat} {cs : List Value} {x : DataW H × List MemPlace} (ht : DataW.trod enc Try.prog W 0 (fun _ => true) true fuel 27 cs = some x) (hsz : ∀ n ∈ x.1.weights Try.prog 27, n ≤ reachBytes) :
    ∃ y : Co, cs = y.cs ∧ CoOk2 W y := by
  obtain ⟨ys, n', _, rfl, hlen, hyl, hfs⟩ := DataW.trod_struct Try.underlying27 ht
  rw [Try.cells27] at hlen
  have hyl6 : ys.length = 2 := hyl
  obtain ⟨y0, y1, rfl⟩ : ∃ y0 y1, ys = [y0, y1] := by
    match ys, hyl6 with
    | [y0, y1], _ => exact ⟨y0, y1, rfl⟩
  obtain ⟨c0, c1, c2, c3, c4, c5, rfl⟩ : ∃ c0 c1 c2 c3 c4 c5, cs = [c0, c1, c2, c3, c4, c5] := by
    match cs, hlen with
    | [c0, c1, c2, c3, c4, c5], _ => exact ⟨c0, c1, c2, c3, c4, c5, rfl⟩
  have g0 := hfs 0 _ rfl
  have g1 := hfs 1 _ rfl
  clear hfs
  change DataW.trod enc Try.prog W 0 (fun _ => true) true n' 3 (([c0, c1, c2, c3, c4, c5].drop 0).take (Try.prog.cellsOf 3)) = some y0 at g0
  change DataW.trod enc Try.prog W 0 (fun _ => true) true n' 25 (([c0, c1, c2, c3, c4, c5].drop 1).take (Try.prog.cellsOf 25)) = some y1 at g1
  rw [Try.cells3] at g0
  rw [Try.cells25] at g1
  have hw : ∀ k t (y : DataW H × List MemPlace), ([3, 25] : List TypeId)[k]? = some t → [y0, y1][k]? = some y → ∀ n ∈ y.1.weights Try.prog t, n ≤ reachBytes := fun k t y ht hy n hn => by
    refine hsz n ?_
    unfold DataW.weights
    rw [Try.underlying27]
    exact DataW.weights_mem_each (ts := [3, 25]) (j := k) ht (by rw [List.getElem?_map, hy]; rfl) n hn
  obtain ⟨k, e0, _, w0⟩ := DataW.trod_int Try.underlying3 g0
  obtain ⟨r, A, c, e1, s1⟩ := reply_cells2 g1 (hw 1 _ _ rfl rfl)
  simp at e0 e1
  obtain ⟨e1, e2, e3, e4, e5⟩ := e1
  subst e0 e1 e2 e3 e4 e5
  exact ⟨⟨⟨k, r⟩, A, c⟩, rfl, bounds_i64 w0, s1⟩
/-- Eight owners that came in. -/
structure OwIn2 (w : World) (L : List Co) : Prop where
  len : L.length = 8
  ok : ∀ x ∈ L, CoOk2 w x
theorem OwIn2.fine {w : World} {L : List Co} (h : OwIn2 w L) : Fine w L := ⟨h.len, fun x hx => ⟨(h.ok x hx).r.ps.pin, (h.ok x hx).r.ps.room⟩⟩
theorem owners_cells2 {fuel : Nat} {cs : List Value} {x : DataW H × List MemPlace} (ht : DataW.trod enc Try.prog W 0 (fun _ => true) true fuel 28 cs = some x) (hsz : ∀ n ∈ x.1.weights Try.prog 28, n ≤ reachBytes) :
    ∃ L, cs = (arr L).toList ∧ OwIn2 W L := by
  obtain ⟨ys, n', _, rfl, hlen, hyl, hfs⟩ := DataW.trod_array Try.underlying28 ht
  rw [Try.cells28] at hlen
  rw [Try.cells27] at hfs
  have each : ∀ j, j < 8 → ∃ y : Co, (cs.drop (j * 6)).take 6 = y.cs ∧ CoOk2 W y := fun j hj => by
    have g := hfs j hj
    rw [List.getElem?_eq_getElem (by rw [hyl]; exact hj)] at g
    refine owner_cells2 g fun n hn => hsz n ?_
    unfold DataW.weights
    rw [Try.underlying28]
    exact weights_all (d := ys[j].1) (List.mem_map.2 ⟨_, List.getElem_mem _, rfl⟩) n hn
  obtain ⟨L, hl, hL⟩ := list_of 8 each
  refine ⟨L, ?_, hl, fun y hy => ?_⟩
  · rw [arr_list]
    refine cells_chunks (m := 6) (coV L) cs (by rw [coV_len, hl]; exact hlen) fun j z hz => ?_
    unfold coV at hz
    rw [List.getElem?_map, Option.map_eq_some_iff] at hz
    obtain ⟨y, hy, rfl⟩ := hz
    exact (hL j y hy).1
  · obtain ⟨j, hj⟩ := List.getElem?_of_mem hy
    exact (hL j y hj).2
end
theorem agg_arr2 {r : Reach} {b0 : Nat} {t e : TypeId} {n : Nat} {v : Value} {W : World} (ht : Try.prog.underlying t = some (.array n e)) (h : Value.okWide Try.prog W r b0 t v) : ∃ cs, v = .agg cs ∧ cs.size = Try.prog.cellsOf t := by
  simp only [Value.okWide, ht] at h
  obtain ⟨cs, h1, h2, _⟩ := h
  exact ⟨cs, h1, h2⟩
section
variable {H : Type} {enc : TypeId × Value → H} {W : World} {b0 : Nat} {r : Reach} {v : Value} {d : DataW H} {p : List MemPlace} {ts : List TypeId} {ds : List (DataW H)} {j : Nat}
theorem owners_in2 (hv : Value.okWide Try.prog W r b0 28 v) (h : DataW.Trod enc Try.prog W 0 (fun _ => true) true 28 v d p) (hsz : (DataW.weightsEach Try.prog ts ds).all (· ≤ reachBytes) = true) (ht : ts[j]? = some 28) (hd : ds[j]? = some d) :
    ∃ L, v = .agg (arr L) ∧ OwIn2 W L := by
  obtain ⟨cs, rfl, _⟩ := agg_arr2 Try.underlying28 hv
  obtain ⟨fuel, hf⟩ := h
  obtain ⟨L, e, ok⟩ := owners_cells2 hf fun n hn => by
    have := List.all_eq_true.1 hsz _ (DataW.weights_mem_each ht hd n hn)
    simpa using this
  exact ⟨L, congrArg Value.agg (Array.toList_inj.1 (by simpa [Value.cells] using e)), ok⟩
theorem reply_in2 (hv : Value.okWide Try.prog W r b0 25 v) (h : DataW.Trod enc Try.prog W 0 (fun _ => true) true 25 v d p) (hsz : (DataW.weightsEach Try.prog ts ds).all (· ≤ reachBytes) = true) (ht : ts[j]? = some 25) (hd : ds[j]? = some d) :
    ∃ x A c, v = .agg #[.int .i64 x.why, .bool x.fnd, .string x.val, .int .i64 x.ver, .slice A (List.length x.l) c] ∧ ReOk2 W x A c := by
  obtain ⟨cs, rfl, _⟩ := okWide_struct Try.underlying25 hv
  obtain ⟨fuel, hf⟩ := h
  obtain ⟨x, A, c, e, ok⟩ := reply_cells2 hf fun n hn => by
    have := List.all_eq_true.1 hsz _ (DataW.weights_mem_each ht hd n hn)
    simpa using this
  exact ⟨x, A, c, congrArg Value.agg (Array.toList_inj.1 (by simpa [Value.cells] using e)), ok⟩
end
/-- A state that came in. -/
structure StIn2 (w : World) (l : List Pr) (A : Option Addr) (c : Nat) (L : List Co) : Prop where
  ps : PsOk2 w A c l
  ow : OwIn2 w L
section
variable {H : Type} {enc : TypeId × Value → H} {W : World}
theorem state_cells2 {fuel : Nat} {cs : List Value} {x : DataW H × List MemPlace} (ht : DataW.trod enc Try.prog W 0 (fun _ => true) true fuel 30 cs = some x) (hsz : ∀ n ∈ x.1.weights Try.prog 30, n ≤ reachBytes) :
    ∃ l A c L, cs = (stc (.slice A (List.length l) c) L).toList ∧ StIn2 W l A c L := by
  obtain ⟨ys, n', _, rfl, hlen, hyl, hfs⟩ := DataW.trod_struct Try.underlying30 ht
  rw [Try.cells30] at hlen
  have hyl6 : ys.length = 2 := hyl
  obtain ⟨y0, y1, rfl⟩ : ∃ y0 y1, ys = [y0, y1] := by
    match ys, hyl6 with
    | [y0, y1], _ => exact ⟨y0, y1, rfl⟩
  obtain ⟨c0, r, rfl, hr⟩ : ∃ c0 r, cs = c0 :: r ∧ r.length = 48 := by
    match cs, hlen with
    | c0 :: r, h => exact ⟨c0, r, rfl, by simpa using h⟩
  have g0 := hfs 0 _ rfl
  have g1 := hfs 1 _ rfl
  clear hfs
  change DataW.trod enc Try.prog W 0 (fun _ => true) true n' 22 (((c0 :: r).drop 0).take (Try.prog.cellsOf 22)) = some y0 at g0
  change DataW.trod enc Try.prog W 0 (fun _ => true) true n' 28 (((c0 :: r).drop 1).take (Try.prog.cellsOf 28)) = some y1 at g1
  rw [Try.cells22] at g0
  rw [Try.cells28, List.drop_succ_cons, List.drop_zero, List.take_of_length_le (by omega)] at g1
  have hw : ∀ k t (y : DataW H × List MemPlace), ([22, 28] : List TypeId)[k]? = some t → [y0, y1][k]? = some y → ∀ n ∈ y.1.weights Try.prog t, n ≤ reachBytes := fun k t y ht hy n hn => by
    refine hsz n ?_
    unfold DataW.weights
    rw [Try.underlying30]
    exact DataW.weights_mem_each (ts := [22, 28]) (j := k) ht (by rw [List.getElem?_map, hy]; rfl) n hn
  obtain ⟨A, c, l, e0, s0⟩ := ps_cell2 g0 (hw 0 _ _ rfl rfl)
  obtain ⟨L, e1, s1⟩ := owners_cells2 g1 (hw 1 _ _ rfl rfl)
  simp at e0
  subst e0 e1
  exact ⟨l, A, c, L, (stc_list _ _).symm, s0, s1⟩
end
section
variable {H : Type} {enc : TypeId × Value → H} {W : World} {b0 : Nat} {r : Reach} {v : Value} {d : DataW H} {p : List MemPlace} {ts : List TypeId} {ds : List (DataW H)} {j : Nat}
theorem state_in2 (hv : Value.okWide Try.prog W r b0 30 v) (h : DataW.Trod enc Try.prog W 0 (fun _ => true) true 30 v d p) (hsz : (DataW.weightsEach Try.prog ts ds).all (· ≤ reachBytes) = true) (ht : ts[j]? = some 30) (hd : ds[j]? = some d) :
    ∃ l A c L, v = .agg (stc (.slice A (List.length l) c) L) ∧ StIn2 W l A c L := by
  obtain ⟨cs, rfl, _⟩ := okWide_struct Try.underlying30 hv
  obtain ⟨fuel, hf⟩ := h
  obtain ⟨l, A, c, L, e, ok⟩ := state_cells2 hf fun n hn => by
    have := List.all_eq_true.1 hsz _ (DataW.weights_mem_each ht hd n hn)
    simpa using this
  exact ⟨l, A, c, L, congrArg Value.agg (Array.toList_inj.1 (by simpa [Value.cells] using e)), ok⟩
end
theorem StIn2.isS {w : World} {l : List Pr} {A : Option Addr} {c : Nat} {L : List Co} (h : StIn2 w l A c L) : IsS w (.slice A l.length c) L ⟨l, ows L⟩ := ⟨h.ps.pin, h.ps.room, h.ow.fine, rfl⟩
theorem StIn2.bd {w : World} {l : List Pr} {A : Option Addr} {c : Nat} {L : List Co} (h : StIn2 w l A c L) : Bd ⟨l, ows L⟩ := ⟨fun p hp => (h.ps.ok p hp).2, fun o ho => by
  obtain ⟨x, hx, rfl⟩ := List.mem_map.1 ho
  exact ⟨fun p hp => ((h.ow.ok x hx).r.ps.ok p hp).2, (h.ow.ok x hx).r.ver.2⟩⟩
end Go.Proofs.Ytahfpncfkcfogaa
/- What the law StateAny wants: a state stored into the block made last but one; a right list rises; how long a state's bytes are. No condition. -/
namespace Go.Proofs.Ytahfpncfkcfogaa
set_option maxRecDepth 100000
open Go.RowKit
theorem setRow_alloc_two (w : World) (c c' : Array Value) (t : TypeId) (o : Obj) : ((w.alloc (.cells c t)).alloc o).setRow w.heap.size c' = (w.alloc (.cells c' t)).alloc o := by
  simp only [World.setRow, World.alloc]
  congr 1
  apply Array.ext_getElem?
  intro i
  rw [Array.getElem?_modify]
  by_cases h : w.heap.size = i
  · subst h
    simp [Array.getElem?_push]
  · have h' : ¬ i = w.heap.size := fun e => h e.symm
    simp [h, h', Array.getElem?_push]
theorem two_new (w : World) (c r : Array Value) (t u : TypeId) : Row ((w.alloc (.cells c t)).alloc (.cells r u)) w.heap.size t c ∧ Row ((w.alloc (.cells c t)).alloc (.cells r u)) (w.heap.size + 1) u r ∧ Below w.heap.size w ((w.alloc (.cells c t)).alloc (.cells r u)) := by
  have R := Row.new (w.alloc (.cells c t)) u r
  rw [show (w.alloc (.cells c t)).heap.size = w.heap.size + 1 by simp] at R
  exact ⟨(Row.new w t c).below (kept_alloc (kept_refl _) _) (Row.new w t c).lt, R, kept_alloc (kept_alloc (kept_refl w) _) _⟩
theorem right_up {l : List Pr} (h : rightB l = true) : Up l := by
  unfold rightB at h
  have h := @of_decide_eq_true _ (Classical.propDecidable _) h
  refine up_of fun j p q hp hq => ?_
  have hl : j + 1 < l.length := (List.getElem?_eq_some_iff.1 hq).1
  have := h.2 (j + 1) hl
  unfold okAt at this
  rw [hq, show j + 1 - 1 = j from rfl, hp] at this
  simpa using (Bool.and_eq_true _ _ ▸ this).2
theorem encS_len {s : Sm} (h8 : s.o.length = 8) : (encS s).length ≤ 50000 := by
  unfold encS
  split
  · rename_i h
    unfold rightSB at h
    simp only [Bool.and_eq_true, List.all_eq_true] at h
    unfold encA
    rw [List.length_append]
    have := encP_len (right_may h.1) (right_len h.1)
    have := flatO_len s.o h.2
    omega
  · exact Nat.zero_le _
theorem wpList_store49m {ops : Array Oper} {rest : List Oper} {d : Option Tmp} {ty : TypeId} {ps : String} {af : Array Edge} {x y : Operand} {a : Act} {w : World} {Q : Exit → Act → World → Prop} {q : Value} {M : List Co} {o : Obj}
    (hx : a.eval x = .pointer (some ⟨w.heap.size, 0, none⟩)) (hy : a.eval y = .agg (stc q M)) (hq : q.oneCell' = true) (hm : M.length = 8)
    (h : wpList Try.prog ops Q rest (a.put d undef) ((w.alloc (.cells (stc q M) 30)).alloc o)) :
    wpList Try.prog ops Q ({ dst := d, op := .store 30 x y, type := ty, pos := ps, after := af, guard := none } :: rest) a ((w.alloc (.cells #[.slice none 0 0, .int .i64 0, .int .i64 0, .bool false, .string { data := #[] }, .int .i64 0, .slice none 0 0, .int .i64 0, .int .i64 0, .bool false, .string { data := #[] }, .int .i64 0, .slice none 0 0, .int .i64 0, .int .i64 0, .bool false, .string { data := #[] }, .int .i64 0, .slice none 0 0, .int .i64 0, .int .i64 0, .bool false, .string { data := #[] }, .int .i64 0, .slice none 0 0, .int .i64 0, .int .i64 0, .bool false, .string { data := #[] }, .int .i64 0, .slice none 0 0, .int .i64 0, .int .i64 0, .bool false, .string { data := #[] }, .int .i64 0, .slice none 0 0, .int .i64 0, .int .i64 0, .bool false, .string { data := #[] }, .int .i64 0, .slice none 0 0, .int .i64 0, .int .i64 0, .bool false, .string { data := #[] }, .int .i64 0, .slice none 0 0] 30)).alloc o) := by
  rw [zero_state]
  refine wpList_store49 hx hy hq ((Row.new w _ (stc (.slice none 0 0) zeroL)).below (kept_alloc (kept_refl _) o) (Row.new w _ (stc (.slice none 0 0) zeroL)).lt) rfl hm ?_
  rw [setRow_alloc_two]
  exact h
end Go.Proofs.Ytahfpncfkcfogaa
