/- What was said to a Prepare, attributes, seven flags, seven cells, as they come in. No condition. -/
import Derived.Test.YtjkdccokiaejhaaQh
import Derived.Test.YtjkdccokiaejhaaQi
import Derived.LoopTactic
import Derived.Test.YtjkdccokiaejhaaQa
import Derived.Test.YtjkdccokiaejhaaQc
import Derived.Deep.CutBlock
import Derived.Deep.DeepCutAuto
namespace Go.Proofs.Ytjkdccokiaejhaa
set_option maxRecDepth 100000
open Go.ChangeShapes Go.WideShapes Go.ChangeAt Go.RowKit Go.Joins
theorem cells_chunks {m : Nat} : ∀ (l : List (List Value)) (cs : List Value), cs.length = l.length * m → (∀ j x, l[j]? = some x → (cs.drop (j * m)).take m = x) → cs = cellsV l
  | [], cs, hl, _ => by
    have : cs.length = 0 := by simpa using hl
    exact List.eq_nil_of_length_eq_zero this
  | x :: r, cs, hl, h => by
    have h0 := h 0 x rfl
    rw [Nat.zero_mul, List.drop_zero] at h0
    have ih := cells_chunks (m := m) r (cs.drop m) (by rw [List.length_drop, hl, List.length_cons, Nat.add_mul]; omega) (fun j y hj => by
      have := h (j + 1) y (by simpa using hj)
      rw [List.drop_drop, show m + j * m = (j + 1) * m by rw [Nat.add_mul]; omega]
      exact this)
    rw [cellsV_cons, ← h0, ← ih, List.take_append_drop]
section
variable {H : Type} {enc : TypeId × Value → H} {W : World} {base : Nat} {spare : Nat → Bool} {held : Bool}
theorem agg_arr {r : Reach} {b0 : Nat} {t e : TypeId} {n : Nat} {v : Value} {W : World} (ht : Try.prog.underlying t = some (.array n e)) (h : Value.okWide Try.prog W r b0 t v) : ∃ cs, v = .agg cs ∧ cs.size = Try.prog.cellsOf t := by
  simp only [Value.okWide, ht] at h
  obtain ⟨cs, h1, h2, _⟩ := h
  exact ⟨cs, h1, h2⟩
/-- A row of slots that came in. -/
theorem deps_in {b0 : Nat} {r : Reach} {v : Value} {d : DataW H} {p : List MemPlace} (hv : Value.okWide Try.prog W r b0 24 v) (h : DataW.Trod enc Try.prog W base spare held 24 v d p) : ∃ d1 d2 d3 d4 d5 d6 d7 : Int, v = .agg #[.int .i64 d1, .int .i64 d2, .int .i64 d3, .int .i64 d4, .int .i64 d5, .int .i64 d6, .int .i64 d7] ∧ ∀ n, n ∈ [d1, d2, d3, d4, d5, d6, d7] → I64 n := by
  obtain ⟨cs, rfl, _⟩ := agg_arr Try.underlying24 hv
  obtain ⟨fuel, hf⟩ := h
  obtain ⟨d1, d2, d3, d4, d5, d6, d7, e, ok⟩ := deps_cells hf
  exact ⟨d1, d2, d3, d4, d5, d6, d7, congrArg Value.agg (Array.toList_inj.1 (by simpa [Value.cells] using e)), ok⟩
/-- Attributes that came in. -/
theorem attr_in {b0 : Nat} {r : Reach} {v : Value} {d : DataW H} {p : List MemPlace} (hv : Value.okWide Try.prog W r b0 26 v) (h : DataW.Trod enc Try.prog W base spare held 26 v d p) : ∃ a0 a1 a2 a3 a4 a5 a6 a7 : Int, v = .agg #[.int .i64 a0, .int .i64 a1, .int .i64 a2, .int .i64 a3, .int .i64 a4, .int .i64 a5, .int .i64 a6, .int .i64 a7] ∧ Ok8 [a0, a1, a2, a3, a4, a5, a6, a7] := by
  obtain ⟨cs, rfl, _⟩ := okWide_struct Try.underlying26 hv
  obtain ⟨fuel, hf⟩ := h
  obtain ⟨a0, a1, a2, a3, a4, a5, a6, a7, e, ok⟩ := attr_cells hf
  exact ⟨a0, a1, a2, a3, a4, a5, a6, a7, congrArg Value.agg (Array.toList_inj.1 (by simpa [Value.cells] using e)), ok⟩
end
/-- A slice of attributes that came in. -/
structure AttrsIn (w : World) (A : Option Addr) (n c : Nat) (l : List (List Int)) : Prop where
  len : l.length = n
  le : n ≤ c
  room : c ≤ 9223372036854775807
  ok : ∀ x, x ∈ l → Ok8 x
  lies : Its 8 w A l
  nil : A = none → c = 0
theorem attrs_in {H : Type} {enc : TypeId × Value → H} {W : World} {A : Option Addr} {n c : Nat} {d : DataW H} {p : List MemPlace}
    (h : DataW.Trod enc Try.prog W 0 (fun _ => true) true 45 (.slice A n c) d p) : ∃ l, AttrsIn W A n c l := by
  obtain ⟨fuel, hf⟩ := h
  rcases Go.Deep.open_slice Try.underlying45 hf with ⟨hcs, _⟩ | ⟨a, len, cap, m, nf, D, Pl, hcs, _, hl, hm, hmm, _, hi⟩
  · simp [Value.cells] at hcs
    obtain ⟨rfl, rfl, rfl⟩ := hcs
    exact ⟨[], rfl, Nat.le_refl _, by omega, fun x hx => (by cases hx), Its.nil_, fun _ => rfl⟩
  · simp [Value.cells] at hcs
    obtain ⟨rfl, rfl, rfl⟩ := hcs
    have hmc : m = c := by simpa using hmm
    have each : ∀ j, j < n → ∃ x : List Int, Ok8 x ∧ ∃ b off, a = ⟨b, off, none⟩ ∧ b < W.heap.size ∧ ∀ i, i < 8 → W.cell? ⟨b, off + j * 8 + i, none⟩ = some (.int .i64 (ix x i)) := by
      intro j hj
      obtain ⟨cs', hc, ht'⟩ := hi j (by omega)
      rw [cells_attr] at hc
      obtain ⟨_, hlen, hat⟩ := World.cells?_some hc
      obtain ⟨x0, x1, x2, x3, x4, x5, x6, x7, rfl, ok⟩ := attr_cells ht'
      have hsp : a.spot = none := by
        obtain ⟨cs0, hc0, ht0⟩ := hi 0 (by omega)
        rw [cells_attr] at hc0
        obtain ⟨_, hlen0, hat0⟩ := World.cells?_some hc0
        have h0 := hat0 0 (by omega)
        rw [List.getElem?_eq_getElem (by omega)] at h0
        have := World.cell?_spot h0
        unfold Addr.add at this
        simpa using this
      obtain ⟨b, off, spot⟩ := a
      obtain rfl : spot = none := hsp
      have at_ : ∀ i, i < 8 → W.cell? ⟨b, off + j * 8 + i, none⟩ = some (.int .i64 (ix [x0, x1, x2, x3, x4, x5, x6, x7] i)) := fun i hi => by
        have a0 := hat i hi
        rw [Go.WideShapes.add_plain, Go.WideShapes.add_plain] at a0
        rw [a0]
        exact cellsR_at [x0, x1, x2, x3, x4, x5, x6, x7] hi
      refine ⟨[x0, x1, x2, x3, x4, x5, x6, x7], ok, b, off, rfl, ?_, at_⟩
      rcases Nat.lt_or_ge b W.heap.size with h1 | h1
      · exact h1
      · have := at_ 0 (by omega)
        simp [World.cell?, Array.getElem?_eq_none h1] at this
    let f : Nat → List Int := fun j => if h : j < n then Classical.choose (each j h) else []
    have hf : ∀ j (hj : j < n), Ok8 (f j) ∧ ∃ b off, a = ⟨b, off, none⟩ ∧ b < W.heap.size ∧ ∀ i, i < 8 → W.cell? ⟨b, off + j * 8 + i, none⟩ = some (.int .i64 (ix (f j) i)) := by
      intro j hj
      have := Classical.choose_spec (each j hj)
      simp only [f, dif_pos hj]
      exact this
    refine ⟨(List.range n).map f, by simp, hl, by unfold maxLen at hm; omega, fun x hx => ?_, fun hn => ?_, fun e => by cases e⟩
    · obtain ⟨j, hj, rfl⟩ := List.mem_map.1 hx
      exact (hf j (List.mem_range.1 hj)).1
    · have hn' : 0 < n := by simpa using hn
      obtain ⟨_, b, off, rfl, hb, _⟩ := hf 0 hn'
      refine ⟨b, off, rfl, hb, fun k x hk => ?_⟩
      have hkn : k < n := by
        rcases Nat.lt_or_ge k n with h1 | h1
        · exact h1
        · rw [List.getElem?_eq_none (by simpa using h1)] at hk; cases hk
      obtain ⟨_, b', off', e, _, h0⟩ := hf k hkn
      injection e with e1 e2
      subst e1 e2
      have ex : x = f k := by
        rw [List.getElem?_map, List.getElem?_range hkn] at hk
        exact (Option.some.inj hk).symm
      rw [ex]
      exact h0
/-- What is said of one that was said. -/
structure SdOk (e : Int × Cl) : Prop where
  r : I64 e.1
  c : ClIn e.2
theorem cells_said : Try.prog.cellsOf 36 = 22 := by kernel_rfl
theorem bytes_said : Try.prog.bytesOf 36 = 208 := by kernel_rfl
section
variable {H : Type} {enc : TypeId × Value → H} {W : World} {base : Nat} {spare : Nat → Bool} {held : Bool}
theorem said_cells {fuel : Nat} {cs : List Value} {x : DataW H × List MemPlace} (ht : DataW.trod enc Try.prog W base spare held fuel 36 cs = some x) (hsz : ∀ n ∈ x.1.weights Try.prog 36, n ≤ reachBytes) : ∃ y : Int × Cl, cs = sdl y ∧ SdOk y := by
  obtain ⟨ys, n', _, rfl, hlen, hyl, hfs⟩ := DataW.trod_struct Try.underlying36 ht
  rw [cells_said] at hlen
  have hyl2 : ys.length = 2 := hyl
  obtain ⟨y0, y1, rfl⟩ : ∃ y0 y1, ys = [y0, y1] := by
    match ys, hyl2 with
    | [y0, y1], _ => exact ⟨y0, y1, rfl⟩
  have g0 := hfs 0 _ rfl
  have g1 := hfs 1 _ rfl
  clear hfs
  change DataW.trod enc Try.prog W base spare held n' 3 ((cs.drop 0).take (Try.prog.cellsOf 3)) = some y0 at g0
  change DataW.trod enc Try.prog W base spare held n' 34 ((cs.drop 1).take (Try.prog.cellsOf 34)) = some y1 at g1
  rw [cells_int] at g0
  rw [cells_cell] at g1
  obtain ⟨k, e0, _, w0⟩ := DataW.trod_int Try.underlying3 g0
  obtain ⟨c, e1, hc⟩ := cell_cells g1 fun n hn => by
    apply hsz
    unfold DataW.weights
    rw [Try.underlying36]
    exact DataW.weights_mem_each (ts := [3, 34]) (j := 1) rfl rfl n hn
  refine ⟨(k, c), ?_, ⟨wf_i64.1 w0, hc⟩⟩
  have h1 := drop_part cs 0 1
  rw [drop_part cs (0 + 1) 21, List.drop_zero, List.drop_of_length_le (show cs.length ≤ 0 + 1 + 21 by omega)] at h1
  rw [List.drop_zero] at e0
  rw [e0, e1] at h1
  rw [h1]
  unfold sdl
  simp
end
/-- A slice of these that came in. -/
structure SaidsIn (w : World) (A : Option Addr) (n c : Nat) (l : List (Int × Cl)) : Prop where
  len : l.length = n
  le : n ≤ c
  room : c ≤ 9223372036854775807
  ok : ∀ y ∈ l, SdOk y
  lies : Els 22 w A (l.map sdl)
  nil : A = none → c = 0
theorem SaidsIn.sds {w : World} {A : Option Addr} {n c : Nat} {l : List (Int × Cl)} (h : SaidsIn w A n c l) : Sds w A l := ⟨h.lies, fun e he => (h.ok e he).c.a⟩
theorem saids_in {H : Type} {enc : TypeId × Value → H} {W : World} {A : Option Addr} {n c : Nat} {d : DataW H} {p : List MemPlace} {ts : List TypeId} {ds : List (DataW H)} {j : Nat}
    (h : DataW.Trod enc Try.prog W 0 (fun _ => true) true 51 (.slice A n c) d p) (hsz : (DataW.weightsEach Try.prog ts ds).all (· ≤ reachBytes) = true) (ht : ts[j]? = some 51) (hd : ds[j]? = some d) : ∃ l, SaidsIn W A n c l := by
  obtain ⟨fuel, hf⟩ := h
  obtain ⟨l, h1, h2, h3, _, h5, h6, h7⟩ := els_in sdl SdOk Try.underlying51 cells_said (by omega) bytes_said (fun ht hw => said_cells ht hw) hf (fun n hn => by
    have := List.all_eq_true.1 hsz _ (DataW.weights_mem_each ht hd n hn)
    simpa using this)
  exact ⟨l, h1, h2, by unfold maxLen at h3; omega, h6, h7, h5⟩
/-! ### Seven flags, seven cells -/
def flC (l : List Bool) : Array Value := (l.map Value.bool).toArray
def ceV (L : List Cl) : List (List Value) := L.map Cl.l
/-- The cells of seven cells, one behind the other. -/
def arrC (L : List Cl) : Array Value := (cellsV (ceV L)).toArray
theorem cells_flags : Try.prog.cellsOf 63 = 7 := by kernel_rfl
theorem cells_seven : Try.prog.cellsOf 61 = 147 := by kernel_rfl
section
variable {H : Type} {enc : TypeId × Value → H} {W : World} {base : Nat} {spare : Nat → Bool} {held : Bool}
theorem flags_in {b0 : Nat} {r : Reach} {v : Value} {d : DataW H} {p : List MemPlace} (hv : Value.okWide Try.prog W r b0 63 v) (h : DataW.Trod enc Try.prog W base spare held 63 v d p) : ∃ l : List Bool, v = .agg (flC l) ∧ l.length = 7 := by
  obtain ⟨cs, rfl, _⟩ := agg_arr Try.underlying63 hv
  obtain ⟨fuel, hf⟩ := h
  obtain ⟨ys, m, _, _, hlen, hyl, hfs⟩ := DataW.trod_array Try.underlying63 hf
  rw [cells_flags] at hlen
  have hcs : (Value.agg cs).cells.toList = cs.toList := rfl
  rw [hcs] at hlen hfs
  have each : ∀ j, j < 7 → ∃ b : Bool, cs.toList[j]? = some (.bool b) := fun j hj => by
    have g := hfs j hj
    rw [cells_bool, Nat.mul_one, List.getElem?_eq_getElem (show j < ys.length by rw [hyl]; exact hj), List.drop_eq_getElem_cons (by rw [hlen]; exact hj)] at g
    obtain ⟨f, e, _⟩ := DataW.trod_bool Try.underlying4 g
    simp at e
    exact ⟨f, by rw [List.getElem?_eq_getElem (by rw [hlen]; exact hj)]; simpa using e⟩
  obtain ⟨l, hl, hL⟩ := list_of 7 each
  refine ⟨l, ?_, hl⟩
  congr 1
  apply Array.toList_inj.1
  show cs.toList = l.map Value.bool
  apply List.ext_getElem?
  intro i
  rcases Nat.lt_or_ge i 7 with hi | hi
  · obtain ⟨y, hy⟩ : ∃ y, l[i]? = some y := ⟨_, List.getElem?_eq_getElem (by omega)⟩
    rw [hL i y hy, List.getElem?_map, hy]
    rfl
  · rw [List.getElem?_eq_none (by omega), List.getElem?_eq_none (by rw [List.length_map]; omega)]
/-- Seven cells that came in. -/
structure CesIn (L : List Cl) : Prop where
  len : L.length = 7
  ok : ∀ x, x ∈ L → ClIn x
theorem ces_in {b0 : Nat} {r : Reach} {v : Value} {d : DataW H} {p : List MemPlace} {ts : List TypeId} {ds : List (DataW H)} {j : Nat} (hv : Value.okWide Try.prog W r b0 61 v) (h : DataW.Trod enc Try.prog W base spare held 61 v d p)
    (hsz : (DataW.weightsEach Try.prog ts ds).all (· ≤ reachBytes) = true) (ht : ts[j]? = some 61) (hd : ds[j]? = some d) : ∃ L, v = .agg (arrC L) ∧ CesIn L := by
  obtain ⟨cs, rfl, _⟩ := agg_arr Try.underlying61 hv
  obtain ⟨fuel, hf⟩ := h
  have hw : ∀ n ∈ d.weights Try.prog 61, n ≤ reachBytes := fun n hn => by
    have := List.all_eq_true.1 hsz _ (DataW.weights_mem_each ht hd n hn)
    simpa using this
  obtain ⟨ys, n', _, hx, hlen, hyl, hfs⟩ := DataW.trod_array Try.underlying61 hf
  rw [cells_seven] at hlen
  rw [cells_cell] at hfs
  have hcs : (Value.agg cs).cells.toList = cs.toList := rfl
  rw [hcs] at hlen hfs
  have each : ∀ j, j < 7 → ∃ y : Cl, (cs.toList.drop (j * 21)).take 21 = y.l ∧ ClIn y := fun j hj => by
    have g := hfs j hj
    rw [List.getElem?_eq_getElem (by rw [hyl]; exact hj)] at g
    refine cell_cells g fun n hn => hw n ?_
    have hx1 := congrArg Prod.fst hx
    dsimp only at hx1
    rw [hx1]
    unfold DataW.weights
    rw [Try.underlying61]
    exact weights_all (d := ys[j].1) (List.mem_map.2 ⟨_, List.getElem_mem _, rfl⟩) n hn
  obtain ⟨L, hl, hL⟩ := list_of 7 each
  refine ⟨L, ?_, hl, fun y hy => ?_⟩
  · congr 1
    apply Array.toList_inj.1
    show cs.toList = cellsV (ceV L)
    refine cells_chunks (m := 21) (ceV L) _ (by unfold ceV; rw [List.length_map, hl]; exact hlen) fun j z hz => ?_
    unfold ceV at hz
    rw [List.getElem?_map, Option.map_eq_some_iff] at hz
    obtain ⟨y, hy, rfl⟩ := hz
    exact (hL j y hy).1
  · obtain ⟨j, hj⟩ := List.getElem?_of_mem hy
    exact (hL j y hj).2
end
end Go.Proofs.Ytjkdccokiaejhaa
/- Seven cells in a block (a [7]api.Cell): what is loaded of it, one stored into it; seven flags; the law's fit. Conditions: the cells' attributes are eight numbers. -/
namespace Go.Proofs.Ytjkdccokiaejhaa
set_option maxRecDepth 100000
open Go.RowKit
/-- Seven cells. -/
structure Ces (L : List Cl) : Prop where
  len : L.length = 7
  a8 : ∀ x, x ∈ L → x.a.length = 8
theorem CesIn.ces {L : List Cl} (h : CesIn L) : Ces L := ⟨h.len, fun x hx => (h.ok x hx).a⟩
theorem Ces.set {L : List Cl} (h : Ces L) {x : Cl} (hx : x.a.length = 8) (i : Nat) : Ces (L.set i x) := ⟨by rw [List.length_set]; exact h.len, fun y hy => by
  rcases List.mem_or_eq_of_mem_set hy with h1 | rfl
  · exact h.a8 y h1
  · exact hx⟩
def zero7C : List Cl := List.replicate 7 zeroCl
theorem Ces.zero : Ces zero7C := ⟨rfl, fun x hx => by rw [List.eq_of_mem_replicate hx]; rfl⟩
theorem ceV_all {L : List Cl} (h : ∀ x, x ∈ L → x.a.length = 8) : AllV 21 (ceV L) := fun v hv => by
  unfold ceV at hv
  obtain ⟨x, hx, rfl⟩ := List.mem_map.1 hv
  exact ⟨Cl.len (h x hx), one_cl x⟩
theorem ceV_len (L : List Cl) : (ceV L).length = L.length := List.length_map _
theorem arrC_size {L : List Cl} (h : Ces L) : (arrC L).size = 147 := by
  unfold arrC
  rw [List.size_toArray, length_cellsV (ceV_all h.a8), ceV_len, h.len]
theorem ceV_parts {L : List Cl} {i : Nat} {x : Cl} (hx : L[i]? = some x) : cellsV (ceV L) = cellsV (ceV (L.take i)) ++ (x.l ++ cellsV (ceV (L.drop (i + 1)))) := by
  have hi := (List.getElem?_eq_some_iff.1 hx).1
  have e : L = L.take i ++ (x :: L.drop (i + 1)) := by
    have h2 : L.drop i = x :: L.drop (i + 1) := by
      rw [List.drop_eq_getElem_cons hi]
      congr 1
      exact (List.getElem?_eq_some_iff.1 hx).2
    rw [← h2, List.take_append_drop]
  conv => lhs; rw [e]
  unfold ceV cellsV
  simp
theorem ceV_head {L : List Cl} (h : Ces L) {i : Nat} (hi : i ≤ 7) : (cellsV (ceV (L.take i))).length = i * 21 := by
  rw [length_cellsV (ceV_all fun x hx => h.a8 x (List.mem_of_mem_take hx)), ceV_len, List.length_take, h.len, Nat.min_eq_left hi]
/-- One of them, where it lies. -/
theorem Row.ce_at {w : World} {g : Nat} {t : TypeId} {L : List Cl} (R : Row w g t (arrC L)) (h : Ces L) {i : Nat} {x : Cl} (hx : L[i]? = some x) : w.rangeAt g (i * 21) x.l := by
  have hi := (List.getElem?_eq_some_iff.1 hx).1
  exact R.mid (A := cellsV (ceV (L.take i))) (ys := x.l) (B := cellsV (ceV (L.drop (i + 1)))) (by unfold arrC; rw [ceV_parts hx]) (ceV_head h (by rw [← h.len]; omega))
theorem one_ceV {L : List Cl} (h : Ces L) : ∀ v, v ∈ cellsV (ceV L) → v.oneCell' = true := fun v hv => cellsV_one (ceV_all h.a8) v hv
section
variable {op : Oper} {ops : Array Oper} {rest : List Oper} {d : Option Tmp} {ty : TypeId} {ps : String} {af : Array Edge} {a : Act} {w : World} {K : Act → World → Prop} {Q : Exit → Act → World → Prop} {g i : Nat} {p u : Operand} {t : TypeId} {L : List Cl} {y : Cl}
/-- One of them is stored. -/
theorem wp_store_7 (ho : op.op = .store 34 p u) (wy : y.a.length = 8) (hp : a.eval p = .pointer (some ⟨g, i * 21, none⟩)) (hy : a.eval u = .agg (clC y)) (R : Row w g t (arrC L)) (h : Ces L) (hi : i < 7) (hk : ∀ w', Row w' g t (arrC (L.set i y)) → w.grownBy w' (some g) → K (a.put op.dst undef) w') : op.wp Try.prog a w K Q := by
  obtain ⟨x, hx⟩ : ∃ x, L[i]? = some x := ⟨_, List.getElem?_eq_getElem (by rw [h.len]; exact hi)⟩
  have hxl := Cl.len (h.a8 x (List.mem_of_getElem? hx))
  have hyl := Cl.len wy
  have hsz := arrC_size h
  have hth : w.there g (i * 21) 21 := fun j hj => ⟨by rw [R.cell, Array.getElem?_eq_getElem (by rw [hsz]; omega)]; rfl, R.free _⟩
  refine wp_store_mid 34 p u ho g (i * 21) (clC y) hp hy (by rw [clC_size wy]; exact hth) (by rw [clC_size wy]; exact ce_info) (all_oneCell_toArray (one_cl y)) ?_
  refine hk _ ?_ (grown_setCells g y.l (i * 21) w)
  have h1 := Row.puts y.l (i * 21) R
  have e := puts_mid y.l x.l (cellsV (ceV (L.take i))) (cellsV (ceV (L.drop (i + 1)))) (by rw [hxl, hyl])
  rw [ceV_head h (Nat.le_of_lt hi), ← ceV_parts hx] at e
  have e2 : cellsV (ceV (L.set i y)) = cellsV (ceV (L.take i)) ++ (y.l ++ cellsV (ceV (L.drop (i + 1)))) := by
    have hs : (L.set i y)[i]? = some y := by rw [List.getElem?_set_self (by rw [h.len]; exact hi)]
    have := ceV_parts hs
    rw [List.take_set_of_le (Nat.le_refl _), List.drop_set_of_lt (by omega)] at this
    exact this
  unfold arrC at h1 ⊢
  rw [e2, ← e]
  exact h1
theorem wpList_store_7 (wy : y.a.length = 8) (hp : a.eval p = .pointer (some ⟨g, i * 21, none⟩)) (hy : a.eval u = .agg (clC y)) (R : Row w g t (arrC L)) (h : Ces L) (hi : i < 7) (hk : ∀ w', Row w' g t (arrC (L.set i y)) → w.grownBy w' (some g) → wpList Try.prog ops Q rest (a.put d undef) w') :
    wpList Try.prog ops Q ({ dst := d, op := .store 34 p u, type := ty, pos := ps, after := af, guard := none } :: rest) a w :=
  wpList_plain rfl fun _ hK => wp_store_7 rfl wy hp hy R h hi fun w' h1 h2 => hK _ _ (hk w' h1 h2)
end
theorem flC_at {w : World} {g : Nat} {t : TypeId} {l : List Bool} (R : Row w g t (flC l)) {i : Nat} {b : Bool} (h : l[i]? = some b) : w.cell? ⟨g, i, none⟩ = some (.bool b) := by
  rw [R.cell]
  unfold flC
  simp [h]
set_option maxHeartbeats 4000000 in
/-- The law's fit: three, five or seven. -/
theorem fit_any (n : Int) : ∃ k : Nat, (k = 3 ∨ k = 5 ∨ k = 7) ∧ ∀ w : World, Calls Try.prog 24 #[.int .i64 n] w fun e w' => e = .returned (.int .i64 (k : Nat)) ∧ Below w.heap.size w w' := by
  have hb := withinI_bounds n 0 2 (by omega)
  have HW := hide (fun w => within_any n 0 2 w (by omega) (by omega) (by omega))
  generalize withinI n 0 2 = x at hb HW
  have hx : x = 0 ∨ x = 1 ∨ x = 2 := by omega
  clear hb
  rcases hx with rfl | rfl | rfl
  · refine ⟨3, .inl rfl, fun w => ?_⟩
    have HB := hide (kept_alloc (kept_refl w) (.cells #[.int .i64 3, .int .i64 5, .int .i64 7] 3))
    go_enter Try.func24, Try.ntmps24
    go_wp2_with (go_at_call 32; (with_reducible refine (HW.out _).mono ?_); rintro e w7 ⟨rfl, hw⟩; subst hw)
    go_ret
    exact ⟨rfl, HB.out⟩
  · refine ⟨5, .inr (.inl rfl), fun w => ?_⟩
    have HB := hide (kept_alloc (kept_refl w) (.cells #[.int .i64 3, .int .i64 5, .int .i64 7] 3))
    go_enter Try.func24, Try.ntmps24
    go_wp2_with (go_at_call 32; (with_reducible refine (HW.out _).mono ?_); rintro e w7 ⟨rfl, hw⟩; subst hw)
    go_ret
    exact ⟨rfl, HB.out⟩
  · refine ⟨7, .inr (.inr rfl), fun w => ?_⟩
    have HB := hide (kept_alloc (kept_refl w) (.cells #[.int .i64 3, .int .i64 5, .int .i64 7] 3))
    go_enter Try.func24, Try.ntmps24
    go_wp2_with (go_at_call 32; (with_reducible refine (HW.out _).mono ?_); rintro e w7 ⟨rfl, hw⟩; subst hw)
    go_ret
    exact ⟨rfl, HB.out⟩
end Go.Proofs.Ytjkdccokiaejhaa
/- A list of what was said, put together by append; cells and such things built. Conditions: attributes are eight numbers. -/
namespace Go.Proofs.Ytjkdccokiaejhaa
set_option maxRecDepth 100000
open Go.RowKit
/-- An own row of what was said. -/
def Rsd (base : Nat) (w : World) (v : Value) (l : List (Int × Cl)) : Prop := Rw base 36 22 w v (l.map sdl)
theorem sd_all {l : List (Int × Cl)} (h : ∀ e, e ∈ l → e.2.a.length = 8) : AllV 22 (l.map sdl) := fun v hv => by
  obtain ⟨e, he, rfl⟩ := List.mem_map.1 hv
  refine ⟨sdl_len (h e he), fun u hu => ?_⟩
  unfold sdl at hu
  rcases List.mem_cons.1 hu with rfl | hu
  · rfl
  · exact one_cl e.2 u hu
theorem Rsd.nil_ (base : Nat) (w : World) : Rsd base w (.slice none 0 0) [] := ⟨rfl, .inl ⟨rfl, rfl⟩⟩
section
variable {base : Nat} {w w' : World} {v : Value} {l : List (Int × Cl)}
theorem Rsd.below (h : Rsd base w v l) (hb : Below w.heap.size w w') : Rsd base w' v l := (Kq.of_below (o := fun _ => False) hb).own h (fun _ _ e => e)
end
theorem lit_sd {e : Int × Cl} (h : e.2.a.length = 8) (w : World) : (Instr.buildSlice 51 1 #[(0, .agg (sdl e).toArray)]).run Try.prog w = .ok (.slice (some ⟨w.heap.size, 0, none⟩) 1 1) (w.alloc (.cells (sdl e).toArray 36)) := by
  obtain ⟨r, st, ⟨p1, p2⟩, ⟨v1, v2⟩, ⟨ck, cc, cq, ca, cb, co, cv⟩, a, s⟩ := e
  dsimp only at h
  obtain ⟨a0, a1, a2, a3, a4, a5, a6, a7, rfl⟩ := len8 h
  have u9 := Try.underlying51
  have z9 := Try.sizeOf36
  show (Instr.buildSlice 51 1 #[(0, .agg #[.int .i64 r, .int .i64 st, .int .i64 p1, .int .i64 p2, .int .i64 v1, .int .i64 v2, .int .i64 ck, .int .i64 cc, .int .i64 cq, .string ca, .string cb, .string co, .string cv, .int .i64 a0, .int .i64 a1, .int .i64 a2, .int .i64 a3, .int .i64 a4, .int .i64 a5, .int .i64 a6, .int .i64 a7, .bool s])]).run Try.prog w = .ok (.slice (some ⟨w.heap.size, 0, none⟩) 1 1) (w.alloc (.cells #[.int .i64 r, .int .i64 st, .int .i64 p1, .int .i64 p2, .int .i64 v1, .int .i64 v2, .int .i64 ck, .int .i64 cc, .int .i64 cq, .string ca, .string cb, .string co, .string cv, .int .i64 a0, .int .i64 a1, .int .i64 a2, .int .i64 a3, .int .i64 a4, .int .i64 a5, .int .i64 a6, .int .i64 a7, .bool s] 36))
  go_simp
theorem fill_c5 {b1 b2 : Int} {c : Cm} {a : List Int} (h : a.length = 8) (w : World) : (Instr.build 34 #[(0, .int .i64 2), (1, .agg #[.int .i64 b1, .int .i64 b2]), (2, .agg #[.int .i64 b1, .int .i64 b2]), (3, .agg (rowC c)), (4, .agg (cA a))]).run Try.prog w = .ok (.agg (clC ⟨2, (b1, b2), (b1, b2), c, a, false⟩)) w := by
  obtain ⟨a0, a1, a2, a3, a4, a5, a6, a7, rfl⟩ := len8 h
  kernel_rfl
theorem fill_sd {r : Int} {x : Cl} (h : x.a.length = 8) (w : World) : (Instr.build 36 #[(0, .int .i64 r), (1, .agg (clC x))]).run Try.prog w = .ok (.agg (sdl (r, x)).toArray) w := by
  obtain ⟨st, p, v, c, a, s⟩ := x
  obtain ⟨a0, a1, a2, a3, a4, a5, a6, a7, rfl⟩ := len8 h
  kernel_rfl
section
variable {ops : Array Oper} {rest : List Oper} {d : Option Tmp} {ty : TypeId} {ps : String} {af : Array Edge} {a : Act} {w : World} {Q : Exit → Act → World → Prop} {u x : Operand} {base : Nat} {v : Value} {l : List (Int × Cl)} {e : Int × Cl}
/-- The literal of one, its append. -/
theorem wpList_lit_sd (h8 : e.2.a.length = 8) (hu : a.eval u = .agg (sdl e).toArray) (h : wpList Try.prog ops Q rest (a.put d (.slice (some ⟨w.heap.size, 0, none⟩) 1 1)) (w.alloc (.cells (sdl e).toArray 36))) :
    wpList Try.prog ops Q ({ dst := d, op := .buildSlice 51 1 #[(0, u)], type := ty, pos := ps, after := af, guard := none } :: rest) a w :=
  wpList_plain rfl fun K hK => by
    unfold Oper.wp execOp
    simp only [List.map_toArray, List.map_cons, List.map_nil, hu, Sem.run_bind, Sem.run_pure, Result.andThen_ok, lit_sd h8 w]
    exact hK _ _ h
theorem wpList_append_sd {g : Nat} (he : e.2.a.length = 8) (hu : a.eval u = v) (hx : a.eval x = .slice (some ⟨g, 0, none⟩) 1 1) (R : Rsd base w v l) (G : Row w g 36 (sdl e).toArray) (hl : l.length ≤ 1000) (hb : base ≤ w.heap.size)
    (h : ∀ v' w', Rsd base w' v' (l ++ [e]) → w.grownBy w' v.ownBlock → wpList Try.prog ops Q rest (a.put d v') w') :
    wpList Try.prog ops Q ({ dst := d, op := .call { callee := .builtin .append, args := #[u, x], argTypes := #[51, 51] }, type := ty, pos := ps, after := af, guard := none } :: rest) a w :=
  wpList_plain rfl fun K hK => by
    have hE : Els 22 w (some ⟨g, 0, none⟩) [sdl e] := els_row G (fun y hy => by rw [List.mem_singleton.1 hy]; exact sd_all (l := [e]) (fun f hf => by rw [List.mem_singleton.1 hf]; exact he) _ (List.mem_map.2 ⟨e, List.mem_singleton.2 rfl, rfl⟩)) (by show sdl e = cellsV [sdl e]; simp [cellsV])
    have hR := R
    unfold Rsd Rw at hR
    obtain ⟨v', w', hr, r1, r2, _⟩ := run_append_els (P := Try.prog) (w := w) base 51 ty 36 _ _ 208 rfl rfl rfl rfl rfl (by decide) rfl v (l.map sdl).length (l.map sdl) hR (some ⟨g, 0, none⟩) 1 1 [sdl e]
      (fun y hy => by rw [List.mem_singleton.1 hy]; exact sd_all (l := [e]) (fun f hf => by rw [List.mem_singleton.1 hf]; exact he) _ (List.mem_map.2 ⟨e, List.mem_singleton.2 rfl, rfl⟩)) rfl (fun h => by cases h) hE (by rw [List.length_map]; omega) (by rw [List.length_map]; omega) hb
    unfold Oper.wp execOp
    simp only [resolve, invoke, builtin, Sem.run_bind, Sem.run_pure, Result.andThen_ok, List.map_toArray, List.map_cons, List.map_nil, hu, hx, hr]
    refine hK _ _ (h v' w' ?_ r2)
    unfold Rsd Rw
    rw [List.map_append, List.length_append]
    exact r1
end
theorem Rsd.sds {base : Nat} {w : World} {v : Value} {l : List (Int × Cl)} (h : Rsd base w v l) (h8 : ∀ e, e ∈ l → e.2.a.length = 8) : ∃ A c, v = .slice A l.length c ∧ Sds w A l ∧ (A = none → c = 0) ∧ l.length ≤ c := by
  have h1 := h
  unfold Rsd Rw at h1
  rw [List.length_map] at h1
  obtain ⟨A, c, rfl, hn, hc, _⟩ := els_own_form h1
  exact ⟨A, c, rfl, ⟨(els_own h1 (sd_all h8) (by decide)).1, h8⟩, hn, hc⟩
theorem Rsd.lt {base : Nat} {w : World} {v : Value} {l : List (Int × Cl)} (h : Rsd base w v l) : ∀ j, v.ownBlock = some j → base ≤ j ∧ j < w.heap.size := Rw.lt h
theorem below_opt {a b c : World} {o : Option Nat} (h : Below a.heap.size a b) (hg : b.grownBy c o) (hl : ∀ j, o = some j → a.heap.size ≤ j) : Below a.heap.size a c := by
  obtain ⟨e1, e2, e3, e4, e5⟩ := hg
  have := h.size
  exact h.trans ⟨e1, e2, e3, e4, fun k hk => e5 k (by omega) (fun e => by have := hl k e.symm; omega)⟩
end Go.Proofs.Ytjkdccokiaejhaa
/- QuorumSlow, of any program whose Prepared answers as chapter 17 says. Conditions: what is asked of the program's calls. -/
namespace Go.Proofs.Ytjkdccokiaejhaa
set_option maxRecDepth 100000
open Go.RowKit
/-- What is asked of the program's Prepared, Slow, and of the chapter's runs. -/
def PrepOk : Prop := ∀ (k : Nat) (o : Int) (A : Option Addr) (m c : Nat) (l : List (Int × Cl)) (w : World), 2 ≤ k → k ≤ 100 → l.length = m → Sds w A l → m ≤ 1000 → m ≤ c → (A = none → c = 0) →
  Calls Try.prog 28 #[.int .i64 (k : Nat), .int .i64 o, .slice A m c] w fun e w' => e = .returned (.tuple #[.int .i64 (prepL k o l).1, cmA (prepL k o l).2.1, .agg (cA (prepL k o l).2.2)]) ∧ Below w.heap.size w w'
def SlowOk : Prop := ∀ (k : Nat) (w : World), k ≤ 100 → Calls Try.prog 18 #[.int .i64 (k : Nat)] w fun e w' => e = .returned (.int .i64 ((k / 2 + 1 : Nat) : Int)) ∧ Below w.heap.size w w'
def RunsOk : Prop := ∀ w : World, Calls Try.prog 3 #[] w fun e w' => e = .returned (.bool true) ∧ Below w.heap.size w w'
/-- What stands at a place: the accepted one, nothing, or the other one. -/
def qxL (who : List Bool) (b : Int × Int) (c : Cm) (a : List Int) (L : List Cl) (j : Nat) : Cl :=
  if who.getD j false then ⟨2, b, b, c, a, false⟩ else if decide ((L.getD j zeroCl).st = 3) || !ltP (L.getD j zeroCl).v b then zeroCl else L.getD j zeroCl
def mixL (who : List Bool) (b : Int × Int) (c : Cm) (a : List Int) (L : List Cl) (i : Nat) : List Cl := (List.range 7).map fun j => if j < i then qxL who b c a L j else zeroCl
def cntL (who : List Bool) (i : Nat) : Nat := (List.range i).countP fun j => who.getD j false
def lstL (M : List Cl) (k f m : Nat) : List (Int × Cl) := (List.range m).map fun i => ((((f + i) % k : Nat) : Int), M.getD ((f + i) % k) zeroCl)
section
variable {who : List Bool} {b : Int × Int} {c : Cm} {a : List Int} {L : List Cl}
theorem qx_8 (h8 : a.length = 8) (hL : Ces L) (j : Nat) : (qxL who b c a L j).a.length = 8 := by
  unfold qxL
  have hg : (L.getD j zeroCl).a.length = 8 := by
    rw [List.getD_eq_getElem?_getD]
    cases hj : L[j]? with
    | none => rfl
    | some x => exact hL.a8 x (List.mem_of_getElem? hj)
  split
  · exact h8
  · split
    · rfl
    · exact hg
theorem mix_ces (h8 : a.length = 8) (hL : Ces L) (i : Nat) : Ces (mixL who b c a L i) := ⟨by unfold mixL; simp, fun x hx => by
  unfold mixL at hx
  obtain ⟨j, _, rfl⟩ := List.mem_map.1 hx
  split
  · exact qx_8 h8 hL j
  · rfl⟩
theorem mix_zero : mixL who b c a L 0 = zero7C := by unfold mixL zero7C; rfl
theorem mix_get {i j : Nat} (hj : j < 7) : (mixL who b c a L i)[j]? = some (if j < i then qxL who b c a L j else zeroCl) := by
  unfold mixL
  rw [List.getElem?_map, List.getElem?_range hj]
  rfl
theorem mix_set {i : Nat} (hi : i < 7) : (mixL who b c a L i).set i (qxL who b c a L i) = mixL who b c a L (i + 1) := by
  apply List.ext_getElem?
  intro j
  have hl : ∀ i, (mixL who b c a L i).length = 7 := fun i => by unfold mixL; simp
  rcases Nat.lt_or_ge j 7 with hj | hj
  · rw [mix_get hj]
    by_cases e : i = j
    · subst e
      rw [List.getElem?_set_self (by rw [hl]; exact hi), if_pos (Nat.lt_succ_self _)]
    · rw [List.getElem?_set_ne e, mix_get hj]
      congr 1
      by_cases h : j < i
      · rw [if_pos h, if_pos (by omega)]
      · rw [if_neg h, if_neg (by omega)]
  · rw [List.getElem?_eq_none (by rw [List.length_set, hl]; exact hj), List.getElem?_eq_none (by rw [hl]; exact hj)]
theorem cnt_succ (i : Nat) : cntL who (i + 1) = cntL who i + if who.getD i false then 1 else 0 := by
  unfold cntL
  rw [List.range_succ, List.countP_append, List.countP_singleton]
theorem lst_succ (M : List Cl) (k f m : Nat) : lstL M k f (m + 1) = lstL M k f m ++ [((((f + m) % k : Nat) : Int), M.getD ((f + m) % k) zeroCl)] := by
  unfold lstL
  rw [List.range_succ, List.map_append]
  rfl
theorem lst_len (M : List Cl) (k f m : Nat) : (lstL M k f m).length = m := by unfold lstL; rw [List.length_map, List.length_range]
theorem lst_8 {M : List Cl} (hM : Ces M) (k f m : Nat) : ∀ e, e ∈ lstL M k f m → e.2.a.length = 8 := fun e he => by
  unfold lstL at he
  obtain ⟨i, _, rfl⟩ := List.mem_map.1 he
  show (M.getD ((f + i) % k) zeroCl).a.length = 8
  rw [List.getD_eq_getElem?_getD]
  cases hj : M[(f + i) % k]? with
  | none => rfl
  | some x => exact hM.a8 x (List.mem_of_getElem? hj)
/-- What so many of them come to. -/
theorem slow_says {k f : Nat} (hk : k = 3 ∨ k = 5 ∨ k = 7) (hw : who.length = 7) (hf : f < k) (hm : k / 2 + 1 ≤ cntL who k) (o : Int) : prepL k o (lstL (mixL who b c a L k) k f (k / 2 + 1)) = (2, c, a) := by
  have gd : ∀ i, (mixL who b c a L k).getD ((f + i) % k) zeroCl = qxL who b c a L ((f + i) % k) := fun i => by
    have h1 : (f + i) % k < k := Nat.mod_lt _ (by omega)
    rw [List.getD_eq_getElem?_getD, mix_get (by omega), if_pos h1]
    rfl
  refine prep_slow (b := b) (by rw [lst_len]; exact Nat.le_refl _) (fun e he => ?_) ?_
  · unfold lstL at he
    obtain ⟨i, _, rfl⟩ := List.mem_map.1 he
    simp only [gd]
    unfold qxL
    by_cases h1 : who.getD ((f + i) % k) false = true
    · rw [if_pos h1]; exact .inl ⟨rfl, rfl, rfl, rfl⟩
    · rw [if_neg h1]
      right
      split
      · exact ⟨by decide, fun h => by cases h⟩
      · rename_i h2
        simp only [Bool.or_eq_true, decide_eq_true_eq, Bool.not_eq_true', not_or, Bool.not_eq_false] at h2
        exact ⟨h2.1, fun _ => h2.2⟩
  · obtain ⟨i, hi, hwi⟩ := slow_meets hk hw hm hf
    refine ⟨_, List.mem_map.2 ⟨i, List.mem_range.2 hi, rfl⟩, ?_⟩
    simp only [gd]
    unfold qxL
    rw [if_pos hwi]
    exact ⟨rfl, rfl, rfl, rfl⟩
end
end Go.Proofs.Ytjkdccokiaejhaa
/- Noop, the document's. No condition. -/
namespace Go.Proofs.Ytjkdccokiaejhaa
set_option maxRecDepth 100000
open Go.RowKit
/-- The attributes of a command that does nothing. -/
def noopL (r s : Int) : List Int := tab8 fun i => if 0 ≤ r ∧ r < 7 ∧ 1 ≤ s ∧ s ≤ 1073741824 ∧ (i : Int) = r + 1 then s - 1 else 0
set_option maxHeartbeats 1000000 in
theorem rinst_any (r s : Int) (B : Bool) (hB : decide (0 ≤ r ∧ r < 7 ∧ 1 ≤ s ∧ s ≤ 1073741824) = B) (w : World) : Calls Try.prog 36 #[.agg #[.int .i64 r, .int .i64 s]] w fun e w' => e = .returned (.bool B) ∧ w' = w.alloc (.cells #[.int .i64 r, .int .i64 s] 40) := by
  have HH := hide hB
  clear hB
  go_enter Try.func36, Try.ntmps36
  go_wp2
  all_goals go_ret
  all_goals refine ⟨?_, rfl⟩
  · rw [← HH.out]
    show Ending.returned (.bool (decide (s ≤ 1073741824))) = _
    rw [show decide (s ≤ 1073741824) = decide (0 ≤ r ∧ r < 7 ∧ 1 ≤ s ∧ s ≤ 1073741824) from decide_eq_decide.2 (by omega)]
  · rw [← HH.out, decide_eq_false (p := 0 ≤ r ∧ r < 7 ∧ 1 ≤ s ∧ s ≤ 1073741824) (by omega)]; rfl
  · rw [← HH.out, decide_eq_false (p := 0 ≤ r ∧ r < 7 ∧ 1 ≤ s ∧ s ≤ 1073741824) (by omega)]; rfl
  · rw [← HH.out, decide_eq_false (p := 0 ≤ r ∧ r < 7 ∧ 1 ≤ s ∧ s ≤ 1073741824) (by omega)]; rfl
theorem noop_row (w : World) (o1 o2 o3 : Obj) (t : TypeId) (cs : Array Value) : Row ((((w.alloc o1).alloc (.cells cs t)).alloc o2).alloc o3) (w.heap.size + 1) t cs := by
  have h := ((Row.new (w.alloc o1) t cs).alloc o2).alloc o3
  rwa [show (w.alloc o1).heap.size = w.heap.size + 1 by simp] at h
set_option maxHeartbeats 2000000 in
theorem rnoop_any (r s : Int) (w : World) : Calls Try.prog 17 #[.agg #[.int .i64 r, .int .i64 s]] w fun e w' => e = .returned (.agg (cA (noopL r s))) ∧ Below w.heap.size w w' := by
  by_cases hr : 0 ≤ r ∧ r < 7 ∧ 1 ≤ s ∧ s ≤ 1073741824
  · have HI := hide (fun w => rinst_any r s true (decide_eq_true hr) w)
    have hs1 := hr.2.2.1
    have hs2 := hr.2.2.2
    have hx : r = 0 ∨ r = 1 ∨ r = 2 ∨ r = 3 ∨ r = 4 ∨ r = 5 ∨ r = 6 := by omega
    rcases hx with rfl | rfl | rfl | rfl | rfl | rfl | rfl
    all_goals
      unfold noopL tab8
      simp only [hs1, hs2]
      clear hr
      go_enter Try.func17, Try.ntmps17
      go_wp2_with (go_at_call 36; (with_reducible refine (HI.out _).mono ?_); rintro e w2 ⟨rfl, rfl⟩)
      refine bodyPost_ret (results_at8 Try.results17 rfl (noop_row _ _ _ _ _ _)) rfl ⟨rfl, ?_⟩
      repeat (first | exact kept_refl _ | refine kept_alloc ?_ _)
  · have HI := hide (fun w => rinst_any r s false (decide_eq_false hr) w)
    have hz : noopL r s = zero8 := by
      unfold noopL tab8 zero8
      have h : ∀ i : Nat, ¬ (0 ≤ r ∧ r < 7 ∧ 1 ≤ s ∧ s ≤ 1073741824 ∧ (i : Int) = r + 1) := fun i h => hr ⟨h.1, h.2.1, h.2.2.1, h.2.2.2.1⟩
      simp only [if_neg (h _)]
    rw [hz]
    clear hr
    go_enter Try.func17, Try.ntmps17
    go_wp2_with (go_at_call 36; (with_reducible refine (HI.out _).mono ?_); rintro e w2 ⟨rfl, rfl⟩)
    refine bodyPost_ret (results_at8 Try.results17 rfl (noop_row _ _ _ _ _ _)) rfl ⟨rfl, ?_⟩
    repeat (first | exact kept_refl _ | refine kept_alloc ?_ _)
end Go.Proofs.Ytjkdccokiaejhaa
