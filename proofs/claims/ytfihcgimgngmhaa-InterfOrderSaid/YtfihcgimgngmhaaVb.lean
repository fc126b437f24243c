/- Instances as a map's keys. Conditions: the bounds of an int. -/
import Derived.Test.YtfihcgimgngmhaaVa
import Derived.Maps.OwnSet
import Derived.DeepKeys4
import Derived.Deep.Slices
import Derived.Deep.Fields
import Derived.ChangeSame
import Derived.Deep.RegionHeld3
import Derived.Maps.AppendAt
import Derived.Deep.MidRow
import Derived.Deep.WholeRow
namespace Go.Proofs.Ytfihcgimgngmhaa
open Go.RowKit Go.Maps
/-- An instance's two numbers are ints. -/
def Ok (x : Int × Int) : Prop := I64 x.1 ∧ I64 x.2
/-- An instance as a value, as cells. -/
def iv (x : Int × Int) : Value := .agg #[.int .i64 x.1, .int .i64 x.2]
def ic (x : Int × Int) : List Value := [.int .i64 x.1, .int .i64 x.2]
/-- What it reads as, as a key. -/
def kl (x : Int × Int) : Lit := .string (keyBytes [.int .i64 x.1, .int .i64 x.2])
theorem law : Keyed Try.prog 26 := Keyed.of_law (deep_law_laid laidOut (m := 2) (by omega) (of_decide_eq_true (by kernel_rfl)) (by kernel_rfl) (by rw [Try.underlying26]))
theorem keyty : Try.prog.keyType 26 = true := by kernel_rfl
theorem types_succ : ∃ n, Try.prog.types.size = n + 1 := ⟨Try.prog.types.size - 1, by kernel_rfl⟩
theorem wf_i64 {n : Int} : (Lit.int .i64 n).wf = true ↔ I64 n := by
  constructor
  · intro h; exact bounds_i64 h
  · intro h; exact WalkArith.wf_i64 (by unfold I64 at h; omega)
theorem cells_int : Try.prog.cellsOf 3 = 1 := by kernel_rfl
theorem lits_struct {P : Program} {t : TypeId} {fs : Array Field} (d : Nat) (cs : List Value) (hu : P.underlying t = some (.struct fs)) (hl : cs.length = P.cellsOf t) (hn : fs.all (·.name != "_") = true) :
    P.keyLits (d + 1) t cs = (fs.toList.mapM fun f => P.keyLits d f.type ((cs.drop f.offset).take (P.cellsOf f.type))).map List.flatten := by
  rw [Program.keyLits.eq_def]
  simp only [hu]
  rw [if_pos ⟨hl, hn⟩]
theorem lits_one {P : Program} {t : TypeId} (d : Nat) (n : Int) (hu : P.underlying t = some (.int .i64)) (h : I64 n) : P.keyLits (d + 1) t [.int .i64 n] = some [.int .i64 n] := by
  rw [Program.keyLits.eq_def]
  simp only [hu]
  simp [wf_i64.2 h]
theorem lits_one_inv {P : Program} {t : TypeId} (d : Nat) (a : Value) (l : List Lit) (hu : P.underlying t = some (.int .i64)) (h : P.keyLits (d + 1) t [a] = some l) : ∃ n, a = .int .i64 n ∧ I64 n ∧ l = [.int .i64 n] := by
  rw [Program.keyLits.eq_def] at h
  simp only [hu] at h
  cases a <;> simp at h
  obtain ⟨⟨rfl, hw⟩, rfl⟩ := h
  exact ⟨_, rfl, wf_i64.1 hw, rfl⟩
theorem bind_two {α : Type} (p q : Option (List α)) : Option.map List.flatten (do
    let x ← p
    let y ← (do
      let y ← q
      let z ← pure []
      pure (y :: z))
    pure (x :: y)) = (do
    let x ← p
    let y ← q
    pure (x ++ y)) := by
  cases p with
  | none => rfl
  | some x =>
    cases q with
    | none => rfl
    | some y => simp
theorem lits_two (a b : Value) : Try.prog.keyLits (Try.prog.types.size + 1) 26 [a, b] = (do
    let x ← Try.prog.keyLits Try.prog.types.size 3 [a]
    let y ← Try.prog.keyLits Try.prog.types.size 3 [b]
    pure (x ++ y)) := by
  rw [lits_struct _ [a, b] Try.underlying26 (by rw [Try.cells26]; rfl) (by kernel_rfl), ← bind_two]
  simp only [List.mapM_cons, List.mapM_nil, cells_int]
  rfl
theorem lits_int (a : Value) (l : List Lit) (h : Try.prog.keyLits Try.prog.types.size 3 [a] = some l) : ∃ n, a = .int .i64 n ∧ I64 n ∧ l = [.int .i64 n] := by
  obtain ⟨m, hm⟩ := types_succ
  rw [hm] at h
  exact lits_one_inv m a l Try.underlying3 h
theorem lits_int' (n : Int) (h : I64 n) : Try.prog.keyLits Try.prog.types.size 3 [.int .i64 n] = some [.int .i64 n] := by
  obtain ⟨m, hm⟩ := types_succ
  rw [hm]
  exact lits_one m n Try.underlying3 h
theorem key_of (x : Int × Int) (h : Ok x) : keyOf Try.prog 26 (iv x) = some (kl x) := by
  unfold keyOf iv
  rw [Try.underlying26]
  have hf : (Value.agg #[.int .i64 x.1, .int .i64 x.2]).formed Try.prog 26 = true := by simp [Value.formed, Try.underlying26, Try.cells26]
  simp only [keyty, hf, Bool.and_self, if_true, Value.cells]
  have := lits_two (.int .i64 x.1) (.int .i64 x.2)
  rw [lits_int' _ h.1, lits_int' _ h.2] at this
  rw [this]; rfl
theorem key_inv {v : Value} {l : Lit} (h : keyOf Try.prog 26 v = some l) : ∃ x, Ok x ∧ v = iv x ∧ l = kl x := by
  unfold keyOf at h
  rw [Try.underlying26] at h
  simp only at h
  split at h
  · rename_i hc
    rw [Bool.and_eq_true] at hc
    obtain ⟨_, hf⟩ := hc
    cases v <;> simp [Value.formed, Try.underlying26, Try.cells26] at hf
    rename_i cs
    obtain ⟨a, b, rfl⟩ : ∃ a b, cs = #[a, b] := by
      obtain ⟨l⟩ := cs
      match l, hf with
      | [a, b], _ => exact ⟨a, b, rfl⟩
    have e := lits_two a b
    simp only [Value.cells] at h
    rw [e] at h
    cases ha : Try.prog.keyLits Try.prog.types.size 3 [a] with
    | none => rw [ha] at h; cases h
    | some x =>
      cases hb : Try.prog.keyLits Try.prog.types.size 3 [b] with
      | none => rw [ha, hb] at h; cases h
      | some y =>
        rw [ha, hb] at h
        obtain ⟨n, rfl, hn, rfl⟩ := lits_int a x ha
        obtain ⟨m, rfl, hm, rfl⟩ := lits_int b y hb
        exact ⟨(n, m), ⟨hn, hm⟩, rfl, (Option.some.inj h).symm⟩
  · cases h
theorem kl_inj {x y : Int × Int} (hx : Ok x) (hy : Ok y) (h : kl x = kl y) : x = y := by
  have e := law.inj (key_of x hx) (by rw [h]; exact key_of y hy)
  unfold iv at e
  obtain ⟨x1, x2⟩ := x
  obtain ⟨y1, y2⟩ := y
  simp at e
  simp [e]
theorem kl_key (x : Int × Int) : WideAt.IsKeyLit (kl x) := trivial
open Classical in
theorem kl_same {x y : Int × Int} (hx : Ok x) (hy : Ok y) : (kl x).sameKey (kl y) = decide (x = y) := by
  by_cases h : x = y
  · rw [h, decide_eq_true rfl]; exact WideAt.sameKey_self (kl_key y)
  · rw [decide_eq_false h]
    exact sameKey_ne fun e => h (kl_inj hx hy e)
end Go.Proofs.Ytfihcgimgngmhaa
/- How rows of slots come in. No condition. -/
namespace Go.Proofs.Ytfihcgimgngmhaa
open Go.ChangeShapes Go.WideShapes Go.ChangeAt Go.RowKit Go.Joins
theorem cells_deps : Try.prog.cellsOf 32 = 7 := by kernel_rfl
section
variable {H : Type} {enc : TypeId × Value → H} {W : World} {base : Nat} {spare : Nat → Bool} {held : Bool}
theorem int_cell {m : Nat} {c : Value} {y : DataW H × List MemPlace} (h : DataW.trod enc Try.prog W base spare held m 3 [c] = some y) : ∃ n, c = .int .i64 n ∧ I64 n := by
  obtain ⟨k, e0, _, w0⟩ := DataW.trod_int Try.underlying3 h
  simp at e0
  exact ⟨k, e0, wf_i64.1 w0⟩
theorem deps_cells {fuel : Nat} {cs : List Value} {x : DataW H × List MemPlace} (ht : DataW.trod enc Try.prog W base spare held fuel 32 cs = some x) : ∃ d1 d2 d3 d4 d5 d6 d7 : Int, cs = [.int .i64 d1, .int .i64 d2, .int .i64 d3, .int .i64 d4, .int .i64 d5, .int .i64 d6, .int .i64 d7] ∧ ∀ n, n ∈ [d1, d2, d3, d4, d5, d6, d7] → I64 n := by
  obtain ⟨ys, m, _, _, hlen, hyl, hfs⟩ := DataW.trod_array Try.underlying32 ht
  rw [cells_deps] at hlen
  obtain ⟨c0, c1, c2, c3, c4, c5, c6, rfl⟩ : ∃ c0 c1 c2 c3 c4 c5 c6, cs = [c0, c1, c2, c3, c4, c5, c6] := by
    match cs, hlen with
    | [c0, c1, c2, c3, c4, c5, c6], _ => exact ⟨c0, c1, c2, c3, c4, c5, c6, rfl⟩
  have each : ∀ i, i < 7 → ∃ c, ([c0, c1, c2, c3, c4, c5, c6] : List Value)[i]? = some c ∧ ∃ n, c = .int .i64 n ∧ I64 n := fun i hi => by
    have g := hfs i hi
    rw [cells_int, Nat.mul_one, List.getElem?_eq_getElem (by omega), List.drop_eq_getElem_cons (by simpa using hi)] at g
    exact ⟨_, List.getElem?_eq_getElem (by simpa using hi), int_cell g⟩
  obtain ⟨_, e0, d1, rfl, o1⟩ := each 0 (by omega)
  obtain ⟨_, e1, d2, rfl, o2⟩ := each 1 (by omega)
  obtain ⟨_, e2, d3, rfl, o3⟩ := each 2 (by omega)
  obtain ⟨_, e3, d4, rfl, o4⟩ := each 3 (by omega)
  obtain ⟨_, e4, d5, rfl, o5⟩ := each 4 (by omega)
  obtain ⟨_, e5, d6, rfl, o6⟩ := each 5 (by omega)
  obtain ⟨_, e6, d7, rfl, o7⟩ := each 6 (by omega)
  simp at e0 e1 e2 e3 e4 e5 e6
  subst e0 e1 e2 e3 e4 e5 e6
  refine ⟨d1, d2, d3, d4, d5, d6, d7, rfl, fun n hn => ?_⟩
  simp at hn
  rcases hn with rfl | rfl | rfl | rfl | rfl | rfl | rfl <;> assumption
theorem agg_arr {r : Reach} {b0 : Nat} {t e : TypeId} {n : Nat} {v : Value} {W : World} (ht : Try.prog.underlying t = some (.array n e)) (h : Value.okWide Try.prog W r b0 t v) : ∃ cs, v = .agg cs ∧ cs.size = Try.prog.cellsOf t := by
  simp only [Value.okWide, ht] at h
  obtain ⟨cs, h1, h2, _⟩ := h
  exact ⟨cs, h1, h2⟩
/-- A row of slots that came in. -/
theorem deps_in {b0 : Nat} {r : Reach} {v : Value} {d : DataW H} {p : List MemPlace} (hv : Value.okWide Try.prog W r b0 32 v) (h : DataW.Trod enc Try.prog W base spare held 32 v d p) : ∃ d1 d2 d3 d4 d5 d6 d7 : Int, v = .agg #[.int .i64 d1, .int .i64 d2, .int .i64 d3, .int .i64 d4, .int .i64 d5, .int .i64 d6, .int .i64 d7] ∧ ∀ n, n ∈ [d1, d2, d3, d4, d5, d6, d7] → I64 n := by
  obtain ⟨cs, rfl, _⟩ := agg_arr Try.underlying32 hv
  obtain ⟨fuel, hf⟩ := h
  obtain ⟨d1, d2, d3, d4, d5, d6, d7, e, ok⟩ := deps_cells hf
  exact ⟨d1, d2, d3, d4, d5, d6, d7, congrArg Value.agg (Array.toList_inj.1 (by simpa [Value.cells] using e)), ok⟩
end
end Go.Proofs.Ytfihcgimgngmhaa
/- Commands as values, by themselves and in slices that come in. No condition. -/
namespace Go.Proofs.Ytfihcgimgngmhaa
set_option maxRecDepth 100000
open Go.ChangeShapes Go.WideShapes Go.ChangeAt Go.RowKit Go.Joins
/-- A command. -/
structure Cm where
  k : Int
  c : Int
  q : Int
  key : ByteArray
  en : ByteArray
  old : ByteArray
  val : ByteArray
/-- Its cells. -/
def Cm.l (x : Cm) : List Value := [.int .i64 x.k, .int .i64 x.c, .int .i64 x.q, .string x.key, .string x.en, .string x.old, .string x.val]
structure CmOk (x : Cm) : Prop where
  k : -9223372036854775808 ≤ x.k ∧ x.k ≤ 9223372036854775807
  c : -9223372036854775808 ≤ x.c ∧ x.c ≤ 9223372036854775807
  q : -9223372036854775808 ≤ x.q ∧ x.q ≤ 9223372036854775807
  key : x.key.size ≤ 140737488351232
  en : x.en.size ≤ 140737488351232
  old : x.old.size ≤ 140737488351232
  val : x.val.size ≤ 140737488351232
theorem Try.cells29 : Try.prog.cellsOf 29 = 7 := by kernel_rfl
/-- What the seven cells of a command hold. -/
theorem cmd_cells {H : Type} {enc : TypeId × Value → H} {W : World} {base fuel : Nat} {spare : Nat → Bool} {held : Bool} {cs : List Value} {x : DataW H × List MemPlace}
    (ht : DataW.trod enc Try.prog W base spare held fuel 29 cs = some x)
    (hsz : ∀ n ∈ x.1.weights Try.prog 29, n ≤ reachBytes) : ∃ y : Cm, cs = y.l ∧ CmOk y := by
  obtain ⟨ys, n', _, rfl, hlen, hyl, hfs⟩ := DataW.trod_struct Try.underlying29 ht
  rw [Try.cells29] at hlen
  have hyl7 : ys.length = 7 := hyl
  obtain ⟨y0, y1, y2, y3, y4, y5, y6, rfl⟩ : ∃ y0 y1 y2 y3 y4 y5 y6, ys = [y0, y1, y2, y3, y4, y5, y6] := by
    match ys, hyl7 with
    | [y0, y1, y2, y3, y4, y5, y6], _ => exact ⟨y0, y1, y2, y3, y4, y5, y6, rfl⟩
  obtain ⟨c0, c1, c2, c3, c4, c5, c6, rfl⟩ : ∃ c0 c1 c2 c3 c4 c5 c6, cs = [c0, c1, c2, c3, c4, c5, c6] := by
    match cs, hlen with
    | [c0, c1, c2, c3, c4, c5, c6], _ => exact ⟨c0, c1, c2, c3, c4, c5, c6, rfl⟩
  have g0 := hfs 0 _ rfl
  have g1 := hfs 1 _ rfl
  have g2 := hfs 2 _ rfl
  have g3 := hfs 3 _ rfl
  have g4 := hfs 4 _ rfl
  have g5 := hfs 5 _ rfl
  have g6 := hfs 6 _ rfl
  clear hfs
  change DataW.trod enc Try.prog W base spare held n' 3 (([c0, c1, c2, c3, c4, c5, c6].drop 0).take (Try.prog.cellsOf 3)) = some y0 at g0
  change DataW.trod enc Try.prog W base spare held n' 3 (([c0, c1, c2, c3, c4, c5, c6].drop 1).take (Try.prog.cellsOf 3)) = some y1 at g1
  change DataW.trod enc Try.prog W base spare held n' 3 (([c0, c1, c2, c3, c4, c5, c6].drop 2).take (Try.prog.cellsOf 3)) = some y2 at g2
  change DataW.trod enc Try.prog W base spare held n' 9 (([c0, c1, c2, c3, c4, c5, c6].drop 3).take (Try.prog.cellsOf 9)) = some y3 at g3
  change DataW.trod enc Try.prog W base spare held n' 9 (([c0, c1, c2, c3, c4, c5, c6].drop 4).take (Try.prog.cellsOf 9)) = some y4 at g4
  change DataW.trod enc Try.prog W base spare held n' 9 (([c0, c1, c2, c3, c4, c5, c6].drop 5).take (Try.prog.cellsOf 9)) = some y5 at g5
  change DataW.trod enc Try.prog W base spare held n' 9 (([c0, c1, c2, c3, c4, c5, c6].drop 6).take (Try.prog.cellsOf 9)) = some y6 at g6
  rw [Try.cells3] at g0 g1 g2
  rw [Try.cells9] at g3 g4 g5 g6
  obtain ⟨k, e0, _, w0⟩ := DataW.trod_int Try.underlying3 g0
  obtain ⟨c, e1, _, w1⟩ := DataW.trod_int Try.underlying3 g1
  obtain ⟨q, e2, _, w2⟩ := DataW.trod_int Try.underlying3 g2
  obtain ⟨a, e3, f3, _⟩ := DataW.trod_string Try.underlying9 g3
  obtain ⟨b, e4, f4, _⟩ := DataW.trod_string Try.underlying9 g4
  obtain ⟨o, e5, f5, _⟩ := DataW.trod_string Try.underlying9 g5
  obtain ⟨v, e6, f6, _⟩ := DataW.trod_string Try.underlying9 g6
  subst f3 f4 f5 f6
  simp at e0 e1 e2 e3 e4 e5 e6
  subst e0 e1 e2 e3 e4 e5 e6
  have hr : reachBytes = 140737488351232 := rfl
  rw [hr] at hsz
  have hw : ∀ s : ByteArray, (∃ l r : List (DataW H), (DataW.agg ([y0, y1, y2, (.lit (.string a.data.toList), []), (.lit (.string b.data.toList), []), (.lit (.string o.data.toList), []), (.lit (.string v.data.toList), [])].map (·.1)) : DataW H) = .agg (l ++ .lit (.string s.data.toList) :: r) ∧ l.length < 7 ∧ 2 < l.length) → s.size ≤ 140737488351232 := by
    rintro s ⟨l, r, he, hl, hl3⟩
    refine hsz s.data.toList.length ?_
    rw [he]
    unfold DataW.weights
    rw [Try.underlying29]
    have hj : (l ++ (DataW.lit (.string s.data.toList) : DataW H) :: r)[l.length]? = some (.lit (.string s.data.toList)) := by simp
    have ht : ∃ t, ([3, 3, 3, 9, 9, 9, 9] : List TypeId)[l.length]? = some t := ⟨_, List.getElem?_eq_getElem (by simpa using hl)⟩
    obtain ⟨t, ht⟩ := ht
    exact DataW.weights_mem_each (ts := [3, 3, 3, 9, 9, 9, 9]) ht hj _ (by simp [DataW.weights])
  exact ⟨⟨k, c, q, a, b, o, v⟩, rfl, bounds_i64 w0, bounds_i64 w1, bounds_i64 w2, hw a ⟨[y0.1, y1.1, y2.1], _, rfl, by simp, by simp⟩, hw b ⟨[y0.1, y1.1, y2.1, _], _, rfl, by simp, by simp⟩,
    hw o ⟨[y0.1, y1.1, y2.1, _, _], _, rfl, by simp, by simp⟩, hw v ⟨[y0.1, y1.1, y2.1, _, _, _], _, rfl, by simp, by simp⟩⟩
/-- A command that came in. -/
theorem cmd_in {H : Type} {enc : TypeId × Value → H} {W : World} {base b0 : Nat} {spare : Nat → Bool} {held : Bool} {r : Reach} {v : Value} {d : DataW H} {p : List MemPlace} {ts : List TypeId} {ds : List (DataW H)} {j : Nat}
    (hv : Value.okWide Try.prog W r b0 29 v) (h : DataW.Trod enc Try.prog W base spare held 29 v d p) (hsz : (DataW.weightsEach Try.prog ts ds).all (· ≤ reachBytes) = true) (ht : ts[j]? = some 29) (hd : ds[j]? = some d) :
    ∃ y : Cm, v = .agg #[.int .i64 y.k, .int .i64 y.c, .int .i64 y.q, .string y.key, .string y.en, .string y.old, .string y.val] ∧ CmOk y := by
  obtain ⟨cs, rfl, hcs⟩ := okWide_struct Try.underlying29 hv
  obtain ⟨fuel, hf⟩ := h
  obtain ⟨y, hy, ok⟩ := cmd_cells hf fun n hn => by
    have := List.all_eq_true.1 hsz _ (DataW.weights_mem_each ht hd n hn)
    simpa using this
  have e : cs.toList = y.l := hy
  refine ⟨y, ?_, ok⟩
  obtain ⟨l⟩ := cs
  simp only at e
  rw [e]; rfl
/-- What lies at command j of a slice that begins at ⟨b, off⟩. -/
structure CmAt (w : World) (b off j : Nat) (x : Cm) : Prop where
  c0 : w.cell? ⟨b, off + j * 7, none⟩ = some (.int .i64 x.k)
  c1 : w.cell? ⟨b, off + j * 7 + 1, none⟩ = some (.int .i64 x.c)
  c2 : w.cell? ⟨b, off + j * 7 + 2, none⟩ = some (.int .i64 x.q)
  c3 : w.cell? ⟨b, off + j * 7 + 3, none⟩ = some (.string x.key)
  c4 : w.cell? ⟨b, off + j * 7 + 4, none⟩ = some (.string x.en)
  c5 : w.cell? ⟨b, off + j * 7 + 5, none⟩ = some (.string x.old)
  c6 : w.cell? ⟨b, off + j * 7 + 6, none⟩ = some (.string x.val)
theorem CmAt.below {w w' : World} {B b off j : Nat} {x : Cm} (h : CmAt w b off j x) (hb : Below B w w') (hl : b < B) : CmAt w' b off j x :=
  ⟨(hb.cell (p := ⟨b, off + j * 7, none⟩) hl).trans h.c0, (hb.cell (p := ⟨b, off + j * 7 + 1, none⟩) hl).trans h.c1, (hb.cell (p := ⟨b, off + j * 7 + 2, none⟩) hl).trans h.c2, (hb.cell (p := ⟨b, off + j * 7 + 3, none⟩) hl).trans h.c3,
    (hb.cell (p := ⟨b, off + j * 7 + 4, none⟩) hl).trans h.c4, (hb.cell (p := ⟨b, off + j * 7 + 5, none⟩) hl).trans h.c5, (hb.cell (p := ⟨b, off + j * 7 + 6, none⟩) hl).trans h.c6⟩
/-- A slice of commands that came in. -/
structure CmsIn (w : World) (A : Option Addr) (n c : Nat) (it : Nat → Cm) : Prop where
  le : n ≤ c
  room : c ≤ 9223372036854775807
  ok : ∀ j, j < n → CmOk (it j)
  at_ : ∀ j, j < n → ∃ b off, A = some ⟨b, off, none⟩ ∧ b < w.heap.size ∧ CmAt w b off j (it j)
theorem c_weights_all {H : Type} {P : Program} {e : TypeId} : ∀ {ds : List (DataW H)} {d : DataW H}, d ∈ ds → ∀ n ∈ d.weights P e, n ∈ DataW.weightsAll P e ds
  | x :: r, d, hd, n, hn => by
    rw [DataW.weightsAll, List.mem_append]
    rcases List.mem_cons.1 hd with rfl | hd
    · exact .inl hn
    · exact .inr (c_weights_all hd n hn)
theorem cmds_in {H : Type} {enc : TypeId × Value → H} {W : World} {A : Option Addr} {n c : Nat} {d : DataW H} {p : List MemPlace} {ts : List TypeId} {ds : List (DataW H)} {j : Nat}
    (h : DataW.Trod enc Try.prog W 0 (fun _ => true) true 43 (.slice A n c) d p) (hsz : (DataW.weightsEach Try.prog ts ds).all (· ≤ reachBytes) = true) (ht : ts[j]? = some 43) (hd : ds[j]? = some d) : ∃ it, CmsIn W A n c it := by
  obtain ⟨fuel, hf⟩ := h
  have hw : ∀ n ∈ d.weights Try.prog 43, n ≤ reachBytes := fun n hn => by
    have := List.all_eq_true.1 hsz _ (DataW.weights_mem_each ht hd n hn)
    simpa using this
  rcases Go.Deep.open_slice Try.underlying43 hf with ⟨hcs, _⟩ | ⟨a, len, cap, m, nf, D, Pl, hcs, _, hl, hm, hmm, hx, hi⟩
  · simp [Value.cells] at hcs
    obtain ⟨rfl, rfl, rfl⟩ := hcs
    exact ⟨fun _ => ⟨0, 0, 0, ⟨#[]⟩, ⟨#[]⟩, ⟨#[]⟩, ⟨#[]⟩⟩, Nat.le_refl _, by omega, fun j hj => absurd hj (by omega), fun j hj => absurd hj (by omega)⟩
  · simp [Value.cells] at hcs
    obtain ⟨rfl, rfl, rfl⟩ := hcs
    have hmc : m = c := by simpa using hmm
    simp only [Prod.mk.injEq] at hx
    have hx1 := hx.1
    have each : ∀ j, j < n → ∃ x : Cm, CmOk x ∧ ∃ b off, a = ⟨b, off, none⟩ ∧ b < W.heap.size ∧ CmAt W b off j x := by
      intro j hj
      obtain ⟨cs', hc, ht'⟩ := hi j (by omega)
      rw [Try.cells29] at hc
      obtain ⟨_, hlen, hat⟩ := World.cells?_some hc
      obtain ⟨x, rfl, ok⟩ := cmd_cells ht' fun k hk => by
        apply hw
        rw [hx1]
        unfold DataW.weights
        rw [Try.underlying43]
        refine List.mem_cons_of_mem _ (List.mem_append_left _ (c_weights_all (d := D j) ?_ k hk))
        exact List.mem_map.2 ⟨j, List.mem_range.2 hj, rfl⟩
      have hsp : a.spot = none := by
        obtain ⟨cs0, hc0, ht0⟩ := hi 0 (by omega)
        rw [Try.cells29] at hc0
        obtain ⟨_, hlen0, hat0⟩ := World.cells?_some hc0
        have h0 := hat0 0 (by omega)
        rw [List.getElem?_eq_getElem (by omega)] at h0
        have := World.cell?_spot h0
        unfold Addr.add at this
        simpa using this
      obtain ⟨b, off, spot⟩ := a
      obtain rfl : spot = none := hsp
      have a0 := hat 0 (by omega)
      have a1 := hat 1 (by omega)
      have a2 := hat 2 (by omega)
      have a3 := hat 3 (by omega)
      have a4 := hat 4 (by omega)
      have a5 := hat 5 (by omega)
      have a6 := hat 6 (by omega)
      rw [Go.WideShapes.add_plain, Go.WideShapes.add_plain] at a0 a1 a2 a3 a4 a5 a6
      refine ⟨x, ok, b, off, rfl, ?_, a0, a1, a2, a3, a4, a5, a6⟩
      rcases Nat.lt_or_ge b W.heap.size with h1 | h1
      · exact h1
      · simp [World.cell?, Array.getElem?_eq_none h1, Cm.l] at a0
    refine ⟨fun j => if h : j < n then Classical.choose (each j h) else ⟨0, 0, 0, ⟨#[]⟩, ⟨#[]⟩, ⟨#[]⟩, ⟨#[]⟩⟩, hl, hm, fun j hj => ?_, fun j hj => ?_⟩
    · obtain ⟨ok, _⟩ := Classical.choose_spec (each j hj)
      simp only [dif_pos hj]
      exact ok
    · obtain ⟨_, b, off, rfl, hb, hx⟩ := Classical.choose_spec (each j hj)
      refine ⟨b, off, rfl, hb, ?_⟩
      simp only [dif_pos hj]
      exact hx
end Go.Proofs.Ytfihcgimgngmhaa
/- The calls of layer 14's laws, as they come in. No condition. -/
namespace Go.Proofs.Ytfihcgimgngmhaa
set_option maxRecDepth 100000
open Go.ChangeShapes Go.WideShapes Go.ChangeAt Go.RowKit Go.Joins
/-- A call: its kind, a number, an instance, a command, slots. -/
structure Ia where
  k : Int
  q : Int
  r : Int
  s : Int
  c : Cm
  u0 : Int
  u1 : Int
  u2 : Int
  u3 : Int
  u4 : Int
  u5 : Int
  u6 : Int
def Ia.u (x : Ia) : List Int := [x.u0, x.u1, x.u2, x.u3, x.u4, x.u5, x.u6]
def Ia.l (x : Ia) : List Value := [.int .i64 x.k, .int .i64 x.q, .int .i64 x.r, .int .i64 x.s, .int .i64 x.c.k, .int .i64 x.c.c, .int .i64 x.c.q, .string x.c.key, .string x.c.en, .string x.c.old, .string x.c.val, .int .i64 x.u0, .int .i64 x.u1, .int .i64 x.u2, .int .i64 x.u3, .int .i64 x.u4, .int .i64 x.u5, .int .i64 x.u6]
structure IaOk (x : Ia) : Prop where
  k : I64 x.k
  q : I64 x.q
  r : I64 x.r
  s : I64 x.s
  c : CmOk x.c
  u : ∀ n, n ∈ x.u → I64 n
theorem Try.cells48 : Try.prog.cellsOf 48 = 18 := by kernel_rfl
theorem Try.bytes48 : Try.prog.bytesOf 48 = 176 := by kernel_rfl
theorem inst_cells {H : Type} {enc : TypeId × Value → H} {W : World} {fuel : Nat} {cs : List Value} {x : DataW H × List MemPlace}
    (ht : DataW.trod enc Try.prog W 0 (fun _ => true) true fuel 26 cs = some x) : ∃ a b : Int, cs = [.int .i64 a, .int .i64 b] ∧ I64 a ∧ I64 b := by
  obtain ⟨ys, n', _, _, hlen, hyl, hfs⟩ := DataW.trod_struct Try.underlying26 ht
  rw [Try.cells26] at hlen
  have hyl2 : ys.length = 2 := hyl
  obtain ⟨y0, y1, rfl⟩ : ∃ y0 y1, ys = [y0, y1] := by
    match ys, hyl2 with
    | [y0, y1], _ => exact ⟨y0, y1, rfl⟩
  obtain ⟨c0, c1, rfl⟩ : ∃ c0 c1, cs = [c0, c1] := by
    match cs, hlen with
    | [c0, c1], _ => exact ⟨c0, c1, rfl⟩
  have g0 := hfs 0 _ rfl
  have g1 := hfs 1 _ rfl
  clear hfs
  change DataW.trod enc Try.prog W 0 (fun _ => true) true n' 3 (([c0, c1].drop 0).take (Try.prog.cellsOf 3)) = some y0 at g0
  change DataW.trod enc Try.prog W 0 (fun _ => true) true n' 3 (([c0, c1].drop 1).take (Try.prog.cellsOf 3)) = some y1 at g1
  rw [Try.cells3] at g0 g1
  obtain ⟨a, e0, _, w0⟩ := DataW.trod_int Try.underlying3 g0
  obtain ⟨b, e1, _, w1⟩ := DataW.trod_int Try.underlying3 g1
  simp at e0 e1
  subst e0 e1
  exact ⟨a, b, rfl, bounds_i64 w0, bounds_i64 w1⟩
theorem len18 {α : Type} {l : List α} (h : l.length = 18) : ∃ c0 c1 c2 c3 c4 c5 c6 c7 c8 c9 c10 c11 c12 c13 c14 c15 c16 c17, l = [c0, c1, c2, c3, c4, c5, c6, c7, c8, c9, c10, c11, c12, c13, c14, c15, c16, c17] := by
  match l, h with
  | [c0, c1, c2, c3, c4, c5, c6, c7, c8, c9, c10, c11, c12, c13, c14, c15, c16, c17], _ => exact ⟨c0, c1, c2, c3, c4, c5, c6, c7, c8, c9, c10, c11, c12, c13, c14, c15, c16, c17, rfl⟩
theorem iask_cells {H : Type} {enc : TypeId × Value → H} {W : World} {fuel : Nat} {cs : List Value} {x : DataW H × List MemPlace}
    (ht : DataW.trod enc Try.prog W 0 (fun _ => true) true fuel 48 cs = some x) (hw : ∀ n ∈ x.1.weights Try.prog 48, n ≤ reachBytes) : ∃ y : Ia, cs = y.l ∧ IaOk y := by
  obtain ⟨ys, n', _, rfl, hlen, hyl, hfs⟩ := DataW.trod_struct Try.underlying48 ht
  rw [Try.cells48] at hlen
  have hyl5 : ys.length = 5 := hyl
  obtain ⟨y0, y1, y2, y3, y4, rfl⟩ : ∃ y0 y1 y2 y3 y4, ys = [y0, y1, y2, y3, y4] := by
    match ys, hyl5 with
    | [y0, y1, y2, y3, y4], _ => exact ⟨y0, y1, y2, y3, y4, rfl⟩
  obtain ⟨c0, c1, c2, c3, c4, c5, c6, c7, c8, c9, c10, c11, c12, c13, c14, c15, c16, c17, rfl⟩ := len18 hlen
  have g0 := hfs 0 _ rfl
  have g1 := hfs 1 _ rfl
  have g2 := hfs 2 _ rfl
  have g3 := hfs 3 _ rfl
  have g4 := hfs 4 _ rfl
  clear hfs
  change DataW.trod enc Try.prog W 0 (fun _ => true) true n' 3 (([c0, c1, c2, c3, c4, c5, c6, c7, c8, c9, c10, c11, c12, c13, c14, c15, c16, c17].drop 0).take (Try.prog.cellsOf 3)) = some y0 at g0
  change DataW.trod enc Try.prog W 0 (fun _ => true) true n' 3 (([c0, c1, c2, c3, c4, c5, c6, c7, c8, c9, c10, c11, c12, c13, c14, c15, c16, c17].drop 1).take (Try.prog.cellsOf 3)) = some y1 at g1
  change DataW.trod enc Try.prog W 0 (fun _ => true) true n' 26 (([c0, c1, c2, c3, c4, c5, c6, c7, c8, c9, c10, c11, c12, c13, c14, c15, c16, c17].drop 2).take (Try.prog.cellsOf 26)) = some y2 at g2
  change DataW.trod enc Try.prog W 0 (fun _ => true) true n' 29 (([c0, c1, c2, c3, c4, c5, c6, c7, c8, c9, c10, c11, c12, c13, c14, c15, c16, c17].drop 4).take (Try.prog.cellsOf 29)) = some y3 at g3
  change DataW.trod enc Try.prog W 0 (fun _ => true) true n' 32 (([c0, c1, c2, c3, c4, c5, c6, c7, c8, c9, c10, c11, c12, c13, c14, c15, c16, c17].drop 11).take (Try.prog.cellsOf 32)) = some y4 at g4
  rw [Try.cells3] at g0 g1
  rw [Try.cells26] at g2
  rw [Try.cells29] at g3
  rw [show Try.prog.cellsOf 32 = 7 by kernel_rfl] at g4
  obtain ⟨k, e0, _, w0⟩ := DataW.trod_int Try.underlying3 g0
  obtain ⟨q, e1, _, w1⟩ := DataW.trod_int Try.underlying3 g1
  obtain ⟨r, s, e2, wr, ws⟩ := inst_cells g2
  obtain ⟨c, e3, hc⟩ := cmd_cells g3 fun n hn => by
    apply hw
    unfold DataW.weights
    rw [Try.underlying48]
    exact DataW.weights_mem_each (ts := [3, 3, 26, 29, 32]) (j := 3) rfl rfl n hn
  obtain ⟨u0, u1, u2, u3, u4, u5, u6, e4, hu⟩ := deps_cells g4
  obtain ⟨ck, cc, cq, ca, cb, co, cv⟩ := c
  unfold Cm.l at e3
  simp at e0 e1 e2 e3 e4
  obtain ⟨e2a, e2b⟩ := e2
  obtain ⟨e3a, e3b, e3c, e3d, e3e, e3f, e3g⟩ := e3
  obtain ⟨e4a, e4b, e4c, e4d, e4e, e4f, e4g⟩ := e4
  subst e0 e1 e2a e2b e3a e3b e3c e3d e3e e3f e3g e4a e4b e4c e4d e4e e4f e4g
  exact ⟨⟨k, q, r, s, ⟨ck, cc, cq, ca, cb, co, cv⟩, u0, u1, u2, u3, u4, u5, u6⟩, rfl, bounds_i64 w0, bounds_i64 w1, wr, ws, hc, hu⟩
/-- A slice of calls that came in. -/
structure IasIn (w : World) (A : Option Addr) (n c : Nat) (l : List Ia) : Prop where
  len : l.length = n
  le : n ≤ c
  room : c ≤ 9223372036854775807
  ok : ∀ y ∈ l, IaOk y
  lies : Els 18 w A (l.map Ia.l)
theorem iasks_in {H : Type} {enc : TypeId × Value → H} {W : World} {A : Option Addr} {n c : Nat} {d : DataW H} {p : List MemPlace} {ts : List TypeId} {ds : List (DataW H)} {j : Nat}
    (h : DataW.Trod enc Try.prog W 0 (fun _ => true) true 40 (.slice A n c) d p) (hsz : (DataW.weightsEach Try.prog ts ds).all (· ≤ reachBytes) = true) (ht : ts[j]? = some 40) (hd : ds[j]? = some d) : ∃ l, IasIn W A n c l := by
  obtain ⟨fuel, hf⟩ := h
  obtain ⟨l, h1, h2, h3, _, _, h6, h7⟩ := els_in Ia.l IaOk Try.underlying40 Try.cells48 (by omega) Try.bytes48 (fun ht hw => iask_cells ht hw) hf (fun n hn => by
    have := List.all_eq_true.1 hsz _ (DataW.weights_mem_each ht hd n hn)
    simpa using this)
  exact ⟨l, h1, h2, by unfold maxLen at h3; omega, h6, h7⟩
/-- What lies at call j of a row that begins at ⟨b, off⟩. -/
def IaAt (w : World) (b off j : Nat) (x : Ia) : Prop := ∀ i, i < 18 → w.cell? ⟨b, off + j * 18 + i, none⟩ = x.l[i]?
theorem Els.ia {w : World} {A : Option Addr} {l : List Ia} {j : Nat} {x : Ia} (h : Els 18 w A (l.map Ia.l)) (hj : l[j]? = some x) : ∃ b off, A = some ⟨b, off, none⟩ ∧ b < w.heap.size ∧ IaAt w b off j x := by
  obtain ⟨b, off, e, hb, hc⟩ := Els.at_ h (by rw [List.getElem?_map, hj]; rfl)
  exact ⟨b, off, e, hb, hc⟩
theorem IaAt.below {w w' : World} {b off j : Nat} {x : Ia} (h : IaAt w b off j x) (hl : b < w.heap.size) (hb : Below w.heap.size w w') : IaAt w' b off j x := fun i hi => (hb.cell (p := ⟨b, off + j * 18 + i, none⟩) hl).trans (h i hi)
end Go.Proofs.Ytfihcgimgngmhaa
/- A region that draws its order and ends in one operation that waits for all others (a store): what its loads read need hold only till then. No condition: nothing here speaks of a program. -/
namespace Go.Proofs.Ytfihcgimgngmhaa
open Go.RowKit
section
variable {P : Program} {ops : Array Oper} {Q : Exit → Act → World → Prop} {md : Region.Mode} {S : World → Prop} {m : Nat}
/-- Does number m wait for number i itself? -/
def waits (md : Region.Mode) (ops : Array Oper) (m i : Nat) : Bool :=
  match ops[m]? with
  | some o => o.after.toList.any fun e => Region.binds md e && e.on == i
  | none => false
theorem waits_spec {i : Nat} (h : waits md ops m i = true) {listed : Array Bool} (hr : m ∈ Region.ready md ops listed) : listed.getD i false = true := by
  obtain ⟨_, o, ho, hall⟩ := mem_ready.1 hr
  unfold waits at h
  rw [ho] at h
  obtain ⟨e, he, h2⟩ := List.any_eq_true.1 h
  rw [Bool.and_eq_true, beq_iff_eq] at h2
  rw [← h2.2]
  exact hall e (Array.mem_toList_iff.1 he) h2.1
theorem getD_differ {listed : Array Bool} {i : Nat} (h : listed.getD i true = false) (k : listed.getD i false = true) : False := by
  rcases Nat.lt_or_ge i listed.size with h1 | h1
  · simp [h1] at h k; rw [h] at k; cases k
  · simp [Array.getElem?_eq_none h1] at k
/-- In whatever order; behind each operation but number m the condition S holds. -/
def anyT (P : Program) (md : Region.Mode) (ops : Array Oper) (Q : Exit → Act → World → Prop) (S : World → Prop) (m : Nat) : Nat → Array Bool → Act → World → Prop
  | 0, listed, a, w => wpAny P md ops Q 0 listed a w
  | n + 1, listed, a, w => (Region.ready md ops listed = [] → Q .normal a w) ∧
    ∀ i, i ∈ Region.ready md ops listed → wpOp P ops Q i (fun a' w' => (i ≠ m → S w') ∧ anyT P md ops Q S m n (listed.setIfInBounds i true) a' w') a w
theorem any_of_T : ∀ {n : Nat} {listed : Array Bool} {a : Act} {w : World}, anyT P md ops Q S m n listed a w → wpAny P md ops Q n listed a w
  | 0, _, _, _, h => h
  | _ + 1, _, _, _, h => ⟨h.1, fun i hi => wpOp_mono (fun _ _ k => any_of_T k.2) (h.2 i hi)⟩
/-- One that reads, and for which number m waits, may go first. -/
theorem anyT_take {i : Nat} {oi : Oper} {v : Value} (hi : ops[i]? = some oi) (hs : Region.noSelect ops = true) (hw : waits md ops m i = true) (hQ : ∀ c a w, Q (.panic c) (a.put oi.dst v) w → Q (.panic c) a w) :
    ∀ {n : Nat} {listed : Array Bool} {a : Act} {w : World}, Region.free md ops listed i = true → (Region.ready md ops listed).contains i = true → YieldsIf P ops S oi v a → S w →
      anyT P md ops Q S m n (listed.setIfInBounds i true) (a.put oi.dst v) w → anyT P md ops Q S m (n + 1) listed a w := by
  have hsel := Region.noSelect_spec hs
  have main : ∀ (n : Nat) (listed : Array Bool) (a : Act) (w : World),
      (∀ j oj, ops[j]? = some oj → j ≠ i → listed.getD j true = false → (∀ e ∈ oj.after, Region.binds md e = true → e.on ≠ i) → oi.apart ops oj = true) →
      i ∈ Region.ready md ops listed → YieldsIf P ops S oi v a → S w → anyT P md ops Q S m n (listed.setIfInBounds i true) (a.put oi.dst v) w → anyT P md ops Q S m (n + 1) listed a w := by
    intro n
    induction n with
    | zero =>
      intro listed a w _ hr hy hS H
      have H' : Region.ready md ops (listed.setIfInBounds i true) = [] ∧ Q .normal (a.put oi.dst v) w := H
      refine ⟨fun h0 => absurd (h0 ▸ hr) (by simp), fun j hj => ?_⟩
      rcases Classical.em (j = i) with rfl | hji
      · exact hy.wpOp hi hS ⟨fun _ => hS, H⟩
      · exact absurd (H'.1 ▸ ready_mono hj hji) (by simp)
    | succ n ih =>
      intro listed a w hfree hr hy hS H
      refine ⟨fun h0 => absurd (h0 ▸ hr) (by simp), fun j hj => ?_⟩
      rcases Classical.em (j = i) with rfl | hji
      · exact hy.wpOp hi hS ⟨fun _ => hS, H⟩
      · have hun := (mem_ready.1 hr).1
        have hjm : j ≠ m := fun e => getD_differ hun (waits_spec hw (e ▸ hj))
        obtain ⟨hju, oj, hoj, hall⟩ := mem_ready.1 hj
        have hno : ∀ e ∈ oj.after, Region.binds md e = true → e.on ≠ i := fun e he hb k => getD_differ hun (by rw [← k]; exact hall e he hb)
        have step := wpOp_putIf hoj (hfree j oj hoj hji hju hno) (fun cs b => hsel i oi cs b hi) (fun cs b => hsel j oj cs b hoj) hQ hy (H.2 j (ready_mono hj hji))
        refine wpOp_mono (fun a' w' k => ⟨k.2.1, ih (listed.setIfInBounds j true) a' w' (fun x ox hox hxi hxu hxno => hfree x ox hox hxi ?_ hxno) (ready_mono hr (Ne.symm hji)) k.1 (k.2.1 hjm) ?_⟩) step
        · rcases Classical.em (j = x) with rfl | hjx
          · exact hju
          · rwa [getD_set_ne true hjx] at hxu
        · rw [Array.setIfInBounds_comm _ _ hji]
          exact k.2.2
  intro n listed a w hf hr hy hS h
  exact main n listed a w (Region.free_spec hi hf) (by simpa using hr) hy hS h
theorem wp_region_T {id : Nat} {a : Act} {w : World} (m : Nat) (S : World → Prop) (hm : P.follows .mixedOrders = true) (h : anyT P .any ops Q S m ops.size (Array.replicate ops.size false) a w.drew) : (Code.region id ops true).wp P Q a w :=
  wp_region_any hm (any_of_T h)
theorem anyT_done {n : Nat} {listed : Array Bool} {a : Act} {w : World} (hr : Region.ready md ops listed = []) (h : Q .normal a w) : anyT P md ops Q S m n listed a w := by
  cases n with
  | zero => exact ⟨hr, h⟩
  | succ n => exact ⟨fun _ => h, fun i hi => by rw [hr] at hi; cases hi⟩
theorem stepT {n i : Nat} {o : Oper} {listed : Array Bool} {a : Act} {w : World} (ho : ops[i]? = some o)
    (h : ∀ K' : Act → World → Prop, Shut (∀ a w, (i ≠ m → S w) → anyT P md ops Q S m n (listed.setIfInBounds i true) a w → K' a w) → if Region.wanted o (yielded ops a.tmps) = true then Oper.wp P o a w K' Q else K' (a.put o.dst undef) w) :
    wpOp P ops Q i (fun a' w' => (i ≠ m → S w') ∧ anyT P md ops Q S m n (listed.setIfInBounds i true) a' w') a w :=
  wpOp_step ho fun K' hK => h K' fun a w h1 h2 => hK a w ⟨h1, h2⟩
theorem anyT_one {n i : Nat} {o : Oper} {listed : Array Bool} {a : Act} {w : World} (hr : Region.ready md ops listed = [i]) (ho : ops[i]? = some o)
    (h : ∀ K' : Act → World → Prop, Shut (∀ a w, (i ≠ m → S w) → anyT P md ops Q S m n (listed.setIfInBounds i true) a w → K' a w) → if Region.wanted o (yielded ops a.tmps) = true then Oper.wp P o a w K' Q else K' (a.put o.dst undef) w) :
    anyT P md ops Q S m (n + 1) listed a w :=
  ⟨fun h0 => (by rw [h0] at hr; cases hr), fun j hj => (by
    rw [hr] at hj
    obtain rfl := List.mem_singleton.1 hj
    exact stepT ho h)⟩
theorem anyT_two {n i j : Nat} {o p : Oper} {listed : Array Bool} {a : Act} {w : World} (hr : Region.ready md ops listed = [i, j]) (ho : ops[i]? = some o) (hp : ops[j]? = some p)
    (h : ∀ K' : Act → World → Prop, Shut (∀ a w, (i ≠ m → S w) → anyT P md ops Q S m n (listed.setIfInBounds i true) a w → K' a w) → if Region.wanted o (yielded ops a.tmps) = true then Oper.wp P o a w K' Q else K' (a.put o.dst undef) w)
    (k : ∀ K' : Act → World → Prop, Shut (∀ a w, (j ≠ m → S w) → anyT P md ops Q S m n (listed.setIfInBounds j true) a w → K' a w) → if Region.wanted p (yielded ops a.tmps) = true then Oper.wp P p a w K' Q else K' (a.put p.dst undef) w) :
    anyT P md ops Q S m (n + 1) listed a w :=
  ⟨fun h0 => (by rw [h0] at hr; cases hr), fun x hx => (by
    rw [hr] at hx
    rcases List.mem_cons.1 hx with rfl | hx
    · exact stepT ho h
    · obtain rfl := List.mem_singleton.1 hx
      exact stepT hp k)⟩
end
end Go.Proofs.Ytfihcgimgngmhaa
/- A region that draws its order and ends in one operation, number m, that waits for the others: what its loads read need hold only till number m is done; what may come behind m need not keep it. No condition: nothing here speaks of a program. -/
namespace Go.Proofs.Ytfihcgimgngmhaa
open Go.RowKit
section
variable {P : Program} {ops : Array Oper} {Q : Exit → Act → World → Prop} {md : Region.Mode} {S : World → Prop} {m : Nat}
/-- In whatever order; behind each operation but number m the condition S holds. -/
def anyU (P : Program) (md : Region.Mode) (ops : Array Oper) (Q : Exit → Act → World → Prop) (S : World → Prop) (m : Nat) : Nat → Array Bool → Act → World → Prop
  | 0, listed, a, w => wpAny P md ops Q 0 listed a w
  | n + 1, listed, a, w => (Region.ready md ops listed = [] → Q .normal a w) ∧
    ∀ i, i ∈ Region.ready md ops listed → wpOp P ops Q i (fun a' w' => (i ≠ m → listed.getD m true = false → S w') ∧ anyU P md ops Q S m n (listed.setIfInBounds i true) a' w') a w
theorem any_of_U : ∀ {n : Nat} {listed : Array Bool} {a : Act} {w : World}, anyU P md ops Q S m n listed a w → wpAny P md ops Q n listed a w
  | 0, _, _, _, h => h
  | _ + 1, _, _, _, h => ⟨h.1, fun i hi => wpOp_mono (fun _ _ k => any_of_U k.2) (h.2 i hi)⟩
/-- One that reads, and for which number m waits, may go first. -/
theorem anyU_take {i : Nat} {oi : Oper} {v : Value} (hi : ops[i]? = some oi) (hs : Region.noSelect ops = true) (hw : waits md ops m i = true) (him : (i == m) = false) (hQ : ∀ c a w, Q (.panic c) (a.put oi.dst v) w → Q (.panic c) a w) :
    ∀ {n : Nat} {listed : Array Bool} {a : Act} {w : World}, listed.getD m true = false → Region.free md ops listed i = true → (Region.ready md ops listed).contains i = true → YieldsIf P ops S oi v a → S w →
      anyU P md ops Q S m n (listed.setIfInBounds i true) (a.put oi.dst v) w → anyU P md ops Q S m (n + 1) listed a w := by
  have hsel := Region.noSelect_spec hs
  have hne : i ≠ m := fun e => by subst e; simp at him
  have main : ∀ (n : Nat) (listed : Array Bool) (a : Act) (w : World), listed.getD m true = false →
      (∀ j oj, ops[j]? = some oj → j ≠ i → listed.getD j true = false → (∀ e ∈ oj.after, Region.binds md e = true → e.on ≠ i) → oi.apart ops oj = true) →
      i ∈ Region.ready md ops listed → YieldsIf P ops S oi v a → S w → anyU P md ops Q S m n (listed.setIfInBounds i true) (a.put oi.dst v) w → anyU P md ops Q S m (n + 1) listed a w := by
    intro n
    induction n with
    | zero =>
      intro listed a w hlm _ hr hy hS H
      have H' : Region.ready md ops (listed.setIfInBounds i true) = [] ∧ Q .normal (a.put oi.dst v) w := H
      refine ⟨fun h0 => absurd (h0 ▸ hr) (by simp), fun j hj => ?_⟩
      rcases Classical.em (j = i) with rfl | hji
      · exact hy.wpOp hi hS ⟨fun _ _ => hS, H⟩
      · exact absurd (H'.1 ▸ ready_mono hj hji) (by simp)
    | succ n ih =>
      intro listed a w hlm hfree hr hy hS H
      refine ⟨fun h0 => absurd (h0 ▸ hr) (by simp), fun j hj => ?_⟩
      rcases Classical.em (j = i) with rfl | hji
      · exact hy.wpOp hi hS ⟨fun _ _ => hS, H⟩
      · have hun := (mem_ready.1 hr).1
        have hjm : j ≠ m := fun e => getD_differ hun (waits_spec hw (e ▸ hj))
        obtain ⟨hju, oj, hoj, hall⟩ := mem_ready.1 hj
        have hno : ∀ e ∈ oj.after, Region.binds md e = true → e.on ≠ i := fun e he hb k => getD_differ hun (by rw [← k]; exact hall e he hb)
        have step := wpOp_putIf hoj (hfree j oj hoj hji hju hno) (fun cs b => hsel i oi cs b hi) (fun cs b => hsel j oj cs b hoj) hQ hy (H.2 j (ready_mono hj hji))
        refine wpOp_mono (fun a' w' k => ⟨fun h1 _ => k.2.1 h1 (by rw [getD_set_ne true hne]; exact hlm), ih (listed.setIfInBounds j true) a' w' (by rw [getD_set_ne true hjm]; exact hlm) (fun x ox hox hxi hxu hxno => hfree x ox hox hxi ?_ hxno) (ready_mono hr (Ne.symm hji)) k.1 (k.2.1 hjm (by rw [getD_set_ne true hne]; exact hlm)) ?_⟩) step
        · rcases Classical.em (j = x) with rfl | hjx
          · exact hju
          · rwa [getD_set_ne true hjx] at hxu
        · rw [Array.setIfInBounds_comm _ _ hji]
          exact k.2.2
  intro n listed a w hlm hf hr hy hS h
  exact main n listed a w hlm (Region.free_spec hi hf) (by simpa using hr) hy hS h
theorem wp_region_U {id : Nat} {a : Act} {w : World} (m : Nat) (S : World → Prop) (hm : P.follows .mixedOrders = true) (h : anyU P .any ops Q S m ops.size (Array.replicate ops.size false) a w.drew) : (Code.region id ops true).wp P Q a w :=
  wp_region_any hm (any_of_U h)
theorem anyU_done {n : Nat} {listed : Array Bool} {a : Act} {w : World} (hr : Region.ready md ops listed = []) (h : Q .normal a w) : anyU P md ops Q S m n listed a w := by
  cases n with
  | zero => exact ⟨hr, h⟩
  | succ n => exact ⟨fun _ => h, fun i hi => by rw [hr] at hi; cases hi⟩
theorem stepU {n i : Nat} {o : Oper} {listed : Array Bool} {a : Act} {w : World} (ho : ops[i]? = some o)
    (h : ∀ K' : Act → World → Prop, Shut (∀ a w, (i ≠ m → listed.getD m true = false → S w) → anyU P md ops Q S m n (listed.setIfInBounds i true) a w → K' a w) → if Region.wanted o (yielded ops a.tmps) = true then Oper.wp P o a w K' Q else K' (a.put o.dst undef) w) :
    wpOp P ops Q i (fun a' w' => (i ≠ m → listed.getD m true = false → S w') ∧ anyU P md ops Q S m n (listed.setIfInBounds i true) a' w') a w :=
  wpOp_step ho fun K' hK => h K' fun a w h1 h2 => hK a w ⟨h1, h2⟩
theorem anyU_one {n i : Nat} {o : Oper} {listed : Array Bool} {a : Act} {w : World} (hr : Region.ready md ops listed = [i]) (ho : ops[i]? = some o)
    (h : ∀ K' : Act → World → Prop, Shut (∀ a w, (i ≠ m → listed.getD m true = false → S w) → anyU P md ops Q S m n (listed.setIfInBounds i true) a w → K' a w) → if Region.wanted o (yielded ops a.tmps) = true then Oper.wp P o a w K' Q else K' (a.put o.dst undef) w) :
    anyU P md ops Q S m (n + 1) listed a w :=
  ⟨fun h0 => (by rw [h0] at hr; cases hr), fun j hj => (by
    rw [hr] at hj
    obtain rfl := List.mem_singleton.1 hj
    exact stepU ho h)⟩
theorem anyU_two {n i j : Nat} {o p : Oper} {listed : Array Bool} {a : Act} {w : World} (hr : Region.ready md ops listed = [i, j]) (ho : ops[i]? = some o) (hp : ops[j]? = some p)
    (h : ∀ K' : Act → World → Prop, Shut (∀ a w, (i ≠ m → listed.getD m true = false → S w) → anyU P md ops Q S m n (listed.setIfInBounds i true) a w → K' a w) → if Region.wanted o (yielded ops a.tmps) = true then Oper.wp P o a w K' Q else K' (a.put o.dst undef) w)
    (k : ∀ K' : Act → World → Prop, Shut (∀ a w, (j ≠ m → listed.getD m true = false → S w) → anyU P md ops Q S m n (listed.setIfInBounds j true) a w → K' a w) → if Region.wanted p (yielded ops a.tmps) = true then Oper.wp P p a w K' Q else K' (a.put p.dst undef) w) :
    anyU P md ops Q S m (n + 1) listed a w :=
  ⟨fun h0 => (by rw [h0] at hr; cases hr), fun x hx => (by
    rw [hr] at hx
    rcases List.mem_cons.1 hx with rfl | hx
    · exact stepU ho h
    · obtain rfl := List.mem_singleton.1 hx
      exact stepU hp k)⟩
theorem anyU_three {n i j k : Nat} {o p q : Oper} {listed : Array Bool} {a : Act} {w : World} (hr : Region.ready md ops listed = [i, j, k]) (ho : ops[i]? = some o) (hp : ops[j]? = some p) (hq : ops[k]? = some q)
    (h : ∀ K' : Act → World → Prop, Shut (∀ a w, (i ≠ m → listed.getD m true = false → S w) → anyU P md ops Q S m n (listed.setIfInBounds i true) a w → K' a w) → if Region.wanted o (yielded ops a.tmps) = true then Oper.wp P o a w K' Q else K' (a.put o.dst undef) w)
    (h2 : ∀ K' : Act → World → Prop, Shut (∀ a w, (j ≠ m → listed.getD m true = false → S w) → anyU P md ops Q S m n (listed.setIfInBounds j true) a w → K' a w) → if Region.wanted p (yielded ops a.tmps) = true then Oper.wp P p a w K' Q else K' (a.put p.dst undef) w)
    (h3 : ∀ K' : Act → World → Prop, Shut (∀ a w, (k ≠ m → listed.getD m true = false → S w) → anyU P md ops Q S m n (listed.setIfInBounds k true) a w → K' a w) → if Region.wanted q (yielded ops a.tmps) = true then Oper.wp P q a w K' Q else K' (a.put q.dst undef) w) :
    anyU P md ops Q S m (n + 1) listed a w :=
  ⟨fun h0 => (by rw [h0] at hr; cases hr), fun x hx => (by
    rw [hr] at hx
    rcases List.mem_cons.1 hx with rfl | hx
    · exact stepU ho h
    · rcases List.mem_cons.1 hx with rfl | hx
      · exact stepU hp h2
      · obtain rfl := List.mem_singleton.1 hx
        exact stepU hq h3)⟩
end
end Go.Proofs.Ytfihcgimgngmhaa
/- A drawn region that puts one element each behind three rows of the call's own: in whatever order its literals and appends come, the same rows are there behind it. No condition: nothing here speaks of a program. -/
namespace Go.Proofs.Ytfihcgimgngmhaa
open Go.RowKit
/-- A row of structs of the call's own. -/
def Rw (base : Nat) (e : TypeId) (sz : Nat) (w : World) (v : Value) (xs : List (List Value)) : Prop := w.ownsRow base e sz v xs.length (cellsV xs)
/-- The rows lie in two blocks. -/
def Ap (v u : Value) : Prop := ∀ g, v.ownBlock = some g → u.ownBlock ≠ some g
theorem Ap.symm {v u : Value} (h : Ap v u) : Ap u v := fun g h1 h2 => h g h2 h1
section
variable {base sz : Nat} {e : TypeId} {w w' : World} {v u : Value} {xs : List (List Value)}
theorem Rw.lt (h : Rw base e sz w v xs) : ∀ k, v.ownBlock = some k → base ≤ k ∧ k < w.heap.size := by unfold Rw at h; exact h.lt
theorem Rw.alloc (h : Rw base e sz w v xs) (o : Obj) : Rw base e sz (w.alloc o) v xs := World.ownsRow.alloc h o
theorem Rw.grown (h : Rw base e sz w v xs) (hg : w.grownBy w' u.ownBlock) (ha : Ap u v) : Rw base e sz w' v xs :=
  World.ownsRow.kept h hg (by cases hv : v.ownBlock with
    | none => exact .inl rfl
    | some g => exact .inr fun e => ha g e.symm hv)
theorem Rw.below (h : Rw base e sz w v xs) (hb : Below w.heap.size w w') : Rw base e sz w' v xs :=
  World.ownsRow.kept h (grown_below hb) (by cases hv : v.ownBlock with
    | none => exact .inl rfl
    | some g => exact .inr (by simp))
end
/-- What stays behind the region: all but three blocks. -/
structure Kp3 (r1 r2 r3 : Option Nat) (w0 w : World) : Prop where
  os : w.os = w0.os
  tape : w.tape = w0.tape
  output : w.output = w0.output
  size : w0.heap.size ≤ w.heap.size
  block : ∀ k, k < w0.heap.size → some k ≠ r1 → some k ≠ r2 → some k ≠ r3 → w.heap[k]? = w0.heap[k]?
theorem Kp3.refl (r1 r2 r3 : Option Nat) (w : World) : Kp3 r1 r2 r3 w w := ⟨rfl, rfl, rfl, Nat.le_refl _, fun _ _ _ _ _ => rfl⟩
theorem Kp3.step {r1 r2 r3 row : Option Nat} {w0 w w' : World} (h : Kp3 r1 r2 r3 w0 w) (hg : w.grownBy w' row) (hr : row = none ∨ row = r1 ∨ row = r2 ∨ row = r3) : Kp3 r1 r2 r3 w0 w' :=
  ⟨hg.os.trans h.os, hg.tape.trans h.tape, hg.output.trans h.output, Nat.le_trans h.size hg.size, fun k hk h1 h2 h3 => (hg.block k (Nat.lt_of_lt_of_le hk h.size) (by
    rcases hr with rfl | rfl | rfl | rfl
    · simp
    · exact h1
    · exact h2
    · exact h3)).trans (h.block k hk h1 h2 h3)⟩
/-- A chain: a literal of one element, appended to a row. -/
structure Chn where
  b : Nat
  d : Nat
  e : TypeId
  sz : Nat
  xs : List (List Value)
  z : List Value
  x0 : Value
def Chn.fr (c : Chn) (s : Nat) (p q : Value) (a : Act) : Act := if s = 0 then a else if s = 1 then a.put (some c.b) p else (a.put (some c.b) p).put (some c.d) q
def Chn.cur (c : Chn) (s : Nat) (q : Value) : Value := if s = 2 then q else c.x0
def Chn.rows (c : Chn) (s : Nat) : List (List Value) := if s = 2 then c.xs ++ [c.z] else c.xs
structure Chn.At (c : Chn) (base : Nat) (w : World) (s : Nat) (p q : Value) : Prop where
  row : Rw base c.e c.sz w (c.cur s q) (c.rows s)
  lit : s = 1 → ∃ g, p = .slice (some ⟨g, 0, none⟩) 1 1 ∧ Row w g c.e c.z.toArray
/-- Two chains don't touch. -/
structure Jt (c1 : Chn) (s1 : Nat) (p1 q1 : Value) (c2 : Chn) (s2 : Nat) (p2 q2 : Value) : Prop where
  ap : Ap (c1.cur s1 q1) (c2.cur s2 q2)
  o1 : s1 = 1 → ∀ g, p1 = .slice (some ⟨g, 0, none⟩) 1 1 → (c2.cur s2 q2).ownBlock ≠ some g
  o2 : s2 = 1 → ∀ g, p2 = .slice (some ⟨g, 0, none⟩) 1 1 → (c1.cur s1 q1).ownBlock ≠ some g
theorem Jt.symm {c1 c2 : Chn} {s1 s2 : Nat} {p1 q1 p2 q2 : Value} (h : Jt c1 s1 p1 q1 c2 s2 p2 q2) : Jt c2 s2 p2 q2 c1 s1 p1 q1 := ⟨h.ap.symm, h.o2, h.o1⟩
section
variable {c d : Chn} {base s : Nat} {w w' : World} {p q p' q' : Value}
theorem Chn.At.alloc (h : c.At base w s p q) (o : Obj) : c.At base (w.alloc o) s p q :=
  ⟨h.row.alloc o, fun hs => by obtain ⟨g, e, hr⟩ := h.lit hs; exact ⟨g, e, hr.alloc o⟩⟩
theorem Chn.At.build (h : c.At base w 0 p q) : c.At base (w.alloc (.cells c.z.toArray c.e)) 1 (.slice (some ⟨w.heap.size, 0, none⟩) 1 1) q' :=
  ⟨h.row.alloc _, fun _ => ⟨_, rfl, Row.new w c.e c.z.toArray⟩⟩
theorem Jt.build (h : Jt c 0 p q d s p' q') (hd : d.At base w s p' q') : Jt c 1 (.slice (some ⟨w.heap.size, 0, none⟩) 1 1) q d s p' q' :=
  ⟨h.ap, fun _ g e hg => by
    injection e with e _ _
    injection e with e
    injection e with e _ _
    subst e
    exact absurd (hd.row.lt _ hg).2 (Nat.lt_irrefl _), fun hs g e => h.o2 hs g e⟩
theorem Chn.At.append (h : c.At base w s p q) (hj : Jt d 1 p' q' c s p q) (hg : w.grownBy w' d.x0.ownBlock) : c.At base w' s p q := by
  refine ⟨h.row.grown hg hj.ap, fun hs => ?_⟩
  obtain ⟨g, e, hr⟩ := h.lit hs
  exact ⟨g, e, hr.grown hg (fun e2 => hj.o2 hs g e e2.symm)⟩
theorem Jt.append {v : Value} (h : Jt d 1 p' q' c s p q) (hc : c.At base w s p q) (hv : v.ownBlock = d.x0.ownBlock ∨ v.ownBlock = some w.heap.size) : Jt d 2 p' v c s p q := by
  have e1 : d.cur 1 q' = d.x0 := rfl
  have e2 : d.cur 2 v = v := rfl
  refine ⟨?_, (fun hs => by cases hs), fun hs g e => ?_⟩
  · rw [e2]
    intro g hg
    rcases hv with hv | hv
    · exact h.ap g (by rw [e1, ← hv, hg])
    · intro hg2
      rw [hv] at hg
      injection hg with hg
      have := (hc.row.lt _ hg2).2
      omega
  · rw [e2]
    rcases hv with hv | hv
    · rw [hv]; exact h.o2 hs g e
    · rw [hv]
      intro e3
      injection e3 with e3
      obtain ⟨g', e4, hr⟩ := hc.lit hs
      rw [e] at e4
      injection e4 with e4 _ _
      injection e4 with e4
      injection e4 with e4 _ _
      have := hr.lt
      omega
end
/-! ### The frame -/
theorem put_put (a : Act) (i : Nat) (x y : Value) : (a.put (some i) x).put (some i) y = a.put (some i) y := by simp [Act.put]
theorem put_swap (a : Act) {i j : Nat} (h : i ≠ j) (x y : Value) : (a.put (some i) x).put (some j) y = (a.put (some j) y).put (some i) x := Act.put_comm a x y (fun d hd hj => h (by injection hd with hd; injection hj with hj; rw [hd, hj]))
theorem Chn.fr_put (c : Chn) (s : Nat) (p q : Value) (a : Act) {i : Nat} (hb : c.b ≠ i) (hd : c.d ≠ i) (x : Value) : (c.fr s p q a).put (some i) x = c.fr s p q (a.put (some i) x) := by
  unfold Chn.fr
  split
  · rfl
  · split
    · exact put_swap a hb p x
    · rw [put_swap _ hd, put_swap _ hb]
theorem Chn.fr_eval (c : Chn) (s : Nat) (p q : Value) (a : Act) {o : Operand} (hb : o ≠ .tmp c.b) (hd : o ≠ .tmp c.d) : (c.fr s p q a).eval o = a.eval o := by
  unfold Chn.fr
  have h1 : ∀ (a : Act) (x : Value), (a.put (some c.b) x).eval o = a.eval o := fun a x => Act.eval_put (fun d hd2 => by injection hd2 with hd2; subst hd2; exact hb)
  have h2 : ∀ (a : Act) (x : Value), (a.put (some c.d) x).eval o = a.eval o := fun a x => Act.eval_put (fun d hd2 => by injection hd2 with hd2; subst hd2; exact hd)
  split
  · rfl
  · split
    · exact h1 a p
    · rw [h2, h1]
theorem put_size (a : Act) (i : Nat) (x : Value) : (a.put (some i) x).tmps.size = a.tmps.size := by simp [Act.put]
theorem Chn.fr_size (c : Chn) (s : Nat) (p q : Value) (a : Act) : (c.fr s p q a).tmps.size = a.tmps.size := by
  unfold Chn.fr
  split
  · rfl
  · split
    · exact put_size a _ p
    · rw [put_size, put_size]
theorem put_here (a : Act) {i : Nat} (h : i < a.tmps.size) (x : Value) : (a.put (some i) x).eval (.tmp i) = x := by simp [Act.put, Act.eval, h]
theorem Chn.fr_lit (c : Chn) (p q : Value) (a : Act) (h : c.b < a.tmps.size) : (c.fr 1 p q a).eval (.tmp c.b) = p := put_here a h p
end Go.Proofs.Ytfihcgimgngmhaa
/- Three chains in one drawn region: whatever the order. No condition: nothing here speaks of a program. -/
namespace Go.Proofs.Ytfihcgimgngmhaa
open Go.RowKit
structure St3 (c1 c2 c3 : Chn) (base : Nat) (w0 w : World) (s1 : Nat) (p1 q1 : Value) (s2 : Nat) (p2 q2 : Value) (s3 : Nat) (p3 q3 : Value) : Prop where
  a1 : c1.At base w s1 p1 q1
  a2 : c2.At base w s2 p2 q2
  a3 : c3.At base w s3 p3 q3
  j12 : Jt c1 s1 p1 q1 c2 s2 p2 q2
  j13 : Jt c1 s1 p1 q1 c3 s3 p3 q3
  j23 : Jt c2 s2 p2 q2 c3 s3 p3 q3
  kp : Kp3 c1.x0.ownBlock c2.x0.ownBlock c3.x0.ownBlock w0 w
  hb : base ≤ w.heap.size
/-- A chain's two operations: the literal reads ou, the append reads os and the literal. -/
structure Op2 (P : Program) (ops : Array Oper) (Q : Exit → Act → World → Prop) (c : Chn) (base : Nat) (ou os : Operand) (U : Value) (ib ia : Nat) : Prop where
  build : ∀ (a : Act) (w : World) (K : Act → World → Prop), a.eval ou = U → K (a.put (some c.b) (.slice (some ⟨w.heap.size, 0, none⟩) 1 1)) (w.alloc (.cells c.z.toArray c.e)) → wpOp P ops Q ib K a w
  append : ∀ (a : Act) (w : World) (K : Act → World → Prop) (g : Nat), a.eval os = c.x0 → a.eval (.tmp c.b) = .slice (some ⟨g, 0, none⟩) 1 1 → base ≤ w.heap.size → Rw base c.e c.sz w c.x0 c.xs → Row w g c.e c.z.toArray →
    (∀ v w', Rw base c.e c.sz w' v (c.xs ++ [c.z]) → w.grownBy w' c.x0.ownBlock → (v.ownBlock = c.x0.ownBlock ∨ v.ownBlock = some w.heap.size) → K (a.put (some c.d) v) w') → wpOp P ops Q ia K a w
/-- Which are listed. -/
def bitC (s ib ia : Nat) (L : Array Bool) : Array Bool := if s = 0 then L else if s = 1 then L.setIfInBounds ib true else (L.setIfInBounds ib true).setIfInBounds ia true
theorem bit_set (s : Nat) {ib ia i : Nat} (L : Array Bool) (hb : ib ≠ i) (ha : ia ≠ i) : (bitC s ib ia L).setIfInBounds i true = bitC s ib ia (L.setIfInBounds i true) := by
  unfold bitC
  split
  · rfl
  · split
    · exact (Array.setIfInBounds_comm _ _ hb)
    · rw [Array.setIfInBounds_comm _ _ ha, Array.setIfInBounds_comm _ _ hb]
theorem bit_two (ib ia : Nat) (L : Array Bool) : bitC 2 ib ia L = (L.setIfInBounds ib true).setIfInBounds ia true := by unfold bitC; simp
theorem bit_zero (ib ia : Nat) (L : Array Bool) : bitC 0 ib ia L = L := by unfold bitC; simp
theorem fr_two (c : Chn) (p q : Value) (a : Act) : c.fr 2 p q a = (a.put (some c.b) p).put (some c.d) q := by unfold Chn.fr; simp
theorem fr_zero (c : Chn) (p q : Value) (a : Act) : c.fr 0 p q a = a := by unfold Chn.fr; simp
/-- At each state just these may come. -/
def chk3 (md : Region.Mode) (ops : Array Oper) (L0 : Array Bool) (b1 a1 b2 a2 b3 a3 : Nat) : Bool :=
  [0, 1, 2].all fun s1 => [0, 1, 2].all fun s2 => [0, 1, 2].all fun s3 => (s1 == 2 && s2 == 2 && s3 == 2) ||
    (let r := Region.ready md ops (bitC s3 b3 a3 (bitC s2 b2 a2 (bitC s1 b1 a1 L0)))
     !r.isEmpty && r.all fun i => (s1 == 0 && i == b1) || (s1 == 1 && i == a1) || (s2 == 0 && i == b2) || (s2 == 1 && i == a2) || (s3 == 0 && i == b3) || (s3 == 1 && i == a3))
theorem chk3_at {md : Region.Mode} {ops : Array Oper} {L0 : Array Bool} {b1 a1 b2 a2 b3 a3 : Nat} (h : chk3 md ops L0 b1 a1 b2 a2 b3 a3 = true) {s1 s2 s3 : Nat} (h1 : s1 ≤ 2) (h2 : s2 ≤ 2) (h3 : s3 ≤ 2) (hn : s1 + s2 + s3 < 6) :
    Region.ready md ops (bitC s3 b3 a3 (bitC s2 b2 a2 (bitC s1 b1 a1 L0))) ≠ [] ∧ ∀ i, i ∈ Region.ready md ops (bitC s3 b3 a3 (bitC s2 b2 a2 (bitC s1 b1 a1 L0))) → (s1 = 0 ∧ i = b1) ∨ (s1 = 1 ∧ i = a1) ∨ (s2 = 0 ∧ i = b2) ∨ (s2 = 1 ∧ i = a2) ∨ (s3 = 0 ∧ i = b3) ∨ (s3 = 1 ∧ i = a3) := by
  unfold chk3 at h
  have m : ∀ s, s ≤ 2 → s ∈ [0, 1, 2] := fun s hs => by
    rcases s with _ | _ | _ | s
    · simp
    · simp
    · simp
    · omega
  have h4 := List.all_eq_true.1 (List.all_eq_true.1 (List.all_eq_true.1 h s1 (m s1 h1)) s2 (m s2 h2)) s3 (m s3 h3)
  have hf : (s1 == 2 && s2 == 2 && s3 == 2) = false := by
    cases h5 : (s1 == 2 && s2 == 2 && s3 == 2)
    · rfl
    · simp at h5; omega
  rw [hf, Bool.false_or, Bool.and_eq_true] at h4
  refine ⟨fun e => by rw [e] at h4; simp at h4, fun i hi => ?_⟩
  have := List.all_eq_true.1 h4.2 i hi
  simpa [or_assoc] using this
section
variable {P : Program} {md : Region.Mode} {ops : Array Oper} {Q : Exit → Act → World → Prop} {S : World → Prop} {m : Nat}
theorem chains3 {c1 c2 c3 : Chn} {base : Nat} {a0 : Act} {w0 : World} {L0 : Array Bool} {ou1 os1 ou2 os2 ou3 os3 : Operand} {U1 U2 U3 : Value} {b1 a1 b2 a2 b3 a3 nE : Nat}
    (O1 : Op2 P ops Q c1 base ou1 os1 U1 b1 a1) (O2 : Op2 P ops Q c2 base ou2 os2 U2 b2 a2) (O3 : Op2 P ops Q c3 base ou3 os3 U3 b3 a3)
    (hc : chk3 md ops L0 b1 a1 b2 a2 b3 a3 = true)
    (hi : [b1, a1, b2, a2, b3, a3].Nodup) (hs : [c1.b, c1.d, c2.b, c2.d, c3.b, c3.d].Nodup)
    (hoff : ∀ o, o ∈ [ou1, os1, ou2, os2, ou3, os3] → ∀ t, t ∈ [c1.b, c1.d, c2.b, c2.d, c3.b, c3.d] → o ≠ .tmp t)
    (hu1 : a0.eval ou1 = U1) (hu2 : a0.eval ou2 = U2) (hu3 : a0.eval ou3 = U3) (hx1 : a0.eval os1 = c1.x0) (hx2 : a0.eval os2 = c2.x0) (hx3 : a0.eval os3 = c3.x0)
    (hz1 : c1.b < a0.tmps.size) (hz2 : c2.b < a0.tmps.size) (hz3 : c3.b < a0.tmps.size)
    (hS : ∀ w, Kp3 c1.x0.ownBlock c2.x0.ownBlock c3.x0.ownBlock w0 w → S w)
    (hE : ∀ p1 q1 p2 q2 p3 q3 w, St3 c1 c2 c3 base w0 w 2 p1 q1 2 p2 q2 2 p3 q3 → anyT P md ops Q S m nE (bitC 2 b3 a3 (bitC 2 b2 a2 (bitC 2 b1 a1 L0))) (c3.fr 2 p3 q3 (c2.fr 2 p2 q2 (c1.fr 2 p1 q1 a0))) w) :
    ∀ (r s1 s2 s3 : Nat), s1 ≤ 2 → s2 ≤ 2 → s3 ≤ 2 → r + (s1 + s2 + s3) = 6 → ∀ (p1 q1 p2 q2 p3 q3 : Value) (w : World), St3 c1 c2 c3 base w0 w s1 p1 q1 s2 p2 q2 s3 p3 q3 →
      anyT P md ops Q S m (nE + r) (bitC s3 b3 a3 (bitC s2 b2 a2 (bitC s1 b1 a1 L0))) (c3.fr s3 p3 q3 (c2.fr s2 p2 q2 (c1.fr s1 p1 q1 a0))) w := by
  have ev : ∀ (o : Operand), o ∈ [ou1, os1, ou2, os2, ou3, os3] → ∀ (s1 s2 s3 : Nat) (p1 q1 p2 q2 p3 q3 : Value), (c3.fr s3 p3 q3 (c2.fr s2 p2 q2 (c1.fr s1 p1 q1 a0))).eval o = a0.eval o := fun o ho s1 s2 s3 p1 q1 p2 q2 p3 q3 => by
    rw [c3.fr_eval s3 p3 q3 _ (hoff o ho _ (by simp)) (hoff o ho _ (by simp)), c2.fr_eval s2 p2 q2 _ (hoff o ho _ (by simp)) (hoff o ho _ (by simp)), c1.fr_eval s1 p1 q1 _ (hoff o ho _ (by simp)) (hoff o ho _ (by simp))]
  simp only [List.nodup_cons, List.mem_cons, List.not_mem_nil, or_false, not_or, List.nodup_nil, and_true, not_false_eq_true] at hi hs
  obtain ⟨⟨i12, i13, i14, i15, i16⟩, ⟨i23, i24, i25, i26⟩, ⟨i34, i35, i36⟩, ⟨i45, i46⟩, i56⟩ := hi
  obtain ⟨⟨t12, t13, t14, t15, t16⟩, ⟨t23, t24, t25, t26⟩, ⟨t34, t35, t36⟩, ⟨t45, t46⟩, t56⟩ := hs
  intro r
  induction r with
  | zero =>
    intro s1 s2 s3 h1 h2 h3 hr p1 q1 p2 q2 p3 q3 w H
    obtain rfl : s1 = 2 := by omega
    obtain rfl : s2 = 2 := by omega
    obtain rfl : s3 = 2 := by omega
    exact hE p1 q1 p2 q2 p3 q3 w H
  | succ r ih =>
    intro s1 s2 s3 h1 h2 h3 hr p1 q1 p2 q2 p3 q3 w H
    obtain ⟨hne, hall⟩ := chk3_at hc h1 h2 h3 (by omega)
    refine ⟨fun h0 => absurd h0 hne, fun i hin => ?_⟩
    rcases hall i hin with ⟨rfl, rfl⟩ | ⟨rfl, rfl⟩ | ⟨rfl, rfl⟩ | ⟨rfl, rfl⟩ | ⟨rfl, rfl⟩ | ⟨rfl, rfl⟩
    · have H' : St3 c1 c2 c3 base w0 (w.alloc (.cells c1.z.toArray c1.e)) 1 (.slice (some ⟨w.heap.size, 0, none⟩) 1 1) q1 s2 p2 q2 s3 p3 q3 := ⟨H.a1.build, H.a2.alloc _, H.a3.alloc _, (Jt.build H.j12 H.a2), (Jt.build H.j13 H.a3), H.j23, H.kp.step (World.grownBy_alloc w _ none) (.inl rfl), Nat.le_trans H.hb (World.grownBy_alloc w _ none).size⟩
      refine O1.build _ w _ ((ev _ (by simp) _ _ _ _ _ _ _ _ _).trans hu1) ⟨fun _ => hS _ H'.kp, ?_⟩
      have A := ih 1 s2 s3 (by omega) (by omega) (by omega) (by omega) _ q1 p2 q2 p3 q3 _ H'
      rw [bit_set s3 _ (ib := b3) (ia := a3) (i := i) (by first | assumption | (exact Ne.symm (by assumption))) (by first | assumption | (exact Ne.symm (by assumption))), bit_set s2 _ (ib := b2) (ia := a2) (i := i) (by first | assumption | (exact Ne.symm (by assumption))) (by first | assumption | (exact Ne.symm (by assumption))), c3.fr_put s3 p3 q3 _ (i := c1.b) (by first | assumption | (exact Ne.symm (by assumption))) (by first | assumption | (exact Ne.symm (by assumption))), c2.fr_put s2 p2 q2 _ (i := c1.b) (by first | assumption | (exact Ne.symm (by assumption))) (by first | assumption | (exact Ne.symm (by assumption)))]
      exact A
    · obtain ⟨g, hg, hrow⟩ := H.a1.lit rfl
      refine O1.append _ w _ g ((ev _ (by simp) _ _ _ _ _ _ _ _ _).trans hx1) (by rw [c3.fr_eval s3 p3 q3 _ (o := .tmp c1.b) (by simp only [ne_eq, Operand.tmp.injEq]; first | assumption | (exact Ne.symm (by assumption))) (by simp only [ne_eq, Operand.tmp.injEq]; first | assumption | (exact Ne.symm (by assumption))), c2.fr_eval s2 p2 q2 _ (o := .tmp c1.b) (by simp only [ne_eq, Operand.tmp.injEq]; first | assumption | (exact Ne.symm (by assumption))) (by simp only [ne_eq, Operand.tmp.injEq]; first | assumption | (exact Ne.symm (by assumption))), c1.fr_lit p1 q1 _ (by first | exact hz1 | (simp only [Chn.fr_size]; exact hz1))]; exact hg) H.hb H.a1.row hrow fun v w' hv1 hv2 hv => ?_
      have H' : St3 c1 c2 c3 base w0 w' 2 p1 v s2 p2 q2 s3 p3 q3 := ⟨⟨hv1, fun h => by cases h⟩, H.a2.append (H.j12) hv2, H.a3.append (H.j13) hv2, (Jt.append (H.j12) H.a2 hv), (Jt.append (H.j13) H.a3 hv), H.j23, H.kp.step hv2 (.inr (.inl rfl)), Nat.le_trans H.hb hv2.size⟩
      refine ⟨fun _ => hS _ H'.kp, ?_⟩
      have A := ih 2 s2 s3 (by omega) (by omega) (by omega) (by omega) p1 v p2 q2 p3 q3 _ H'
      rw [bit_set s3 _ (ib := b3) (ia := a3) (i := i) (by first | assumption | (exact Ne.symm (by assumption))) (by first | assumption | (exact Ne.symm (by assumption))), bit_set s2 _ (ib := b2) (ia := a2) (i := i) (by first | assumption | (exact Ne.symm (by assumption))) (by first | assumption | (exact Ne.symm (by assumption))), c3.fr_put s3 p3 q3 _ (i := c1.d) (by first | assumption | (exact Ne.symm (by assumption))) (by first | assumption | (exact Ne.symm (by assumption))), c2.fr_put s2 p2 q2 _ (i := c1.d) (by first | assumption | (exact Ne.symm (by assumption))) (by first | assumption | (exact Ne.symm (by assumption)))]
      exact A
    · have H' : St3 c1 c2 c3 base w0 (w.alloc (.cells c2.z.toArray c2.e)) s1 p1 q1 1 (.slice (some ⟨w.heap.size, 0, none⟩) 1 1) q2 s3 p3 q3 := ⟨H.a1.alloc _, H.a2.build, H.a3.alloc _, (Jt.build H.j12.symm H.a1).symm, H.j13, (Jt.build H.j23 H.a3), H.kp.step (World.grownBy_alloc w _ none) (.inl rfl), Nat.le_trans H.hb (World.grownBy_alloc w _ none).size⟩
      refine O2.build _ w _ ((ev _ (by simp) _ _ _ _ _ _ _ _ _).trans hu2) ⟨fun _ => hS _ H'.kp, ?_⟩
      have A := ih s1 1 s3 (by omega) (by omega) (by omega) (by omega) p1 q1 _ q2 p3 q3 _ H'
      rw [bit_set s3 _ (ib := b3) (ia := a3) (i := i) (by first | assumption | (exact Ne.symm (by assumption))) (by first | assumption | (exact Ne.symm (by assumption))), c3.fr_put s3 p3 q3 _ (i := c2.b) (by first | assumption | (exact Ne.symm (by assumption))) (by first | assumption | (exact Ne.symm (by assumption)))]
      exact A
    · obtain ⟨g, hg, hrow⟩ := H.a2.lit rfl
      refine O2.append _ w _ g ((ev _ (by simp) _ _ _ _ _ _ _ _ _).trans hx2) (by rw [c3.fr_eval s3 p3 q3 _ (o := .tmp c2.b) (by simp only [ne_eq, Operand.tmp.injEq]; first | assumption | (exact Ne.symm (by assumption))) (by simp only [ne_eq, Operand.tmp.injEq]; first | assumption | (exact Ne.symm (by assumption))), c2.fr_lit p2 q2 _ (by first | exact hz2 | (simp only [Chn.fr_size]; exact hz2))]; exact hg) H.hb H.a2.row hrow fun v w' hv1 hv2 hv => ?_
      have H' : St3 c1 c2 c3 base w0 w' s1 p1 q1 2 p2 v s3 p3 q3 := ⟨H.a1.append (H.j12.symm) hv2, ⟨hv1, fun h => by cases h⟩, H.a3.append (H.j23) hv2, (Jt.append (H.j12.symm) H.a1 hv).symm, H.j13, (Jt.append (H.j23) H.a3 hv), H.kp.step hv2 (.inr (.inr (.inl rfl))), Nat.le_trans H.hb hv2.size⟩
      refine ⟨fun _ => hS _ H'.kp, ?_⟩
      have A := ih s1 2 s3 (by omega) (by omega) (by omega) (by omega) p1 q1 p2 v p3 q3 _ H'
      rw [bit_set s3 _ (ib := b3) (ia := a3) (i := i) (by first | assumption | (exact Ne.symm (by assumption))) (by first | assumption | (exact Ne.symm (by assumption))), c3.fr_put s3 p3 q3 _ (i := c2.d) (by first | assumption | (exact Ne.symm (by assumption))) (by first | assumption | (exact Ne.symm (by assumption)))]
      exact A
    · have H' : St3 c1 c2 c3 base w0 (w.alloc (.cells c3.z.toArray c3.e)) s1 p1 q1 s2 p2 q2 1 (.slice (some ⟨w.heap.size, 0, none⟩) 1 1) q3 := ⟨H.a1.alloc _, H.a2.alloc _, H.a3.build, H.j12, (Jt.build H.j13.symm H.a1).symm, (Jt.build H.j23.symm H.a2).symm, H.kp.step (World.grownBy_alloc w _ none) (.inl rfl), Nat.le_trans H.hb (World.grownBy_alloc w _ none).size⟩
      refine O3.build _ w _ ((ev _ (by simp) _ _ _ _ _ _ _ _ _).trans hu3) ⟨fun _ => hS _ H'.kp, ?_⟩
      have A := ih s1 s2 1 (by omega) (by omega) (by omega) (by omega) p1 q1 p2 q2 _ q3 _ H'
      exact A
    · obtain ⟨g, hg, hrow⟩ := H.a3.lit rfl
      refine O3.append _ w _ g ((ev _ (by simp) _ _ _ _ _ _ _ _ _).trans hx3) (by rw [c3.fr_lit p3 q3 _ (by first | exact hz3 | (simp only [Chn.fr_size]; exact hz3))]; exact hg) H.hb H.a3.row hrow fun v w' hv1 hv2 hv => ?_
      have H' : St3 c1 c2 c3 base w0 w' s1 p1 q1 s2 p2 q2 2 p3 v := ⟨H.a1.append (H.j13.symm) hv2, H.a2.append (H.j23.symm) hv2, ⟨hv1, fun h => by cases h⟩, H.j12, (Jt.append (H.j13.symm) H.a1 hv).symm, (Jt.append (H.j23.symm) H.a2 hv).symm, H.kp.step hv2 (.inr (.inr (.inr rfl))), Nat.le_trans H.hb hv2.size⟩
      refine ⟨fun _ => hS _ H'.kp, ?_⟩
      have A := ih s1 s2 2 (by omega) (by omega) (by omega) (by omega) p1 q1 p2 q2 p3 v _ H'
      exact A
theorem chains3_go {c1 c2 c3 : Chn} {base : Nat} {a0 : Act} {w0 : World} {L0 : Array Bool} {ou1 os1 ou2 os2 ou3 os3 : Operand} {U1 U2 U3 : Value} {b1 a1 b2 a2 b3 a3 nE : Nat}
    (O1 : Op2 P ops Q c1 base ou1 os1 U1 b1 a1) (O2 : Op2 P ops Q c2 base ou2 os2 U2 b2 a2) (O3 : Op2 P ops Q c3 base ou3 os3 U3 b3 a3)
    (hc : chk3 md ops L0 b1 a1 b2 a2 b3 a3 = true)
    (hi : [b1, a1, b2, a2, b3, a3].Nodup) (hs : [c1.b, c1.d, c2.b, c2.d, c3.b, c3.d].Nodup)
    (hoff : ∀ o, o ∈ [ou1, os1, ou2, os2, ou3, os3] → ∀ t, t ∈ [c1.b, c1.d, c2.b, c2.d, c3.b, c3.d] → o ≠ .tmp t)
    (hu1 : a0.eval ou1 = U1) (hu2 : a0.eval ou2 = U2) (hu3 : a0.eval ou3 = U3) (hx1 : a0.eval os1 = c1.x0) (hx2 : a0.eval os2 = c2.x0) (hx3 : a0.eval os3 = c3.x0)
    (hz1 : c1.b < a0.tmps.size) (hz2 : c2.b < a0.tmps.size) (hz3 : c3.b < a0.tmps.size)
    (r1 : Rw base c1.e c1.sz w0 c1.x0 c1.xs) (r2 : Rw base c2.e c2.sz w0 c2.x0 c2.xs) (r3 : Rw base c3.e c3.sz w0 c3.x0 c3.xs) (p12 : Ap c1.x0 c2.x0) (p13 : Ap c1.x0 c3.x0) (p23 : Ap c2.x0 c3.x0) (hb : base ≤ w0.heap.size)
    (hS : ∀ w, Kp3 c1.x0.ownBlock c2.x0.ownBlock c3.x0.ownBlock w0 w → S w)
    (hE : ∀ p1 q1 p2 q2 p3 q3 w, Rw base c1.e c1.sz w q1 (c1.xs ++ [c1.z]) → Rw base c2.e c2.sz w q2 (c2.xs ++ [c2.z]) → Rw base c3.e c3.sz w q3 (c3.xs ++ [c3.z]) → Ap q1 q2 → Ap q1 q3 → Ap q2 q3 → Kp3 c1.x0.ownBlock c2.x0.ownBlock c3.x0.ownBlock w0 w →
      anyT P md ops Q S m nE ((((((L0.setIfInBounds b1 true).setIfInBounds a1 true).setIfInBounds b2 true).setIfInBounds a2 true).setIfInBounds b3 true).setIfInBounds a3 true) ((((((a0.put (some c1.b) p1).put (some c1.d) q1).put (some c2.b) p2).put (some c2.d) q2).put (some c3.b) p3).put (some c3.d) q3) w) :
    anyT P md ops Q S m (nE + 6) L0 a0 w0 := by
  have st : St3 c1 c2 c3 base w0 w0 0 undef undef 0 undef undef 0 undef undef :=
    ⟨⟨r1, fun h => by cases h⟩, ⟨r2, fun h => by cases h⟩, ⟨r3, fun h => by cases h⟩, ⟨p12, (fun h => by cases h), fun h => by cases h⟩, ⟨p13, (fun h => by cases h), fun h => by cases h⟩, ⟨p23, (fun h => by cases h), fun h => by cases h⟩, Kp3.refl _ _ _ _, hb⟩
  have hE' : ∀ p1 q1 p2 q2 p3 q3 w, St3 c1 c2 c3 base w0 w 2 p1 q1 2 p2 q2 2 p3 q3 → anyT P md ops Q S m nE (bitC 2 b3 a3 (bitC 2 b2 a2 (bitC 2 b1 a1 L0))) (c3.fr 2 p3 q3 (c2.fr 2 p2 q2 (c1.fr 2 p1 q1 a0))) w := fun p1 q1 p2 q2 p3 q3 w H => by
    rw [bit_two, bit_two, bit_two, fr_two, fr_two, fr_two]
    exact hE p1 q1 p2 q2 p3 q3 w H.a1.row H.a2.row H.a3.row H.j12.ap H.j13.ap H.j23.ap H.kp
  have A := chains3 O1 O2 O3 hc hi hs hoff hu1 hu2 hu3 hx1 hx2 hx3 hz1 hz2 hz3 hS hE' 6 0 0 0 (by omega) (by omega) (by omega) rfl undef undef undef undef undef undef w0 st
  rw [bit_zero, bit_zero, bit_zero, fr_zero, fr_zero, fr_zero] at A
  exact A
/-- What is kept of other blocks. -/
theorem Kp3.row {r1 r2 r3 : Option Nat} {w0 w : World} {g : Nat} {t : TypeId} {cs : Array Value} (h : Kp3 r1 r2 r3 w0 w) (hr : Row w0 g t cs) (h1 : some g ≠ r1) (h2 : some g ≠ r2) (h3 : some g ≠ r3) : Row w g t cs := (h.block g hr.lt h1 h2 h3).trans hr
theorem Kp3.below {base : Nat} {r1 r2 r3 : Option Nat} {W w0 w : World} (h : Kp3 r1 r2 r3 w0 w) (hb : Below base W w0) (hs : base ≤ w0.heap.size) (h1 : ∀ g, r1 = some g → base ≤ g) (h2 : ∀ g, r2 = some g → base ≤ g) (h3 : ∀ g, r3 = some g → base ≤ g) : Below base W w :=
  ⟨h.os.trans hb.os, h.tape.trans hb.tape, h.output.trans hb.output, Nat.le_trans hb.size h.size, fun k hk => (h.block k (Nat.lt_of_lt_of_le hk hs) (fun e => by have := h1 k e.symm; omega) (fun e => by have := h2 k e.symm; omega) (fun e => by have := h3 k e.symm; omega)).trans (hb.block k hk)⟩
end
end Go.Proofs.Ytfihcgimgngmhaa
/- A call of eighteen cells by value: loaded, stored into the block made last. No condition: nothing here speaks of a function. -/
namespace Go.Proofs.Ytfihcgimgngmhaa
set_option maxRecDepth 100000
open Go.RowKit
/-- A call's cells. -/
def askC (y : Ia) : Array Value := y.l.toArray
theorem askC_size (y : Ia) : (askC y).size = 18 := rfl
theorem askC_one (y : Ia) : (askC y).all (·.oneCell') = true := Array.all_eq_true_iff_forall_mem.2 (fun v hv => by
  unfold askC Ia.l at hv
  simp at hv
  rcases hv with rfl | rfl | rfl | rfl | rfl | rfl | rfl | rfl | rfl | rfl | rfl | rfl | rfl | rfl | rfl | rfl | rfl | rfl <;> rfl)
theorem ask_under : Try.prog.underlying 48 = some (.struct (Try.prog.fieldsOf 48)) := by kernel_rfl
theorem ask_info : (Try.prog.info? 48).map (·.size) = some 18 := by kernel_rfl
theorem IaAt.range {w : World} {b off j : Nat} {y : Ia} (h : IaAt w b off j y) : w.rangeAt b (off + j * 18) y.l := fun i v hv => by
  have hi : i < 18 := by
    rcases Nat.lt_or_ge i 18 with h1 | h1
    · exact h1
    · rw [List.getElem?_eq_none (by exact h1)] at hv; cases hv
  rw [h i hi, hv]
theorem wpList_load_ia {ops : Array Oper} {rest : List Oper} {d : Option Tmp} {ty : TypeId} {ps : String} {af : Array Edge} {x : Operand} {a : Act} {w : World} {Q : Exit → Act → World → Prop} {b o : Nat} {y : Ia}
    (hx : a.eval x = .pointer (some ⟨b, o, none⟩)) (R : w.rangeAt b o y.l) (h : wpList Try.prog ops Q rest (a.put d (.agg (askC y))) w) :
    wpList Try.prog ops Q ({ dst := d, op := .load 48 x, type := ty, pos := ps, after := af, guard := none } :: rest) a w :=
  wpList_load_mid rfl 48 x rfl b o hx y.l _ R ask_under rfl ask_info h
theorem wpList_store_ia {ops : Array Oper} {rest : List Oper} {d : Option Tmp} {ty : TypeId} {ps : String} {af : Array Edge} {x u : Operand} {a : Act} {w : World} {Q : Exit → Act → World → Prop} {b : Nat} {t : TypeId} {cs : Array Value} {y : Ia}
    (hx : a.eval x = .pointer (some ⟨b, 0, none⟩)) (hy : a.eval u = .agg (askC y)) (R : Row w b t cs) (hs : cs.size = 18)
    (h : wpList Try.prog ops Q rest (a.put d undef) (w.setRow b (askC y))) :
    wpList Try.prog ops Q ({ dst := d, op := .store 48 x u, type := ty, pos := ps, after := af, guard := none } :: rest) a w :=
  wpList_plain rfl fun K hK => by
    unfold Oper.wp execOp
    simp only [hx, hy, Instr.storeAt, Instr.sureAddr, Sem.run_bind, Sem.run_pure, Result.andThen_ok, run_storeVar_row _ b t 48 _ _ R ask_info (by rw [hs, askC_size]) (askC_one y)]
    exact hK _ _ h
/-- Into the block made last. -/
theorem wpList_store_ian {ops : Array Oper} {rest : List Oper} {d : Option Tmp} {ty : TypeId} {ps : String} {af : Array Edge} {x u : Operand} {a : Act} {w : World} {Q : Exit → Act → World → Prop} {y : Ia}
    (hx : a.eval x = .pointer (some ⟨w.heap.size, 0, none⟩)) (hy : a.eval u = .agg (askC y))
    (h : wpList Try.prog ops Q rest (a.put d undef) (w.alloc (.cells (askC y) 48))) :
    wpList Try.prog ops Q ({ dst := d, op := .store 48 x u, type := ty, pos := ps, after := af, guard := none } :: rest) a (w.alloc (.cells #[.int .i64 0, .int .i64 0, .int .i64 0, .int .i64 0, .int .i64 0, .int .i64 0, .int .i64 0, .string { data := #[] }, .string { data := #[] }, .string { data := #[] }, .string { data := #[] }, .int .i64 0, .int .i64 0, .int .i64 0, .int .i64 0, .int .i64 0, .int .i64 0, .int .i64 0] 48)) := by
  refine wpList_store_ia hx hy (Row.new w _ _) rfl ?_
  rw [World.setRow_alloc_new]
  exact h
/-! ### Own rows of calls -/
def iaV (L : List Ia) : List (List Value) := L.map Ia.l
theorem iaV_all (L : List Ia) : AllV 18 (iaV L) := fun x hx => by
  obtain ⟨y, _, rfl⟩ := List.mem_map.1 hx
  exact ⟨rfl, fun u hu => Array.all_eq_true_iff_forall_mem.1 (askC_one y) u (by unfold askC; simpa using hu)⟩
theorem iaV_len (L : List Ia) : (iaV L).length = L.length := List.length_map _
theorem lit_ask (y : Ia) (w : World) : (Instr.buildSlice 40 1 #[(0, .agg (askC y))]).run Try.prog w = .ok (.slice (some ⟨w.heap.size, 0, none⟩) 1 1) (w.alloc (.cells (askC y) 48)) := by
  have u9 := Try.underlying40
  have z9 := Try.sizeOf48
  unfold askC Ia.l
  go_simp
theorem wpList_lit_ask {ops : Array Oper} {rest : List Oper} {d : Option Tmp} {ty : TypeId} {ps : String} {af : Array Edge} {x : Operand} {a : Act} {w : World} {Q : Exit → Act → World → Prop} {y : Ia}
    (hx : a.eval x = .agg (askC y)) (h : wpList Try.prog ops Q rest (a.put d (.slice (some ⟨w.heap.size, 0, none⟩) 1 1)) (w.alloc (.cells (askC y) 48))) :
    wpList Try.prog ops Q ({ dst := d, op := .buildSlice 40 1 #[(0, x)], type := ty, pos := ps, after := af, guard := none } :: rest) a w :=
  wpList_plain rfl fun K hK => by
    unfold Oper.wp execOp
    simp only [Sem.run_bind, Sem.run_pure, Result.andThen_ok, List.map_toArray, List.map_cons, List.map_nil, hx, lit_ask]
    exact hK _ _ h
theorem ask_parts : ∃ i z, Try.prog.info? 48 = some i ∧ i.zero = some z ∧ i.size = 18 ∧ i.bytes = 176 ∧ z.cells.size = 18 := ⟨_, _, rfl, rfl, rfl, rfl, rfl⟩
theorem wpList_append_ask {ops : Array Oper} {rest : List Oper} {o : Oper} {a : Act} {Q : Exit → Act → World → Prop} {w : World} (hgd : o.guard = none) (s x : Operand)
    (ho : o.op = .call { callee := .builtin .append, args := #[s, x], argTypes := #[40, 40] })
    {b g : Nat} {v : Value} {L : List Ia} {y : Ia} {t : TypeId} (hs : a.eval s = v) (h : Rw b 48 18 w v (iaV L)) (hx : a.eval x = .slice (some ⟨g, 0, none⟩) 1 1) (hr : Row w g t (askC y)) (hb : L.length ≤ 100000) (hbase : b ≤ w.heap.size)
    (hk : ∀ v' w', Rw b 48 18 w' v' (iaV (L ++ [y])) → w.grownBy w' v.ownBlock → wpList Try.prog ops Q rest (a.put o.dst v') w') : wpList Try.prog ops Q (o :: rest) a w := by
  obtain ⟨i0, z0, hi, hz0, hz1, hz2, hz3⟩ := ask_parts
  have e : iaV (L ++ [y]) = iaV L ++ iaV [y] := List.map_append
  have el : (iaV (L ++ [y])).length = L.length + 1 := by rw [iaV_len, List.length_append]; rfl
  unfold Rw at h hk
  rw [iaV_len] at h
  rw [el, e] at hk
  exact wpList_append_els hgd s x 40 ho b 48 i0 z0 176 Try.underlying40 hi hz0 hz1 hz2 (by omega) hz3 v L.length (iaV L) hs h (some ⟨g, 0, none⟩) 1 1 (iaV [y]) hx (iaV_all _) rfl (fun e => by cases e) (els_row hr (iaV_all [y]) (by show y.l = cellsV [y.l]; simp [cellsV])) (by omega) (by omega) hbase hk
/-- What stands at place j of an own row. -/
theorem Rw.ia {b : Nat} {w : World} {v : Value} {L : List Ia} (h : Rw b 48 18 w v (iaV L)) {j : Nat} {y : Ia} (hj : L[j]? = some y) : ∃ A c, v = .slice A L.length c ∧ L.length ≤ c ∧ c ≤ maxLen ∧ ∃ g, A = some ⟨g, 0, none⟩ ∧ g < w.heap.size ∧ IaAt w g 0 j y := by
  unfold Rw at h
  rw [iaV_len] at h
  obtain ⟨A, c, rfl, _, h1, h2, h3⟩ := own_form h
  obtain ⟨g, off, rfl, hg, hc⟩ := Els.ia (els_own h (iaV_all L) (by omega)).1 hj
  have := (h3 _ rfl).2
  simp only at this
  subst this
  exact ⟨_, c, rfl, h1, h2, g, rfl, hg, hc⟩
theorem Rw.ia_form {b : Nat} {w : World} {v : Value} {L : List Ia} (h : Rw b 48 18 w v (iaV L)) : ∃ A c, v = .slice A L.length c ∧ L.length ≤ c ∧ c ≤ 9223372036854775807 := by
  unfold Rw at h
  rw [iaV_len] at h
  obtain ⟨A, c, rfl, _, h1, h2, _⟩ := own_form h
  exact ⟨A, c, rfl, h1, by unfold maxLen at h2; omega⟩
end Go.Proofs.Ytfihcgimgngmhaa
