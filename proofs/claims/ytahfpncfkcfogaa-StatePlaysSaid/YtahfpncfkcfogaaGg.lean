/- Commands as values, by themselves and in slices that come in. No condition. -/
import Derived.Test.YtahfpncfkcfogaaGc
import Derived.Test.YtahfpncfkcfogaaGa
import Derived.Deep.Slices
import Derived.Deep.Fields
import Derived.ChangeSame
import Derived.Laws.StructEq
import Derived.Deep.DeepCutAuto
import Derived.Deep.RegionHeld3
import Derived.Test.YtahfpncfkcfogaaGh
import Derived.Deep.RegionWith
namespace Go.Proofs.Ytahfpncfkcfogaa
set_option maxRecDepth 100000
open Go.ChangeShapes Go.WideShapes Go.ChangeAt Go.RowKit Go.Joins
/-- A command. -/
structure Cm where
  k : Int
  c : Int
  q : Int
  key : ByteArray
  en : ByteArray
  old : ByteArray
  val : ByteArray
/-- Its cells. -/
def Cm.l (x : Cm) : List Value := [.int .i64 x.k, .int .i64 x.c, .int .i64 x.q, .string x.key, .string x.en, .string x.old, .string x.val]
structure CmOk (x : Cm) : Prop where
  k : -9223372036854775808 ≤ x.k ∧ x.k ≤ 9223372036854775807
  c : -9223372036854775808 ≤ x.c ∧ x.c ≤ 9223372036854775807
  q : -9223372036854775808 ≤ x.q ∧ x.q ≤ 9223372036854775807
  key : x.key.size ≤ 140737488351232
  en : x.en.size ≤ 140737488351232
  old : x.old.size ≤ 140737488351232
  val : x.val.size ≤ 140737488351232
theorem Try.cells35 : Try.prog.cellsOf 35 = 7 := by kernel_rfl
/-- What the seven cells of a command hold. -/
theorem cmd_cells {H : Type} {enc : TypeId × Value → H} {W : World} {base fuel : Nat} {spare : Nat → Bool} {held : Bool} {cs : List Value} {x : DataW H × List MemPlace}
    (ht : DataW.trod enc Try.prog W base spare held fuel 35 cs = some x)
    (hsz : ∀ n ∈ x.1.weights Try.prog 35, n ≤ reachBytes) : ∃ y : Cm, cs = y.l ∧ CmOk y := by
  obtain ⟨ys, n', _, rfl, hlen, hyl, hfs⟩ := DataW.trod_struct Try.underlying35 ht
  rw [Try.cells35] at hlen
  have hyl7 : ys.length = 7 := hyl
  obtain ⟨y0, y1, y2, y3, y4, y5, y6, rfl⟩ : ∃ y0 y1 y2 y3 y4 y5 y6, ys = [y0, y1, y2, y3, y4, y5, y6] := by
    match ys, hyl7 with
    | [y0, y1, y2, y3, y4, y5, y6], _ => exact ⟨y0, y1, y2, y3, y4, y5, y6, rfl⟩
  obtain ⟨c0, c1, c2, c3, c4, c5, c6, rfl⟩ : ∃ c0 c1 c2 c3 c4 c5 c6, cs = [c0, c1, c2, c3, c4, c5, c6] := by
    match cs, hlen with
    | [c0, c1, c2, c3, c4, c5, c6], _ => exact ⟨c0, c1, c2, c3, c4, c5, c6, rfl⟩
  have g0 := hfs 0 _ rfl
  have g1 := hfs 1 _ rfl
  have g2 := hfs 2 _ rfl
  have g3 := hfs 3 _ rfl
  have g4 := hfs 4 _ rfl
  have g5 := hfs 5 _ rfl
  have g6 := hfs 6 _ rfl
  clear hfs
  change DataW.trod enc Try.prog W base spare held n' 3 (([c0, c1, c2, c3, c4, c5, c6].drop 0).take (Try.prog.cellsOf 3)) = some y0 at g0
  change DataW.trod enc Try.prog W base spare held n' 3 (([c0, c1, c2, c3, c4, c5, c6].drop 1).take (Try.prog.cellsOf 3)) = some y1 at g1
  change DataW.trod enc Try.prog W base spare held n' 3 (([c0, c1, c2, c3, c4, c5, c6].drop 2).take (Try.prog.cellsOf 3)) = some y2 at g2
  change DataW.trod enc Try.prog W base spare held n' 9 (([c0, c1, c2, c3, c4, c5, c6].drop 3).take (Try.prog.cellsOf 9)) = some y3 at g3
  change DataW.trod enc Try.prog W base spare held n' 9 (([c0, c1, c2, c3, c4, c5, c6].drop 4).take (Try.prog.cellsOf 9)) = some y4 at g4
  change DataW.trod enc Try.prog W base spare held n' 9 (([c0, c1, c2, c3, c4, c5, c6].drop 5).take (Try.prog.cellsOf 9)) = some y5 at g5
  change DataW.trod enc Try.prog W base spare held n' 9 (([c0, c1, c2, c3, c4, c5, c6].drop 6).take (Try.prog.cellsOf 9)) = some y6 at g6
  rw [Try.cells3] at g0 g1 g2
  rw [Try.cells9] at g3 g4 g5 g6
  obtain ⟨k, e0, _, w0⟩ := DataW.trod_int Try.underlying3 g0
  obtain ⟨c, e1, _, w1⟩ := DataW.trod_int Try.underlying3 g1
  obtain ⟨q, e2, _, w2⟩ := DataW.trod_int Try.underlying3 g2
  obtain ⟨a, e3, f3, _⟩ := DataW.trod_string Try.underlying9 g3
  obtain ⟨b, e4, f4, _⟩ := DataW.trod_string Try.underlying9 g4
  obtain ⟨o, e5, f5, _⟩ := DataW.trod_string Try.underlying9 g5
  obtain ⟨v, e6, f6, _⟩ := DataW.trod_string Try.underlying9 g6
  subst f3 f4 f5 f6
  simp at e0 e1 e2 e3 e4 e5 e6
  subst e0 e1 e2 e3 e4 e5 e6
  have hr : reachBytes = 140737488351232 := rfl
  rw [hr] at hsz
  have hw : ∀ s : ByteArray, (∃ l r : List (DataW H), (DataW.agg ([y0, y1, y2, (.lit (.string a.data.toList), []), (.lit (.string b.data.toList), []), (.lit (.string o.data.toList), []), (.lit (.string v.data.toList), [])].map (·.1)) : DataW H) = .agg (l ++ .lit (.string s.data.toList) :: r) ∧ l.length < 7 ∧ 2 < l.length) → s.size ≤ 140737488351232 := by
    rintro s ⟨l, r, he, hl, hl3⟩
    refine hsz s.data.toList.length ?_
    rw [he]
    unfold DataW.weights
    rw [Try.underlying35]
    have hj : (l ++ (DataW.lit (.string s.data.toList) : DataW H) :: r)[l.length]? = some (.lit (.string s.data.toList)) := by simp
    have ht : ∃ t, ([3, 3, 3, 9, 9, 9, 9] : List TypeId)[l.length]? = some t := ⟨_, List.getElem?_eq_getElem (by simpa using hl)⟩
    obtain ⟨t, ht⟩ := ht
    exact DataW.weights_mem_each (ts := [3, 3, 3, 9, 9, 9, 9]) ht hj _ (by simp [DataW.weights])
  exact ⟨⟨k, c, q, a, b, o, v⟩, rfl, bounds_i64 w0, bounds_i64 w1, bounds_i64 w2, hw a ⟨[y0.1, y1.1, y2.1], _, rfl, by simp, by simp⟩, hw b ⟨[y0.1, y1.1, y2.1, _], _, rfl, by simp, by simp⟩,
    hw o ⟨[y0.1, y1.1, y2.1, _, _], _, rfl, by simp, by simp⟩, hw v ⟨[y0.1, y1.1, y2.1, _, _, _], _, rfl, by simp, by simp⟩⟩
/-- A command that came in. -/
theorem cmd_in {H : Type} {enc : TypeId × Value → H} {W : World} {base b0 : Nat} {spare : Nat → Bool} {held : Bool} {r : Reach} {v : Value} {d : DataW H} {p : List MemPlace} {ts : List TypeId} {ds : List (DataW H)} {j : Nat}
    (hv : Value.okWide Try.prog W r b0 35 v) (h : DataW.Trod enc Try.prog W base spare held 35 v d p) (hsz : (DataW.weightsEach Try.prog ts ds).all (· ≤ reachBytes) = true) (ht : ts[j]? = some 35) (hd : ds[j]? = some d) :
    ∃ y : Cm, v = .agg #[.int .i64 y.k, .int .i64 y.c, .int .i64 y.q, .string y.key, .string y.en, .string y.old, .string y.val] ∧ CmOk y := by
  obtain ⟨cs, rfl, hcs⟩ := okWide_struct Try.underlying35 hv
  obtain ⟨fuel, hf⟩ := h
  obtain ⟨y, hy, ok⟩ := cmd_cells hf fun n hn => by
    have := List.all_eq_true.1 hsz _ (DataW.weights_mem_each ht hd n hn)
    simpa using this
  have e : cs.toList = y.l := hy
  refine ⟨y, ?_, ok⟩
  obtain ⟨l⟩ := cs
  simp only at e
  rw [e]; rfl
/-- What lies at command j of a slice that begins at ⟨b, off⟩. -/
structure CmAt (w : World) (b off j : Nat) (x : Cm) : Prop where
  c0 : w.cell? ⟨b, off + j * 7, none⟩ = some (.int .i64 x.k)
  c1 : w.cell? ⟨b, off + j * 7 + 1, none⟩ = some (.int .i64 x.c)
  c2 : w.cell? ⟨b, off + j * 7 + 2, none⟩ = some (.int .i64 x.q)
  c3 : w.cell? ⟨b, off + j * 7 + 3, none⟩ = some (.string x.key)
  c4 : w.cell? ⟨b, off + j * 7 + 4, none⟩ = some (.string x.en)
  c5 : w.cell? ⟨b, off + j * 7 + 5, none⟩ = some (.string x.old)
  c6 : w.cell? ⟨b, off + j * 7 + 6, none⟩ = some (.string x.val)
theorem CmAt.below {w w' : World} {B b off j : Nat} {x : Cm} (h : CmAt w b off j x) (hb : Below B w w') (hl : b < B) : CmAt w' b off j x :=
  ⟨(hb.cell (p := ⟨b, off + j * 7, none⟩) hl).trans h.c0, (hb.cell (p := ⟨b, off + j * 7 + 1, none⟩) hl).trans h.c1, (hb.cell (p := ⟨b, off + j * 7 + 2, none⟩) hl).trans h.c2, (hb.cell (p := ⟨b, off + j * 7 + 3, none⟩) hl).trans h.c3,
    (hb.cell (p := ⟨b, off + j * 7 + 4, none⟩) hl).trans h.c4, (hb.cell (p := ⟨b, off + j * 7 + 5, none⟩) hl).trans h.c5, (hb.cell (p := ⟨b, off + j * 7 + 6, none⟩) hl).trans h.c6⟩
/-- A slice of commands that came in. -/
structure CmsIn (w : World) (A : Option Addr) (n c : Nat) (it : Nat → Cm) : Prop where
  le : n ≤ c
  room : c ≤ 9223372036854775807
  ok : ∀ j, j < n → CmOk (it j)
  at_ : ∀ j, j < n → ∃ b off, A = some ⟨b, off, none⟩ ∧ b < w.heap.size ∧ CmAt w b off j (it j)
theorem c_weights_all {H : Type} {P : Program} {e : TypeId} : ∀ {ds : List (DataW H)} {d : DataW H}, d ∈ ds → ∀ n ∈ d.weights P e, n ∈ DataW.weightsAll P e ds
  | x :: r, d, hd, n, hn => by
    rw [DataW.weightsAll, List.mem_append]
    rcases List.mem_cons.1 hd with rfl | hd
    · exact .inl hn
    · exact .inr (c_weights_all hd n hn)
theorem cmds_in {H : Type} {enc : TypeId × Value → H} {W : World} {A : Option Addr} {n c : Nat} {d : DataW H} {p : List MemPlace} {ts : List TypeId} {ds : List (DataW H)} {j : Nat}
    (h : DataW.Trod enc Try.prog W 0 (fun _ => true) true 39 (.slice A n c) d p) (hsz : (DataW.weightsEach Try.prog ts ds).all (· ≤ reachBytes) = true) (ht : ts[j]? = some 39) (hd : ds[j]? = some d) : ∃ it, CmsIn W A n c it := by
  obtain ⟨fuel, hf⟩ := h
  have hw : ∀ n ∈ d.weights Try.prog 39, n ≤ reachBytes := fun n hn => by
    have := List.all_eq_true.1 hsz _ (DataW.weights_mem_each ht hd n hn)
    simpa using this
  rcases Go.Deep.open_slice Try.underlying39 hf with ⟨hcs, _⟩ | ⟨a, len, cap, m, nf, D, Pl, hcs, _, hl, hm, hmm, hx, hi⟩
  · simp [Value.cells] at hcs
    obtain ⟨rfl, rfl, rfl⟩ := hcs
    exact ⟨fun _ => ⟨0, 0, 0, ⟨#[]⟩, ⟨#[]⟩, ⟨#[]⟩, ⟨#[]⟩⟩, Nat.le_refl _, by omega, fun j hj => absurd hj (by omega), fun j hj => absurd hj (by omega)⟩
  · simp [Value.cells] at hcs
    obtain ⟨rfl, rfl, rfl⟩ := hcs
    have hmc : m = c := by simpa using hmm
    simp only [Prod.mk.injEq] at hx
    have hx1 := hx.1
    have each : ∀ j, j < n → ∃ x : Cm, CmOk x ∧ ∃ b off, a = ⟨b, off, none⟩ ∧ b < W.heap.size ∧ CmAt W b off j x := by
      intro j hj
      obtain ⟨cs', hc, ht'⟩ := hi j (by omega)
      rw [Try.cells35] at hc
      obtain ⟨_, hlen, hat⟩ := World.cells?_some hc
      obtain ⟨x, rfl, ok⟩ := cmd_cells ht' fun k hk => by
        apply hw
        rw [hx1]
        unfold DataW.weights
        rw [Try.underlying39]
        refine List.mem_cons_of_mem _ (List.mem_append_left _ (c_weights_all (d := D j) ?_ k hk))
        exact List.mem_map.2 ⟨j, List.mem_range.2 hj, rfl⟩
      have hsp : a.spot = none := by
        obtain ⟨cs0, hc0, ht0⟩ := hi 0 (by omega)
        rw [Try.cells35] at hc0
        obtain ⟨_, hlen0, hat0⟩ := World.cells?_some hc0
        have h0 := hat0 0 (by omega)
        rw [List.getElem?_eq_getElem (by omega)] at h0
        have := World.cell?_spot h0
        unfold Addr.add at this
        simpa using this
      obtain ⟨b, off, spot⟩ := a
      obtain rfl : spot = none := hsp
      have a0 := hat 0 (by omega)
      have a1 := hat 1 (by omega)
      have a2 := hat 2 (by omega)
      have a3 := hat 3 (by omega)
      have a4 := hat 4 (by omega)
      have a5 := hat 5 (by omega)
      have a6 := hat 6 (by omega)
      rw [Go.WideShapes.add_plain, Go.WideShapes.add_plain] at a0 a1 a2 a3 a4 a5 a6
      refine ⟨x, ok, b, off, rfl, ?_, a0, a1, a2, a3, a4, a5, a6⟩
      rcases Nat.lt_or_ge b W.heap.size with h1 | h1
      · exact h1
      · simp [World.cell?, Array.getElem?_eq_none h1, Cm.l] at a0
    refine ⟨fun j => if h : j < n then Classical.choose (each j h) else ⟨0, 0, 0, ⟨#[]⟩, ⟨#[]⟩, ⟨#[]⟩, ⟨#[]⟩⟩, hl, hm, fun j hj => ?_, fun j hj => ?_⟩
    · obtain ⟨ok, _⟩ := Classical.choose_spec (each j hj)
      simp only [dif_pos hj]
      exact ok
    · obtain ⟨_, b, off, rfl, hb, hx⟩ := Classical.choose_spec (each j hj)
      refine ⟨b, off, rfl, hb, ?_⟩
      simp only [dif_pos hj]
      exact hx
end Go.Proofs.Ytahfpncfkcfogaa
/- Commands in plain words: which may be, what they touch, which two clash; their bytes. No condition: nothing here speaks of a program. -/
namespace Go.Proofs.Ytahfpncfkcfogaa
set_option maxRecDepth 100000
open Go.RowKit
/-- No text. -/
def noT : ByteArray := ⟨#[]⟩
/-- The command that does nothing. -/
def c_zeroC : Cm := ⟨0, 0, 0, noT, noT, noT, noT⟩
/-- Are the commands the same. -/
def sameC (x y : Cm) : Bool := x.k == y.k && (x.c == y.c && (x.q == y.q && (eqB x.key y.key && (eqB x.en y.en && (eqB x.old y.old && eqB x.val y.val)))))
/-- What the kind names. -/
def namedC (x : Cm) : Cm :=
  if x.k = 1 ∨ x.k = 3 then ⟨x.k, x.c, x.q, x.key, noT, noT, noT⟩
  else if x.k = 2 then ⟨x.k, x.c, x.q, x.key, noT, noT, x.val⟩
  else if x.k = 4 then ⟨x.k, x.c, x.q, x.key, noT, x.old, x.val⟩
  else if x.k = 5 then ⟨x.k, x.c, x.q, x.key, x.en, noT, noT⟩
  else c_zeroC
/-- Within the limits. -/
def boundC (x : Cm) : Bool :=
  !(nilB x.key && decide (x.k ≠ 5)) && (decide (1 ≤ x.c) && (decide (x.c ≤ 8) && (decide (1 ≤ x.q) && (decide (x.q ≤ 1099511627776) &&
    (decide (x.key.size ≤ 16 ∧ x.en.size ≤ 16) && decide (x.old.size ≤ 64 ∧ x.val.size ≤ 64))))))
def rightC (x : Cm) : Bool := if x.k = 0 then sameC x c_zeroC else sameC x (namedC x) && boundC x
/-- Does it touch keys; from where; to where. -/
def hasC (k : Int) : Bool := decide (1 ≤ k) && decide (k ≤ 5)
def loC (x : Cm) : ByteArray := if hasC x.k then x.key else noT
def hiC (x : Cm) : ByteArray := if hasC x.k then (if x.k = 5 then x.en else nextT x.key) else noT
def writesC (k : Int) : Bool := decide (2 ≤ k) && decide (k ≤ 4)
def clashC (x y : Cm) : Bool := (hasC x.k && hasC y.k) && (x.c == y.c || ((writesC x.k || writesC y.k) && meetB (loC x) (hiC x) (loC y) (hiC y)))
theorem eqB_self (a : ByteArray) : eqB a a = true := by simp [eqB]
theorem eqB_iff {a b : ByteArray} : eqB a b = true ↔ a = b := by
  unfold eqB
  rw [beq_iff_eq]
  constructor
  · intro h
    rw [ByteArray.toList_eq, ByteArray.toList_eq] at h
    obtain ⟨⟨x⟩⟩ := a
    obtain ⟨⟨y⟩⟩ := b
    exact congrArg (fun l => (⟨⟨l⟩⟩ : ByteArray)) h
  · rintro rfl; rfl
theorem sameC_iff {x y : Cm} : sameC x y = true ↔ x = y := by
  obtain ⟨k, c, q, a, b, o, v⟩ := x
  obtain ⟨k', c', q', a', b', o', v'⟩ := y
  unfold sameC
  simp only [Bool.and_eq_true, beq_iff_eq, eqB_iff, Cm.mk.injEq]
theorem c_nilB_iff {a : ByteArray} : nilB a = true ↔ a = noT := by
  unfold nilB noT
  rw [List.isEmpty_iff, ByteArray.toList_eq]
  obtain ⟨⟨x⟩⟩ := a
  constructor
  · intro h; exact congrArg (fun l => (⟨⟨l⟩⟩ : ByteArray)) h
  · intro h; exact congrArg (fun l : ByteArray => l.data.toList) h
end Go.Proofs.Ytahfpncfkcfogaa
/- What the small functions of package cmd come to. No condition. -/
namespace Go.Proofs.Ytahfpncfkcfogaa
set_option maxRecDepth 100000
open Go.RowKit
theorem eql_cmd (k c q : Int) (a b o v : ByteArray) (k' c' q' : Int) (a' b' o' v' : ByteArray) (w : World) :
    (binOp .eql 35 (.agg #[.int .i64 k, .int .i64 c, .int .i64 q, .string a, .string b, .string o, .string v]) (.agg #[.int .i64 k', .int .i64 c', .int .i64 q', .string a', .string b', .string o', .string v'])).run Try.prog w =
      .ok (.bool (sameC ⟨k, c, q, a, b, o, v⟩ ⟨k', c', q', a', b', o', v'⟩)) w := by
  have u3 := Try.underlying3
  have a3 := Try.isAgg3
  have z3 := Try.sizeOf3
  have u9 := Try.underlying9
  have a9 := Try.isAgg9
  have z9 := Try.sizeOf9
  have hS : Try.prog.underlying 35 = some (.struct (Try.prog.fieldsOf 35)) := by kernel_rfl
  have hp : Try.prog.stoodInHeld 35 = false := by kernel_rfl
  rw [run_eql_struct, show (10000 : Nat) = 9999 + 1 from rfl, run_equalIn_agg w 9999 35 _ _ hS hp]
  simp only [Program.fieldsOf, Try.underlying35]
  go_simp
  unfold sameC eqB
  cases h1 : (k == k') <;> simp_all
  cases h2 : (c == c') <;> simp_all
  cases h3 : (q == q') <;> simp_all
  cases h4 : (a.toList == a'.toList) <;> simp_all
  cases h5 : (b.toList == b'.toList) <;> simp_all
  cases h6 : (o.toList == o'.toList) <;> simp_all
  cases h7 : (v.toList == v'.toList) <;> simp_all
theorem kinds5 (k : Int) : k = 1 ∨ k = 2 ∨ k = 3 ∨ k = 4 ∨ k = 5 ∨ ((k == 1) = false ∧ (k == 2) = false ∧ (k == 3) = false ∧ (k == 4) = false ∧ (k == 5) = false) := by
  simp only [beq_eq_false_iff_ne]; omega
/-- The command's value. -/
def valC (x : Cm) : Value := .agg #[.int .i64 x.k, .int .i64 x.c, .int .i64 x.q, .string x.key, .string x.en, .string x.old, .string x.val]
theorem bit_alloc {B : Nat} {a w : World} (h : Below B a w) (hB : B ≤ a.heap.size) (o : Obj) : Below B a (w.alloc o) := h.alloc (Nat.le_trans hB h.size) o
set_option maxRecDepth 100000 in
set_option maxHeartbeats 2000000 in
theorem named_any (k c q : Int) (a b o v : ByteArray) (w : World) :
    Calls Try.prog 56 #[.agg #[.int .i64 k, .int .i64 c, .int .i64 q, .string a, .string b, .string o, .string v]] w fun e w' => e = .returned (valC (namedC ⟨k, c, q, a, b, o, v⟩)) ∧ Below w.heap.size w w' := by
  rcases kinds5 k with rfl | rfl | rfl | rfl | rfl | ⟨k1, k2, k3, k4, k5⟩
  · go_enter Try.func56, Try.ntmps56
    go_wp2
    refine bodyPost_ret (v := valC ⟨1, c, q, a, noT, noT, noT⟩) (by simp [results, Try.results56, go_sem, valC, noT]) rfl ⟨rfl, ?_⟩
    repeat' first | exact Below.refl _ _ | refine bit_alloc ?_ (Nat.le_refl _) _
  · go_enter Try.func56, Try.ntmps56
    go_wp2
    refine bodyPost_ret (v := valC ⟨2, c, q, a, noT, noT, v⟩) (by simp [results, Try.results56, go_sem, valC, noT]) rfl ⟨rfl, ?_⟩
    repeat' first | exact Below.refl _ _ | refine bit_alloc ?_ (Nat.le_refl _) _
  · go_enter Try.func56, Try.ntmps56
    go_wp2
    refine bodyPost_ret (v := valC ⟨3, c, q, a, noT, noT, noT⟩) (by simp [results, Try.results56, go_sem, valC, noT]) rfl ⟨rfl, ?_⟩
    repeat' first | exact Below.refl _ _ | refine bit_alloc ?_ (Nat.le_refl _) _
  · go_enter Try.func56, Try.ntmps56
    go_wp2
    go_region
    go_wp2
    refine bodyPost_ret (v := valC ⟨4, c, q, a, noT, o, v⟩) (by simp [results, Try.results56, go_sem, valC, noT]) rfl ⟨rfl, ?_⟩
    repeat' first | exact Below.refl _ _ | refine Below.drew ?_ | refine bit_alloc ?_ (Nat.le_refl _) _
  · go_enter Try.func56, Try.ntmps56
    go_wp2
    refine bodyPost_ret (v := valC ⟨5, c, q, a, b, noT, noT⟩) (by simp [results, Try.results56, go_sem, valC, noT]) rfl ⟨rfl, ?_⟩
    repeat' first | exact Below.refl _ _ | refine bit_alloc ?_ (Nat.le_refl _) _
  · have e : namedC ⟨k, c, q, a, b, o, v⟩ = c_zeroC := by
      simp only [beq_eq_false_iff_ne] at k1 k2 k3 k4 k5
      unfold namedC
      rw [if_neg (by simp only; omega), if_neg k2, if_neg k4, if_neg k5]
    rw [e]
    go_enter Try.func56, Try.ntmps56
    go_wp2
    refine bodyPost_ret (v := valC c_zeroC) (by simp [results, Try.results56, go_sem, valC, c_zeroC, noT]) rfl ⟨rfl, ?_⟩
    repeat' first | exact Below.refl _ _ | refine bit_alloc ?_ (Nat.le_refl _) _
theorem writes_any (k c q : Int) (a b o v : ByteArray) (w : World) :
    Calls Try.prog 26 #[.agg #[.int .i64 k, .int .i64 c, .int .i64 q, .string a, .string b, .string o, .string v]] w fun e w' => e = .returned (.bool (writesC k)) ∧ Below w.heap.size w w' := by
  rcases kinds5 k with rfl | rfl | rfl | rfl | rfl | ⟨k1, k2, k3, k4, k5⟩
  · go_enter Try.func26, Try.ntmps26
    go_wp2
    go_ret
    exact ⟨rfl, (Below.refl _ _).alloc (Nat.le_refl _) _⟩
  · go_enter Try.func26, Try.ntmps26
    go_wp2
    go_ret
    exact ⟨rfl, (Below.refl _ _).alloc (Nat.le_refl _) _⟩
  · go_enter Try.func26, Try.ntmps26
    go_wp2
    go_ret
    exact ⟨rfl, (Below.refl _ _).alloc (Nat.le_refl _) _⟩
  · go_enter Try.func26, Try.ntmps26
    go_wp2
    go_ret
    exact ⟨rfl, (Below.refl _ _).alloc (Nat.le_refl _) _⟩
  · go_enter Try.func26, Try.ntmps26
    go_wp2
    go_ret
    exact ⟨rfl, (Below.refl _ _).alloc (Nat.le_refl _) _⟩
  · have e : writesC k = false := by
      simp only [beq_eq_false_iff_ne] at k1 k2 k3 k4 k5
      unfold writesC
      rw [Bool.and_eq_false_iff, decide_eq_false_iff_not, decide_eq_false_iff_not]; omega
    rw [e]
    clear e
    go_enter Try.func26, Try.ntmps26
    go_wp2
    go_ret
    exact ⟨rfl, (Below.refl _ _).alloc (Nat.le_refl _) _⟩
end Go.Proofs.Ytahfpncfkcfogaa
/- What Keys and bounded of package cmd come to. Conditions: the key has room. -/
namespace Go.Proofs.Ytahfpncfkcfogaa
set_option maxRecDepth 100000
open Go.RowKit
theorem row_two {w : World} {g : Nat} {t : TypeId} {x y : Value} (h : Row w g t #[x, y]) : w.cell? ⟨g, 0, none⟩ = some x ∧ w.cell? ⟨g, 1, none⟩ = some y ∧ w.frozen? ⟨g, 0, none⟩ = false ∧ w.frozen? ⟨g, 1, none⟩ = false :=
  ⟨h.cell 0, h.cell 1, h.free 0, h.free 1⟩
/-- A block just laid, behind a call. -/
theorem row_at {w w' : World} {g : Nat} {t : TypeId} {cs : Array Value} (hb : Below (g + 1) (w.alloc (.cells cs t)) w') (hg : w.heap.size = g) : Row w' g t cs := by
  subst hg; exact (Row.new w t cs).below hb (by omega)
theorem two_more {w w' : World} {x y : Obj} (hb : Below (w.heap.size + 1 + 1) ((w.alloc x).alloc y) w') : Below w.heap.size w w' :=
  (((Below.refl _ _).alloc (Nat.le_refl _) x).alloc (by simp) y).trans (hb.mono (by omega))
theorem kinds51 (k : Int) : (k = 1 ∨ k = 2 ∨ k = 3 ∨ k = 4) ∨ k = 5 ∨ ((k == 1) = false ∧ (k == 2) = false ∧ (k == 3) = false ∧ (k == 4) = false ∧ (k == 5) = false) := by
  simp only [beq_eq_false_iff_ne]; omega
theorem hasC_no {k : Int} (k1 : (k == 1) = false) (k2 : (k == 2) = false) (k3 : (k == 3) = false) (k4 : (k == 4) = false) (k5 : (k == 5) = false) : hasC k = false := by
  simp only [beq_eq_false_iff_ne] at k1 k2 k3 k4 k5
  unfold hasC
  rw [Bool.and_eq_false_iff, decide_eq_false_iff_not, decide_eq_false_iff_not]; omega
/-- A span and a flag. -/
def keysV (x : Cm) : Value := .tuple #[.agg #[.string (loC x), .string (hiC x)], .bool (hasC x.k)]
theorem keys_no {x : Cm} (h : hasC x.k = false) : keysV x = .tuple #[.agg #[.string noT, .string noT], .bool false] := by
  unfold keysV loC hiC; rw [h]; rfl
set_option maxRecDepth 100000 in
set_option maxHeartbeats 2000000 in
theorem keys_any (k c q : Int) (a b o v : ByteArray) (w : World) (ha : a.size ≤ 140737488355328) :
    Calls Try.prog 70 #[.agg #[.int .i64 k, .int .i64 c, .int .i64 q, .string a, .string b, .string o, .string v]] w fun e w' => e = .returned (keysV ⟨k, c, q, a, b, o, v⟩) ∧ Below w.heap.size w w' := by
  have hof := fun w1 => of_any a w1 ha
  have hof := hide hof
  clear ha
  rcases kinds51 k with h4 | rfl | ⟨k1, k2, k3, k4, k5⟩
  · rcases h4 with rfl | rfl | rfl | rfl
    all_goals
      go_enter Try.func70, Try.ntmps70
      go_wp2_with (go_at_call 96; (with_reducible refine (hof.out _).mono ?_); rintro e w' ⟨rfl, hb⟩; simp only [World.size_alloc] at hb; obtain ⟨c0, c1, f0, f1⟩ := row_two (row_at hb (by simp)))
      refine bodyPost_ret (v := keysV ⟨_, c, q, a, b, o, v⟩) (by simp [results, Try.results70, go_sem, keysV, loC, hiC, hasC, *]) rfl ⟨rfl, ?_⟩
      exact ((two_more hb).setCell (by simp) _).setCell (by simp) _
  · go_enter Try.func70, Try.ntmps70
    go_wp2
    refine bodyPost_ret (v := keysV ⟨5, c, q, a, b, o, v⟩) (by simp [results, Try.results70, go_sem, keysV, loC, hiC, hasC]) rfl ⟨rfl, ?_⟩
    repeat' first | exact Below.refl _ _ | refine Below.drew ?_ | refine bit_alloc ?_ (Nat.le_refl _) _
  · have e : keysV ⟨k, c, q, a, b, o, v⟩ = .tuple #[.agg #[.string noT, .string noT], .bool false] := by rw [keys_no (hasC_no k1 k2 k3 k4 k5)]
    rw [e]
    clear e
    go_enter Try.func70, Try.ntmps70
    go_wp2
    refine bodyPost_ret (v := .tuple #[.agg #[.string noT, .string noT], .bool false]) (by simp [results, Try.results70, go_sem, noT]) rfl ⟨rfl, ?_⟩
    repeat' first | exact Below.refl _ _ | refine Below.drew ?_ | refine bit_alloc ?_ (Nat.le_refl _) _
/-- The greater of two numbers is within just if both are. -/
theorem most_le (x y z : Int) : decide ((if y > x then y else x) ≤ z) = decide (x ≤ z ∧ y ≤ z) := by
  split
  all_goals (apply decide_eq_decide.2; omega)
set_option maxRecDepth 100000 in
set_option maxHeartbeats 4000000 in
theorem bounded_any (k c q : Int) (a b o v : ByteArray) (w : World) :
    Calls Try.prog 57 #[.agg #[.int .i64 k, .int .i64 c, .int .i64 q, .string a, .string b, .string o, .string v]] w fun e w' => e = .returned (.bool (boundC ⟨k, c, q, a, b, o, v⟩)) ∧ Below w.heap.size w w' := by
  go_enter Try.func57, Try.ntmps57
  go_wp2
  all_goals go_ret
  all_goals exact ⟨ret_bool (by simp [boundC, nilB, *] <;> (first | omega | (rw [Bool.eq_iff_iff]; simp_all; omega) | (intros; simp_all))), (Below.refl _ _).alloc (Nat.le_refl _) _⟩
end Go.Proofs.Ytahfpncfkcfogaa
/- What Right and Clash of package cmd come to. Conditions: the keys have room. -/
namespace Go.Proofs.Ytahfpncfkcfogaa
set_option maxRecDepth 100000
open Go.RowKit
/-- Block g holds a command. -/
structure Seven (w : World) (g : Nat) (x : Cm) : Prop where
  c0 : w.cell? ⟨g, 0, none⟩ = some (.int .i64 x.k)
  c1 : w.cell? ⟨g, 1, none⟩ = some (.int .i64 x.c)
  c2 : w.cell? ⟨g, 2, none⟩ = some (.int .i64 x.q)
  c3 : w.cell? ⟨g, 3, none⟩ = some (.string x.key)
  c4 : w.cell? ⟨g, 4, none⟩ = some (.string x.en)
  c5 : w.cell? ⟨g, 5, none⟩ = some (.string x.old)
  c6 : w.cell? ⟨g, 6, none⟩ = some (.string x.val)
/-- What lies at g, as cells. -/
def rowC (x : Cm) : Array Value := #[.int .i64 x.k, .int .i64 x.c, .int .i64 x.q, .string x.key, .string x.en, .string x.old, .string x.val]
theorem seven_of {w : World} {g : Nat} {t : TypeId} {x : Cm} (h : Row w g t (rowC x)) : Seven w g x := ⟨h.cell 0, h.cell 1, h.cell 2, h.cell 3, h.cell 4, h.cell 5, h.cell 6⟩
theorem Seven.kept {w w' : World} {g : Nat} {x : Cm} (h : Seven w g x) (hb : Below (g + 1) w w') : Seven w' g x :=
  ⟨(hb.cell (p := ⟨g, 0, none⟩) (Nat.lt_succ_self g)).trans h.c0, (hb.cell (p := ⟨g, 1, none⟩) (Nat.lt_succ_self g)).trans h.c1, (hb.cell (p := ⟨g, 2, none⟩) (Nat.lt_succ_self g)).trans h.c2, (hb.cell (p := ⟨g, 3, none⟩) (Nat.lt_succ_self g)).trans h.c3,
    (hb.cell (p := ⟨g, 4, none⟩) (Nat.lt_succ_self g)).trans h.c4, (hb.cell (p := ⟨g, 5, none⟩) (Nat.lt_succ_self g)).trans h.c5, (hb.cell (p := ⟨g, 6, none⟩) (Nat.lt_succ_self g)).trans h.c6⟩
theorem Seven.drew {w : World} {g : Nat} {x : Cm} (h : Seven w g x) : Seven w.drew g x := ⟨h.c0, h.c1, h.c2, h.c3, h.c4, h.c5, h.c6⟩
/-- A command that was just boxed, and what was there. -/
structure Boxed (W w : World) (x : Cm) : Prop where
  c : Seven w W.heap.size x
  old : Below W.heap.size W w
  lt : W.heap.size < w.heap.size
theorem Boxed.start (W : World) (x : Cm) (t : TypeId) : Boxed W (W.alloc (.cells (rowC x) t)) x := ⟨seven_of (Row.new W t (rowC x)), (Below.refl _ _).alloc (Nat.le_refl _) _, by simp⟩
theorem Boxed.drew {W w : World} {x : Cm} (h : Boxed W w x) : Boxed W w.drew x := ⟨h.c.drew, h.old.drew, h.lt⟩
theorem Boxed.step {W w w' : World} {x : Cm} (h : Boxed W w x) (hb : Below w.heap.size w w') : Boxed W w' x := ⟨h.c.kept (hb.mono h.lt), h.old.trans (hb.mono h.old.size), Nat.lt_of_lt_of_le h.lt hb.size⟩
/-- A call that makes memory leaves it. -/
theorem Boxed.call {P : Program} {F : FuncId} {args : Array Value} {v : Value} {W w : World} {x : Cm} (h : Boxed W w x) (hf : Calls P F args w fun e w' => e = .returned v ∧ Below w.heap.size w w') :
    Calls P F args w fun e w' => e = .returned v ∧ w'.cell? ⟨W.heap.size, 0, none⟩ = some (.int .i64 x.k) ∧ w'.cell? ⟨W.heap.size, 1, none⟩ = some (.int .i64 x.c) ∧ w'.cell? ⟨W.heap.size, 2, none⟩ = some (.int .i64 x.q) ∧
      w'.cell? ⟨W.heap.size, 3, none⟩ = some (.string x.key) ∧ w'.cell? ⟨W.heap.size, 4, none⟩ = some (.string x.en) ∧ w'.cell? ⟨W.heap.size, 5, none⟩ = some (.string x.old) ∧ w'.cell? ⟨W.heap.size, 6, none⟩ = some (.string x.val) ∧ Boxed W w' x :=
  hf.mono fun _ _ ⟨he, hb⟩ => have g := h.step hb; ⟨he, g.c.c0, g.c.c1, g.c.c2, g.c.c3, g.c.c4, g.c.c5, g.c.c6, g⟩
set_option maxRecDepth 100000 in
set_option maxHeartbeats 4000000 in
theorem c_right_any (k c q : Int) (a b o v : ByteArray) (w : World) :
    Calls Try.prog 27 #[.agg #[.int .i64 k, .int .i64 c, .int .i64 q, .string a, .string b, .string o, .string v]] w fun e w' => e = .returned (.bool (rightC ⟨k, c, q, a, b, o, v⟩)) ∧ Below w.heap.size w w' := by
  have heq := fun k' c' q' a' b' o' v' => eql_cmd k c q a b o v k' c' q' a' b' o' v'
  by_cases h0 : k = 0
  · subst h0
    have hr : rightC ⟨0, c, q, a, b, o, v⟩ = sameC ⟨0, c, q, a, b, o, v⟩ ⟨0, 0, 0, ⟨#[]⟩, ⟨#[]⟩, ⟨#[]⟩, ⟨#[]⟩⟩ := rfl
    rw [hr]
    clear hr
    go_enter Try.func27, Try.ntmps27
    go_wp2
    all_goals go_ret
    all_goals exact ⟨rfl, (Below.refl _ _).alloc (Nat.le_refl _) _⟩
  · have hr : rightC ⟨k, c, q, a, b, o, v⟩ = (sameC ⟨k, c, q, a, b, o, v⟩ (namedC ⟨k, c, q, a, b, o, v⟩) && boundC ⟨k, c, q, a, b, o, v⟩) := by unfold rightC; rw [if_neg h0]
    rw [hr]
    clear hr
    have t0 : (k == 0) = false := by rw [beq_eq_false_iff_ne]; exact h0
    have hn := fun w1 => named_any k c q a b o v w1
    have st : Boxed w (w.alloc (.cells #[.int .i64 k, .int .i64 c, .int .i64 q, .string a, .string b, .string o, .string v] 35)) ⟨k, c, q, a, b, o, v⟩ := Boxed.start w ⟨k, c, q, a, b, o, v⟩ 35
    unfold valC at hn
    generalize namedC ⟨k, c, q, a, b, o, v⟩ = z at *
    obtain ⟨k', c', q', a', b', o', v'⟩ := z
    simp only at hn
    have hN := hide hn
    clear h0 hn
    cases hs : sameC ⟨k, c, q, a, b, o, v⟩ ⟨k', c', q', a', b', o', v'⟩
    · go_enter Try.func27, Try.ntmps27
      go_upto_region 3 with (fail)
      go_region_with (first
          | (go_at_call 56; (with_reducible refine (Boxed.call (W := w) (x := ⟨k, c, q, a, b, o, v⟩) (by first | with_reducible assumption | with_reducible exact Boxed.drew (by with_reducible assumption)) (hN.out _)).mono ?_); rintro e w' ⟨rfl, q0, q1, q2, q3, q4, q5, q6, st'⟩))
      all_goals go_wp2
      all_goals go_ret
      all_goals exact ⟨rfl, Boxed.old (by with_reducible assumption)⟩
    · go_enter Try.func27, Try.ntmps27
      go_upto_region 3 with (fail)
      go_region_held3 (fun w' => w'.cell? ⟨w.heap.size, 0, none⟩ = some (.int .i64 k) ∧ w'.cell? ⟨w.heap.size, 1, none⟩ = some (.int .i64 c) ∧ w'.cell? ⟨w.heap.size, 2, none⟩ = some (.int .i64 q) ∧
          w'.cell? ⟨w.heap.size, 3, none⟩ = some (.string a) ∧ w'.cell? ⟨w.heap.size, 4, none⟩ = some (.string b) ∧ w'.cell? ⟨w.heap.size, 5, none⟩ = some (.string o) ∧ w'.cell? ⟨w.heap.size, 6, none⟩ = some (.string v)) (go_keep)
        (first
          | (go_at_call 56; (with_reducible refine (Boxed.call (W := w) (x := ⟨k, c, q, a, b, o, v⟩) (by first | with_reducible assumption | with_reducible exact Boxed.drew (by with_reducible assumption)) (hN.out _)).mono ?_); rintro e w' ⟨rfl, q0, q1, q2, q3, q4, q5, q6, st'⟩)
          | (go_at_call 57; (with_reducible refine (Boxed.call (W := w) (x := ⟨k, c, q, a, b, o, v⟩) (by first | with_reducible assumption | with_reducible exact Boxed.drew (by with_reducible assumption)) (bounded_any k c q a b o v _)).mono ?_); rintro e w' ⟨rfl, q0, q1, q2, q3, q4, q5, q6, st'⟩))
      all_goals go_wp2
      all_goals go_ret
      all_goals exact ⟨rfl, Boxed.old (by with_reducible assumption)⟩
end Go.Proofs.Ytahfpncfkcfogaa
/- What Clash of package cmd comes to. Conditions: the keys have room. -/
namespace Go.Proofs.Ytahfpncfkcfogaa
set_option maxRecDepth 100000
open Go.RowKit
/-- Two commands that were just boxed, and what was there. -/
structure Both (W w : World) (x y : Cm) : Prop where
  a : Seven w W.heap.size x
  b : Seven w (W.heap.size + 1) y
  old : Below W.heap.size W w
  lt : W.heap.size + 1 < w.heap.size
theorem Both.start (W : World) (x y : Cm) (t : TypeId) : Both W ((W.alloc (.cells (rowC x) t)).alloc (.cells (rowC y) t)) x y :=
  ⟨(seven_of (Row.new W t (rowC x))).kept ((Below.refl _ _).alloc (by simp) _), by have := seven_of (Row.new (W.alloc (.cells (rowC x) t)) t (rowC y)); simpa using this, ((Below.refl _ _).alloc (Nat.le_refl _) _).alloc (by simp) _, by simp⟩
theorem Both.step {W w w' : World} {x y : Cm} (h : Both W w x y) (hb : Below w.heap.size w w') : Both W w' x y :=
  ⟨h.a.kept (hb.mono (by have := h.lt; omega)), h.b.kept (hb.mono h.lt), h.old.trans (hb.mono h.old.size), Nat.lt_of_lt_of_le h.lt hb.size⟩
/-- Behind Keys of the first. -/
structure Both1 (W w : World) (x y : Cm) (g : Nat) (l h : ByteArray) : Prop where
  s : Both W w x y
  t : Two w g l h
theorem Both1.step {W w w' : World} {x y : Cm} {g : Nat} {l h : ByteArray} (s : Both1 W w x y g l h) (hb : Below w.heap.size w w') : Both1 W w' x y g l h := ⟨s.s.step hb, s.t.kept hb⟩
structure Both2 (W w : World) (x y : Cm) (g : Nat) (l h : ByteArray) (g' : Nat) (l' h' : ByteArray) : Prop where
  s : Both1 W w x y g l h
  t : Two w g' l' h'
theorem Both2.step {W w w' : World} {x y : Cm} {g : Nat} {l h : ByteArray} {g' : Nat} {l' h' : ByteArray} (s : Both2 W w x y g l h g' l' h') (hb : Below w.heap.size w w') : Both2 W w' x y g l h g' l' h' := ⟨s.s.step hb, s.t.kept hb⟩
/-- What a walk needs of it. -/
def Cells7 (w : World) (g : Nat) (x : Cm) : Prop := w.cell? ⟨g, 0, none⟩ = some (.int .i64 x.k) ∧ w.cell? ⟨g, 1, none⟩ = some (.int .i64 x.c) ∧ w.cell? ⟨g, 2, none⟩ = some (.int .i64 x.q) ∧ w.cell? ⟨g, 3, none⟩ = some (.string x.key) ∧ w.cell? ⟨g, 4, none⟩ = some (.string x.en) ∧
  w.cell? ⟨g, 5, none⟩ = some (.string x.old) ∧ w.cell? ⟨g, 6, none⟩ = some (.string x.val)
theorem Seven.cells {w : World} {g : Nat} {x : Cm} (h : Seven w g x) : Cells7 w g x := ⟨h.c0, h.c1, h.c2, h.c3, h.c4, h.c5, h.c6⟩
/-- A call that makes memory leaves all of it. -/
theorem Both2.call {P : Program} {F : FuncId} {args : Array Value} {u : Value} {W w : World} {x y : Cm} {g : Nat} {l h : ByteArray} {g' : Nat} {l' h' : ByteArray} (s : Both2 W w x y g l h g' l' h') (hf : Calls P F args w fun e w' => e = .returned u ∧ Below w.heap.size w w') :
    Calls P F args w fun e w' => e = .returned u ∧ Cells7 w' W.heap.size x ∧ Cells7 w' (W.heap.size + 1) y ∧ (w'.cell? ⟨g, 0, none⟩ = some (.string l) ∧ w'.cell? ⟨g, 1, none⟩ = some (.string h) ∧ w'.cell? ⟨g', 0, none⟩ = some (.string l') ∧ w'.cell? ⟨g', 1, none⟩ = some (.string h')) ∧ Both2 W w' x y g l h g' l' h' :=
  hf.mono fun _ _ ⟨he, hb⟩ => have z := s.step hb; ⟨he, z.s.s.a.cells, z.s.s.b.cells, ⟨z.s.t.c0, z.s.t.c1, z.t.c0, z.t.c1⟩, z⟩
set_option maxRecDepth 100000 in
set_option maxHeartbeats 8000000 in
theorem clash_any (k c q : Int) (a b o v : ByteArray) (k' c' q' : Int) (a' b' o' v' : ByteArray) (w : World) (ha : a.size ≤ 140737488355328) (ha' : a'.size ≤ 140737488355328) :
    Calls Try.prog 35 #[.agg #[.int .i64 k, .int .i64 c, .int .i64 q, .string a, .string b, .string o, .string v], .agg #[.int .i64 k', .int .i64 c', .int .i64 q', .string a', .string b', .string o', .string v']] w
      fun e w' => e = .returned (.bool (clashC ⟨k, c, q, a, b, o, v⟩ ⟨k', c', q', a', b', o', v'⟩)) ∧ Below w.heap.size w w' := by
  have hk1 := fun w1 => keys_any k c q a b o v w1 ha
  have hk2 := fun w1 => keys_any k' c' q' a' b' o' v' w1 ha'
  have hw1 := fun w1 => writes_any k c q a b o v w1
  have hw2 := fun w1 => writes_any k' c' q' a' b' o' v' w1
  unfold clashC
  unfold keysV at hk1 hk2
  have st : Both w ((w.alloc (.cells #[.int .i64 k, .int .i64 c, .int .i64 q, .string a, .string b, .string o, .string v] 35)).alloc (.cells #[.int .i64 k', .int .i64 c', .int .i64 q', .string a', .string b', .string o', .string v'] 35)) ⟨k, c, q, a, b, o, v⟩ ⟨k', c', q', a', b', o', v'⟩ :=
    Both.start w ⟨k, c, q, a, b, o, v⟩ ⟨k', c', q', a', b', o', v'⟩ 35
  simp only at hk1 hk2 ⊢
  generalize loC ⟨k, c, q, a, b, o, v⟩ = l1 at *
  generalize hiC ⟨k, c, q, a, b, o, v⟩ = h1 at *
  generalize loC ⟨k', c', q', a', b', o', v'⟩ = l2 at *
  generalize hiC ⟨k', c', q', a', b', o', v'⟩ = h2 at *
  generalize hasC k = p at *
  generalize hasC k' = p' at *
  generalize writesC k = r at *
  generalize writesC k' = r' at *
  have K1 := hide hk1
  have K2 := hide hk2
  have W1 := hide hw1
  have W2 := hide hw2
  have ST := hide st
  clear hk1 hk2 hw1 hw2 ha ha' st
  go_enter Try.func35, Try.ntmps35
  go_upto_region 2 with (go_at_call 70; (with_reducible refine (K1.out _).mono ?_); rintro e w1 ⟨rfl, hb1⟩; have st1 := hide (ST.out.step hb1); clear hb1)
  have st2 := hide (show Both1 w _ _ _ w1.heap.size l1 h1 from ⟨st1.out.step ((Below.refl _ _).alloc (Nat.le_refl _) (.cells #[.string l1, .string h1] 72)), Two.new w1 l1 h1 72⟩)
  generalize w1.heap.size = g1 at *
  generalize w1.alloc (.cells #[.string l1, .string h1] 72) = w2 at *
  obtain ⟨b0, b1, b2, b3, b4, b5, b6⟩ := st2.out.s.b.cells
  go_upto_region 3 with (go_at_call 70; (with_reducible refine (K2.out _).mono ?_); rintro e w3 ⟨rfl, hb3⟩; have st3 := hide (st2.out.step hb3); clear hb3)
  have st4 := hide (show Both2 w _ _ _ g1 l1 h1 w3.heap.size l2 h2 from ⟨st3.out.step ((Below.refl _ _).alloc (Nat.le_refl _) (.cells #[.string l2, .string h2] 72)), Two.new w3 l2 h2 72⟩)
  generalize w3.heap.size = g2 at *
  generalize w3.alloc (.cells #[.string l2, .string h2] 72) = w4 at *
  obtain ⟨A0, A1, A2, A3, A4, A5, A6⟩ := st4.out.s.s.a.cells
  obtain ⟨B0, B1, B2, B3, B4, B5, B6⟩ := st4.out.s.s.b.cells
  have C0 := st4.out.s.t.c0
  have C1 := st4.out.s.t.c1
  have C2 := st4.out.t.c0
  have C3 := st4.out.t.c1
  simp only at A0 A1 A2 A3 A4 A5 A6 B0 B1 B2 B3 B4 B5 B6
  clear b0 b1 b2 b3 b4 b5 b6
  have old4 := st4.out.s.s.old
  have st := st4.out
  clear st1 st2 st3 st4 ST
  go_wp2_with (first
    | (go_at_call 26; (with_reducible refine (Both2.call (by with_reducible assumption) (W1.out _)).mono ?_); rintro e w5 ⟨rfl, ⟨A0, A1, A2, A3, A4, A5, A6⟩, ⟨B0, B1, B2, B3, B4, B5, B6⟩, ⟨C0, C1, C2, C3⟩, st⟩; simp only at A0 A1 A2 A3 A4 A5 A6 B0 B1 B2 B3 B4 B5 B6; have old4 := st.s.s.old)
    | (go_at_call 26; (with_reducible refine (Both2.call (by with_reducible assumption) (W2.out _)).mono ?_); rintro e w5 ⟨rfl, ⟨A0, A1, A2, A3, A4, A5, A6⟩, ⟨B0, B1, B2, B3, B4, B5, B6⟩, ⟨C0, C1, C2, C3⟩, st⟩; simp only at A0 A1 A2 A3 A4 A5 A6 B0 B1 B2 B3 B4 B5 B6; have old4 := st.s.s.old)
    | (go_at_call 71; (with_reducible refine (Both2.call (by with_reducible assumption) (meets_any l1 h1 l2 h2 _)).mono ?_); rintro e w5 ⟨rfl, ⟨A0, A1, A2, A3, A4, A5, A6⟩, ⟨B0, B1, B2, B3, B4, B5, B6⟩, ⟨C0, C1, C2, C3⟩, st⟩; have old4 := st.s.s.old))
  all_goals go_ret
  all_goals exact ⟨ret_bool (by simp [*] <;> simp_all), by with_reducible assumption⟩
end Go.Proofs.Ytahfpncfkcfogaa
