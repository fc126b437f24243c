/- Small words that all texts share. No condition: nothing here speaks of a program. -/
import Derived.Laws.BitsAllLaws
import Derived.IntWalk
import Derived.Below
import Derived.WalkKit
import Derived.WalkSpells
import Derived.WalkLawsBesides
import Derived.Deep.Draws
import Derived.Laws.AppendOwnNone
import Derived.Deep.DeepAppendWide
import Derived.Test.YtjkdccokiaejhaaRows
import Derived.ProofKit
import Derived.OpenShut
import Derived.SizedLaws
import Derived.Lib.SmallJoins
import Derived.Deep.AppendLies
import Derived.Laws.OwnMore
import Derived.Laws.CopyOwn
import Derived.LoopTactic
import Derived.BigQuiet
import Derived.Deep.QuietTactic
import Derived.StillTailTactics
import Derived.LoopN
import Derived.Deep.DeepCutAuto
import Derived.Lib.MinMax
import Derived.Deep.Quiet
import Derived.Deep.Slices
import Derived.Deep.Fields
import Derived.ChangeSame
import Derived.Laws.StructEq
import Derived.ChangeKeysEq
import Derived.Maps.OwnSet
import Derived.Maps.OwnOps
import Derived.DeepKeys4
import Derived.Deep.RegionHeld3
import Derived.Maps.AppendAt
namespace Go.Proofs.Ytjkdccokiaejhaa
set_option maxRecDepth 100000
open Go.RowKit
theorem ret_int {k : IntKind} {a b : Int} (h : a = b) : Ending.returned (.int k a) = .returned (.int k b) := by rw [h]
theorem ret_bool {a b : Bool} (h : a = b) : Ending.returned (.bool a) = .returned (.bool b) := by rw [h]
theorem hide {p : Prop} (h : p) : Hid p := h
end Go.Proofs.Ytjkdccokiaejhaa
/- Words for slices of bytes: what a slice reads as, and that it stays. No condition: nothing here speaks of one function. -/
namespace Go.Proofs.Ytjkdccokiaejhaa
set_option maxRecDepth 100000
open Go.RowKit

/-- Place k of a list of numbers. -/
def ix (zs : List Int) (k : Nat) : Int := zs.getD k 0
/-- The list as cells of bytes. -/
def cellsOf (zs : List Int) : List Value := zs.map (Value.int .u8)
/-- The numbers are bytes. -/
def Octets (zs : List Int) : Prop := ∀ z, z ∈ zs → 0 ≤ z ∧ z ≤ 255
/-- From address A on there lie the bytes zs, below the heap's end. -/
def Lies (w : World) (A : Option Addr) (zs : List Int) : Prop :=
  0 < zs.length → ∃ b off, A = some ⟨b, off, none⟩ ∧ b < w.heap.size ∧ ∀ k, k < zs.length → w.cell? ⟨b, off + k, none⟩ = some (.int .u8 (ix zs k))

theorem ix_lt (zs : List Int) {k : Nat} (h : k < zs.length) : ix zs k = zs[k] := by
  unfold ix; rw [List.getD_eq_getElem?_getD, List.getElem?_eq_getElem h]; rfl
theorem ix_ge (zs : List Int) {k : Nat} (h : zs.length ≤ k) : ix zs k = 0 := by
  unfold ix; rw [List.getD_eq_getElem?_getD, List.getElem?_eq_none h]; rfl
theorem Octets.ix {zs : List Int} (h : Octets zs) (k : Nat) : 0 ≤ ix zs k ∧ ix zs k ≤ 255 := by
  by_cases hk : k < zs.length
  · rw [ix_lt zs hk]; exact h _ (List.getElem_mem hk)
  · rw [ix_ge zs (by omega)]; omega
theorem ext_ix {zs ys : List Int} (hl : zs.length = ys.length) (h : ∀ k, k < zs.length → ix zs k = ix ys k) : zs = ys := by
  apply List.ext_getElem hl
  intro k h1 h2
  have := h k h1
  rwa [ix_lt zs h1, ix_lt ys h2] at this
theorem length_cellsOf (zs : List Int) : (cellsOf zs).length = zs.length := List.length_map _
theorem cellsOf_one {zs : List Int} : ∀ u ∈ cellsOf zs, u.oneCell' = true := by
  intro u hu
  unfold cellsOf at hu
  obtain ⟨z, _, rfl⟩ := List.mem_map.1 hu
  rfl
theorem cellsOf_append (zs ys : List Int) : cellsOf (zs ++ ys) = cellsOf zs ++ cellsOf ys := List.map_append
theorem cellsOf_at (zs : List Int) {k : Nat} (h : k < zs.length) : (cellsOf zs)[k]? = some (.int .u8 (ix zs k)) := by
  unfold cellsOf; rw [List.getElem?_map, List.getElem?_eq_getElem h, ix_lt zs h]; rfl
theorem cellsOf_some {zs : List Int} {k : Nat} {u : Value} (h : (cellsOf zs)[k]? = some u) : k < zs.length ∧ u = .int .u8 (ix zs k) := by
  have hk : k < zs.length := by
    rcases Nat.lt_or_ge k zs.length with h1 | h1
    · exact h1
    · rw [List.getElem?_eq_none (by rw [length_cellsOf]; exact h1)] at h; cases h
  rw [cellsOf_at zs hk] at h
  exact ⟨hk, (Option.some.inj h).symm⟩

section
variable {w w' : World} {A : Option Addr} {zs : List Int}
theorem Lies.none_ : Lies w A [] := fun h => absurd h (by simp)
theorem Lies.nil_ (h : Lies w A zs) (hA : A = none) : zs.length = 0 := by
  rcases Nat.eq_zero_or_pos zs.length with h0 | h0
  · exact h0
  · obtain ⟨_, _, e, _⟩ := h h0
    rw [hA] at e; cases e
theorem Lies.at_ {k : Nat} (h : Lies w A zs) (hk : k < zs.length) : ∃ b off, A = some ⟨b, off, none⟩ ∧ b < w.heap.size ∧ w.cell? ⟨b, off + k, none⟩ = some (.int .u8 (ix zs k)) := by
  obtain ⟨b, off, e, hb, hc⟩ := h (by omega)
  exact ⟨b, off, e, hb, hc k hk⟩
theorem Lies.below (h : Lies w A zs) (hb : Below w.heap.size w w') : Lies w' A zs := fun hn => by
  obtain ⟨b, off, e, hlt, hc⟩ := h hn
  exact ⟨b, off, e, Nat.lt_of_lt_of_le hlt hb.size, fun k hk => (hb.cell (p := ⟨b, off + k, none⟩) hlt).trans (hc k hk)⟩
theorem Lies.drew (h : Lies w A zs) : Lies w.drew A zs := h
theorem Lies.drewN (h : Lies w A zs) (n : Nat) : Lies (w.drewN n) A zs := h
theorem Lies.alloc (h : Lies w A zs) (o : Obj) : Lies (w.alloc o) A zs := h.below ((Below.refl _ _).alloc (Nat.le_refl _) o)
theorem Lies.take (h : Lies w A zs) (n : Nat) : Lies w A (zs.take n) := fun hn => by
  have hl : (zs.take n).length ≤ zs.length := by rw [List.length_take]; omega
  obtain ⟨b, off, e, hlt, hc⟩ := h (by omega)
  refine ⟨b, off, e, hlt, fun k hk => ?_⟩
  have : ix (zs.take n) k = ix zs k := by
    rw [ix_lt _ hk, ix_lt zs (by omega), List.getElem_take]
  rw [this]
  exact hc k (by omega)
/-- The address of a part, from place i on: the model keeps the old one where the room ends there. Behind a name, since the walk parts at an if. -/
def partA (A : Option Addr) (c i : Nat) : Option Addr := if c = i then A else Option.map (fun x => x.add i) A
/-- A part: its address as the model reckons it. -/
theorem Lies.part {c : Nat} (h : Lies w A zs) (hc : zs.length ≤ c) (i k : Nat) : Lies w (partA A c i) ((zs.drop i).take k) := fun hn => by
  rw [List.length_take, List.length_drop] at hn
  obtain ⟨b, off, e, hlt, hcell⟩ := h (by omega)
  have hne : ¬ c = i := by omega
  unfold partA
  rw [if_neg hne, e]
  refine ⟨b, off + i, by cases i <;> rfl, hlt, fun j hj => ?_⟩
  rw [List.length_take, List.length_drop] at hj
  have e2 : ix ((zs.drop i).take k) j = ix zs (i + j) := by
    rw [ix_lt _ (by rw [List.length_take, List.length_drop]; omega), ix_lt zs (by omega), List.getElem_take, List.getElem_drop]
  rw [e2, Nat.add_assoc]
  exact hcell (i + j) (by omega)
theorem Lies.rest {c : Nat} (h : Lies w A zs) (hc : zs.length ≤ c) (i : Nat) : Lies w (partA A c i) (zs.drop i) := by
  have := h.part hc i (zs.length - i)
  rwa [List.take_of_length_le (by rw [List.length_drop]; exact Nat.le_refl _)] at this
theorem Lies.cells {b off : Nat} (h : Lies w (some ⟨b, off, none⟩) zs) : ∀ j u, (cellsOf zs)[j]? = some u → w.cell? ((⟨b, off, none⟩ : Addr).add j) = some u := by
  intro j u hj
  obtain ⟨hk, rfl⟩ := cellsOf_some hj
  obtain ⟨b', off', e, _, hc⟩ := h.at_ hk
  injection e with e
  injection e with e1 e2 _
  subst e1 e2
  rcases j with _ | j
  · exact hc
  · exact hc
theorem Lies.of_own {base : Nat} {e : TypeId} {n c : Nat} (h : w.ownsRow base e 1 (.slice A n c) n (cellsOf zs)) : Lies w A zs := by
  intro hn
  have hl : zs.length = n := by have := h.1; rw [length_cellsOf] at this; omega
  rcases h.2 with ⟨_, h0⟩ | ⟨g, cap, cur, hv, _, hh, _⟩
  · omega
  · injection hv with hA _ hc
    subst hA hc
    refine ⟨g, 0, rfl, ?_, fun k hk => ?_⟩
    · rcases Nat.lt_or_ge g w.heap.size with h1 | h1
      · exact h1
      · rw [Array.getElem?_eq_none h1] at hh; cases hh
    · have := h.cellAt k (by omega)
      rw [Nat.zero_add, this, cellsOf_at zs hk]
end
theorem own_shape {w : World} {base : Nat} {e : TypeId} {v : Value} {n : Nat} {xs : List Value} (h : w.ownsRow base e 1 v n xs) : ∃ A c, v = .slice A n c ∧ (A = none → c = 0) := by
  rcases h.2 with ⟨rfl, rfl⟩ | ⟨g, cap, cur, rfl, _⟩
  · exact ⟨none, 0, rfl, fun _ => rfl⟩
  · exact ⟨_, cap, rfl, fun h => by cases h⟩
/-- append of a slice that lies anywhere, nil or not, onto a row of the call's own. -/
theorem wpList_append_lies {P : Program} {w : World} {ops : Array Oper} {rest : List Oper} {o : Oper} {a : Act} {Q : Exit → Act → World → Prop} (hgd : o.guard = none) (s x : Operand) (t : TypeId)
    (ho : o.op = .call { callee := .builtin .append, args := #[s, x], argTypes := #[t, t] })
    (base : Nat) (e : TypeId) (i : TypeInfo) (z : Value) (ht : P.underlying t = some (.slice e)) (hi : P.info? e = some i) (hz : i.zero = some z) (hsize : i.size = 1) (hby : i.bytes = 1) (hzs : z.cells.size = 1)
    (v : Value) (n : Nat) (xs : List Int) (hs : a.eval s = v) (hown : w.ownsRow base e 1 v n (cellsOf xs))
    (A : Option Addr) (m c : Nat) (zs : List Int) (hx : a.eval x = .slice A m c) (hm : zs.length = m) (hc : A = none → c = 0) (hl : Lies w A zs) (hb : n + m ≤ 200000000000000) (hbase : base ≤ w.heap.size)
    (h : ∀ v' w', w'.ownsRow base e 1 v' (n + m) (cellsOf (xs ++ zs)) → Below base w w' → wpList P ops Q rest (a.put o.dst v') w') : wpList P ops Q (o :: rest) a w := by
  subst hm
  rcases A with _ | ad
  · have h0 := hl.nil_ rfl
    have hz0 : zs = [] := List.eq_nil_of_length_eq_zero h0
    subst hz0
    obtain rfl := hc rfl
    exact wpList_append_own_none hgd s x t ho base e i 1 ht hi v n (cellsOf xs) hs hown hx (h v w (by simpa using hown) (Below.refl _ _))
  · refine wpList_append_own_wide w hgd s x t ho base e i z 1 1 ht hi hz hsize hby hzs (by omega) v n (cellsOf xs) hs hown ad zs.length c (cellsOf zs) hx (by rw [length_cellsOf]; omega) ?_ cellsOf_one (by unfold maxLen; omega) (by omega) hbase ?_
    · intro j u hj
      obtain ⟨hk, _⟩ := cellsOf_some hj
      obtain ⟨b, off, e', _⟩ := hl (by omega)
      injection e' with e'
      subst e'
      exact Lies.cells hl j u hj
    · intro v' w' h1 h2 _
      exact h v' w' (by rw [cellsOf_append]; exact h1) ((Below.refl _ _).grown h2 hbase (fun k hk => (hown.lt k hk).1))
theorem lies_one (w : World) (z : Int) (e : TypeId) : Lies (w.alloc (.cells #[.int .u8 z] e)) (some ⟨w.heap.size, 0, none⟩) [z] := fun _ => by
  refine ⟨w.heap.size, 0, rfl, by simp, fun k hk => ?_⟩
  have : k = 0 := by simp at hk; omega
  subst this
  exact cell_one_new w _ _ 0 _ rfl
/-- A literal's block, marked or not. -/
theorem lies_lit (w : World) (zs : List Int) (e : TypeId) (fr : Nat × Nat) : Lies (w.alloc (.cells (cellsOf zs).toArray e fr)) (some ⟨w.heap.size, 0, none⟩) zs := fun _ => by
  refine ⟨w.heap.size, 0, rfl, by simp, fun k hk => ?_⟩
  rw [Nat.zero_add, ← cellsOf_at zs hk]
  simp only [World.cell?, World.alloc, Array.getElem?_push, if_true]; simp
/-- n times z: behind a name, since the walk writes a list of 80 out. -/
def pad (n : Nat) (z : Int) : List Int := List.replicate n z
theorem length_pad (n : Nat) (z : Int) : (pad n z).length = n := List.length_replicate
theorem pad_drop (n m : Nat) (z : Int) : (pad (n + m) z).drop n = pad m z := by unfold pad; rw [List.drop_replicate]; congr 1; omega
theorem ix_pad_right (zs : List Int) (n : Nat) (z : Int) {k : Nat} (h1 : zs.length ≤ k) (h2 : k < zs.length + n) : ix (zs ++ pad n z) k = z := by
  have h3 : k < (zs ++ pad n z).length := by rw [List.length_append, length_pad]; exact h2
  rw [ix_lt _ h3, List.getElem_append_right h1]
  unfold pad; rw [List.getElem_replicate]
theorem kept_refl (a : World) : Below a.heap.size a a := Below.refl _ _
theorem kept_trans {a b c : World} (h : Below a.heap.size a b) (g : Below b.heap.size b c) : Below a.heap.size a c := h.trans (g.mono h.size)
theorem kept_alloc {a b : World} (h : Below a.heap.size a b) (o : Obj) : Below a.heap.size a (b.alloc o) := h.alloc h.size o
theorem kept_drewN {a b : World} (h : Below a.heap.size a b) (n : Nat) : Below a.heap.size a (b.drewN n) := ⟨h.os, h.tape, h.output, h.size, h.block⟩
theorem drewN_zero (w : World) : w.drewN 0 = w := rfl
theorem below_drewN' {B : Nat} {a w : World} (h : Below B a w) (n : Nat) : Below B a (w.drewN n) := ⟨h.os, h.tape, h.output, h.size, h.block⟩
end Go.Proofs.Ytjkdccokiaejhaa
/- Blocks that are known whole, and what stays of them. No condition. -/
namespace Go.Proofs.Ytjkdccokiaejhaa
set_option maxRecDepth 100000
open Go.RowKit
/-- Block g is just these cells. -/
def Row (w : World) (g : Nat) (t : TypeId) (cs : Array Value) : Prop := w.heap[g]? = some (.cells cs t (0, 0))
theorem Row.lt {w : World} {g : Nat} {t : TypeId} {cs : Array Value} (h : Row w g t cs) : g < w.heap.size := by
  rcases Nat.lt_or_ge g w.heap.size with h1 | h1
  · exact h1
  · unfold Row at h; rw [Array.getElem?_eq_none h1] at h; cases h
theorem Row.cell {w : World} {g : Nat} {t : TypeId} {cs : Array Value} (h : Row w g t cs) (i : Nat) : w.cell? ⟨g, i, none⟩ = cs[i]? := cell_of_row w g i cs t (0, 0) h
theorem Row.free {w : World} {g : Nat} {t : TypeId} {cs : Array Value} (h : Row w g t cs) (i : Nat) : w.frozen? ⟨g, i, none⟩ = false := by
  unfold Row at h; simp [World.frozen?, h]
theorem Row.new (w : World) (t : TypeId) (cs : Array Value) : Row (w.alloc (.cells cs t)) w.heap.size t cs := by
  unfold Row
  show (w.heap.push _)[w.heap.size]? = _
  rw [Array.getElem?_push, if_pos rfl]
theorem Row.put {w : World} {g : Nat} {t : TypeId} {cs : Array Value} (h : Row w g t cs) (i : Nat) (u : Value) : Row (w.setCell ⟨g, i, none⟩ u) g t (cs.setIfInBounds i u) := by
  unfold Row at h ⊢; simp [World.setCell, Array.getElem?_modify, h]
theorem Row.same {w w' : World} {g : Nat} {t : TypeId} {cs : Array Value} (h : Row w g t cs) (e : w'.heap[g]? = w.heap[g]?) : Row w' g t cs := e.trans h
theorem Row.below {w w' : World} {B g : Nat} {t : TypeId} {cs : Array Value} (h : Row w g t cs) (hb : Below B w w') (hl : g < B) : Row w' g t cs := (hb.block g hl).trans h
theorem Row.grown {w w' : World} {row : Option Nat} {g : Nat} {t : TypeId} {cs : Array Value} (h : Row w g t cs) (hg : w.grownBy w' row) (hne : some g ≠ row) : Row w' g t cs := (hg.block g h.lt hne).trans h
theorem Row.alloc {w : World} {g : Nat} {t : TypeId} {cs : Array Value} (h : Row w g t cs) (o : Obj) : Row (w.alloc o) g t cs := h.grown (World.grownBy_alloc w o none) (by simp)
theorem Row.drewN {w : World} {g : Nat} {t : TypeId} {cs : Array Value} (h : Row w g t cs) (n : Nat) : Row (w.drewN n) g t cs := h
theorem Row.drew {w : World} {g : Nat} {t : TypeId} {cs : Array Value} (h : Row w g t cs) : Row w.drew g t cs := h
theorem grown_trans {a b c : World} {row : Option Nat} (h : a.grownBy b row) (k : b.grownBy c row) : a.grownBy c row :=
  ⟨k.os.trans h.os, k.tape.trans h.tape, k.output.trans h.output, Nat.le_trans h.size k.size, fun i hi hr => (k.block i (Nat.lt_of_lt_of_le hi h.size) hr).trans (h.block i hi hr)⟩
theorem grown_refl (w : World) (row : Option Nat) : w.grownBy w row := ⟨rfl, rfl, rfl, Nat.le_refl _, fun _ _ _ => rfl⟩
theorem grown_drewN {a b : World} {row : Option Nat} (h : a.grownBy b row) (n : Nat) : a.grownBy (b.drewN n) row := ⟨h.os, h.tape, h.output, h.size, h.block⟩
theorem grown_drew {a b : World} {row : Option Nat} (h : a.grownBy b row) : a.grownBy b.drew row := ⟨h.os, h.tape, h.output, h.size, h.block⟩
theorem grown_alloc {a b : World} {row : Option Nat} (h : a.grownBy b row) (o : Obj) : a.grownBy (b.alloc o) row := grown_trans h (World.grownBy_alloc b o row)
theorem grown_put {a b : World} {g : Nat} (h : a.grownBy b (some g)) (i : Nat) (u : Value) : a.grownBy (b.setCell ⟨g, i, none⟩ u) (some g) :=
  grown_trans h ⟨rfl, rfl, rfl, by simp [World.setCell], fun k _ hr => Below.heap_setCell b ⟨g, i, none⟩ u k (fun e => hr (by rw [e]))⟩
/-- What turns no old block turns none but g. -/
theorem grown_any {a b : World} {row : Option Nat} (h : a.grownBy b none) : a.grownBy b row := ⟨h.os, h.tape, h.output, h.size, fun k hk _ => h.block k hk (by simp)⟩
theorem grown_below {a b : World} (h : Below a.heap.size a b) : a.grownBy b none := ⟨h.os, h.tape, h.output, h.size, fun k hk _ => h.block k hk⟩
theorem below_grown {a b : World} (h : a.grownBy b none) : Below a.heap.size a b := ⟨h.os, h.tape, h.output, h.size, fun k hk => h.block k hk (by simp)⟩
end Go.Proofs.Ytjkdccokiaejhaa
/- How arguments are read: slices of bytes, instances. No condition. -/
namespace Go.Proofs.Ytjkdccokiaejhaa
set_option maxRecDepth 100000
open Go.ChangeShapes Go.WideShapes Go.ChangeAt Go.RowKit Go.Joins
theorem own : ownKnob Try.prog.godebug = none := by kernel_rfl
theorem laidOut : laidOutB Try.prog = true := by kernel_rfl
theorem Try.cells40 : Try.prog.cellsOf 40 = 2 := by kernel_rfl
theorem inst_in {H : Type} {enc : TypeId × Value → H} {W : World} {base b0 : Nat} {spare : Nat → Bool} {held : Bool} {r : Reach} {v : Value} {d : DataW H} {p : List MemPlace} (hv : Value.okWide Try.prog W r b0 40 v) (h : DataW.Trod enc Try.prog W base spare held 40 v d p) :
    ∃ x y : Int, v = .agg #[.int .i64 x, .int .i64 y] ∧ (-9223372036854775808 ≤ x ∧ x ≤ 9223372036854775807) ∧ (-9223372036854775808 ≤ y ∧ y ≤ 9223372036854775807) := by
  obtain ⟨c0, c1, y0, y1, m, rfl, _, _, hy0, hy1⟩ := open_agg2 Try.underlying40 (by kernel_rfl) Try.cells40 hv h
  obtain ⟨x, e0, _, wx⟩ := DataW.trod_int Try.underlying3 hy0
  obtain ⟨y, e1, _, wy⟩ := DataW.trod_int Try.underlying3 hy1
  simp at e0 e1
  subst e0 e1
  exact ⟨x, y, rfl, bounds_i64 wx, bounds_i64 wy⟩
set_option maxRecDepth 100000 in
/-- A text that came in. -/
theorem str_in {H : Type} {enc : TypeId × Value → H} {W : World} {base b0 : Nat} {spare : Nat → Bool} {held : Bool} {r : Reach} {v : Value} {d : DataW H} {p : List MemPlace} {ts : List TypeId} {ds : List (DataW H)} {j : Nat}
    (hv : Value.okWide Try.prog W r b0 9 v) (h : DataW.Trod enc Try.prog W base spare held 9 v d p) (hsz : (DataW.weightsEach Try.prog ts ds).all (· ≤ reachBytes) = true) (ht : ts[j]? = some 9) (hd : ds[j]? = some d) :
    ∃ s : ByteArray, v = .string s ∧ s.size ≤ 140737488351232 := by
  obtain ⟨s, rfl, rfl, _, _⟩ := Go.ChangeMaps.open_string Try.underlying9 hv h
  have hs := sized_string hsz ht hd
  have hr : reachBytes = 140737488351232 := rfl
  exact ⟨s, rfl, by rw [hr] at hs; simpa using hs⟩
theorem Try.cells30 : Try.prog.cellsOf 30 = 2 := by kernel_rfl
theorem ballot_in {H : Type} {enc : TypeId × Value → H} {W : World} {base b0 : Nat} {spare : Nat → Bool} {held : Bool} {r : Reach} {v : Value} {d : DataW H} {p : List MemPlace} (hv : Value.okWide Try.prog W r b0 30 v) (h : DataW.Trod enc Try.prog W base spare held 30 v d p) :
    ∃ x y : Int, v = .agg #[.int .i64 x, .int .i64 y] ∧ (-9223372036854775808 ≤ x ∧ x ≤ 9223372036854775807) ∧ (-9223372036854775808 ≤ y ∧ y ≤ 9223372036854775807) := by
  obtain ⟨c0, c1, y0, y1, m, rfl, _, _, hy0, hy1⟩ := open_agg2 Try.underlying30 (by kernel_rfl) Try.cells30 hv h
  obtain ⟨x, e0, _, wx⟩ := DataW.trod_int Try.underlying3 hy0
  obtain ⟨y, e1, _, wy⟩ := DataW.trod_int Try.underlying3 hy1
  simp at e0 e1
  subst e0 e1
  exact ⟨x, y, rfl, bounds_i64 wx, bounds_i64 wy⟩
end Go.Proofs.Ytjkdccokiaejhaa
/- Slices of structs, m cells each, as lists of lists of cells: what a slice reads as, and that it stays; append of one; copy. Conditions: it has room. No program is spoken of. -/
namespace Go.Proofs.Ytjkdccokiaejhaa
set_option maxRecDepth 100000
open Go.RowKit
/-- So many structs as cells, one behind the other. -/
def cellsV (l : List (List Value)) : List Value := l.flatten
/-- Each has m cells, each of them one. -/
def AllV (m : Nat) (l : List (List Value)) : Prop := ∀ x, x ∈ l → x.length = m ∧ ∀ u ∈ x, u.oneCell' = true
/-- From address A on there lie the structs l, m cells each, below the heap's end. -/
def Els (m : Nat) (w : World) (A : Option Addr) (l : List (List Value)) : Prop :=
  0 < l.length → ∃ b off, A = some ⟨b, off, none⟩ ∧ b < w.heap.size ∧ ∀ k x, l[k]? = some x → ∀ i, i < m → w.cell? ⟨b, off + k * m + i, none⟩ = x[i]?
section
variable {m : Nat} {l : List (List Value)}
theorem AllV.nil_ : AllV m [] := fun _ h => by cases h
theorem AllV.at_ (h : AllV m l) {k : Nat} {x : List Value} (hk : l[k]? = some x) : x.length = m := (h x (List.mem_of_getElem? hk)).1
theorem AllV.take (h : AllV m l) (n : Nat) : AllV m (l.take n) := fun x hx => h x (List.mem_of_mem_take hx)
theorem AllV.drop (h : AllV m l) (n : Nat) : AllV m (l.drop n) := fun x hx => h x (List.mem_of_mem_drop hx)
theorem AllV.append {l' : List (List Value)} (h : AllV m l) (k : AllV m l') : AllV m (l ++ l') := fun x hx => (List.mem_append.1 hx).elim (h x) (k x)
theorem cellsV_cons (x : List Value) (l : List (List Value)) : cellsV (x :: l) = x ++ cellsV l := rfl
theorem cellsV_append (l l' : List (List Value)) : cellsV (l ++ l') = cellsV l ++ cellsV l' := by unfold cellsV; exact List.flatten_append
theorem length_cellsV : ∀ {l : List (List Value)}, AllV m l → (cellsV l).length = l.length * m
  | [], _ => by simp [cellsV]
  | x :: r, h => by
    rw [cellsV_cons, List.length_append, (h x (by simp)).1, length_cellsV fun y hy => h y (by simp [hy]), List.length_cons, Nat.add_mul, Nat.one_mul, Nat.add_comm]
theorem cellsV_of : ∀ {l : List (List Value)} {k : Nat} {x : List Value}, AllV m l → l[k]? = some x → ∀ i, i < m → (cellsV l)[k * m + i]? = x[i]?
  | [], k, x, _, h => by simp at h
  | y :: r, 0, x, ha, h => fun i hi => by
    simp at h; subst h
    have hy : y.length = m := (ha y (by simp)).1
    rw [cellsV_cons, Nat.zero_mul, Nat.zero_add, List.getElem?_append_left (by rw [hy]; exact hi)]
  | y :: r, k + 1, x, ha, h => fun i hi => by
    have hy : y.length = m := (ha y (by simp)).1
    have := cellsV_of (l := r) (k := k) (x := x) (fun z hz => ha z (by simp [hz])) (by simpa using h) i hi
    rw [cellsV_cons, List.getElem?_append_right (by rw [hy, Nat.add_mul]; omega), hy]
    rw [show (k + 1) * m + i - m = k * m + i by rw [Nat.add_mul]; omega]
    exact this
theorem cellsV_get {j : Nat} {u : Value} (ha : AllV m l) (h : (cellsV l)[j]? = some u) : ∃ k x i, l[k]? = some x ∧ i < m ∧ j = k * m + i ∧ x[i]? = some u := by
  have hj : j < l.length * m := by
    rcases Nat.lt_or_ge j (cellsV l).length with h1 | h1
    · rwa [length_cellsV ha] at h1
    · rw [List.getElem?_eq_none h1] at h; cases h
  have hm : 0 < m := by
    rcases Nat.eq_zero_or_pos m with rfl | h0
    · omega
    · exact h0
  have hd : j / m < l.length := Nat.div_lt_of_lt_mul (by rw [Nat.mul_comm]; exact hj)
  have hx : l[j / m]? = some l[j / m] := List.getElem?_eq_getElem hd
  have e : j = j / m * m + j % m := by have := Nat.div_add_mod j m; rw [Nat.mul_comm] at this; exact this.symm
  have h0 := cellsV_of ha hx (j % m) (Nat.mod_lt _ hm)
  rw [← e, h] at h0
  exact ⟨_, _, _, hx, Nat.mod_lt _ hm, e, h0.symm⟩
theorem cellsV_one (ha : AllV m l) : ∀ u ∈ cellsV l, u.oneCell' = true := fun u hu => by
  unfold cellsV at hu
  obtain ⟨x, hx, hu⟩ := List.mem_flatten.1 hu
  exact (ha x hx).2 u hu
end
section
variable {m : Nat} {w w' : World} {A : Option Addr} {l : List (List Value)}
theorem Els.nil_ : Els m w A [] := fun h => absurd h (by simp)
theorem Els.none_ (h : Els m w none l) : l = [] := by
  rcases l with _ | ⟨x, r⟩
  · rfl
  · obtain ⟨_, _, e, _⟩ := h (by simp)
    cases e
theorem Els.at_ {k : Nat} {x : List Value} (h : Els m w A l) (hk : l[k]? = some x) : ∃ b off, A = some ⟨b, off, none⟩ ∧ b < w.heap.size ∧ ∀ i, i < m → w.cell? ⟨b, off + k * m + i, none⟩ = x[i]? := by
  have hl : k < l.length := by
    rcases Nat.lt_or_ge k l.length with h1 | h1
    · exact h1
    · rw [List.getElem?_eq_none h1] at hk; cases hk
  obtain ⟨b, off, e, hb, hc⟩ := h (by omega)
  exact ⟨b, off, e, hb, hc k x hk⟩
theorem Els.below (h : Els m w A l) (hb : Below w.heap.size w w') : Els m w' A l := fun hn => by
  obtain ⟨b, off, e, hlt, hc⟩ := h hn
  exact ⟨b, off, e, Nat.lt_of_lt_of_le hlt hb.size, fun k x hk i hi => (hb.cell (p := ⟨b, off + k * m + i, none⟩) hlt).trans (hc k x hk i hi)⟩
theorem Els.alloc (h : Els m w A l) (o : Obj) : Els m (w.alloc o) A l := h.below ((Below.refl _ _).alloc (Nat.le_refl _) o)
theorem Els.drewN (h : Els m w A l) (n : Nat) : Els m (w.drewN n) A l := h
theorem Els.drew (h : Els m w A l) : Els m w.drew A l := h
theorem Els.grown {row : Option Nat} (h : Els m w A l) (hg : w.grownBy w' row) (hne : ∀ a, A = some a → some a.block ≠ row) : Els m w' A l := fun hn => by
  obtain ⟨b, off, e, hlt, hc⟩ := h hn
  have hb := hne _ e
  exact ⟨b, off, e, Nat.lt_of_lt_of_le hlt hg.size, fun k x hk i hi => (hg.cell_far ⟨b, off + k * m + i, none⟩ hlt hb).trans (hc k x hk i hi)⟩
theorem Els.take (h : Els m w A l) (n : Nat) : Els m w A (l.take n) := fun hn => by
  obtain ⟨b, off, e, hlt, hc⟩ := h (by rw [List.length_take] at hn; omega)
  refine ⟨b, off, e, hlt, fun k x hk => ?_⟩
  rw [List.getElem?_take] at hk
  split at hk
  · exact hc k x hk
  · cases hk
/-- The rest of a slice from the i-th on: its address as the model reckons it. -/
def partV (m : Nat) (A : Option Addr) (c i : Nat) : Option Addr := if c = i then A else Option.map (fun x => x.add (i * m)) A
theorem Els.rest {c : Nat} (h : Els m w A l) (hc : l.length ≤ c) (i : Nat) : Els m w (partV m A c i) (l.drop i) := fun hn => by
  rw [List.length_drop] at hn
  obtain ⟨b, off, e, hlt, hcell⟩ := h (by omega)
  have hne : ¬ c = i := by omega
  unfold partV
  rw [if_neg hne, e]
  refine ⟨b, off + i * m, ?_, hlt, fun k x hk => ?_⟩
  · show some ((⟨b, off, none⟩ : Addr).add (i * m)) = _
    rw [Go.WideShapes.add_plain]
  · rw [List.getElem?_drop] at hk
    have := hcell _ _ hk
    rw [show off + i * m + k * m = off + (i + k) * m by rw [Nat.add_mul]; omega]
    exact this
theorem partV_none {c i : Nat} (h : A = none → c = 0) (k : partV m A c i = none) : c - i = 0 := by
  unfold partV at k
  split at k
  · omega
  · cases A with
    | none => rw [h rfl]; omega
    | some a => cases k
/-- A block that is just these. -/
theorem els_row {g : Nat} {t : TypeId} {cs : Array Value} (h : Row w g t cs) (ha : AllV m l) (hc : cs.toList = cellsV l) : Els m w (some ⟨g, 0, none⟩) l := fun _ =>
  ⟨g, 0, rfl, h.lt, fun k x hk i hi => by rw [h.cell, ← Array.getElem?_toList, hc, Nat.zero_add]; exact cellsV_of ha hk i hi⟩
/-- What an own slice holds lies. -/
theorem els_own {base : Nat} {e : TypeId} {n c : Nat} (h : w.ownsRow base e m (.slice A n c) n (cellsV l)) (ha : AllV m l) (hm : 0 < m) : Els m w A l ∧ l.length = n := by
  have hn : l.length = n := by
    have := h.1
    rw [length_cellsV ha] at this
    exact Nat.eq_of_mul_eq_mul_right hm this
  refine ⟨fun hp => ?_, hn⟩
  rcases h.2 with ⟨e, h0⟩ | ⟨g, cap, cur, e, hg, hh, q1, q2, q3, q4⟩
  · omega
  · injection e with e1 e2 e3
    subst e1
    refine ⟨g, 0, rfl, (Array.getElem?_eq_some_iff.1 hh).1, fun k x hk i hi => ?_⟩
    have h0 := cellsV_of ha hk i hi
    have hl : k < l.length := by
      rcases Nat.lt_or_ge k l.length with h1 | h1
      · exact h1
      · rw [List.getElem?_eq_none h1] at hk; cases hk
    have hlt : k * m + i < n * m := by
      have : (k + 1) * m ≤ n * m := Nat.mul_le_mul_right m (by omega)
      rw [Nat.add_mul] at this
      omega
    rw [← q4, List.getElem?_take_of_lt hlt, Array.getElem?_toList] at h0
    rw [cell_of_row w g _ cur _ (0, 0) hh, Nat.zero_add]; exact h0
theorem Els.cells {b off : Nat} (h : Els m w (some ⟨b, off, none⟩) l) (ha : AllV m l) : ∀ j u, (cellsV l)[j]? = some u → w.cell? ((⟨b, off, none⟩ : Addr).add j) = some u := fun j u hj => by
  obtain ⟨k, x, i, hk, hi, rfl, hu⟩ := cellsV_get ha hj
  obtain ⟨b', off', e, _, h0⟩ := h.at_ hk
  injection e with e
  injection e with e1 e2 _
  subst e1 e2
  rw [Go.WideShapes.add_plain, ← Nat.add_assoc, h0 i hi, hu]
/-- A slice that the call made: its form. -/
theorem els_own_form {base : Nat} {e : TypeId} {v : Value} {n : Nat} {xs : List Value} (h : w.ownsRow base e m v n xs) : ∃ A c, v = .slice A n c ∧ (A = none → c = 0) ∧ n ≤ c ∧ c ≤ maxLen ∧ (∀ a, A = some a → a.spot = none ∧ a.off = 0) := by
  rcases h.2 with ⟨rfl, rfl⟩ | ⟨g, cap, cur, rfl, _, _, hc, hm, _⟩
  · exact ⟨none, 0, rfl, fun _ => rfl, Nat.le_refl _, by unfold maxLen; omega, fun a h => by cases h⟩
  · exact ⟨_, cap, rfl, (fun h => by cases h), hc, hm, fun a h => by cases h; exact ⟨rfl, rfl⟩⟩
end
/-- append of a slice that lies, nil and empty too, onto an own one. -/
theorem run_append_els {P : Program} {w : World} {s : Nat} (base : Nat) (t ty e : TypeId) (i : TypeInfo) (z : Value) (by' : Nat) (ht : P.underlying t = some (.slice e)) (hi : P.info? e = some i) (hz : i.zero = some z) (hsize : i.size = s) (hby : i.bytes = by') (hs0 : 0 < s) (hzs : z.cells.size = s)
    (v : Value) (n : Nat) (xs : List (List Value)) (hown : w.ownsRow base e s v n (cellsV xs))
    (A : Option Addr) (m c : Nat) (zs : List (List Value)) (ha : AllV s zs) (hm : zs.length = m) (hc : A = none → c = 0) (hl : Els s w A zs) (hb : (n + m) * by' ≤ 140737488355328) (hb2 : n + m ≤ 140737488355328) (hbase : base ≤ w.heap.size) :
    ∃ v' w', (Builtin.append_ #[t, t] ty #[v, .slice A m c]).run P w = .ok v' w' ∧ w'.ownsRow base e s v' (n + m) (cellsV (xs ++ zs)) ∧ w.grownBy w' v.ownBlock ∧ (v' = .slice none 0 0 ↔ v = .slice none 0 0 ∧ m = 0) := by
  subst hm
  rcases A with _ | ad
  · obtain rfl := hl.none_
    obtain rfl := hc rfl
    exact ⟨v, w, run_append_owned_none (P := P) (w := w) base t ty e i s ht hi v n (cellsV xs) hown, by simpa using hown, grown_refl _ _, by simp⟩
  · have hsp : ∀ j u, (cellsV zs)[j]? = some u → w.cell? (ad.add j) = some u := fun j u hj => by
      rcases zs with _ | ⟨x, r⟩
      · cases hj
      · obtain ⟨b, off, e, _⟩ := hl (by simp)
        injection e with e
        subst e
        exact hl.cells ha j u hj
    obtain ⟨v', w', hr, h1, h2, h3⟩ := run_append_own (P := P) w base t ty e i z s by' ht hi hz hsize hby hzs hs0 v n (cellsV xs) hown ad zs.length c (cellsV zs) (length_cellsV ha) hsp (cellsV_one ha) (by unfold maxLen; omega) (by omega) hbase
    exact ⟨v', w', hr, by rw [cellsV_append]; exact h1, h2, h3⟩
theorem run_copy_els {P : Program} (w : World) (dT sT ty elem : TypeId) (g dLen dCap : Nat) (A : Option Addr) (n c m : Nat) (l : List (List Value)) (hu : P.underlying dT = some (.slice elem)) (hs : (P.info? elem).map (·.size) = some m)
    (cur : Array Value) (t : TypeId) (hg : w.heap[g]? = some (.cells cur t (0, 0))) (hn : l.length = n) (hfit : n ≤ dLen) (hsz : n * m ≤ cur.size) (ha : AllV m l) (hl : Els m w A l) :
    (Builtin.copy_ #[dT, sT] ty #[.slice (some ⟨g, 0, none⟩) dLen dCap, .slice A n c]).run P w = .ok (goInt n) (w.setRow g (cellsV l ++ cur.toList.drop (n * m)).toArray) := by
  have hlen : (cellsV l).length = n * m := by rw [length_cellsV ha, hn]
  have h1 := cellsV_one ha
  have hmin : Nat.min n dLen = n := Nat.min_eq_left hfit
  have hst := run_storeCells_at P g 0 t (cellsV l) 0 cur w hg (by rw [hlen]; omega) h1
  rw [Nat.zero_add, Nat.zero_add, List.take_zero, List.nil_append, hlen] at hst
  cases hq : P.info? elem with
  | none => simp [hq] at hs
  | some i =>
    have hi : i.size = m := by simpa [hq] using hs
    cases A with
    | some a =>
      have hsrc : ∀ j v, (cellsV l)[j]? = some v → w.cell? (a.add j) = some v := fun j v hj => by
        have hp : 0 < l.length := by
          rcases Nat.eq_zero_or_pos l.length with h0 | h0
          · obtain rfl := List.eq_nil_of_length_eq_zero h0
            simp [cellsV] at hj
          · exact h0
        obtain ⟨b, off, e, _, _⟩ := hl hp
        injection e with e
        subst e
        exact hl.cells ha j v hj
      have hld := run_loadCells_list (P := P) w a (cellsV l) hsrc
      rw [hlen] at hld
      simp [Builtin.copy_, run_underlying hu, Builtin.lenOf, Builtin.firstCells, sizeOf, typeInfo, hq, hi, hmin, hld, hst]
    | none =>
      have h0 : n = 0 := by
        rcases Nat.eq_zero_or_pos n with h0 | h0
        · exact h0
        · obtain ⟨b, off, e, _⟩ := hl (by omega)
          cases e
      have e0 : l = [] := List.eq_nil_of_length_eq_zero (by omega)
      subst h0
      rw [e0] at hst ⊢
      simp [cellsV] at hst ⊢
      simp [Builtin.copy_, run_underlying hu, Builtin.lenOf, Builtin.firstCells, sizeOf, typeInfo, hq, hst]
/-- append of one that lies, onto an own one, in the walk. -/
theorem wpList_append_els {P : Program} {w : World} {ops : Array Oper} {rest : List Oper} {o : Oper} {a : Act} {Q : Exit → Act → World → Prop} (hgd : o.guard = none) (s x : Operand) (t : TypeId)
    (ho : o.op = .call { callee := .builtin .append, args := #[s, x], argTypes := #[t, t] }) {sz : Nat}
    (base : Nat) (e : TypeId) (i : TypeInfo) (z : Value) (by' : Nat) (ht : P.underlying t = some (.slice e)) (hi : P.info? e = some i) (hz : i.zero = some z) (hsize : i.size = sz) (hby : i.bytes = by') (hs0 : 0 < sz) (hzs : z.cells.size = sz)
    (v : Value) (n : Nat) (xs : List (List Value)) (hs : a.eval s = v) (hown : w.ownsRow base e sz v n (cellsV xs))
    (A : Option Addr) (m c : Nat) (zs : List (List Value)) (hx : a.eval x = .slice A m c) (ha : AllV sz zs) (hm : zs.length = m) (hc : A = none → c = 0) (hl : Els sz w A zs) (hb : (n + m) * by' ≤ 140737488355328) (hb2 : n + m ≤ 140737488355328) (hbase : base ≤ w.heap.size)
    (h : ∀ v' w', w'.ownsRow base e sz v' (n + m) (cellsV (xs ++ zs)) → w.grownBy w' v.ownBlock → wpList P ops Q rest (a.put o.dst v') w') : wpList P ops Q (o :: rest) a w := by
  refine wpList_plain hgd fun K hK => ?_
  obtain ⟨v', w', hr, h2, h3, _⟩ := run_append_els (P := P) (w := w) base t o.type e i z by' ht hi hz hsize hby hs0 hzs v n xs hown A m c zs ha hm hc hl hb hb2 hbase
  unfold Oper.wp execOp
  simp only [ho, resolve, invoke, builtin, Sem.run_bind, Sem.run_pure, Result.andThen_ok, List.map_toArray, List.map_cons, List.map_nil, hs, hx, hr]
  exact hK _ _ (h v' w' h2 h3)
theorem step_append_els {P : Program} {w : World} {ops : Array Oper} {o : Oper} {a : Act} {K : Act → World → Prop} {Q : Exit → Act → World → Prop} {E : Prop} {sz : Nat} (hgd : o.guard = none) (s x : Operand) (t : TypeId)
    (ho : o.op = .call { callee := .builtin .append, args := #[s, x], argTypes := #[t, t] })
    (base : Nat) (e : TypeId) (i : TypeInfo) (z : Value) (by' : Nat) (ht : P.underlying t = some (.slice e)) (hi : P.info? e = some i) (hz : i.zero = some z) (hsize : i.size = sz) (hby : i.bytes = by') (hs0 : 0 < sz) (hzs : z.cells.size = sz)
    (v : Value) (n : Nat) (xs : List (List Value)) (hs : a.eval s = v) (hown : w.ownsRow base e sz v n (cellsV xs))
    (A : Option Addr) (m c : Nat) (zs : List (List Value)) (hx : a.eval x = .slice A m c) (ha : AllV sz zs) (hm : zs.length = m) (hc : A = none → c = 0) (hl : Els sz w A zs) (hb : (n + m) * by' ≤ 140737488355328) (hb2 : n + m ≤ 140737488355328) (hbase : base ≤ w.heap.size)
    (h : ∀ v' w', w'.ownsRow base e sz v' (n + m) (cellsV (xs ++ zs)) → w.grownBy w' v.ownBlock → K (a.put o.dst v') w') :
    if Region.wanted o (yielded ops a.tmps) = true then Oper.wp P o a w K Q else E := by
  have hw : Region.wanted o (yielded ops a.tmps) = true := by simp [Region.wanted, hgd]
  rw [if_pos hw]
  obtain ⟨v', w', hr, h2, h3, _⟩ := run_append_els (P := P) (w := w) base t o.type e i z by' ht hi hz hsize hby hs0 hzs v n xs hown A m c zs ha hm hc hl hb hb2 hbase
  unfold Oper.wp execOp
  simp only [ho, resolve, invoke, builtin, Sem.run_bind, Sem.run_pure, Result.andThen_ok, List.map_toArray, List.map_cons, List.map_nil, hs, hx, hr]
  exact h v' w' h2 h3
end Go.Proofs.Ytjkdccokiaejhaa
/- Package inst's plain functions: which instance is right, which one stands ahead; ballots. No condition. -/
namespace Go.Proofs.Ytjkdccokiaejhaa
set_option maxRecDepth 100000
open Go.RowKit
/-- -1, 0 or 1: how x stands to y. -/
def cmpI (x y : Int) : Int := if x < y then -1 else if y < x then 1 else 0
/-- The first of the two that isn't nought. -/
def orI (x y : Int) : Int := if x = 0 then y else x
def cmpP (a b : Int × Int) : Int := orI (cmpI a.1 b.1) (cmpI a.2 b.2)
/-- Does a stand ahead of b? -/
def ltP (a b : Int × Int) : Bool := decide (a.1 < b.1) || (a.1 == b.1 && decide (a.2 < b.2))
def repB (n : Int) : Bool := decide (0 ≤ n) && decide (n < 7)
theorem cmp_lt (a b : Int × Int) : decide (cmpP a b < 0) = ltP a b := by
  obtain ⟨a1, a2⟩ := a
  obtain ⟨b1, b2⟩ := b
  unfold cmpP orI cmpI ltP
  simp only
  by_cases h1 : a1 < b1
  · simp [h1]
  · by_cases h2 : b1 < a1
    · have : ¬ a1 = b1 := by omega
      simp [h1, h2, this]
    · have : a1 = b1 := by omega
      subst this
      by_cases h3 : a2 < b2
      · simp [h3]
      · by_cases h4 : b2 < a2 <;> simp [h3, h4]
theorem isreplica_any (n : Int) (w : World) : Calls Try.prog 47 #[.int .i64 n] w fun e w' => e = .returned (.bool (repB n)) ∧ w = w' := by
  go_enter Try.func47, Try.ntmps47
  go_wp2
  all_goals (go_ret; exact ⟨ret_bool (by unfold repB; first | (simp [*]; done) | (simp [*] <;> omega)), rfl⟩)
end Go.Proofs.Ytjkdccokiaejhaa
/- Package inst's comparison. No condition. -/
namespace Go.Proofs.Ytjkdccokiaejhaa
set_option maxRecDepth 100000
open Go.RowKit
theorem below_two (w : World) (o p : Obj) : Below w.heap.size w ((w.alloc o).alloc p) := ((Below.refl _ _).alloc (Nat.le_refl _) _).alloc (by simp) _
def rightI (r s : Int) : Bool := repB r && decide (1 ≤ s) && decide (s ≤ 1073741824)
def rightB (e r : Int) : Bool := repB r && decide (0 ≤ e) && decide (e ≤ 1073741824)
theorem i_right_any (r s : Int) (w : World) : Calls Try.prog 35 #[.agg #[.int .i64 r, .int .i64 s]] w fun e w' => e = .returned (.bool (rightI r s)) ∧ Below w.heap.size w w' := by
  have hc := fun W => isreplica_any r W
  unfold rightI
  generalize repB r = p at hc ⊢
  go_enter Try.func35, Try.ntmps35
  go_wp2_with (go_at_call 47; refine (hc _).mono ?_; rintro e w' ⟨rfl, rfl⟩)
  all_goals (go_ret; exact ⟨ret_bool (by first | (simp [*]; done) | (simp [*] <;> omega)), (Below.refl _ _).alloc (Nat.le_refl _) _⟩)
set_option maxHeartbeats 1000000 in
theorem refbelow_any (a b c d : Int) (w : World) :
    Calls Try.prog 45 #[.agg #[.int .i64 a, .int .i64 b], .agg #[.int .i64 c, .int .i64 d]] w fun e w' => e = .returned (.bool (ltP (a, b) (c, d))) ∧ Below w.heap.size w w' := by
  show Calls _ _ _ w fun e w' => e = .returned (.bool (decide (a < c) || (a == c && decide (b < d)))) ∧ Below w.heap.size w w'
  go_enter Try.func45, Try.ntmps45
  go_wp2
  all_goals (go_ret; exact ⟨ret_bool (by first | (simp [*]; done) | (simp [*] <;> omega)), below_two _ _ _⟩)
set_option maxHeartbeats 1000000 in
theorem below_any (a b c d : Int) (w : World) :
    Calls Try.prog 33 #[.agg #[.int .i64 a, .int .i64 b], .agg #[.int .i64 c, .int .i64 d]] w fun e w' => e = .returned (.bool (ltP (a, b) (c, d))) ∧ Below w.heap.size w w' := by
  show Calls _ _ _ w fun e w' => e = .returned (.bool (decide (a < c) || (a == c && decide (b < d)))) ∧ Below w.heap.size w w'
  go_enter Try.func33, Try.ntmps33
  go_wp2
  all_goals (go_ret; exact ⟨ret_bool (by first | (simp [*]; done) | (simp [*] <;> omega)), below_two _ _ _⟩)
end Go.Proofs.Ytjkdccokiaejhaa
/- Rows of slots and attributes as plain lists of numbers: Right, RightAttr, RightDeps, Covers, Reach of package deps, and the document's. No condition. -/
namespace Go.Proofs.Ytjkdccokiaejhaa
set_option maxRecDepth 100000
open Go.RowKit
/-- A place of a row, read out of it as a value. -/
theorem index_deps (d1 d2 d3 d4 d5 d6 d7 : Int) (k : Nat) (h : k < 7) (w : World) : (Instr.index 24 (.agg #[.int .i64 d1, .int .i64 d2, .int .i64 d3, .int .i64 d4, .int .i64 d5, .int .i64 d6, .int .i64 d7]) (.int .i64 (k : Int))).run Try.prog w = .ok (.int .i64 (ix [d1, d2, d3, d4, d5, d6, d7] k)) w := by
  have i0 : (Instr.index 24 (.agg #[.int .i64 d1, .int .i64 d2, .int .i64 d3, .int .i64 d4, .int .i64 d5, .int .i64 d6, .int .i64 d7]) (.int .i64 ((0 : Nat) : Int))).run Try.prog w = .ok (.int .i64 (ix [d1, d2, d3, d4, d5, d6, d7] 0)) w := by kernel_rfl
  have i1 : (Instr.index 24 (.agg #[.int .i64 d1, .int .i64 d2, .int .i64 d3, .int .i64 d4, .int .i64 d5, .int .i64 d6, .int .i64 d7]) (.int .i64 ((1 : Nat) : Int))).run Try.prog w = .ok (.int .i64 (ix [d1, d2, d3, d4, d5, d6, d7] 1)) w := by kernel_rfl
  have i2 : (Instr.index 24 (.agg #[.int .i64 d1, .int .i64 d2, .int .i64 d3, .int .i64 d4, .int .i64 d5, .int .i64 d6, .int .i64 d7]) (.int .i64 ((2 : Nat) : Int))).run Try.prog w = .ok (.int .i64 (ix [d1, d2, d3, d4, d5, d6, d7] 2)) w := by kernel_rfl
  have i3 : (Instr.index 24 (.agg #[.int .i64 d1, .int .i64 d2, .int .i64 d3, .int .i64 d4, .int .i64 d5, .int .i64 d6, .int .i64 d7]) (.int .i64 ((3 : Nat) : Int))).run Try.prog w = .ok (.int .i64 (ix [d1, d2, d3, d4, d5, d6, d7] 3)) w := by kernel_rfl
  have i4 : (Instr.index 24 (.agg #[.int .i64 d1, .int .i64 d2, .int .i64 d3, .int .i64 d4, .int .i64 d5, .int .i64 d6, .int .i64 d7]) (.int .i64 ((4 : Nat) : Int))).run Try.prog w = .ok (.int .i64 (ix [d1, d2, d3, d4, d5, d6, d7] 4)) w := by kernel_rfl
  have i5 : (Instr.index 24 (.agg #[.int .i64 d1, .int .i64 d2, .int .i64 d3, .int .i64 d4, .int .i64 d5, .int .i64 d6, .int .i64 d7]) (.int .i64 ((5 : Nat) : Int))).run Try.prog w = .ok (.int .i64 (ix [d1, d2, d3, d4, d5, d6, d7] 5)) w := by kernel_rfl
  have i6 : (Instr.index 24 (.agg #[.int .i64 d1, .int .i64 d2, .int .i64 d3, .int .i64 d4, .int .i64 d5, .int .i64 d6, .int .i64 d7]) (.int .i64 ((6 : Nat) : Int))).run Try.prog w = .ok (.int .i64 (ix [d1, d2, d3, d4, d5, d6, d7] 6)) w := by kernel_rfl
  match k, h with
  | 0, _ => exact i0
  | 1, _ => exact i1
  | 2, _ => exact i2
  | 3, _ => exact i3
  | 4, _ => exact i4
  | 5, _ => exact i5
  | 6, _ => exact i6
/-- Does p hold of all places below k? -/
def allTo (p : Nat → Bool) (k : Nat) : Bool := (List.range k).all p
theorem allTo_iff {p : Nat → Bool} {k : Nat} : allTo p k = true ↔ ∀ j, j < k → p j = true := by
  unfold allTo
  rw [List.all_eq_true]
  exact ⟨fun h j hj => h j (List.mem_range.2 hj), fun h j hj => h j (List.mem_range.1 hj)⟩
theorem allTo_succ {p : Nat → Bool} {k : Nat} (h : allTo p k = true) (hk : p k = true) : allTo p (k + 1) = true := by
  rw [allTo_iff] at h ⊢
  intro j hj
  rcases Nat.lt_or_ge j k with h1 | h1
  · exact h j h1
  · obtain rfl : j = k := by omega
    exact hk
theorem allTo_not {p : Nat → Bool} {k m : Nat} (hk : p k = false) (h : k < m) : allTo p m = false := by
  rw [← Bool.not_eq_true, allTo_iff]
  intro hall
  rw [hall k h] at hk
  cases hk
theorem allTo_zero {p : Nat → Bool} : allTo p 0 = true := rfl
/-- May it be a slot that is depended on? -/
def slotB (n : Int) : Bool := decide (0 ≤ n) && decide (n ≤ 1073741824)
def okAt (d : List Int) (k : Nat) : Bool := slotB (ix d k)
def rightD (d : List Int) : Bool := allTo (okAt d) 7
def rightA (s : Int) (d : List Int) : Bool := decide (0 ≤ s) && decide (s ≤ 1099511627776) && rightD d
def covAt (a b : List Int) (k : Nat) : Bool := decide (ix b k ≤ ix a k)
def coversB (a b : List Int) : Bool := allTo (covAt a b) 7
theorem slot_low {n : Int} (h : n < 0) : slotB n = false := by unfold slotB; simp; omega
theorem slot_high {n : Int} (h : 1073741824 < n) : slotB n = false := by unfold slotB; simp; omega
theorem slot_ok {n : Int} (h : ¬ n < 0) (h1 : ¬ 1073741824 < n) : slotB n = true := by unfold slotB; simp; omega
/-- A row of slots in a block of its own, place by place. -/
theorem row_ix {w : World} {g : Nat} {t : TypeId} {d1 d2 d3 d4 d5 d6 d7 : Int} (h : Row w g t #[.int .i64 d1, .int .i64 d2, .int .i64 d3, .int .i64 d4, .int .i64 d5, .int .i64 d6, .int .i64 d7]) (k : Nat) (hk : k < 7) : w.cell? ⟨g, k, none⟩ = some (.int .i64 (ix [d1, d2, d3, d4, d5, d6, d7] k)) := by
  rw [h.cell]
  match k, hk with
  | 0, _ => rfl
  | 1, _ => rfl
  | 2, _ => rfl
  | 3, _ => rfl
  | 4, _ => rfl
  | 5, _ => rfl
  | 6, _ => rfl
set_option maxHeartbeats 400000 in
theorem d_covers_any (a1 a2 a3 a4 a5 a6 a7 b1 b2 b3 b4 b5 b6 b7 : Int) (w : World) : Calls Try.prog 34 #[.agg #[.int .i64 a1, .int .i64 a2, .int .i64 a3, .int .i64 a4, .int .i64 a5, .int .i64 a6, .int .i64 a7], .agg #[.int .i64 b1, .int .i64 b2, .int .i64 b3, .int .i64 b4, .int .i64 b5, .int .i64 b6, .int .i64 b7]] w fun e w' =>
    e = .returned (.bool (coversB [a1, a2, a3, a4, a5, a6, a7] [b1, b2, b3, b4, b5, b6, b7])) ∧ Below w.heap.size w w' := by
  have R := hide ((Row.new w 24 #[.int .i64 a1, .int .i64 a2, .int .i64 a3, .int .i64 a4, .int .i64 a5, .int .i64 a6, .int .i64 a7]).alloc (.cells #[.int .i64 b1, .int .i64 b2, .int .i64 b3, .int .i64 b4, .int .i64 b5, .int .i64 b6, .int .i64 b7] 24))
  have hb := hide (show Below w.heap.size w ((w.alloc (.cells #[.int .i64 a1, .int .i64 a2, .int .i64 a3, .int .i64 a4, .int .i64 a5, .int .i64 a6, .int .i64 a7] 24)).alloc (.cells #[.int .i64 b1, .int .i64 b2, .int .i64 b3, .int .i64 b4, .int .i64 b5, .int .i64 b6, .int .i64 b7] 24)) from ((Below.refl _ _).alloc (Nat.le_refl _) _).alloc (by simp) _)
  go_enter Try.func34, Try.ntmps34
  go_wp2
  go_loop [8] (fun i => ∃ k : Nat, k ≤ 7 ∧ i = .int .i64 k ∧ Hid (allTo (covAt [a1, a2, a3, a4, a5, a6, a7] [b1, b2, b3, b4, b5, b6, b7]) k = true)) (fun i => 7 - (intOf i).toNat)
  case atStart => exact ⟨0, by omega, rfl, allTo_zero⟩
  case round =>
    obtain ⟨k, hk, rfl, hall⟩ := hrel
    by_cases hlt : k < 7
    · have hc := row_ix R.out k hlt
      have hi := index_deps b1 b2 b3 b4 b5 b6 b7 k hlt
      have hp : ∀ b, decide (ix [b1, b2, b3, b4, b5, b6, b7] k ≤ ix [a1, a2, a3, a4, a5, a6, a7] k) = b → covAt [a1, a2, a3, a4, a5, a6, a7] [b1, b2, b3, b4, b5, b6, b7] k = b := fun _ h => h
      have HP := hide hp
      clear hp
      generalize ix [a1, a2, a3, a4, a5, a6, a7] k = x at hc HP
      generalize ix [b1, b2, b3, b4, b5, b6, b7] k = y at hi HP
      by_cases h0 : x < y
      · have hn := hide (allTo_not (HP.out false (by simp; omega)) hlt)
        go_wp2
        go_ret
        exact ⟨ret_bool hn.out.symm, hb.out⟩
      · have hn := hide (allTo_succ hall.out (HP.out true (by simp; omega)))
        go_wp2
        go_round
        case rel => exact ⟨k + 1, by omega, by go_num, hn⟩
        case measure => simp [intOf]; omega
    · obtain rfl : k = 7 := by omega
      go_wp2
      go_ret
      exact ⟨ret_bool hall.out.symm, hb.out⟩
/-- Does a row of slots reach an instance? -/
def reachB (d : List Int) (r s : Int) : Bool := rightI r s && decide (s ≤ ix d r.toNat)
theorem rightI_says {r s : Int} (h : rightI r s = true) : (0 ≤ r ∧ r < 7) ∧ 1 ≤ s ∧ s ≤ 1073741824 := by
  unfold rightI repB at h
  simp only [Bool.and_eq_true, decide_eq_true_eq] at h
  omega
end Go.Proofs.Ytjkdccokiaejhaa
/- Slices of structs of ints, m cells each, as lists of lists of numbers: what a slice reads as, and that it stays; append of one. Conditions: it has room. No program is spoken of. -/
namespace Go.Proofs.Ytjkdccokiaejhaa
set_option maxRecDepth 100000
open Go.RowKit
/-- A struct of ints as cells; so many, one behind the other. -/
def cellsR (x : List Int) : List Value := x.map (Value.int .i64)
def cellsL (l : List (List Int)) : List Value := l.flatMap cellsR
/-- Each has m numbers. -/
def All (m : Nat) (l : List (List Int)) : Prop := ∀ x, x ∈ l → x.length = m
/-- From address A on there lie the structs l, m cells each, below the heap's end. -/
def Its (m : Nat) (w : World) (A : Option Addr) (l : List (List Int)) : Prop :=
  0 < l.length → ∃ b off, A = some ⟨b, off, none⟩ ∧ b < w.heap.size ∧ ∀ k x, l[k]? = some x → ∀ i, i < m → w.cell? ⟨b, off + k * m + i, none⟩ = some (.int .i64 (ix x i))
theorem length_cellsR (x : List Int) : (cellsR x).length = x.length := List.length_map _
theorem cellsR_at (x : List Int) {i : Nat} (h : i < x.length) : (cellsR x)[i]? = some (.int .i64 (ix x i)) := by
  unfold cellsR; rw [List.getElem?_map, List.getElem?_eq_getElem h, ix_lt x h]; rfl
section
variable {m : Nat} {l : List (List Int)}
theorem All.nil_ : All m [] := fun _ h => by cases h
theorem All.cons_ {x : List Int} (h : x.length = m) (k : All m l) : All m (x :: l) := fun y hy => by
  rcases List.mem_cons.1 hy with rfl | hy
  · exact h
  · exact k y hy
theorem All.at_ (h : All m l) {k : Nat} {x : List Int} (hk : l[k]? = some x) : x.length = m := h x (List.mem_of_getElem? hk)
theorem All.take (h : All m l) (n : Nat) : All m (l.take n) := fun x hx => h x (List.mem_of_mem_take hx)
theorem All.drop (h : All m l) (n : Nat) : All m (l.drop n) := fun x hx => h x (List.mem_of_mem_drop hx)
theorem All.append {l' : List (List Int)} (h : All m l) (k : All m l') : All m (l ++ l') := fun x hx => (List.mem_append.1 hx).elim (h x) (k x)
theorem All.rep (n : Nat) {x : List Int} (h : x.length = m) : All m (List.replicate n x) := fun y hy => by rw [(List.mem_replicate.1 hy).2]; exact h
theorem cellsL_cons (x : List Int) (l : List (List Int)) : cellsL (x :: l) = cellsR x ++ cellsL l := rfl
theorem cellsL_append (l l' : List (List Int)) : cellsL (l ++ l') = cellsL l ++ cellsL l' := by unfold cellsL; exact List.flatMap_append
theorem length_cellsL : ∀ {l : List (List Int)}, All m l → (cellsL l).length = l.length * m
  | [], _ => by simp [cellsL]
  | x :: r, h => by
    rw [cellsL_cons, List.length_append, length_cellsR, h x (by simp), length_cellsL fun y hy => h y (by simp [hy]), List.length_cons, Nat.add_mul, Nat.one_mul, Nat.add_comm]
theorem cellsL_of : ∀ {l : List (List Int)} {k : Nat} {x : List Int}, All m l → l[k]? = some x → ∀ i, i < m → (cellsL l)[k * m + i]? = some (.int .i64 (ix x i))
  | [], k, x, _, h => by simp at h
  | y :: r, 0, x, ha, h => fun i hi => by
    simp at h; subst h
    have hy : y.length = m := ha y (by simp)
    rw [cellsL_cons, Nat.zero_mul, Nat.zero_add, List.getElem?_append_left (by rw [length_cellsR, hy]; exact hi)]
    exact cellsR_at y (by omega)
  | y :: r, k + 1, x, ha, h => fun i hi => by
    have hy : y.length = m := ha y (by simp)
    have := cellsL_of (l := r) (k := k) (x := x) (fun z hz => ha z (by simp [hz])) (by simpa using h) i hi
    rw [cellsL_cons, List.getElem?_append_right (by rw [length_cellsR, hy, Nat.add_mul]; omega), length_cellsR, hy]
    rw [show (k + 1) * m + i - m = k * m + i by rw [Nat.add_mul]; omega]
    exact this
theorem cellsL_get {j : Nat} {u : Value} (ha : All m l) (h : (cellsL l)[j]? = some u) : ∃ k x i, l[k]? = some x ∧ i < m ∧ j = k * m + i ∧ u = .int .i64 (ix x i) := by
  have hj : j < l.length * m := by
    rcases Nat.lt_or_ge j (cellsL l).length with h1 | h1
    · rwa [length_cellsL ha] at h1
    · rw [List.getElem?_eq_none h1] at h; cases h
  have hm : 0 < m := by
    rcases Nat.eq_zero_or_pos m with rfl | h0
    · omega
    · exact h0
  have hd : j / m < l.length := Nat.div_lt_of_lt_mul (by rw [Nat.mul_comm]; exact hj)
  have hx : l[j / m]? = some l[j / m] := List.getElem?_eq_getElem hd
  have e : j = j / m * m + j % m := by have := Nat.div_add_mod j m; rw [Nat.mul_comm] at this; exact this.symm
  have h0 := cellsL_of ha hx (j % m) (Nat.mod_lt _ hm)
  rw [← e, h] at h0
  exact ⟨_, _, _, hx, Nat.mod_lt _ hm, e, Option.some.inj h0⟩
theorem cellsR_one (x : List Int) : ∀ u ∈ cellsR x, u.oneCell' = true := fun u hu => by
  unfold cellsR at hu
  obtain ⟨z, _, rfl⟩ := List.mem_map.1 hu
  rfl
theorem cellsL_one : ∀ u ∈ cellsL l, u.oneCell' = true := fun u hu => by
  unfold cellsL at hu
  obtain ⟨x, _, hx⟩ := List.mem_flatMap.1 hu
  exact cellsR_one x u hx
end
section
variable {m : Nat} {w w' : World} {A : Option Addr} {l : List (List Int)}
theorem Its.nil_ : Its m w A [] := fun h => absurd h (by simp)
theorem Its.none_ (h : Its m w none l) : l = [] := by
  rcases l with _ | ⟨x, r⟩
  · rfl
  · obtain ⟨_, _, e, _⟩ := h (by simp)
    cases e
theorem Its.at_ {k : Nat} {x : List Int} (h : Its m w A l) (hk : l[k]? = some x) : ∃ b off, A = some ⟨b, off, none⟩ ∧ b < w.heap.size ∧ ∀ i, i < m → w.cell? ⟨b, off + k * m + i, none⟩ = some (.int .i64 (ix x i)) := by
  have hl : k < l.length := by
    rcases Nat.lt_or_ge k l.length with h1 | h1
    · exact h1
    · rw [List.getElem?_eq_none h1] at hk; cases hk
  obtain ⟨b, off, e, hb, hc⟩ := h (by omega)
  exact ⟨b, off, e, hb, hc k x hk⟩
theorem Its.below (h : Its m w A l) (hb : Below w.heap.size w w') : Its m w' A l := fun hn => by
  obtain ⟨b, off, e, hlt, hc⟩ := h hn
  exact ⟨b, off, e, Nat.lt_of_lt_of_le hlt hb.size, fun k x hk i hi => (hb.cell (p := ⟨b, off + k * m + i, none⟩) hlt).trans (hc k x hk i hi)⟩
theorem Its.alloc (h : Its m w A l) (o : Obj) : Its m (w.alloc o) A l := h.below ((Below.refl _ _).alloc (Nat.le_refl _) o)
theorem Its.drewN (h : Its m w A l) (n : Nat) : Its m (w.drewN n) A l := h
theorem Its.drew (h : Its m w A l) : Its m w.drew A l := h
theorem Its.grown {row : Option Nat} (h : Its m w A l) (hg : w.grownBy w' row) (hne : ∀ a, A = some a → some a.block ≠ row) : Its m w' A l := fun hn => by
  obtain ⟨b, off, e, hlt, hc⟩ := h hn
  have hb := hne _ e
  exact ⟨b, off, e, Nat.lt_of_lt_of_le hlt hg.size, fun k x hk i hi => (hg.cell_far ⟨b, off + k * m + i, none⟩ hlt hb).trans (hc k x hk i hi)⟩
theorem Its.take (h : Its m w A l) (n : Nat) : Its m w A (l.take n) := fun hn => by
  obtain ⟨b, off, e, hlt, hc⟩ := h (by rw [List.length_take] at hn; omega)
  refine ⟨b, off, e, hlt, fun k x hk => ?_⟩
  rw [List.getElem?_take] at hk
  split at hk
  · exact hc k x hk
  · cases hk
/-- The rest of a slice from the i-th on: its address as the model reckons it. -/
def partM (m : Nat) (A : Option Addr) (c i : Nat) : Option Addr := if c = i then A else Option.map (fun x => x.add (i * m)) A
theorem Its.rest {c : Nat} (h : Its m w A l) (hc : l.length ≤ c) (i : Nat) : Its m w (partM m A c i) (l.drop i) := fun hn => by
  rw [List.length_drop] at hn
  obtain ⟨b, off, e, hlt, hcell⟩ := h (by omega)
  have hne : ¬ c = i := by omega
  unfold partM
  rw [if_neg hne, e]
  refine ⟨b, off + i * m, ?_, hlt, fun k x hk => ?_⟩
  · show some ((⟨b, off, none⟩ : Addr).add (i * m)) = _
    rw [Go.WideShapes.add_plain]
  · rw [List.getElem?_drop] at hk
    have := hcell _ _ hk
    rw [show off + i * m + k * m = off + (i + k) * m by rw [Nat.add_mul]; omega]
    exact this
theorem partM_none {c i : Nat} (h : A = none → c = 0) (k : partM m A c i = none) : c - i = 0 := by
  unfold partM at k
  split at k
  · omega
  · cases A with
    | none => rw [h rfl]; omega
    | some a => cases k
/-- A block that is just these. -/
theorem its_row {g : Nat} {t : TypeId} {cs : Array Value} (h : Row w g t cs) (ha : All m l) (hc : cs.toList = cellsL l) : Its m w (some ⟨g, 0, none⟩) l := fun _ =>
  ⟨g, 0, rfl, h.lt, fun k x hk i hi => by rw [h.cell, ← Array.getElem?_toList, hc, Nat.zero_add]; exact cellsL_of ha hk i hi⟩
/-- What an own slice holds lies. -/
theorem its_own {base : Nat} {e : TypeId} {n c : Nat} (h : w.ownsRow base e m (.slice A n c) n (cellsL l)) (ha : All m l) (hm : 0 < m) : Its m w A l ∧ l.length = n := by
  have hn : l.length = n := by
    have := h.1
    rw [length_cellsL ha] at this
    exact Nat.eq_of_mul_eq_mul_right hm this
  refine ⟨fun hp => ?_, hn⟩
  rcases h.2 with ⟨e, h0⟩ | ⟨g, cap, cur, e, hg, hh, q1, q2, q3, q4⟩
  · omega
  · injection e with e1 e2 e3
    subst e1
    refine ⟨g, 0, rfl, (Array.getElem?_eq_some_iff.1 hh).1, fun k x hk i hi => ?_⟩
    have h0 := cellsL_of ha hk i hi
    have hl : k < l.length := by
      rcases Nat.lt_or_ge k l.length with h1 | h1
      · exact h1
      · rw [List.getElem?_eq_none h1] at hk; cases hk
    have hlt : k * m + i < n * m := by
      have : (k + 1) * m ≤ n * m := Nat.mul_le_mul_right m (by omega)
      rw [Nat.add_mul] at this
      omega
    rw [← q4, List.getElem?_take_of_lt hlt, Array.getElem?_toList] at h0
    rw [cell_of_row w g _ cur _ (0, 0) hh, Nat.zero_add]; exact h0
theorem Its.cells {b off : Nat} (h : Its m w (some ⟨b, off, none⟩) l) (ha : All m l) : ∀ j u, (cellsL l)[j]? = some u → w.cell? ((⟨b, off, none⟩ : Addr).add j) = some u := fun j u hj => by
  obtain ⟨k, x, i, hk, hi, rfl, rfl⟩ := cellsL_get ha hj
  obtain ⟨b', off', e, _, h0⟩ := h.at_ hk
  injection e with e
  injection e with e1 e2 _
  subst e1 e2
  rw [Go.WideShapes.add_plain, ← Nat.add_assoc]
  exact h0 i hi
end
/-- append of a slice that lies, nil and empty too, onto an own one. -/
theorem run_append_its {P : Program} {w : World} {s : Nat} (base : Nat) (t ty e : TypeId) (i : TypeInfo) (z : Value) (ht : P.underlying t = some (.slice e)) (hi : P.info? e = some i) (hz : i.zero = some z) (hsize : i.size = s) (hby : i.bytes ≤ 64) (hs0 : 0 < s) (hzs : z.cells.size = s)
    (v : Value) (n : Nat) (xs : List (List Int)) (hown : w.ownsRow base e s v n (cellsL xs))
    (A : Option Addr) (m c : Nat) (zs : List (List Int)) (ha : All s zs) (hm : zs.length = m) (hc : A = none → c = 0) (hl : Its s w A zs) (hb : n + m ≤ 1000000000) (hbase : base ≤ w.heap.size) :
    ∃ v' w', (Builtin.append_ #[t, t] ty #[v, .slice A m c]).run P w = .ok v' w' ∧ w'.ownsRow base e s v' (n + m) (cellsL (xs ++ zs)) ∧ w.grownBy w' v.ownBlock ∧ (v' = .slice none 0 0 ↔ v = .slice none 0 0 ∧ m = 0) := by
  subst hm
  rcases A with _ | ad
  · obtain rfl := hl.none_
    obtain rfl := hc rfl
    exact ⟨v, w, run_append_owned_none (P := P) (w := w) base t ty e i s ht hi v n (cellsL xs) hown, by simpa using hown, grown_refl _ _, by simp⟩
  · have hsp : ∀ j u, (cellsL zs)[j]? = some u → w.cell? (ad.add j) = some u := fun j u hj => by
      rcases zs with _ | ⟨x, r⟩
      · cases hj
      · obtain ⟨b, off, e, _⟩ := hl (by simp)
        injection e with e
        subst e
        exact hl.cells ha j u hj
    obtain ⟨v', w', hr, h1, h2, h3⟩ := run_append_own (P := P) w base t ty e i z s i.bytes ht hi hz hsize rfl hzs hs0 v n (cellsL xs) hown ad zs.length c (cellsL zs) (length_cellsL ha) hsp cellsL_one (by unfold maxLen; omega) (Nat.le_trans (Nat.mul_le_mul hb hby) (by omega)) hbase
    exact ⟨v', w', hr, by rw [cellsL_append]; exact h1, h2, h3⟩
end Go.Proofs.Ytjkdccokiaejhaa
/- A region that draws its order, whose operations read and whose calls make memory: one walk for all orders, in any class of worlds. No condition: nothing here speaks of a program. -/
namespace Go.Proofs.Ytjkdccokiaejhaa
set_option maxRecDepth 100000
open Go.RowKit
/-- A world in which S holds. -/
structure Sp (S : World → Prop) where
  w : World
  ok : S w
theorem wp_region_sp {P : Program} {id : Nat} {Q : Exit → Act → World → Prop} {a : Act} {w : World} {l : List Oper} (S : World → Prop) (hm : P.follows .mixedOrders = true) (hB : Region.lexB .any l.toArray = true) (h0 : S w.drew)
    (h : wpQuiet P l.toArray (fun w' => ∃ k : Sp S, w' = k.w) (fun a' => ∀ k : Sp S, Q .normal a' k.w) l a) : (Code.region id l.toArray true).wp P Q a w :=
  wp_region_quiet (C := fun w' => ∃ k : Sp S, w' = k.w) hm hB ⟨⟨w.drew, h0⟩, rfl⟩ (by simpa using h)
/-- Cut behind n operations. -/
theorem wpQuiet_cut {P : Program} {ops : Array Oper} {C : World → Prop} {Q R : Act → Prop} : ∀ (n : Nat) (l : List Oper) (a : Act), wpQuiet P ops C R (l.take n) a → (∀ a', R a' → wpQuiet P ops C Q (l.drop n) a') → wpQuiet P ops C Q l a
  | 0, _, _, h, hr => hr _ h
  | _ + 1, [], _, h, hr => hr _ h
  | n + 1, o :: l, a, h, hr => by
    have h' : if Region.wanted o (yielded ops a.tmps) then o.quiet P a C (wpQuiet P ops C R (l.take n)) else wpQuiet P ops C R (l.take n) (a.put o.dst undef) := h
    show if Region.wanted o (yielded ops a.tmps) then o.quiet P a C (wpQuiet P ops C Q l) else wpQuiet P ops C Q l (a.put o.dst undef)
    split
    · rename_i hw
      rw [if_pos hw] at h'
      exact Oper.quiet_mono (fun a' k => wpQuiet_cut n l a' k hr) h'
    · rename_i hw
      rw [if_neg hw] at h'
      exact wpQuiet_cut n l _ h' hr
theorem sp_call {P : Program} {f : FuncId} {args : Array Value} {v : Value} {S : World → Prop} (step : ∀ w w', S w → Below w.heap.size w w' → S w') (k : Sp S) (h : Calls P f args k.w fun e w' => e = .returned v ∧ Below k.w.heap.size k.w w') :
    Calls P f args k.w fun e w' => e = .returned v ∧ ∃ k : Sp S, w' = k.w := h.mono fun _ w' ⟨he, hb⟩ => ⟨he, ⟨w', step _ _ k.ok hb⟩, rfl⟩
theorem below_same {P : Program} {f : FuncId} {args : Array Value} {v : Value} {w : World} (h : Calls P f args w fun e w' => e = .returned v ∧ w = w') : Calls P f args w fun e w' => e = .returned v ∧ Below w.heap.size w w' :=
  h.mono fun _ _ ⟨he, e⟩ => ⟨he, by subst e; exact Below.refl _ _⟩
/-- Block g is a pair. -/
structure Pr (w : World) (g : Nat) (a b : Int) : Prop where
  lt : g < w.heap.size
  c0 : w.cell? ⟨g, 0, none⟩ = some (.int .i64 a)
  c1 : w.cell? ⟨g, 1, none⟩ = some (.int .i64 b)
theorem Pr.kept {w w' : World} {g : Nat} {a b : Int} (h : Pr w g a b) (hb : Below w.heap.size w w') : Pr w' g a b := ⟨Nat.lt_of_lt_of_le h.lt hb.size, (hb.cell (p := ⟨g, 0, none⟩) h.lt).trans h.c0, (hb.cell (p := ⟨g, 1, none⟩) h.lt).trans h.c1⟩
theorem Pr.alloc {w : World} {g : Nat} {a b : Int} (h : Pr w g a b) (o : Obj) : Pr (w.alloc o) g a b := h.kept ((Below.refl _ _).alloc (Nat.le_refl _) o)
theorem Pr.drew {w : World} {g : Nat} {a b : Int} (h : Pr w g a b) : Pr w.drew g a b := ⟨h.lt, h.c0, h.c1⟩
theorem Pr.new (w : World) (a b : Int) (t : TypeId) : Pr (w.alloc (.cells #[.int .i64 a, .int .i64 b] t)) w.heap.size a b := by
  have h := Row.new w t #[.int .i64 a, .int .i64 b]
  exact ⟨h.lt, h.cell 0, h.cell 1⟩
end Go.Proofs.Ytjkdccokiaejhaa
/- Join of package deps, and the document's. Conditions: the slice has room. -/
namespace Go.Proofs.Ytjkdccokiaejhaa
set_option maxRecDepth 100000
open Go.RowKit
/-- A struct of ints as a block. -/
def cA (x : List Int) : Array Value := (cellsR x).toArray
theorem row_cA {w : World} {g : Nat} {t : TypeId} {x : List Int} (h : Row w g t (cA x)) (i : Nat) (hi : i < x.length) : w.cell? ⟨g, i, none⟩ = some (.int .i64 (ix x i)) := by
  rw [h.cell, ← cellsR_at x hi]; simp [cA]
/-- A list of eight numbers, told by its places. -/
def tab8 (f : Nat → Int) : List Int := [f 0, f 1, f 2, f 3, f 4, f 5, f 6, f 7]
theorem tab8_ix (f : Nat → Int) {i : Nat} (h : i < 8) : ix (tab8 f) i = f i := by
  match i, h with
  | 0, _ => rfl
  | 1, _ => rfl
  | 2, _ => rfl
  | 3, _ => rfl
  | 4, _ => rfl
  | 5, _ => rfl
  | 6, _ => rfl
  | 7, _ => rfl
theorem len8 {x : List Int} (h : x.length = 8) : ∃ x0 x1 x2 x3 x4 x5 x6 x7, x = [x0, x1, x2, x3, x4, x5, x6, x7] := by
  match x, h with
  | [a, b, c, d, e, f, g, i], _ => exact ⟨a, b, c, d, e, f, g, i, rfl⟩
theorem tab8_of {x : List Int} (h : x.length = 8) {f : Nat → Int} (hf : ∀ i, i < 8 → ix x i = f i) : x = tab8 f := by
  obtain ⟨x0, x1, x2, x3, x4, x5, x6, x7, rfl⟩ := len8 h
  unfold tab8
  rw [← hf 0 (by omega), ← hf 1 (by omega), ← hf 2 (by omega), ← hf 3 (by omega), ← hf 4 (by omega), ← hf 5 (by omega), ← hf 6 (by omega), ← hf 7 (by omega)]
  rfl
/-- The greatest of two, number by number; as far as the k-th. -/
def maxA (a b : List Int) : List Int := tab8 fun i => max (ix a i) (ix b i)
def mixA (a b : List Int) (k : Nat) : List Int := tab8 fun i => if i ≤ k then max (ix a i) (ix b i) else ix a i
theorem len_maxA (a b : List Int) : (maxA a b).length = 8 := rfl
theorem len_mixA (a b : List Int) (k : Nat) : (mixA a b k).length = 8 := rfl
theorem mix_all (a b : List Int) : mixA a b 7 = maxA a b := rfl
theorem set_mix (a b : List Int) {k : Nat} (h : k < 7) : (cA (mixA a b k)).setIfInBounds (1 + k) (.int .i64 (max (ix (mixA a b k) (1 + k)) (ix b (1 + k)))) = cA (mixA a b (k + 1)) := by
  match k, h with
  | 0, _ => rfl
  | 1, _ => rfl
  | 2, _ => rfl
  | 3, _ => rfl
  | 4, _ => rfl
  | 5, _ => rfl
  | 6, _ => rfl
theorem set_mix0 {a : List Int} (b : List Int) (h : a.length = 8) : (cA a).setIfInBounds 0 (.int .i64 (max (ix a 0) (ix b 0))) = cA (mixA a b 0) := by
  obtain ⟨x0, x1, x2, x3, x4, x5, x6, x7, rfl⟩ := len8 h
  rfl
def zero8 : List Int := [0, 0, 0, 0, 0, 0, 0, 0]
/-- All of them joined. -/
def joinL : List (List Int) → List Int
  | [] => zero8
  | a :: r => r.foldl maxA a
theorem joinL_len {l : List (List Int)} (h : All 8 l) : (joinL l).length = 8 := by
  rcases l with _ | ⟨a, r⟩
  · rfl
  · show (r.foldl maxA a).length = 8
    have ha := h a (by simp)
    clear h
    induction r generalizing a with
    | nil => exact ha
    | cons b r ih => exact ih (maxA a b) rfl
theorem eight_put {a b c d e f g i u0 u1 u2 u3 u4 u5 u6 u7 : Value} : ((((((((#[a, b, c, d, e, f, g, i] : Array Value).setIfInBounds 0 u0).setIfInBounds 1 u1).setIfInBounds 2 u2).setIfInBounds 3 u3).setIfInBounds 4 u4).setIfInBounds 5 u5).setIfInBounds 6 u6).setIfInBounds 7 u7 = #[u0, u1, u2, u3, u4, u5, u6, u7] := by
  simp
theorem row_eight {w : World} {g : Nat} {t : TypeId} {u0 u1 u2 u3 u4 u5 u6 u7 : Value} (h : Row w g t #[u0, u1, u2, u3, u4, u5, u6, u7]) (v0 v1 v2 v3 v4 v5 v6 v7 : Value) :
    Row ((((((((w.setCell ⟨g, 0, none⟩ v0).setCell ⟨g, 1, none⟩ v1).setCell ⟨g, 2, none⟩ v2).setCell ⟨g, 3, none⟩ v3).setCell ⟨g, 4, none⟩ v4).setCell ⟨g, 5, none⟩ v5).setCell ⟨g, 6, none⟩ v6).setCell ⟨g, 7, none⟩ v7) g t #[v0, v1, v2, v3, v4, v5, v6, v7] := by
  have z := (((((((h.put 0 v0).put 1 v1).put 2 v2).put 3 v3).put 4 v4).put 5 v5).put 6 v6).put 7 v7
  rw [eight_put] at z
  exact z
theorem below_eight {B : Nat} {W w : World} {g : Nat} (h : Below B W w) (hg : B ≤ g) (v0 v1 v2 v3 v4 v5 v6 v7 : Value) :
    Below B W ((((((((w.setCell ⟨g, 0, none⟩ v0).setCell ⟨g, 1, none⟩ v1).setCell ⟨g, 2, none⟩ v2).setCell ⟨g, 3, none⟩ v3).setCell ⟨g, 4, none⟩ v4).setCell ⟨g, 5, none⟩ v5).setCell ⟨g, 6, none⟩ v6).setCell ⟨g, 7, none⟩ v7) :=
  (((((((h.setCell hg v0).setCell hg v1).setCell hg v2).setCell hg v3).setCell hg v4).setCell hg v5).setCell hg v6).setCell hg v7
/-- The eight cells of a struct, and that they may be written. -/
def Cells8 (w : World) (g o : Nat) (x : List Int) : Prop := w.cell? ⟨g, o, none⟩ = some (.int .i64 (ix x 0)) ∧ w.cell? ⟨g, o + 1, none⟩ = some (.int .i64 (ix x 1)) ∧ w.cell? ⟨g, o + 2, none⟩ = some (.int .i64 (ix x 2)) ∧ w.cell? ⟨g, o + 3, none⟩ = some (.int .i64 (ix x 3)) ∧
  w.cell? ⟨g, o + 4, none⟩ = some (.int .i64 (ix x 4)) ∧ w.cell? ⟨g, o + 5, none⟩ = some (.int .i64 (ix x 5)) ∧ w.cell? ⟨g, o + 6, none⟩ = some (.int .i64 (ix x 6)) ∧ w.cell? ⟨g, o + 7, none⟩ = some (.int .i64 (ix x 7))
theorem Row.eight {w : World} {g : Nat} {t : TypeId} {cs : Array Value} (h : Row w g t cs) : w.cell? ⟨g, 0, none⟩ = cs[0]? ∧ w.cell? ⟨g, 1, none⟩ = cs[1]? ∧ w.cell? ⟨g, 2, none⟩ = cs[2]? ∧ w.cell? ⟨g, 3, none⟩ = cs[3]? ∧ w.cell? ⟨g, 4, none⟩ = cs[4]? ∧ w.cell? ⟨g, 5, none⟩ = cs[5]? ∧ w.cell? ⟨g, 6, none⟩ = cs[6]? ∧ w.cell? ⟨g, 7, none⟩ = cs[7]? :=
  ⟨h.cell 0, h.cell 1, h.cell 2, h.cell 3, h.cell 4, h.cell 5, h.cell 6, h.cell 7⟩
theorem Row.free8 {w : World} {g : Nat} {t : TypeId} {cs : Array Value} (h : Row w g t cs) : w.frozen? ⟨g, 0, none⟩ = false ∧ w.frozen? ⟨g, 1, none⟩ = false ∧ w.frozen? ⟨g, 2, none⟩ = false ∧ w.frozen? ⟨g, 3, none⟩ = false ∧ w.frozen? ⟨g, 4, none⟩ = false ∧ w.frozen? ⟨g, 5, none⟩ = false ∧ w.frozen? ⟨g, 6, none⟩ = false ∧ w.frozen? ⟨g, 7, none⟩ = false :=
  ⟨h.free 0, h.free 1, h.free 2, h.free 3, h.free 4, h.free 5, h.free 6, h.free 7⟩
theorem eight_at {w : World} {b o : Nat} {x : List Int} (h : ∀ i, i < 8 → w.cell? ⟨b, o + i, none⟩ = some (.int .i64 (ix x i))) : Cells8 w b o x :=
  ⟨h 0 (by omega), h 1 (by omega), h 2 (by omega), h 3 (by omega), h 4 (by omega), h 5 (by omega), h 6 (by omega), h 7 (by omega)⟩
theorem eight_lit {w : World} {b o : Nat} {x0 x1 x2 x3 x4 x5 x6 x7 : Int} (h : Cells8 w b o [x0, x1, x2, x3, x4, x5, x6, x7]) : w.cell? ⟨b, o, none⟩ = some (.int .i64 x0) ∧ w.cell? ⟨b, o + 1, none⟩ = some (.int .i64 x1) ∧ w.cell? ⟨b, o + 2, none⟩ = some (.int .i64 x2) ∧ w.cell? ⟨b, o + 3, none⟩ = some (.int .i64 x3) ∧
    w.cell? ⟨b, o + 4, none⟩ = some (.int .i64 x4) ∧ w.cell? ⟨b, o + 5, none⟩ = some (.int .i64 x5) ∧ w.cell? ⟨b, o + 6, none⟩ = some (.int .i64 x6) ∧ w.cell? ⟨b, o + 7, none⟩ = some (.int .i64 x7) := h
/-- While Join goes on: the answer's block, the joined one's. -/
structure Jn (W w : World) (x : List Int) : Prop where
  low : Below W.heap.size W w
  res : Row w W.heap.size 26 (cA zero8)
  j : Row w (W.heap.size + 1) 26 (cA x)
theorem Jn.alloc {W w : World} {x : List Int} (h : Jn W w x) (o : Obj) : Jn W (w.alloc o) x := ⟨kept_alloc h.low o, h.res.alloc o, h.j.alloc o⟩
theorem Jn.put {W w : World} {x y : List Int} (h : Jn W w x) (i : Nat) (v : Value) (he : (cA x).setIfInBounds i v = cA y) : Jn W (w.setCell ⟨W.heap.size + 1, i, none⟩ v) y :=
  ⟨h.low.setCell (by simp) v, (Below.heap_setCell w ⟨W.heap.size + 1, i, none⟩ v W.heap.size (by show W.heap.size ≠ W.heap.size + 1; omega)).trans h.res, he ▸ h.j.put i v⟩
theorem results_at8 {fn : Func} {p : Tmp} {tmps : Array Value} {w : World} {g : Nat} {t : TypeId} {v0 v1 v2 v3 v4 v5 v6 v7 : Value} (hf : fn.results = #[.cell p 26]) (hp : tmps.getD p undef = .pointer (some ⟨g, 0, none⟩)) (hr : Row w g t #[v0, v1, v2, v3, v4, v5, v6, v7]) :
    (results fn tmps).run Try.prog w = .ok (.agg #[v0, v1, v2, v3, v4, v5, v6, v7]) w :=
  results_cell_row hf tmps w g t _ _ _ hp hr Try.underlying26 rfl (by kernel_rfl)
end Go.Proofs.Ytjkdccokiaejhaa
/- Commands as values, by themselves and in slices that come in. No condition. -/
namespace Go.Proofs.Ytjkdccokiaejhaa
set_option maxRecDepth 100000
open Go.ChangeShapes Go.WideShapes Go.ChangeAt Go.RowKit Go.Joins
/-- A command. -/
structure Cm where
  k : Int
  c : Int
  q : Int
  key : ByteArray
  en : ByteArray
  old : ByteArray
  val : ByteArray
/-- Its cells. -/
def Cm.l (x : Cm) : List Value := [.int .i64 x.k, .int .i64 x.c, .int .i64 x.q, .string x.key, .string x.en, .string x.old, .string x.val]
/-- A number that an int holds. -/
def I64 (n : Int) : Prop := -9223372036854775808 ≤ n ∧ n ≤ 9223372036854775807
structure CmOk (x : Cm) : Prop where
  k : -9223372036854775808 ≤ x.k ∧ x.k ≤ 9223372036854775807
  c : -9223372036854775808 ≤ x.c ∧ x.c ≤ 9223372036854775807
  q : -9223372036854775808 ≤ x.q ∧ x.q ≤ 9223372036854775807
  key : x.key.size ≤ 140737488351232
  en : x.en.size ≤ 140737488351232
  old : x.old.size ≤ 140737488351232
  val : x.val.size ≤ 140737488351232
theorem one_cell {α : Type} {l : List α} {n : Nat} {x : α} (h : (l.drop n).take 1 = [x]) : l[n]? = some x := by
  rcases Nat.lt_or_ge n l.length with h1 | h1
  · rw [List.drop_eq_getElem_cons h1] at h
    injection h with h _
    rw [List.getElem?_eq_getElem h1, h]
  · rw [List.drop_of_length_le h1] at h; cases h
theorem Try.cells32 : Try.prog.cellsOf 32 = 7 := by kernel_rfl
theorem Try.cells3 : Try.prog.cellsOf 3 = 1 := by kernel_rfl
theorem Try.cells9 : Try.prog.cellsOf 9 = 1 := by kernel_rfl
/-- What the seven cells of a command hold. -/
theorem cmd_cells {H : Type} {enc : TypeId × Value → H} {W : World} {base fuel : Nat} {spare : Nat → Bool} {held : Bool} {cs : List Value} {x : DataW H × List MemPlace}
    (ht : DataW.trod enc Try.prog W base spare held fuel 32 cs = some x)
    (hsz : ∀ n ∈ x.1.weights Try.prog 32, n ≤ reachBytes) : ∃ y : Cm, cs = y.l ∧ CmOk y := by
  obtain ⟨ys, n', _, rfl, hlen, hyl, hfs⟩ := DataW.trod_struct Try.underlying32 ht
  rw [Try.cells32] at hlen
  have hyl7 : ys.length = 7 := hyl
  obtain ⟨y0, y1, y2, y3, y4, y5, y6, rfl⟩ : ∃ y0 y1 y2 y3 y4 y5 y6, ys = [y0, y1, y2, y3, y4, y5, y6] := by
    match ys, hyl7 with
    | [y0, y1, y2, y3, y4, y5, y6], _ => exact ⟨y0, y1, y2, y3, y4, y5, y6, rfl⟩
  obtain ⟨c0, c1, c2, c3, c4, c5, c6, rfl⟩ : ∃ c0 c1 c2 c3 c4 c5 c6, cs = [c0, c1, c2, c3, c4, c5, c6] := by
    match cs, hlen with
    | [c0, c1, c2, c3, c4, c5, c6], _ => exact ⟨c0, c1, c2, c3, c4, c5, c6, rfl⟩
  have g0 := hfs 0 _ rfl
  have g1 := hfs 1 _ rfl
  have g2 := hfs 2 _ rfl
  have g3 := hfs 3 _ rfl
  have g4 := hfs 4 _ rfl
  have g5 := hfs 5 _ rfl
  have g6 := hfs 6 _ rfl
  clear hfs
  change DataW.trod enc Try.prog W base spare held n' 3 (([c0, c1, c2, c3, c4, c5, c6].drop 0).take (Try.prog.cellsOf 3)) = some y0 at g0
  change DataW.trod enc Try.prog W base spare held n' 3 (([c0, c1, c2, c3, c4, c5, c6].drop 1).take (Try.prog.cellsOf 3)) = some y1 at g1
  change DataW.trod enc Try.prog W base spare held n' 3 (([c0, c1, c2, c3, c4, c5, c6].drop 2).take (Try.prog.cellsOf 3)) = some y2 at g2
  change DataW.trod enc Try.prog W base spare held n' 9 (([c0, c1, c2, c3, c4, c5, c6].drop 3).take (Try.prog.cellsOf 9)) = some y3 at g3
  change DataW.trod enc Try.prog W base spare held n' 9 (([c0, c1, c2, c3, c4, c5, c6].drop 4).take (Try.prog.cellsOf 9)) = some y4 at g4
  change DataW.trod enc Try.prog W base spare held n' 9 (([c0, c1, c2, c3, c4, c5, c6].drop 5).take (Try.prog.cellsOf 9)) = some y5 at g5
  change DataW.trod enc Try.prog W base spare held n' 9 (([c0, c1, c2, c3, c4, c5, c6].drop 6).take (Try.prog.cellsOf 9)) = some y6 at g6
  rw [Try.cells3] at g0 g1 g2
  rw [Try.cells9] at g3 g4 g5 g6
  obtain ⟨k, e0, _, w0⟩ := DataW.trod_int Try.underlying3 g0
  obtain ⟨c, e1, _, w1⟩ := DataW.trod_int Try.underlying3 g1
  obtain ⟨q, e2, _, w2⟩ := DataW.trod_int Try.underlying3 g2
  obtain ⟨a, e3, f3, _⟩ := DataW.trod_string Try.underlying9 g3
  obtain ⟨b, e4, f4, _⟩ := DataW.trod_string Try.underlying9 g4
  obtain ⟨o, e5, f5, _⟩ := DataW.trod_string Try.underlying9 g5
  obtain ⟨v, e6, f6, _⟩ := DataW.trod_string Try.underlying9 g6
  subst f3 f4 f5 f6
  simp at e0 e1 e2 e3 e4 e5 e6
  subst e0 e1 e2 e3 e4 e5 e6
  have hr : reachBytes = 140737488351232 := rfl
  rw [hr] at hsz
  have hw : ∀ s : ByteArray, (∃ l r : List (DataW H), (DataW.agg ([y0, y1, y2, (.lit (.string a.data.toList), []), (.lit (.string b.data.toList), []), (.lit (.string o.data.toList), []), (.lit (.string v.data.toList), [])].map (·.1)) : DataW H) = .agg (l ++ .lit (.string s.data.toList) :: r) ∧ l.length < 7 ∧ 2 < l.length) → s.size ≤ 140737488351232 := by
    rintro s ⟨l, r, he, hl, hl3⟩
    refine hsz s.data.toList.length ?_
    rw [he]
    unfold DataW.weights
    rw [Try.underlying32]
    have hj : (l ++ (DataW.lit (.string s.data.toList) : DataW H) :: r)[l.length]? = some (.lit (.string s.data.toList)) := by simp
    have ht : ∃ t, ([3, 3, 3, 9, 9, 9, 9] : List TypeId)[l.length]? = some t := ⟨_, List.getElem?_eq_getElem (by simpa using hl)⟩
    obtain ⟨t, ht⟩ := ht
    exact DataW.weights_mem_each (ts := [3, 3, 3, 9, 9, 9, 9]) ht hj _ (by simp [DataW.weights])
  exact ⟨⟨k, c, q, a, b, o, v⟩, rfl, bounds_i64 w0, bounds_i64 w1, bounds_i64 w2, hw a ⟨[y0.1, y1.1, y2.1], _, rfl, by simp, by simp⟩, hw b ⟨[y0.1, y1.1, y2.1, _], _, rfl, by simp, by simp⟩,
    hw o ⟨[y0.1, y1.1, y2.1, _, _], _, rfl, by simp, by simp⟩, hw v ⟨[y0.1, y1.1, y2.1, _, _, _], _, rfl, by simp, by simp⟩⟩
/-- A command that came in. -/
theorem cmd_in {H : Type} {enc : TypeId × Value → H} {W : World} {base b0 : Nat} {spare : Nat → Bool} {held : Bool} {r : Reach} {v : Value} {d : DataW H} {p : List MemPlace} {ts : List TypeId} {ds : List (DataW H)} {j : Nat}
    (hv : Value.okWide Try.prog W r b0 32 v) (h : DataW.Trod enc Try.prog W base spare held 32 v d p) (hsz : (DataW.weightsEach Try.prog ts ds).all (· ≤ reachBytes) = true) (ht : ts[j]? = some 32) (hd : ds[j]? = some d) :
    ∃ y : Cm, v = .agg #[.int .i64 y.k, .int .i64 y.c, .int .i64 y.q, .string y.key, .string y.en, .string y.old, .string y.val] ∧ CmOk y := by
  obtain ⟨cs, rfl, hcs⟩ := okWide_struct Try.underlying32 hv
  obtain ⟨fuel, hf⟩ := h
  obtain ⟨y, hy, ok⟩ := cmd_cells hf fun n hn => by
    have := List.all_eq_true.1 hsz _ (DataW.weights_mem_each ht hd n hn)
    simpa using this
  have e : cs.toList = y.l := hy
  refine ⟨y, ?_, ok⟩
  obtain ⟨l⟩ := cs
  simp only at e
  rw [e]; rfl
/-- What lies at command j of a slice that begins at ⟨b, off⟩. -/
structure CmAt (w : World) (b off j : Nat) (x : Cm) : Prop where
  c0 : w.cell? ⟨b, off + j * 7, none⟩ = some (.int .i64 x.k)
  c1 : w.cell? ⟨b, off + j * 7 + 1, none⟩ = some (.int .i64 x.c)
  c2 : w.cell? ⟨b, off + j * 7 + 2, none⟩ = some (.int .i64 x.q)
  c3 : w.cell? ⟨b, off + j * 7 + 3, none⟩ = some (.string x.key)
  c4 : w.cell? ⟨b, off + j * 7 + 4, none⟩ = some (.string x.en)
  c5 : w.cell? ⟨b, off + j * 7 + 5, none⟩ = some (.string x.old)
  c6 : w.cell? ⟨b, off + j * 7 + 6, none⟩ = some (.string x.val)
theorem CmAt.below {w w' : World} {B b off j : Nat} {x : Cm} (h : CmAt w b off j x) (hb : Below B w w') (hl : b < B) : CmAt w' b off j x :=
  ⟨(hb.cell (p := ⟨b, off + j * 7, none⟩) hl).trans h.c0, (hb.cell (p := ⟨b, off + j * 7 + 1, none⟩) hl).trans h.c1, (hb.cell (p := ⟨b, off + j * 7 + 2, none⟩) hl).trans h.c2, (hb.cell (p := ⟨b, off + j * 7 + 3, none⟩) hl).trans h.c3,
    (hb.cell (p := ⟨b, off + j * 7 + 4, none⟩) hl).trans h.c4, (hb.cell (p := ⟨b, off + j * 7 + 5, none⟩) hl).trans h.c5, (hb.cell (p := ⟨b, off + j * 7 + 6, none⟩) hl).trans h.c6⟩
/-- A slice of commands that came in. -/
structure CmsIn (w : World) (A : Option Addr) (n c : Nat) (it : Nat → Cm) : Prop where
  le : n ≤ c
  room : c ≤ 9223372036854775807
  ok : ∀ j, j < n → CmOk (it j)
  at_ : ∀ j, j < n → ∃ b off, A = some ⟨b, off, none⟩ ∧ b < w.heap.size ∧ CmAt w b off j (it j)
end Go.Proofs.Ytjkdccokiaejhaa
/- '==' and '!=' of rows of slots, attributes and instances. No condition. -/
namespace Go.Proofs.Ytjkdccokiaejhaa
set_option maxRecDepth 100000
open Go.RowKit
theorem part_int (cs : Array Value) (o : Nat) (n : Int) (h : cs[o]? = some (.int .i64 n)) (w : World) : (part 3 cs o).run Try.prog w = .ok (.int .i64 n) w := by
  have a3 := Try.isAgg3
  simp [part, a3, h]
theorem items_step (d : Nat) (xs ys : Array Value) (i : Nat) (is : List Nat) (a b : Int) (w : World) (hx : xs[i]? = some (.int .i64 a)) (hy : ys[i]? = some (.int .i64 b)) (r : Bool) (h : (Op.eqItems (d + 1) 3 1 xs ys is).run Try.prog w = .ok r w) :
    (Op.eqItems (d + 1) 3 1 xs ys (i :: is)).run Try.prog w = .ok (a == b && r) w := by
  have e := run_equalIn_int (P := Try.prog) w d 3 .i64 .i64 a b Try.underlying3
  simp only [Op.eqItems, Sem.run_bind, Nat.mul_one, part_int xs i a hx, part_int ys i b hy, e, Result.andThen_ok]
  cases hab : (a == b)
  · simp
  · simpa using h
theorem equal_deps (d : Nat) (a1 a2 a3 a4 a5 a6 a7 b1 b2 b3 b4 b5 b6 b7 : Int) (w : World) : (Op.equalIn (d + 1 + 1) 24 (.agg #[.int .i64 a1, .int .i64 a2, .int .i64 a3, .int .i64 a4, .int .i64 a5, .int .i64 a6, .int .i64 a7]) (.agg #[.int .i64 b1, .int .i64 b2, .int .i64 b3, .int .i64 b4, .int .i64 b5, .int .i64 b6, .int .i64 b7])).run Try.prog w = .ok (decide ([a1, a2, a3, a4, a5, a6, a7] = [b1, b2, b3, b4, b5, b6, b7])) w := by
  obtain ⟨i0, hi, _, _, _⟩ := info_parts (show (Try.prog.info? 3).map (fun i => (i.zero, i.size, i.bytes)) = some (some (.int .i64 0), 1, 8) by kernel_rfl)
  rw [run_equalIn_array w (d + 1) _ _ Try.underlying24 hi, show Try.prog.cellsOf 3 = 1 by kernel_rfl, show List.range 7 = [0, 1, 2, 3, 4, 5, 6] from rfl]
  rw [items_step d _ _ 0 _ a1 b1 w rfl rfl _ (items_step d _ _ 1 _ a2 b2 w rfl rfl _ (items_step d _ _ 2 _ a3 b3 w rfl rfl _ (items_step d _ _ 3 _ a4 b4 w rfl rfl _ (items_step d _ _ 4 _ a5 b5 w rfl rfl _ (items_step d _ _ 5 _ a6 b6 w rfl rfl _ (items_step d _ _ 6 _ a7 b7 w rfl rfl true rfl))))))]
  congr 1
  rw [Bool.eq_iff_iff]
  simp
theorem eql_deps (a1 a2 a3 a4 a5 a6 a7 b1 b2 b3 b4 b5 b6 b7 : Int) (w : World) : (binOp .eql 24 (.agg #[.int .i64 a1, .int .i64 a2, .int .i64 a3, .int .i64 a4, .int .i64 a5, .int .i64 a6, .int .i64 a7]) (.agg #[.int .i64 b1, .int .i64 b2, .int .i64 b3, .int .i64 b4, .int .i64 b5, .int .i64 b6, .int .i64 b7])).run Try.prog w = .ok (.bool (decide ([a1, a2, a3, a4, a5, a6, a7] = [b1, b2, b3, b4, b5, b6, b7]))) w := by
  rw [run_eql_struct, show (10000 : Nat) = 9998 + 1 + 1 from rfl, equal_deps]; rfl
theorem neq_deps (a1 a2 a3 a4 a5 a6 a7 b1 b2 b3 b4 b5 b6 b7 : Int) (w : World) : (binOp .neq 24 (.agg #[.int .i64 a1, .int .i64 a2, .int .i64 a3, .int .i64 a4, .int .i64 a5, .int .i64 a6, .int .i64 a7]) (.agg #[.int .i64 b1, .int .i64 b2, .int .i64 b3, .int .i64 b4, .int .i64 b5, .int .i64 b6, .int .i64 b7])).run Try.prog w = .ok (.bool (!decide ([a1, a2, a3, a4, a5, a6, a7] = [b1, b2, b3, b4, b5, b6, b7]))) w := by
  rw [run_neq_struct, show (10000 : Nat) = 9998 + 1 + 1 from rfl, equal_deps]; rfl
theorem equal_attr (a0 a1 a2 a3 a4 a5 a6 a7 b0 b1 b2 b3 b4 b5 b6 b7 : Int) (w : World) : (Op.equalIn 10000 26 (.agg #[.int .i64 a0, .int .i64 a1, .int .i64 a2, .int .i64 a3, .int .i64 a4, .int .i64 a5, .int .i64 a6, .int .i64 a7]) (.agg #[.int .i64 b0, .int .i64 b1, .int .i64 b2, .int .i64 b3, .int .i64 b4, .int .i64 b5, .int .i64 b6, .int .i64 b7])).run Try.prog w = .ok (decide ([a0, a1, a2, a3, a4, a5, a6, a7] = [b0, b1, b2, b3, b4, b5, b6, b7])) w := by
  have hS : Try.prog.underlying 26 = some (.struct (Try.prog.fieldsOf 26)) := by kernel_rfl
  have hp : Try.prog.stoodInHeld 26 = false := by kernel_rfl
  have e := run_equalIn_int (P := Try.prog) w 9998 3 .i64 .i64 a0 b0 Try.underlying3
  have e2 := equal_deps 9997 a1 a2 a3 a4 a5 a6 a7 b1 b2 b3 b4 b5 b6 b7 w
  have p1 : (part 24 #[.int .i64 a0, .int .i64 a1, .int .i64 a2, .int .i64 a3, .int .i64 a4, .int .i64 a5, .int .i64 a6, .int .i64 a7] 1).run Try.prog w = .ok (.agg #[.int .i64 a1, .int .i64 a2, .int .i64 a3, .int .i64 a4, .int .i64 a5, .int .i64 a6, .int .i64 a7]) w := by kernel_rfl
  have p2 : (part 24 #[.int .i64 b0, .int .i64 b1, .int .i64 b2, .int .i64 b3, .int .i64 b4, .int .i64 b5, .int .i64 b6, .int .i64 b7] 1).run Try.prog w = .ok (.agg #[.int .i64 b1, .int .i64 b2, .int .i64 b3, .int .i64 b4, .int .i64 b5, .int .i64 b6, .int .i64 b7]) w := by kernel_rfl
  have q1 := part_int #[.int .i64 a0, .int .i64 a1, .int .i64 a2, .int .i64 a3, .int .i64 a4, .int .i64 a5, .int .i64 a6, .int .i64 a7] 0 a0 rfl w
  have q2 := part_int #[.int .i64 b0, .int .i64 b1, .int .i64 b2, .int .i64 b3, .int .i64 b4, .int .i64 b5, .int .i64 b6, .int .i64 b7] 0 b0 rfl w
  rw [show (10000 : Nat) = 9999 + 1 from rfl, run_equalIn_agg w 9999 26 _ _ hS hp]
  simp only [Program.fieldsOf, Try.underlying26]
  have hL : decide ([a0, a1, a2, a3, a4, a5, a6, a7] = [b0, b1, b2, b3, b4, b5, b6, b7]) = (a0 == b0 && decide ([a1, a2, a3, a4, a5, a6, a7] = [b1, b2, b3, b4, b5, b6, b7])) := by
    rw [Bool.eq_iff_iff]
    simp
  rw [hL]
  generalize decide ([a1, a2, a3, a4, a5, a6, a7] = [b1, b2, b3, b4, b5, b6, b7]) = p at e2
  cases h0 : (a0 == b0)
  · rw [h0] at e
    simp [Op.eqFields, q1, q2, e]
  · rw [h0] at e
    cases p <;> simp [Op.eqFields, q1, q2, p1, p2, e, e2]
theorem eql_attr (a0 a1 a2 a3 a4 a5 a6 a7 b0 b1 b2 b3 b4 b5 b6 b7 : Int) (w : World) : (binOp .eql 26 (.agg #[.int .i64 a0, .int .i64 a1, .int .i64 a2, .int .i64 a3, .int .i64 a4, .int .i64 a5, .int .i64 a6, .int .i64 a7]) (.agg #[.int .i64 b0, .int .i64 b1, .int .i64 b2, .int .i64 b3, .int .i64 b4, .int .i64 b5, .int .i64 b6, .int .i64 b7])).run Try.prog w = .ok (.bool (decide ([a0, a1, a2, a3, a4, a5, a6, a7] = [b0, b1, b2, b3, b4, b5, b6, b7]))) w := by
  rw [run_eql_struct, equal_attr]; rfl
theorem neq_attr (a0 a1 a2 a3 a4 a5 a6 a7 b0 b1 b2 b3 b4 b5 b6 b7 : Int) (w : World) : (binOp .neq 26 (.agg #[.int .i64 a0, .int .i64 a1, .int .i64 a2, .int .i64 a3, .int .i64 a4, .int .i64 a5, .int .i64 a6, .int .i64 a7]) (.agg #[.int .i64 b0, .int .i64 b1, .int .i64 b2, .int .i64 b3, .int .i64 b4, .int .i64 b5, .int .i64 b6, .int .i64 b7])).run Try.prog w = .ok (.bool (!decide ([a0, a1, a2, a3, a4, a5, a6, a7] = [b0, b1, b2, b3, b4, b5, b6, b7]))) w := by
  rw [run_neq_struct, equal_attr]; rfl
/-- Are the four numbers two pairs of one? -/
def sameB (a b c d : Int) : Bool := a == c && b == d
theorem same_iff (a b c d : Int) : sameB a b c d = decide ([a, b] = [c, d]) := by
  unfold sameB
  rw [Bool.eq_iff_iff]
  simp
theorem equal_inst (a b c d : Int) (w : World) : (Op.equalIn 10000 40 (.agg #[.int .i64 a, .int .i64 b]) (.agg #[.int .i64 c, .int .i64 d])).run Try.prog w = .ok (sameB a b c d) w := by
  have u3 := Try.underlying3
  have a3 := Try.isAgg3
  have z3 := Try.sizeOf3
  have hS : Try.prog.underlying 40 = some (.struct (Try.prog.fieldsOf 40)) := by kernel_rfl
  have hp : Try.prog.stoodInHeld 40 = false := by kernel_rfl
  rw [show (10000 : Nat) = 9999 + 1 from rfl, run_equalIn_agg w 9999 40 _ _ hS hp]
  simp only [Program.fieldsOf, Try.underlying40]
  go_simp
  unfold sameB
  cases h1 : (a == c) <;> simp_all
  cases h2 : (b == d) <;> simp_all
theorem eql_inst (a b c d : Int) (w : World) : (binOp .eql 40 (.agg #[.int .i64 a, .int .i64 b]) (.agg #[.int .i64 c, .int .i64 d])).run Try.prog w = .ok (.bool (sameB a b c d)) w := by
  rw [run_eql_struct, equal_inst]; rfl
theorem neq_inst (a b c d : Int) (w : World) : (binOp .neq 40 (.agg #[.int .i64 a, .int .i64 b]) (.agg #[.int .i64 c, .int .i64 d])).run Try.prog w = .ok (.bool (!sameB a b c d)) w := by
  rw [run_neq_struct, equal_inst]; rfl
end Go.Proofs.Ytjkdccokiaejhaa
/- Attributes as a map's keys. Conditions: the bounds of an int. -/
namespace Go.Proofs.Ytjkdccokiaejhaa
set_option maxRecDepth 100000
open Go.RowKit Go.Maps
structure Ok8 (x : List Int) : Prop where
  len : x.length = 8
  ok : ∀ n, n ∈ x → I64 n
/-- What it reads as, as a key. -/
def kl (x : List Int) : Lit := .string (keyBytes (x.map (Lit.int .i64)))
theorem law : Keyed Try.prog 26 := Keyed.of_law (deep_law_laid laidOut (m := 3) (by omega) (of_decide_eq_true (by kernel_rfl)) (by kernel_rfl) (by rw [Try.underlying26]))
theorem keyty : Try.prog.keyType 26 = true := by kernel_rfl
theorem types_two : ∃ n, Try.prog.types.size = n + 2 := ⟨Try.prog.types.size - 2, by kernel_rfl⟩
theorem wf_i64 {n : Int} : (Lit.int .i64 n).wf = true ↔ I64 n := by
  constructor
  · intro h; exact bounds_i64 h
  · intro h; exact WalkArith.wf_i64 (by unfold I64 at h; omega)
theorem cells_int : Try.prog.cellsOf 3 = 1 := by kernel_rfl
theorem cells_deps : Try.prog.cellsOf 24 = 7 := by kernel_rfl
theorem cells_attr : Try.prog.cellsOf 26 = 8 := by kernel_rfl
theorem lits_struct {P : Program} {t : TypeId} {fs : Array Field} (d : Nat) (cs : List Value) (hu : P.underlying t = some (.struct fs)) (hl : cs.length = P.cellsOf t) (hn : fs.all (·.name != "_") = true) :
    P.keyLits (d + 1) t cs = (fs.toList.mapM fun f => P.keyLits d f.type ((cs.drop f.offset).take (P.cellsOf f.type))).map List.flatten := by
  rw [Program.keyLits.eq_def]
  simp only [hu]
  rw [if_pos ⟨hl, hn⟩]
theorem lits_arr {P : Program} {t e : TypeId} {n : Nat} (d : Nat) (cs : List Value) (hu : P.underlying t = some (.array n e)) (hl : cs.length = P.cellsOf t) :
    P.keyLits (d + 1) t cs = ((List.range n).mapM fun i => P.keyLits d e ((cs.drop (i * P.cellsOf e)).take (P.cellsOf e))).map List.flatten := by
  rw [Program.keyLits.eq_def]
  simp only [hu]
  rw [if_pos hl]
theorem lits_one {P : Program} {t : TypeId} (d : Nat) (n : Int) (hu : P.underlying t = some (.int .i64)) (h : I64 n) : P.keyLits (d + 1) t [.int .i64 n] = some [.int .i64 n] := by
  rw [Program.keyLits.eq_def]
  simp only [hu]
  simp [wf_i64.2 h]
theorem lits_deps (d : Nat) (d1 d2 d3 d4 d5 d6 d7 : Int) (h : ∀ n, n ∈ [d1, d2, d3, d4, d5, d6, d7] → I64 n) : Try.prog.keyLits (d + 1 + 1) 24 [.int .i64 d1, .int .i64 d2, .int .i64 d3, .int .i64 d4, .int .i64 d5, .int .i64 d6, .int .i64 d7] = some (List.map (Lit.int .i64) [d1, d2, d3, d4, d5, d6, d7]) := by
  have l1 := fun n (hn : n ∈ [d1, d2, d3, d4, d5, d6, d7]) => lits_one (P := Try.prog) (t := 3) d n Try.underlying3 (h n hn)
  rw [lits_arr (d + 1) _ Try.underlying24 (by rw [cells_deps]; rfl), cells_int]
  have e : List.range 7 = [0, 1, 2, 3, 4, 5, 6] := rfl
  rw [e]
  simp only [List.mapM_cons, List.mapM_nil, Nat.mul_one, List.drop_zero, List.drop_succ_cons, List.take_succ_cons, List.take_zero, List.map_cons, List.map_nil]
  rw [l1 d1 (by simp), l1 d2 (by simp), l1 d3 (by simp), l1 d4 (by simp), l1 d5 (by simp), l1 d6 (by simp), l1 d7 (by simp)]
  rfl
theorem lits_attr (d : Nat) (a0 a1 a2 a3 a4 a5 a6 a7 : Int) (h : ∀ n, n ∈ [a0, a1, a2, a3, a4, a5, a6, a7] → I64 n) : Try.prog.keyLits (d + 1 + 1 + 1) 26 [.int .i64 a0, .int .i64 a1, .int .i64 a2, .int .i64 a3, .int .i64 a4, .int .i64 a5, .int .i64 a6, .int .i64 a7] = some (List.map (Lit.int .i64) [a0, a1, a2, a3, a4, a5, a6, a7]) := by
  have l1 := lits_one (P := Try.prog) (t := 3) (d + 1) a0 Try.underlying3 (h a0 (by simp))
  have l2 := lits_deps d a1 a2 a3 a4 a5 a6 a7 (fun n hn => h n (by simp at hn ⊢; omega))
  rw [lits_struct (d + 1 + 1) _ Try.underlying26 (by rw [cells_attr]; rfl) (by kernel_rfl)]
  simp only [List.mapM_cons, List.mapM_nil, cells_int, cells_deps, List.drop_zero, List.drop_succ_cons, List.take_succ_cons, List.take_zero, List.map_cons, List.map_nil]
  rw [l1, l2]
  rfl
theorem key_of (a0 a1 a2 a3 a4 a5 a6 a7 : Int) (h : ∀ n, n ∈ [a0, a1, a2, a3, a4, a5, a6, a7] → I64 n) : keyOf Try.prog 26 (.agg #[.int .i64 a0, .int .i64 a1, .int .i64 a2, .int .i64 a3, .int .i64 a4, .int .i64 a5, .int .i64 a6, .int .i64 a7]) = some (kl [a0, a1, a2, a3, a4, a5, a6, a7]) := by
  obtain ⟨m, hm⟩ := types_two
  have l := lits_attr m a0 a1 a2 a3 a4 a5 a6 a7 h
  unfold keyOf
  rw [Try.underlying26]
  have hf : (Value.agg #[.int .i64 a0, .int .i64 a1, .int .i64 a2, .int .i64 a3, .int .i64 a4, .int .i64 a5, .int .i64 a6, .int .i64 a7]).formed Try.prog 26 = true := by simp [Value.formed, Try.underlying26, cells_attr]
  simp only [keyty, hf, Bool.and_self, if_true, Value.cells, hm]
  rw [l]; rfl
theorem kl_inj {x y : List Int} (hx : Ok8 x) (hy : Ok8 y) (h : kl x = kl y) : x = y := by
  obtain ⟨a0, a1, a2, a3, a4, a5, a6, a7, rfl⟩ := len8 hx.len
  obtain ⟨b0, b1, b2, b3, b4, b5, b6, b7, rfl⟩ := len8 hy.len
  have e := law.inj (key_of a0 a1 a2 a3 a4 a5 a6 a7 hx.ok) (by rw [h]; exact key_of b0 b1 b2 b3 b4 b5 b6 b7 hy.ok)
  simpa using e
theorem kl_key (x : List Int) : WideAt.IsKeyLit (kl x) := trivial
theorem kl_same {x y : List Int} (hx : Ok8 x) (hy : Ok8 y) : (kl x).sameKey (kl y) = decide (x = y) := by
  by_cases h : x = y
  · rw [h, decide_eq_true rfl]; exact WideAt.sameKey_self (kl_key y)
  · rw [decide_eq_false h]
    exact sameKey_ne fun e => h (kl_inj hx hy e)
end Go.Proofs.Ytjkdccokiaejhaa
/- A region that draws its order and ends in one operation that waits for all others (a store): what its loads read need hold only till then. No condition: nothing here speaks of a program. -/
namespace Go.Proofs.Ytjkdccokiaejhaa
set_option maxRecDepth 100000
open Go.RowKit
section
variable {P : Program} {ops : Array Oper} {Q : Exit → Act → World → Prop} {md : Region.Mode} {S : World → Prop} {m : Nat}
/-- Does number m wait for number i itself? -/
def waits (md : Region.Mode) (ops : Array Oper) (m i : Nat) : Bool :=
  match ops[m]? with
  | some o => o.after.toList.any fun e => Region.binds md e && e.on == i
  | none => false
theorem waits_spec {i : Nat} (h : waits md ops m i = true) {listed : Array Bool} (hr : m ∈ Region.ready md ops listed) : listed.getD i false = true := by
  obtain ⟨_, o, ho, hall⟩ := mem_ready.1 hr
  unfold waits at h
  rw [ho] at h
  obtain ⟨e, he, h2⟩ := List.any_eq_true.1 h
  rw [Bool.and_eq_true, beq_iff_eq] at h2
  rw [← h2.2]
  exact hall e (Array.mem_toList_iff.1 he) h2.1
theorem getD_differ {listed : Array Bool} {i : Nat} (h : listed.getD i true = false) (k : listed.getD i false = true) : False := by
  rcases Nat.lt_or_ge i listed.size with h1 | h1
  · simp [h1] at h k; rw [h] at k; cases k
  · simp [Array.getElem?_eq_none h1] at k
/-- In whatever order; behind each operation but number m the condition S holds. -/
def anyT (P : Program) (md : Region.Mode) (ops : Array Oper) (Q : Exit → Act → World → Prop) (S : World → Prop) (m : Nat) : Nat → Array Bool → Act → World → Prop
  | 0, listed, a, w => wpAny P md ops Q 0 listed a w
  | n + 1, listed, a, w => (Region.ready md ops listed = [] → Q .normal a w) ∧
    ∀ i, i ∈ Region.ready md ops listed → wpOp P ops Q i (fun a' w' => (i ≠ m → S w') ∧ anyT P md ops Q S m n (listed.setIfInBounds i true) a' w') a w
theorem any_of_T : ∀ {n : Nat} {listed : Array Bool} {a : Act} {w : World}, anyT P md ops Q S m n listed a w → wpAny P md ops Q n listed a w
  | 0, _, _, _, h => h
  | _ + 1, _, _, _, h => ⟨h.1, fun i hi => wpOp_mono (fun _ _ k => any_of_T k.2) (h.2 i hi)⟩
/-- One that reads, and for which number m waits, may go first. -/
theorem anyT_take {i : Nat} {oi : Oper} {v : Value} (hi : ops[i]? = some oi) (hs : Region.noSelect ops = true) (hw : waits md ops m i = true) (hQ : ∀ c a w, Q (.panic c) (a.put oi.dst v) w → Q (.panic c) a w) :
    ∀ {n : Nat} {listed : Array Bool} {a : Act} {w : World}, Region.free md ops listed i = true → (Region.ready md ops listed).contains i = true → YieldsIf P ops S oi v a → S w →
      anyT P md ops Q S m n (listed.setIfInBounds i true) (a.put oi.dst v) w → anyT P md ops Q S m (n + 1) listed a w := by
  have hsel := Region.noSelect_spec hs
  have main : ∀ (n : Nat) (listed : Array Bool) (a : Act) (w : World),
      (∀ j oj, ops[j]? = some oj → j ≠ i → listed.getD j true = false → (∀ e ∈ oj.after, Region.binds md e = true → e.on ≠ i) → oi.apart ops oj = true) →
      i ∈ Region.ready md ops listed → YieldsIf P ops S oi v a → S w → anyT P md ops Q S m n (listed.setIfInBounds i true) (a.put oi.dst v) w → anyT P md ops Q S m (n + 1) listed a w := by
    intro n
    induction n with
    | zero =>
      intro listed a w _ hr hy hS H
      have H' : Region.ready md ops (listed.setIfInBounds i true) = [] ∧ Q .normal (a.put oi.dst v) w := H
      refine ⟨fun h0 => absurd (h0 ▸ hr) (by simp), fun j hj => ?_⟩
      rcases Classical.em (j = i) with rfl | hji
      · exact hy.wpOp hi hS ⟨fun _ => hS, H⟩
      · exact absurd (H'.1 ▸ ready_mono hj hji) (by simp)
    | succ n ih =>
      intro listed a w hfree hr hy hS H
      refine ⟨fun h0 => absurd (h0 ▸ hr) (by simp), fun j hj => ?_⟩
      rcases Classical.em (j = i) with rfl | hji
      · exact hy.wpOp hi hS ⟨fun _ => hS, H⟩
      · have hun := (mem_ready.1 hr).1
        have hjm : j ≠ m := fun e => getD_differ hun (waits_spec hw (e ▸ hj))
        obtain ⟨hju, oj, hoj, hall⟩ := mem_ready.1 hj
        have hno : ∀ e ∈ oj.after, Region.binds md e = true → e.on ≠ i := fun e he hb k => getD_differ hun (by rw [← k]; exact hall e he hb)
        have step := wpOp_putIf hoj (hfree j oj hoj hji hju hno) (fun cs b => hsel i oi cs b hi) (fun cs b => hsel j oj cs b hoj) hQ hy (H.2 j (ready_mono hj hji))
        refine wpOp_mono (fun a' w' k => ⟨k.2.1, ih (listed.setIfInBounds j true) a' w' (fun x ox hox hxi hxu hxno => hfree x ox hox hxi ?_ hxno) (ready_mono hr (Ne.symm hji)) k.1 (k.2.1 hjm) ?_⟩) step
        · rcases Classical.em (j = x) with rfl | hjx
          · exact hju
          · rwa [getD_set_ne true hjx] at hxu
        · rw [Array.setIfInBounds_comm _ _ hji]
          exact k.2.2
  intro n listed a w hf hr hy hS h
  exact main n listed a w (Region.free_spec hi hf) (by simpa using hr) hy hS h
theorem wp_region_T {id : Nat} {a : Act} {w : World} (m : Nat) (S : World → Prop) (hm : P.follows .mixedOrders = true) (h : anyT P .any ops Q S m ops.size (Array.replicate ops.size false) a w.drew) : (Code.region id ops true).wp P Q a w :=
  wp_region_any hm (any_of_T h)
theorem anyT_done {n : Nat} {listed : Array Bool} {a : Act} {w : World} (hr : Region.ready md ops listed = []) (h : Q .normal a w) : anyT P md ops Q S m n listed a w := by
  cases n with
  | zero => exact ⟨hr, h⟩
  | succ n => exact ⟨fun _ => h, fun i hi => by rw [hr] at hi; cases hi⟩
theorem stepT {n i : Nat} {o : Oper} {listed : Array Bool} {a : Act} {w : World} (ho : ops[i]? = some o)
    (h : ∀ K' : Act → World → Prop, Shut (∀ a w, (i ≠ m → S w) → anyT P md ops Q S m n (listed.setIfInBounds i true) a w → K' a w) → if Region.wanted o (yielded ops a.tmps) = true then Oper.wp P o a w K' Q else K' (a.put o.dst undef) w) :
    wpOp P ops Q i (fun a' w' => (i ≠ m → S w') ∧ anyT P md ops Q S m n (listed.setIfInBounds i true) a' w') a w :=
  wpOp_step ho fun K' hK => h K' fun a w h1 h2 => hK a w ⟨h1, h2⟩
theorem anyT_one {n i : Nat} {o : Oper} {listed : Array Bool} {a : Act} {w : World} (hr : Region.ready md ops listed = [i]) (ho : ops[i]? = some o)
    (h : ∀ K' : Act → World → Prop, Shut (∀ a w, (i ≠ m → S w) → anyT P md ops Q S m n (listed.setIfInBounds i true) a w → K' a w) → if Region.wanted o (yielded ops a.tmps) = true then Oper.wp P o a w K' Q else K' (a.put o.dst undef) w) :
    anyT P md ops Q S m (n + 1) listed a w :=
  ⟨fun h0 => (by rw [h0] at hr; cases hr), fun j hj => (by
    rw [hr] at hj
    obtain rfl := List.mem_singleton.1 hj
    exact stepT ho h)⟩
theorem anyT_two {n i j : Nat} {o p : Oper} {listed : Array Bool} {a : Act} {w : World} (hr : Region.ready md ops listed = [i, j]) (ho : ops[i]? = some o) (hp : ops[j]? = some p)
    (h : ∀ K' : Act → World → Prop, Shut (∀ a w, (i ≠ m → S w) → anyT P md ops Q S m n (listed.setIfInBounds i true) a w → K' a w) → if Region.wanted o (yielded ops a.tmps) = true then Oper.wp P o a w K' Q else K' (a.put o.dst undef) w)
    (k : ∀ K' : Act → World → Prop, Shut (∀ a w, (j ≠ m → S w) → anyT P md ops Q S m n (listed.setIfInBounds j true) a w → K' a w) → if Region.wanted p (yielded ops a.tmps) = true then Oper.wp P p a w K' Q else K' (a.put p.dst undef) w) :
    anyT P md ops Q S m (n + 1) listed a w :=
  ⟨fun h0 => (by rw [h0] at hr; cases hr), fun x hx => (by
    rw [hr] at hx
    rcases List.mem_cons.1 hx with rfl | hx
    · exact stepT ho h
    · obtain rfl := List.mem_singleton.1 hx
      exact stepT hp k)⟩
end
end Go.Proofs.Ytjkdccokiaejhaa
/- A region that draws its order and ends in one operation, number m, that waits for the others: what its loads read need hold only till number m is done; what may come behind m need not keep it. No condition: nothing here speaks of a program. -/
namespace Go.Proofs.Ytjkdccokiaejhaa
set_option maxRecDepth 100000
open Go.RowKit
section
variable {P : Program} {ops : Array Oper} {Q : Exit → Act → World → Prop} {md : Region.Mode} {S : World → Prop} {m : Nat}
/-- In whatever order; behind each operation but number m the condition S holds. -/
def anyU (P : Program) (md : Region.Mode) (ops : Array Oper) (Q : Exit → Act → World → Prop) (S : World → Prop) (m : Nat) : Nat → Array Bool → Act → World → Prop
  | 0, listed, a, w => wpAny P md ops Q 0 listed a w
  | n + 1, listed, a, w => (Region.ready md ops listed = [] → Q .normal a w) ∧
    ∀ i, i ∈ Region.ready md ops listed → wpOp P ops Q i (fun a' w' => (i ≠ m → listed.getD m true = false → S w') ∧ anyU P md ops Q S m n (listed.setIfInBounds i true) a' w') a w
theorem any_of_U : ∀ {n : Nat} {listed : Array Bool} {a : Act} {w : World}, anyU P md ops Q S m n listed a w → wpAny P md ops Q n listed a w
  | 0, _, _, _, h => h
  | _ + 1, _, _, _, h => ⟨h.1, fun i hi => wpOp_mono (fun _ _ k => any_of_U k.2) (h.2 i hi)⟩
/-- One that reads, and for which number m waits, may go first. -/
theorem anyU_take {i : Nat} {oi : Oper} {v : Value} (hi : ops[i]? = some oi) (hs : Region.noSelect ops = true) (hw : waits md ops m i = true) (him : (i == m) = false) (hQ : ∀ c a w, Q (.panic c) (a.put oi.dst v) w → Q (.panic c) a w) :
    ∀ {n : Nat} {listed : Array Bool} {a : Act} {w : World}, listed.getD m true = false → Region.free md ops listed i = true → (Region.ready md ops listed).contains i = true → YieldsIf P ops S oi v a → S w →
      anyU P md ops Q S m n (listed.setIfInBounds i true) (a.put oi.dst v) w → anyU P md ops Q S m (n + 1) listed a w := by
  have hsel := Region.noSelect_spec hs
  have hne : i ≠ m := fun e => by subst e; simp at him
  have main : ∀ (n : Nat) (listed : Array Bool) (a : Act) (w : World), listed.getD m true = false →
      (∀ j oj, ops[j]? = some oj → j ≠ i → listed.getD j true = false → (∀ e ∈ oj.after, Region.binds md e = true → e.on ≠ i) → oi.apart ops oj = true) →
      i ∈ Region.ready md ops listed → YieldsIf P ops S oi v a → S w → anyU P md ops Q S m n (listed.setIfInBounds i true) (a.put oi.dst v) w → anyU P md ops Q S m (n + 1) listed a w := by
    intro n
    induction n with
    | zero =>
      intro listed a w hlm _ hr hy hS H
      have H' : Region.ready md ops (listed.setIfInBounds i true) = [] ∧ Q .normal (a.put oi.dst v) w := H
      refine ⟨fun h0 => absurd (h0 ▸ hr) (by simp), fun j hj => ?_⟩
      rcases Classical.em (j = i) with rfl | hji
      · exact hy.wpOp hi hS ⟨fun _ _ => hS, H⟩
      · exact absurd (H'.1 ▸ ready_mono hj hji) (by simp)
    | succ n ih =>
      intro listed a w hlm hfree hr hy hS H
      refine ⟨fun h0 => absurd (h0 ▸ hr) (by simp), fun j hj => ?_⟩
      rcases Classical.em (j = i) with rfl | hji
      · exact hy.wpOp hi hS ⟨fun _ _ => hS, H⟩
      · have hun := (mem_ready.1 hr).1
        have hjm : j ≠ m := fun e => getD_differ hun (waits_spec hw (e ▸ hj))
        obtain ⟨hju, oj, hoj, hall⟩ := mem_ready.1 hj
        have hno : ∀ e ∈ oj.after, Region.binds md e = true → e.on ≠ i := fun e he hb k => getD_differ hun (by rw [← k]; exact hall e he hb)
        have step := wpOp_putIf hoj (hfree j oj hoj hji hju hno) (fun cs b => hsel i oi cs b hi) (fun cs b => hsel j oj cs b hoj) hQ hy (H.2 j (ready_mono hj hji))
        refine wpOp_mono (fun a' w' k => ⟨fun h1 _ => k.2.1 h1 (by rw [getD_set_ne true hne]; exact hlm), ih (listed.setIfInBounds j true) a' w' (by rw [getD_set_ne true hjm]; exact hlm) (fun x ox hox hxi hxu hxno => hfree x ox hox hxi ?_ hxno) (ready_mono hr (Ne.symm hji)) k.1 (k.2.1 hjm (by rw [getD_set_ne true hne]; exact hlm)) ?_⟩) step
        · rcases Classical.em (j = x) with rfl | hjx
          · exact hju
          · rwa [getD_set_ne true hjx] at hxu
        · rw [Array.setIfInBounds_comm _ _ hji]
          exact k.2.2
  intro n listed a w hlm hf hr hy hS h
  exact main n listed a w hlm (Region.free_spec hi hf) (by simpa using hr) hy hS h
theorem wp_region_U {id : Nat} {a : Act} {w : World} (m : Nat) (S : World → Prop) (hm : P.follows .mixedOrders = true) (h : anyU P .any ops Q S m ops.size (Array.replicate ops.size false) a w.drew) : (Code.region id ops true).wp P Q a w :=
  wp_region_any hm (any_of_U h)
theorem anyU_done {n : Nat} {listed : Array Bool} {a : Act} {w : World} (hr : Region.ready md ops listed = []) (h : Q .normal a w) : anyU P md ops Q S m n listed a w := by
  cases n with
  | zero => exact ⟨hr, h⟩
  | succ n => exact ⟨fun _ => h, fun i hi => by rw [hr] at hi; cases hi⟩
theorem stepU {n i : Nat} {o : Oper} {listed : Array Bool} {a : Act} {w : World} (ho : ops[i]? = some o)
    (h : ∀ K' : Act → World → Prop, Shut (∀ a w, (i ≠ m → listed.getD m true = false → S w) → anyU P md ops Q S m n (listed.setIfInBounds i true) a w → K' a w) → if Region.wanted o (yielded ops a.tmps) = true then Oper.wp P o a w K' Q else K' (a.put o.dst undef) w) :
    wpOp P ops Q i (fun a' w' => (i ≠ m → listed.getD m true = false → S w') ∧ anyU P md ops Q S m n (listed.setIfInBounds i true) a' w') a w :=
  wpOp_step ho fun K' hK => h K' fun a w h1 h2 => hK a w ⟨h1, h2⟩
theorem anyU_one {n i : Nat} {o : Oper} {listed : Array Bool} {a : Act} {w : World} (hr : Region.ready md ops listed = [i]) (ho : ops[i]? = some o)
    (h : ∀ K' : Act → World → Prop, Shut (∀ a w, (i ≠ m → listed.getD m true = false → S w) → anyU P md ops Q S m n (listed.setIfInBounds i true) a w → K' a w) → if Region.wanted o (yielded ops a.tmps) = true then Oper.wp P o a w K' Q else K' (a.put o.dst undef) w) :
    anyU P md ops Q S m (n + 1) listed a w :=
  ⟨fun h0 => (by rw [h0] at hr; cases hr), fun j hj => (by
    rw [hr] at hj
    obtain rfl := List.mem_singleton.1 hj
    exact stepU ho h)⟩
theorem anyU_two {n i j : Nat} {o p : Oper} {listed : Array Bool} {a : Act} {w : World} (hr : Region.ready md ops listed = [i, j]) (ho : ops[i]? = some o) (hp : ops[j]? = some p)
    (h : ∀ K' : Act → World → Prop, Shut (∀ a w, (i ≠ m → listed.getD m true = false → S w) → anyU P md ops Q S m n (listed.setIfInBounds i true) a w → K' a w) → if Region.wanted o (yielded ops a.tmps) = true then Oper.wp P o a w K' Q else K' (a.put o.dst undef) w)
    (k : ∀ K' : Act → World → Prop, Shut (∀ a w, (j ≠ m → listed.getD m true = false → S w) → anyU P md ops Q S m n (listed.setIfInBounds j true) a w → K' a w) → if Region.wanted p (yielded ops a.tmps) = true then Oper.wp P p a w K' Q else K' (a.put p.dst undef) w) :
    anyU P md ops Q S m (n + 1) listed a w :=
  ⟨fun h0 => (by rw [h0] at hr; cases hr), fun x hx => (by
    rw [hr] at hx
    rcases List.mem_cons.1 hx with rfl | hx
    · exact stepU ho h
    · obtain rfl := List.mem_singleton.1 hx
      exact stepU hp k)⟩
theorem anyU_three {n i j k : Nat} {o p q : Oper} {listed : Array Bool} {a : Act} {w : World} (hr : Region.ready md ops listed = [i, j, k]) (ho : ops[i]? = some o) (hp : ops[j]? = some p) (hq : ops[k]? = some q)
    (h : ∀ K' : Act → World → Prop, Shut (∀ a w, (i ≠ m → listed.getD m true = false → S w) → anyU P md ops Q S m n (listed.setIfInBounds i true) a w → K' a w) → if Region.wanted o (yielded ops a.tmps) = true then Oper.wp P o a w K' Q else K' (a.put o.dst undef) w)
    (h2 : ∀ K' : Act → World → Prop, Shut (∀ a w, (j ≠ m → listed.getD m true = false → S w) → anyU P md ops Q S m n (listed.setIfInBounds j true) a w → K' a w) → if Region.wanted p (yielded ops a.tmps) = true then Oper.wp P p a w K' Q else K' (a.put p.dst undef) w)
    (h3 : ∀ K' : Act → World → Prop, Shut (∀ a w, (k ≠ m → listed.getD m true = false → S w) → anyU P md ops Q S m n (listed.setIfInBounds k true) a w → K' a w) → if Region.wanted q (yielded ops a.tmps) = true then Oper.wp P q a w K' Q else K' (a.put q.dst undef) w) :
    anyU P md ops Q S m (n + 1) listed a w :=
  ⟨fun h0 => (by rw [h0] at hr; cases hr), fun x hx => (by
    rw [hr] at hx
    rcases List.mem_cons.1 hx with rfl | hx
    · exact stepU ho h
    · rcases List.mem_cons.1 hx with rfl | hx
      · exact stepU hp h2
      · obtain rfl := List.mem_singleton.1 hx
        exact stepU hq h3)⟩
end
end Go.Proofs.Ytjkdccokiaejhaa
/- An operation may go first for which number m waits through others. No condition: nothing here speaks of a program. -/
namespace Go.Proofs.Ytjkdccokiaejhaa
set_option maxRecDepth 100000
open Go.RowKit
section
variable {P : Program} {ops : Array Oper} {Q : Exit → Act → World → Prop} {md : Region.Mode} {S : World → Prop} {m : Nat}
/-- Does number m wait for number i, itself or through others (f of them at most)? -/
def dep (md : Region.Mode) (ops : Array Oper) : Nat → Nat → Nat → Bool
  | 0, m, i => waits md ops m i
  | f + 1, m, i => waits md ops m i || (match ops[m]? with
    | some o => o.after.toList.any fun e => Region.binds md e && dep md ops f e.on i
    | none => false)
/-- What is listed stands behind all that it waits for. -/
def closedL (md : Region.Mode) (ops : Array Oper) (listed : Array Bool) : Bool := (List.range ops.size).all fun j => !listed.getD j false || (match ops[j]? with
    | some o => o.after.toList.all fun e => !Region.binds md e || listed.getD e.on false
    | none => true)
theorem closed_iff {listed : Array Bool} (h : closedL md ops listed = true) {j : Nat} {o : Oper} (ho : ops[j]? = some o) (hl : listed.getD j false = true) {e : Edge} (he : e ∈ o.after.toList) (hb : Region.binds md e = true) : listed.getD e.on false = true := by
  unfold closedL at h
  have hj : j < ops.size := by
    rcases Nat.lt_or_ge j ops.size with h1 | h1
    · exact h1
    · rw [Array.getElem?_eq_none h1] at ho; cases ho
  have h1 := List.all_eq_true.1 h j (List.mem_range.2 hj)
  rw [hl, ho] at h1
  simp only [Bool.not_true, Bool.false_or] at h1
  have h2 := List.all_eq_true.1 h1 e he
  rw [hb] at h2
  simpa using h2
theorem waits_edge {m i : Nat} (h : waits md ops m i = true) : ∃ o, ops[m]? = some o ∧ ∃ e, e ∈ o.after.toList ∧ Region.binds md e = true ∧ e.on = i := by
  unfold waits at h
  cases ho : ops[m]? with
  | none => rw [ho] at h; cases h
  | some o =>
    rw [ho] at h
    obtain ⟨e, he, h2⟩ := List.any_eq_true.1 h
    rw [Bool.and_eq_true, beq_iff_eq] at h2
    exact ⟨o, rfl, e, he, h2.1, h2.2⟩
theorem dep_listed {listed : Array Bool} (h : closedL md ops listed = true) : ∀ (f : Nat) {m i : Nat}, listed.getD m false = true → dep md ops f m i = true → listed.getD i false = true
  | 0, m, i, hm, hd => by
    obtain ⟨o, ho, e, he, hb, rfl⟩ := waits_edge hd
    exact closed_iff h ho hm he hb
  | f + 1, m, i, hm, hd => by
    have hd : (waits md ops m i || (match ops[m]? with
      | some o => o.after.toList.any fun e => Region.binds md e && dep md ops f e.on i
      | none => false)) = true := hd
    rw [Bool.or_eq_true] at hd
    rcases hd with hd | hd
    · obtain ⟨o, ho, e, he, hb, rfl⟩ := waits_edge hd
      exact closed_iff h ho hm he hb
    · cases ho : ops[m]? with
      | none => rw [ho] at hd; cases hd
      | some o =>
        rw [ho] at hd
        obtain ⟨e, he, h2⟩ := List.any_eq_true.1 hd
        rw [Bool.and_eq_true] at h2
        exact dep_listed h f (closed_iff h ho hm he h2.1) h2.2
theorem ready_after {listed : Array Bool} {m : Nat} (hr : m ∈ Region.ready md ops listed) {o : Oper} (ho : ops[m]? = some o) {e : Edge} (he : e ∈ o.after.toList) (hb : Region.binds md e = true) : listed.getD e.on false = true := by
  obtain ⟨_, o', ho', hall⟩ := mem_ready.1 hr
  rw [ho] at ho'
  cases ho'
  exact hall e (Array.mem_toList_iff.1 he) hb
theorem dep_ready {listed : Array Bool} (h : closedL md ops listed = true) {f m i : Nat} (hr : m ∈ Region.ready md ops listed) (hd : dep md ops f m i = true) : listed.getD i false = true := by
  have w1 : waits md ops m i = true → listed.getD i false = true := fun hw => by
    obtain ⟨o, ho, e, he, hb, rfl⟩ := waits_edge hw
    exact ready_after hr ho he hb
  cases f with
  | zero => exact w1 hd
  | succ f =>
    have hd : (waits md ops m i || (match ops[m]? with
      | some o => o.after.toList.any fun e => Region.binds md e && dep md ops f e.on i
      | none => false)) = true := hd
    rw [Bool.or_eq_true] at hd
    rcases hd with hd | hd
    · exact w1 hd
    · cases ho : ops[m]? with
      | none => rw [ho] at hd; cases hd
      | some o =>
        rw [ho] at hd
        obtain ⟨e, he, h2⟩ := List.any_eq_true.1 hd
        rw [Bool.and_eq_true] at h2
        exact dep_listed h f (ready_after hr ho he h2.1) h2.2
theorem getD_set_mono {listed : Array Bool} {j k : Nat} (h : listed.getD k false = true) : (listed.setIfInBounds j true).getD k false = true := by
  by_cases hjk : j = k
  · subst hjk
    have hl : j < listed.size := by
      rcases Nat.lt_or_ge j listed.size with h1 | h1
      · exact h1
      · simp [Array.getElem?_eq_none h1] at h
    simp [hl]
  · rw [getD_set_ne false hjk]
    exact h
theorem closed_set {listed : Array Bool} (h : closedL md ops listed = true) {j : Nat} (hr : j ∈ Region.ready md ops listed) : closedL md ops (listed.setIfInBounds j true) = true := by
  unfold closedL
  refine List.all_eq_true.2 fun k hk => ?_
  cases hl : (listed.setIfInBounds j true).getD k false
  · rfl
  · cases ho : ops[k]? with
    | none => rfl
    | some o =>
      show (!true || o.after.toList.all fun e => !Region.binds md e || (listed.setIfInBounds j true).getD e.on false) = true
      rw [Bool.not_true, Bool.false_or]
      refine List.all_eq_true.2 fun e he => ?_
      cases hb : Region.binds md e
      · rfl
      · rw [Bool.not_true, Bool.false_or]
        by_cases hjk : j = k
        · subst hjk
          exact getD_set_mono (ready_after hr ho he hb)
        · rw [getD_set_ne false hjk] at hl
          exact getD_set_mono (closed_iff h ho hl he hb)
/-- One that reads, and for which number m waits, itself or through others, may go first. -/
theorem anyU_take2 {i : Nat} {oi : Oper} {v : Value} (hi : ops[i]? = some oi) (hs : Region.noSelect ops = true) (f : Nat) (hw : dep md ops f m i = true) (him : (i == m) = false) (hQ : ∀ c a w, Q (.panic c) (a.put oi.dst v) w → Q (.panic c) a w) :
    ∀ {n : Nat} {listed : Array Bool} {a : Act} {w : World}, listed.getD m true = false → closedL md ops listed = true → Region.free md ops listed i = true → (Region.ready md ops listed).contains i = true → YieldsIf P ops S oi v a → S w →
      anyU P md ops Q S m n (listed.setIfInBounds i true) (a.put oi.dst v) w → anyU P md ops Q S m (n + 1) listed a w := by
  have hsel := Region.noSelect_spec hs
  have hne : i ≠ m := fun e => by subst e; simp at him
  have main : ∀ (n : Nat) (listed : Array Bool) (a : Act) (w : World), listed.getD m true = false → closedL md ops listed = true →
      (∀ j oj, ops[j]? = some oj → j ≠ i → listed.getD j true = false → (∀ e ∈ oj.after, Region.binds md e = true → e.on ≠ i) → oi.apart ops oj = true) →
      i ∈ Region.ready md ops listed → YieldsIf P ops S oi v a → S w → anyU P md ops Q S m n (listed.setIfInBounds i true) (a.put oi.dst v) w → anyU P md ops Q S m (n + 1) listed a w := by
    intro n
    induction n with
    | zero =>
      intro listed a w hlm _ _ hr hy hS H
      have H' : Region.ready md ops (listed.setIfInBounds i true) = [] ∧ Q .normal (a.put oi.dst v) w := H
      refine ⟨fun h0 => absurd (h0 ▸ hr) (by simp), fun j hj => ?_⟩
      rcases Classical.em (j = i) with rfl | hji
      · exact hy.wpOp hi hS ⟨fun _ _ => hS, H⟩
      · exact absurd (H'.1 ▸ ready_mono hj hji) (by simp)
    | succ n ih =>
      intro listed a w hlm hcl hfree hr hy hS H
      refine ⟨fun h0 => absurd (h0 ▸ hr) (by simp), fun j hj => ?_⟩
      rcases Classical.em (j = i) with rfl | hji
      · exact hy.wpOp hi hS ⟨fun _ _ => hS, H⟩
      · have hun := (mem_ready.1 hr).1
        have hjm : j ≠ m := fun e => getD_differ hun (dep_ready hcl (e ▸ hj) hw)
        obtain ⟨hju, oj, hoj, hall⟩ := mem_ready.1 hj
        have hno : ∀ e ∈ oj.after, Region.binds md e = true → e.on ≠ i := fun e he hb k => getD_differ hun (by rw [← k]; exact hall e he hb)
        have step := wpOp_putIf hoj (hfree j oj hoj hji hju hno) (fun cs b => hsel i oi cs b hi) (fun cs b => hsel j oj cs b hoj) hQ hy (H.2 j (ready_mono hj hji))
        refine wpOp_mono (fun a' w' k => ⟨fun h1 _ => k.2.1 h1 (by rw [getD_set_ne true hne]; exact hlm), ih (listed.setIfInBounds j true) a' w' (by rw [getD_set_ne true hjm]; exact hlm) (closed_set hcl hj) (fun x ox hox hxi hxu hxno => hfree x ox hox hxi ?_ hxno) (ready_mono hr (Ne.symm hji)) k.1 (k.2.1 hjm (by rw [getD_set_ne true hne]; exact hlm)) ?_⟩) step
        · rcases Classical.em (j = x) with rfl | hjx
          · exact hju
          · rwa [getD_set_ne true hjx] at hxu
        · rw [Array.setIfInBounds_comm _ _ hji]
          exact k.2.2
  intro n listed a w hlm hcl hf hr hy hS h
  exact main n listed a w hlm hcl (Region.free_spec hi hf) (by simpa using hr) hy hS h
/-- One that reads nothing of the world may go first, whoever waits for it. -/
theorem anyU_pure {i : Nat} {oi : Oper} {v : Value} (hi : ops[i]? = some oi) (hs : Region.noSelect ops = true) (him : (i == m) = false) (hQ : ∀ c a w, Q (.panic c) (a.put oi.dst v) w → Q (.panic c) a w) :
    ∀ {n : Nat} {listed : Array Bool} {a : Act} {w : World}, (listed.getD m true = false → S w) → Region.free md ops listed i = true → (Region.ready md ops listed).contains i = true → YieldsIf P ops (fun _ => True) oi v a →
      anyU P md ops Q S m n (listed.setIfInBounds i true) (a.put oi.dst v) w → anyU P md ops Q S m (n + 1) listed a w := by
  have hsel := Region.noSelect_spec hs
  have hne : i ≠ m := fun e => by subst e; simp at him
  have main : ∀ (n : Nat) (listed : Array Bool) (a : Act) (w : World), (listed.getD m true = false → S w) →
      (∀ j oj, ops[j]? = some oj → j ≠ i → listed.getD j true = false → (∀ e ∈ oj.after, Region.binds md e = true → e.on ≠ i) → oi.apart ops oj = true) →
      i ∈ Region.ready md ops listed → YieldsIf P ops (fun _ => True) oi v a → anyU P md ops Q S m n (listed.setIfInBounds i true) (a.put oi.dst v) w → anyU P md ops Q S m (n + 1) listed a w := by
    intro n
    induction n with
    | zero =>
      intro listed a w hS _ hr hy H
      have H' : Region.ready md ops (listed.setIfInBounds i true) = [] ∧ Q .normal (a.put oi.dst v) w := H
      refine ⟨fun h0 => absurd (h0 ▸ hr) (by simp), fun j hj => ?_⟩
      rcases Classical.em (j = i) with rfl | hji
      · exact hy.wpOp hi trivial ⟨fun _ => hS, H⟩
      · exact absurd (H'.1 ▸ ready_mono hj hji) (by simp)
    | succ n ih =>
      intro listed a w hS hfree hr hy H
      refine ⟨fun h0 => absurd (h0 ▸ hr) (by simp), fun j hj => ?_⟩
      rcases Classical.em (j = i) with rfl | hji
      · exact hy.wpOp hi trivial ⟨fun _ => hS, H⟩
      · have hun := (mem_ready.1 hr).1
        obtain ⟨hju, oj, hoj, hall⟩ := mem_ready.1 hj
        have hno : ∀ e ∈ oj.after, Region.binds md e = true → e.on ≠ i := fun e he hb k => getD_differ hun (by rw [← k]; exact hall e he hb)
        have step := wpOp_putIf hoj (hfree j oj hoj hji hju hno) (fun cs b => hsel i oi cs b hi) (fun cs b => hsel j oj cs b hoj) hQ hy (H.2 j (ready_mono hj hji))
        refine wpOp_mono (fun a' w' k => ⟨fun h1 h2 => k.2.1 h1 (by rw [getD_set_ne true hne]; exact h2), ih (listed.setIfInBounds j true) a' w' (fun h2 => ?_) (fun x ox hox hxi hxu hxno => hfree x ox hox hxi ?_ hxno) (ready_mono hr (Ne.symm hji)) k.1 ?_⟩) step
        · rcases Classical.em (j = m) with rfl | hjm
          · exfalso
            rcases Nat.lt_or_ge j listed.size with hl | hl
            · simp [hl] at h2
            · simp [hl] at h2
          · rw [getD_set_ne true hjm] at h2
            exact k.2.1 hjm (by rw [getD_set_ne true hne]; exact h2)
        · rcases Classical.em (j = x) with rfl | hjx
          · exact hju
          · rwa [getD_set_ne true hjx] at hxu
        · rw [Array.setIfInBounds_comm _ _ hji]
          exact k.2.2
  intro n listed a w hS hf hr hy h
  exact main n listed a w hS (Region.free_spec hi hf) (by simpa using hr) hy h
/-- All that an operation waits for stands ahead of it. -/
def backL (md : Region.Mode) (ops : Array Oper) : Bool := (List.range ops.size).all fun j => match ops[j]? with
    | some o => o.after.toList.all fun e => !Region.binds md e || decide (e.on < j)
    | none => true
theorem ready_some {listed : Array Bool} (hb : backL md ops = true) (hsz : listed.size = ops.size) : ∀ k, listed.getD k true = false → Region.ready md ops listed ≠ [] := by
  intro k
  induction k using Nat.strongRecOn with
  | ind k ih =>
    intro hk
    have hkl : k < listed.size := by
      rcases Nat.lt_or_ge k listed.size with h1 | h1
      · exact h1
      · simp [Array.getElem?_eq_none h1] at hk
    have hko : k < ops.size := hsz ▸ hkl
    obtain ⟨o, ho⟩ : ∃ o, ops[k]? = some o := ⟨_, Array.getElem?_eq_getElem hko⟩
    by_cases hall : ∀ e ∈ o.after, Region.binds md e = true → listed.getD e.on false = true
    · intro h0
      have : k ∈ Region.ready md ops listed := mem_ready.2 ⟨hk, o, ho, hall⟩
      rw [h0] at this
      cases this
    · obtain ⟨e, h1⟩ := Classical.not_forall.1 hall
      obtain ⟨he, h2⟩ := Classical.not_imp.1 h1
      obtain ⟨hbd, hne⟩ := Classical.not_imp.1 h2
      unfold backL at hb
      have h3 := List.all_eq_true.1 hb k (List.mem_range.2 hko)
      rw [ho] at h3
      have h4 := List.all_eq_true.1 h3 e (Array.mem_toList_iff.2 he)
      rw [hbd] at h4
      have h5 : e.on < k := by simpa using h4
      refine ih e.on h5 ?_
      have hel : e.on < listed.size := Nat.lt_trans h5 hkl
      have : listed.getD e.on false = false := by simpa using hne
      simp [hel] at this ⊢
      exact this
/-- One that reads nothing of the world may go first, though it waits for others, if what it reads is there. -/
theorem anyU_ahead {i : Nat} {oi : Oper} {v : Value} (hi : ops[i]? = some oi) (hs : Region.noSelect ops = true) (hb : backL md ops = true) (him : (i == m) = false) (hQ : ∀ c a w, Q (.panic c) (a.put oi.dst v) w → Q (.panic c) a w) :
    ∀ {n : Nat} {listed : Array Bool} {a : Act} {w : World}, (listed.getD m true = false → S w) → (listed.size == ops.size) = true → Region.free md ops listed i = true → listed.getD i true = false → YieldsIf P ops (fun _ => True) oi v a →
      anyU P md ops Q S m n (listed.setIfInBounds i true) (a.put oi.dst v) w → anyU P md ops Q S m (n + 1) listed a w := by
  have hsel := Region.noSelect_spec hs
  have hne : i ≠ m := fun e => by subst e; simp at him
  have main : ∀ (n : Nat) (listed : Array Bool) (a : Act) (w : World), (listed.getD m true = false → S w) → listed.size = ops.size →
      (∀ j oj, ops[j]? = some oj → j ≠ i → listed.getD j true = false → (∀ e ∈ oj.after, Region.binds md e = true → e.on ≠ i) → oi.apart ops oj = true) →
      listed.getD i true = false → YieldsIf P ops (fun _ => True) oi v a → anyU P md ops Q S m n (listed.setIfInBounds i true) (a.put oi.dst v) w → anyU P md ops Q S m (n + 1) listed a w := by
    intro n
    induction n with
    | zero =>
      intro listed a w hS hsz _ hun hy H
      have H' : Region.ready md ops (listed.setIfInBounds i true) = [] ∧ Q .normal (a.put oi.dst v) w := H
      refine ⟨fun h0 => absurd h0 (ready_some hb hsz i hun), fun j hj => ?_⟩
      rcases Classical.em (j = i) with rfl | hji
      · exact hy.wpOp hi trivial ⟨fun _ => hS, H⟩
      · exact absurd (H'.1 ▸ ready_mono hj hji) (by simp)
    | succ n ih =>
      intro listed a w hS hsz hfree hun hy H
      refine ⟨fun h0 => absurd h0 (ready_some hb hsz i hun), fun j hj => ?_⟩
      rcases Classical.em (j = i) with rfl | hji
      · exact hy.wpOp hi trivial ⟨fun _ => hS, H⟩
      · obtain ⟨hju, oj, hoj, hall⟩ := mem_ready.1 hj
        have hno : ∀ e ∈ oj.after, Region.binds md e = true → e.on ≠ i := fun e he hb k => getD_differ hun (by rw [← k]; exact hall e he hb)
        have step := wpOp_putIf hoj (hfree j oj hoj hji hju hno) (fun cs b => hsel i oi cs b hi) (fun cs b => hsel j oj cs b hoj) hQ hy (H.2 j (ready_mono hj hji))
        refine wpOp_mono (fun a' w' k => ⟨fun h1 h2 => k.2.1 h1 (by rw [getD_set_ne true hne]; exact h2), ih (listed.setIfInBounds j true) a' w' (fun h2 => ?_) (by rw [Array.size_setIfInBounds]; exact hsz) (fun x ox hox hxi hxu hxno => hfree x ox hox hxi ?_ hxno) (by rw [getD_set_ne true hji]; exact hun) k.1 ?_⟩) step
        · rcases Classical.em (j = m) with rfl | hjm
          · exfalso
            rcases Nat.lt_or_ge j listed.size with hl | hl
            · simp [hl] at h2
            · simp [hl] at h2
          · rw [getD_set_ne true hjm] at h2
            exact k.2.1 hjm (by rw [getD_set_ne true hne]; exact h2)
        · rcases Classical.em (j = x) with rfl | hjx
          · exact hju
          · rwa [getD_set_ne true hjx] at hxu
        · rw [Array.setIfInBounds_comm _ _ hji]
          exact k.2.2
  intro n listed a w hS hsz hf hun hy h
  exact main n listed a w hS (by simpa using hsz) (Region.free_spec hi hf) hun hy h
end
end Go.Proofs.Ytjkdccokiaejhaa
/- A drawn region that puts one element each behind three rows of the call's own: in whatever order its literals and appends come, the same rows are there behind it. No condition: nothing here speaks of a program. -/
namespace Go.Proofs.Ytjkdccokiaejhaa
open Go.RowKit
/-- A row of structs of the call's own. -/
def Rw (base : Nat) (e : TypeId) (sz : Nat) (w : World) (v : Value) (xs : List (List Value)) : Prop := w.ownsRow base e sz v xs.length (cellsV xs)
/-- The rows lie in two blocks. -/
def Ap (v u : Value) : Prop := ∀ g, v.ownBlock = some g → u.ownBlock ≠ some g
theorem Ap.symm {v u : Value} (h : Ap v u) : Ap u v := fun g h1 h2 => h g h2 h1
section
variable {base sz : Nat} {e : TypeId} {w w' : World} {v u : Value} {xs : List (List Value)}
theorem Rw.lt (h : Rw base e sz w v xs) : ∀ k, v.ownBlock = some k → base ≤ k ∧ k < w.heap.size := by unfold Rw at h; exact h.lt
theorem Rw.alloc (h : Rw base e sz w v xs) (o : Obj) : Rw base e sz (w.alloc o) v xs := World.ownsRow.alloc h o
theorem Rw.grown (h : Rw base e sz w v xs) (hg : w.grownBy w' u.ownBlock) (ha : Ap u v) : Rw base e sz w' v xs :=
  World.ownsRow.kept h hg (by cases hv : v.ownBlock with
    | none => exact .inl rfl
    | some g => exact .inr fun e => ha g e.symm hv)
theorem Rw.below (h : Rw base e sz w v xs) (hb : Below w.heap.size w w') : Rw base e sz w' v xs :=
  World.ownsRow.kept h (grown_below hb) (by cases hv : v.ownBlock with
    | none => exact .inl rfl
    | some g => exact .inr (by simp))
end
/-- What stays behind the region: all but three blocks. -/
structure Kp3 (r1 r2 r3 : Option Nat) (w0 w : World) : Prop where
  os : w.os = w0.os
  tape : w.tape = w0.tape
  output : w.output = w0.output
  size : w0.heap.size ≤ w.heap.size
  block : ∀ k, k < w0.heap.size → some k ≠ r1 → some k ≠ r2 → some k ≠ r3 → w.heap[k]? = w0.heap[k]?
theorem Kp3.refl (r1 r2 r3 : Option Nat) (w : World) : Kp3 r1 r2 r3 w w := ⟨rfl, rfl, rfl, Nat.le_refl _, fun _ _ _ _ _ => rfl⟩
theorem Kp3.step {r1 r2 r3 row : Option Nat} {w0 w w' : World} (h : Kp3 r1 r2 r3 w0 w) (hg : w.grownBy w' row) (hr : row = none ∨ row = r1 ∨ row = r2 ∨ row = r3) : Kp3 r1 r2 r3 w0 w' :=
  ⟨hg.os.trans h.os, hg.tape.trans h.tape, hg.output.trans h.output, Nat.le_trans h.size hg.size, fun k hk h1 h2 h3 => (hg.block k (Nat.lt_of_lt_of_le hk h.size) (by
    rcases hr with rfl | rfl | rfl | rfl
    · simp
    · exact h1
    · exact h2
    · exact h3)).trans (h.block k hk h1 h2 h3)⟩
/-- A chain: a literal of one element, appended to a row. -/
structure Chn where
  b : Nat
  d : Nat
  e : TypeId
  sz : Nat
  xs : List (List Value)
  z : List Value
  x0 : Value
def Chn.fr (c : Chn) (s : Nat) (p q : Value) (a : Act) : Act := if s = 0 then a else if s = 1 then a.put (some c.b) p else (a.put (some c.b) p).put (some c.d) q
def Chn.cur (c : Chn) (s : Nat) (q : Value) : Value := if s = 2 then q else c.x0
def Chn.rows (c : Chn) (s : Nat) : List (List Value) := if s = 2 then c.xs ++ [c.z] else c.xs
structure Chn.At (c : Chn) (base : Nat) (w : World) (s : Nat) (p q : Value) : Prop where
  row : Rw base c.e c.sz w (c.cur s q) (c.rows s)
  lit : s = 1 → ∃ g, p = .slice (some ⟨g, 0, none⟩) 1 1 ∧ Row w g c.e c.z.toArray
/-- Two chains don't touch. -/
structure Jt (c1 : Chn) (s1 : Nat) (p1 q1 : Value) (c2 : Chn) (s2 : Nat) (p2 q2 : Value) : Prop where
  ap : Ap (c1.cur s1 q1) (c2.cur s2 q2)
  o1 : s1 = 1 → ∀ g, p1 = .slice (some ⟨g, 0, none⟩) 1 1 → (c2.cur s2 q2).ownBlock ≠ some g
  o2 : s2 = 1 → ∀ g, p2 = .slice (some ⟨g, 0, none⟩) 1 1 → (c1.cur s1 q1).ownBlock ≠ some g
theorem Jt.symm {c1 c2 : Chn} {s1 s2 : Nat} {p1 q1 p2 q2 : Value} (h : Jt c1 s1 p1 q1 c2 s2 p2 q2) : Jt c2 s2 p2 q2 c1 s1 p1 q1 := ⟨h.ap.symm, h.o2, h.o1⟩
section
variable {c d : Chn} {base s : Nat} {w w' : World} {p q p' q' : Value}
theorem Chn.At.alloc (h : c.At base w s p q) (o : Obj) : c.At base (w.alloc o) s p q :=
  ⟨h.row.alloc o, fun hs => by obtain ⟨g, e, hr⟩ := h.lit hs; exact ⟨g, e, hr.alloc o⟩⟩
theorem Chn.At.build (h : c.At base w 0 p q) : c.At base (w.alloc (.cells c.z.toArray c.e)) 1 (.slice (some ⟨w.heap.size, 0, none⟩) 1 1) q' :=
  ⟨h.row.alloc _, fun _ => ⟨_, rfl, Row.new w c.e c.z.toArray⟩⟩
theorem Jt.build (h : Jt c 0 p q d s p' q') (hd : d.At base w s p' q') : Jt c 1 (.slice (some ⟨w.heap.size, 0, none⟩) 1 1) q d s p' q' :=
  ⟨h.ap, fun _ g e hg => by
    injection e with e _ _
    injection e with e
    injection e with e _ _
    subst e
    exact absurd (hd.row.lt _ hg).2 (Nat.lt_irrefl _), fun hs g e => h.o2 hs g e⟩
theorem Chn.At.append (h : c.At base w s p q) (hj : Jt d 1 p' q' c s p q) (hg : w.grownBy w' d.x0.ownBlock) : c.At base w' s p q := by
  refine ⟨h.row.grown hg hj.ap, fun hs => ?_⟩
  obtain ⟨g, e, hr⟩ := h.lit hs
  exact ⟨g, e, hr.grown hg (fun e2 => hj.o2 hs g e e2.symm)⟩
theorem Jt.append {v : Value} (h : Jt d 1 p' q' c s p q) (hc : c.At base w s p q) (hv : v.ownBlock = d.x0.ownBlock ∨ v.ownBlock = some w.heap.size) : Jt d 2 p' v c s p q := by
  have e1 : d.cur 1 q' = d.x0 := rfl
  have e2 : d.cur 2 v = v := rfl
  refine ⟨?_, (fun hs => by cases hs), fun hs g e => ?_⟩
  · rw [e2]
    intro g hg
    rcases hv with hv | hv
    · exact h.ap g (by rw [e1, ← hv, hg])
    · intro hg2
      rw [hv] at hg
      injection hg with hg
      have := (hc.row.lt _ hg2).2
      omega
  · rw [e2]
    rcases hv with hv | hv
    · rw [hv]; exact h.o2 hs g e
    · rw [hv]
      intro e3
      injection e3 with e3
      obtain ⟨g', e4, hr⟩ := hc.lit hs
      rw [e] at e4
      injection e4 with e4 _ _
      injection e4 with e4
      injection e4 with e4 _ _
      have := hr.lt
      omega
end
/-! ### The frame -/
theorem put_put (a : Act) (i : Nat) (x y : Value) : (a.put (some i) x).put (some i) y = a.put (some i) y := by simp [Act.put]
theorem put_swap (a : Act) {i j : Nat} (h : i ≠ j) (x y : Value) : (a.put (some i) x).put (some j) y = (a.put (some j) y).put (some i) x := Act.put_comm a x y (fun d hd hj => h (by injection hd with hd; injection hj with hj; rw [hd, hj]))
theorem Chn.fr_put (c : Chn) (s : Nat) (p q : Value) (a : Act) {i : Nat} (hb : c.b ≠ i) (hd : c.d ≠ i) (x : Value) : (c.fr s p q a).put (some i) x = c.fr s p q (a.put (some i) x) := by
  unfold Chn.fr
  split
  · rfl
  · split
    · exact put_swap a hb p x
    · rw [put_swap _ hd, put_swap _ hb]
theorem Chn.fr_eval (c : Chn) (s : Nat) (p q : Value) (a : Act) {o : Operand} (hb : o ≠ .tmp c.b) (hd : o ≠ .tmp c.d) : (c.fr s p q a).eval o = a.eval o := by
  unfold Chn.fr
  have h1 : ∀ (a : Act) (x : Value), (a.put (some c.b) x).eval o = a.eval o := fun a x => Act.eval_put (fun d hd2 => by injection hd2 with hd2; subst hd2; exact hb)
  have h2 : ∀ (a : Act) (x : Value), (a.put (some c.d) x).eval o = a.eval o := fun a x => Act.eval_put (fun d hd2 => by injection hd2 with hd2; subst hd2; exact hd)
  split
  · rfl
  · split
    · exact h1 a p
    · rw [h2, h1]
theorem put_size (a : Act) (i : Nat) (x : Value) : (a.put (some i) x).tmps.size = a.tmps.size := by simp [Act.put]
theorem Chn.fr_size (c : Chn) (s : Nat) (p q : Value) (a : Act) : (c.fr s p q a).tmps.size = a.tmps.size := by
  unfold Chn.fr
  split
  · rfl
  · split
    · exact put_size a _ p
    · rw [put_size, put_size]
theorem put_here (a : Act) {i : Nat} (h : i < a.tmps.size) (x : Value) : (a.put (some i) x).eval (.tmp i) = x := by simp [Act.put, Act.eval, h]
theorem Chn.fr_lit (c : Chn) (p q : Value) (a : Act) (h : c.b < a.tmps.size) : (c.fr 1 p q a).eval (.tmp c.b) = p := put_here a h p
end Go.Proofs.Ytjkdccokiaejhaa
/- Three chains in one drawn region: whatever the order. No condition: nothing here speaks of a program. -/
namespace Go.Proofs.Ytjkdccokiaejhaa
open Go.RowKit
structure St3 (c1 c2 c3 : Chn) (base : Nat) (w0 w : World) (s1 : Nat) (p1 q1 : Value) (s2 : Nat) (p2 q2 : Value) (s3 : Nat) (p3 q3 : Value) : Prop where
  a1 : c1.At base w s1 p1 q1
  a2 : c2.At base w s2 p2 q2
  a3 : c3.At base w s3 p3 q3
  j12 : Jt c1 s1 p1 q1 c2 s2 p2 q2
  j13 : Jt c1 s1 p1 q1 c3 s3 p3 q3
  j23 : Jt c2 s2 p2 q2 c3 s3 p3 q3
  kp : Kp3 c1.x0.ownBlock c2.x0.ownBlock c3.x0.ownBlock w0 w
  hb : base ≤ w.heap.size
/-- A chain's two operations: the literal reads ou, the append reads os and the literal. -/
structure Op2 (P : Program) (ops : Array Oper) (Q : Exit → Act → World → Prop) (c : Chn) (base : Nat) (ou os : Operand) (U : Value) (ib ia : Nat) : Prop where
  build : ∀ (a : Act) (w : World) (K : Act → World → Prop), a.eval ou = U → K (a.put (some c.b) (.slice (some ⟨w.heap.size, 0, none⟩) 1 1)) (w.alloc (.cells c.z.toArray c.e)) → wpOp P ops Q ib K a w
  append : ∀ (a : Act) (w : World) (K : Act → World → Prop) (g : Nat), a.eval os = c.x0 → a.eval (.tmp c.b) = .slice (some ⟨g, 0, none⟩) 1 1 → base ≤ w.heap.size → Rw base c.e c.sz w c.x0 c.xs → Row w g c.e c.z.toArray →
    (∀ v w', Rw base c.e c.sz w' v (c.xs ++ [c.z]) → w.grownBy w' c.x0.ownBlock → (v.ownBlock = c.x0.ownBlock ∨ v.ownBlock = some w.heap.size) → K (a.put (some c.d) v) w') → wpOp P ops Q ia K a w
/-- Which are listed. -/
def bitC (s ib ia : Nat) (L : Array Bool) : Array Bool := if s = 0 then L else if s = 1 then L.setIfInBounds ib true else (L.setIfInBounds ib true).setIfInBounds ia true
theorem bit_set (s : Nat) {ib ia i : Nat} (L : Array Bool) (hb : ib ≠ i) (ha : ia ≠ i) : (bitC s ib ia L).setIfInBounds i true = bitC s ib ia (L.setIfInBounds i true) := by
  unfold bitC
  split
  · rfl
  · split
    · exact (Array.setIfInBounds_comm _ _ hb)
    · rw [Array.setIfInBounds_comm _ _ ha, Array.setIfInBounds_comm _ _ hb]
theorem bit_two (ib ia : Nat) (L : Array Bool) : bitC 2 ib ia L = (L.setIfInBounds ib true).setIfInBounds ia true := by unfold bitC; simp
theorem bit_zero (ib ia : Nat) (L : Array Bool) : bitC 0 ib ia L = L := by unfold bitC; simp
theorem fr_two (c : Chn) (p q : Value) (a : Act) : c.fr 2 p q a = (a.put (some c.b) p).put (some c.d) q := by unfold Chn.fr; simp
theorem fr_zero (c : Chn) (p q : Value) (a : Act) : c.fr 0 p q a = a := by unfold Chn.fr; simp
/-- At each state just these may come. -/
def chk3 (md : Region.Mode) (ops : Array Oper) (L0 : Array Bool) (b1 a1 b2 a2 b3 a3 : Nat) : Bool :=
  [0, 1, 2].all fun s1 => [0, 1, 2].all fun s2 => [0, 1, 2].all fun s3 => (s1 == 2 && s2 == 2 && s3 == 2) ||
    (let r := Region.ready md ops (bitC s3 b3 a3 (bitC s2 b2 a2 (bitC s1 b1 a1 L0)))
     !r.isEmpty && r.all fun i => (s1 == 0 && i == b1) || (s1 == 1 && i == a1) || (s2 == 0 && i == b2) || (s2 == 1 && i == a2) || (s3 == 0 && i == b3) || (s3 == 1 && i == a3))
theorem chk3_at {md : Region.Mode} {ops : Array Oper} {L0 : Array Bool} {b1 a1 b2 a2 b3 a3 : Nat} (h : chk3 md ops L0 b1 a1 b2 a2 b3 a3 = true) {s1 s2 s3 : Nat} (h1 : s1 ≤ 2) (h2 : s2 ≤ 2) (h3 : s3 ≤ 2) (hn : s1 + s2 + s3 < 6) :
    Region.ready md ops (bitC s3 b3 a3 (bitC s2 b2 a2 (bitC s1 b1 a1 L0))) ≠ [] ∧ ∀ i, i ∈ Region.ready md ops (bitC s3 b3 a3 (bitC s2 b2 a2 (bitC s1 b1 a1 L0))) → (s1 = 0 ∧ i = b1) ∨ (s1 = 1 ∧ i = a1) ∨ (s2 = 0 ∧ i = b2) ∨ (s2 = 1 ∧ i = a2) ∨ (s3 = 0 ∧ i = b3) ∨ (s3 = 1 ∧ i = a3) := by
  unfold chk3 at h
  have m : ∀ s, s ≤ 2 → s ∈ [0, 1, 2] := fun s hs => by
    rcases s with _ | _ | _ | s
    · simp
    · simp
    · simp
    · omega
  have h4 := List.all_eq_true.1 (List.all_eq_true.1 (List.all_eq_true.1 h s1 (m s1 h1)) s2 (m s2 h2)) s3 (m s3 h3)
  have hf : (s1 == 2 && s2 == 2 && s3 == 2) = false := by
    cases h5 : (s1 == 2 && s2 == 2 && s3 == 2)
    · rfl
    · simp at h5; omega
  rw [hf, Bool.false_or, Bool.and_eq_true] at h4
  refine ⟨fun e => by rw [e] at h4; simp at h4, fun i hi => ?_⟩
  have := List.all_eq_true.1 h4.2 i hi
  simpa [or_assoc] using this
section
variable {P : Program} {md : Region.Mode} {ops : Array Oper} {Q : Exit → Act → World → Prop} {S : World → Prop} {m : Nat}
theorem chains3 {c1 c2 c3 : Chn} {base : Nat} {a0 : Act} {w0 : World} {L0 : Array Bool} {ou1 os1 ou2 os2 ou3 os3 : Operand} {U1 U2 U3 : Value} {b1 a1 b2 a2 b3 a3 nE : Nat}
    (O1 : Op2 P ops Q c1 base ou1 os1 U1 b1 a1) (O2 : Op2 P ops Q c2 base ou2 os2 U2 b2 a2) (O3 : Op2 P ops Q c3 base ou3 os3 U3 b3 a3)
    (hc : chk3 md ops L0 b1 a1 b2 a2 b3 a3 = true)
    (hi : [b1, a1, b2, a2, b3, a3].Nodup) (hs : [c1.b, c1.d, c2.b, c2.d, c3.b, c3.d].Nodup)
    (hoff : ∀ o, o ∈ [ou1, os1, ou2, os2, ou3, os3] → ∀ t, t ∈ [c1.b, c1.d, c2.b, c2.d, c3.b, c3.d] → o ≠ .tmp t)
    (hu1 : a0.eval ou1 = U1) (hu2 : a0.eval ou2 = U2) (hu3 : a0.eval ou3 = U3) (hx1 : a0.eval os1 = c1.x0) (hx2 : a0.eval os2 = c2.x0) (hx3 : a0.eval os3 = c3.x0)
    (hz1 : c1.b < a0.tmps.size) (hz2 : c2.b < a0.tmps.size) (hz3 : c3.b < a0.tmps.size)
    (hS : ∀ w, Kp3 c1.x0.ownBlock c2.x0.ownBlock c3.x0.ownBlock w0 w → S w)
    (hE : ∀ p1 q1 p2 q2 p3 q3 w, St3 c1 c2 c3 base w0 w 2 p1 q1 2 p2 q2 2 p3 q3 → anyT P md ops Q S m nE (bitC 2 b3 a3 (bitC 2 b2 a2 (bitC 2 b1 a1 L0))) (c3.fr 2 p3 q3 (c2.fr 2 p2 q2 (c1.fr 2 p1 q1 a0))) w) :
    ∀ (r s1 s2 s3 : Nat), s1 ≤ 2 → s2 ≤ 2 → s3 ≤ 2 → r + (s1 + s2 + s3) = 6 → ∀ (p1 q1 p2 q2 p3 q3 : Value) (w : World), St3 c1 c2 c3 base w0 w s1 p1 q1 s2 p2 q2 s3 p3 q3 →
      anyT P md ops Q S m (nE + r) (bitC s3 b3 a3 (bitC s2 b2 a2 (bitC s1 b1 a1 L0))) (c3.fr s3 p3 q3 (c2.fr s2 p2 q2 (c1.fr s1 p1 q1 a0))) w := by
  have ev : ∀ (o : Operand), o ∈ [ou1, os1, ou2, os2, ou3, os3] → ∀ (s1 s2 s3 : Nat) (p1 q1 p2 q2 p3 q3 : Value), (c3.fr s3 p3 q3 (c2.fr s2 p2 q2 (c1.fr s1 p1 q1 a0))).eval o = a0.eval o := fun o ho s1 s2 s3 p1 q1 p2 q2 p3 q3 => by
    rw [c3.fr_eval s3 p3 q3 _ (hoff o ho _ (by simp)) (hoff o ho _ (by simp)), c2.fr_eval s2 p2 q2 _ (hoff o ho _ (by simp)) (hoff o ho _ (by simp)), c1.fr_eval s1 p1 q1 _ (hoff o ho _ (by simp)) (hoff o ho _ (by simp))]
  simp only [List.nodup_cons, List.mem_cons, List.not_mem_nil, or_false, not_or, List.nodup_nil, and_true, not_false_eq_true] at hi hs
  obtain ⟨⟨i12, i13, i14, i15, i16⟩, ⟨i23, i24, i25, i26⟩, ⟨i34, i35, i36⟩, ⟨i45, i46⟩, i56⟩ := hi
  obtain ⟨⟨t12, t13, t14, t15, t16⟩, ⟨t23, t24, t25, t26⟩, ⟨t34, t35, t36⟩, ⟨t45, t46⟩, t56⟩ := hs
  intro r
  induction r with
  | zero =>
    intro s1 s2 s3 h1 h2 h3 hr p1 q1 p2 q2 p3 q3 w H
    obtain rfl : s1 = 2 := by omega
    obtain rfl : s2 = 2 := by omega
    obtain rfl : s3 = 2 := by omega
    exact hE p1 q1 p2 q2 p3 q3 w H
  | succ r ih =>
    intro s1 s2 s3 h1 h2 h3 hr p1 q1 p2 q2 p3 q3 w H
    obtain ⟨hne, hall⟩ := chk3_at hc h1 h2 h3 (by omega)
    refine ⟨fun h0 => absurd h0 hne, fun i hin => ?_⟩
    rcases hall i hin with ⟨rfl, rfl⟩ | ⟨rfl, rfl⟩ | ⟨rfl, rfl⟩ | ⟨rfl, rfl⟩ | ⟨rfl, rfl⟩ | ⟨rfl, rfl⟩
    · have H' : St3 c1 c2 c3 base w0 (w.alloc (.cells c1.z.toArray c1.e)) 1 (.slice (some ⟨w.heap.size, 0, none⟩) 1 1) q1 s2 p2 q2 s3 p3 q3 := ⟨H.a1.build, H.a2.alloc _, H.a3.alloc _, (Jt.build H.j12 H.a2), (Jt.build H.j13 H.a3), H.j23, H.kp.step (World.grownBy_alloc w _ none) (.inl rfl), Nat.le_trans H.hb (World.grownBy_alloc w _ none).size⟩
      refine O1.build _ w _ ((ev _ (by simp) _ _ _ _ _ _ _ _ _).trans hu1) ⟨fun _ => hS _ H'.kp, ?_⟩
      have A := ih 1 s2 s3 (by omega) (by omega) (by omega) (by omega) _ q1 p2 q2 p3 q3 _ H'
      rw [bit_set s3 _ (ib := b3) (ia := a3) (i := i) (by first | assumption | (exact Ne.symm (by assumption))) (by first | assumption | (exact Ne.symm (by assumption))), bit_set s2 _ (ib := b2) (ia := a2) (i := i) (by first | assumption | (exact Ne.symm (by assumption))) (by first | assumption | (exact Ne.symm (by assumption))), c3.fr_put s3 p3 q3 _ (i := c1.b) (by first | assumption | (exact Ne.symm (by assumption))) (by first | assumption | (exact Ne.symm (by assumption))), c2.fr_put s2 p2 q2 _ (i := c1.b) (by first | assumption | (exact Ne.symm (by assumption))) (by first | assumption | (exact Ne.symm (by assumption)))]
      exact A
    · obtain ⟨g, hg, hrow⟩ := H.a1.lit rfl
      refine O1.append _ w _ g ((ev _ (by simp) _ _ _ _ _ _ _ _ _).trans hx1) (by rw [c3.fr_eval s3 p3 q3 _ (o := .tmp c1.b) (by simp only [ne_eq, Operand.tmp.injEq]; first | assumption | (exact Ne.symm (by assumption))) (by simp only [ne_eq, Operand.tmp.injEq]; first | assumption | (exact Ne.symm (by assumption))), c2.fr_eval s2 p2 q2 _ (o := .tmp c1.b) (by simp only [ne_eq, Operand.tmp.injEq]; first | assumption | (exact Ne.symm (by assumption))) (by simp only [ne_eq, Operand.tmp.injEq]; first | assumption | (exact Ne.symm (by assumption))), c1.fr_lit p1 q1 _ (by first | exact hz1 | (simp only [Chn.fr_size]; exact hz1))]; exact hg) H.hb H.a1.row hrow fun v w' hv1 hv2 hv => ?_
      have H' : St3 c1 c2 c3 base w0 w' 2 p1 v s2 p2 q2 s3 p3 q3 := ⟨⟨hv1, fun h => by cases h⟩, H.a2.append (H.j12) hv2, H.a3.append (H.j13) hv2, (Jt.append (H.j12) H.a2 hv), (Jt.append (H.j13) H.a3 hv), H.j23, H.kp.step hv2 (.inr (.inl rfl)), Nat.le_trans H.hb hv2.size⟩
      refine ⟨fun _ => hS _ H'.kp, ?_⟩
      have A := ih 2 s2 s3 (by omega) (by omega) (by omega) (by omega) p1 v p2 q2 p3 q3 _ H'
      rw [bit_set s3 _ (ib := b3) (ia := a3) (i := i) (by first | assumption | (exact Ne.symm (by assumption))) (by first | assumption | (exact Ne.symm (by assumption))), bit_set s2 _ (ib := b2) (ia := a2) (i := i) (by first | assumption | (exact Ne.symm (by assumption))) (by first | assumption | (exact Ne.symm (by assumption))), c3.fr_put s3 p3 q3 _ (i := c1.d) (by first | assumption | (exact Ne.symm (by assumption))) (by first | assumption | (exact Ne.symm (by assumption))), c2.fr_put s2 p2 q2 _ (i := c1.d) (by first | assumption | (exact Ne.symm (by assumption))) (by first | assumption | (exact Ne.symm (by assumption)))]
      exact A
    · have H' : St3 c1 c2 c3 base w0 (w.alloc (.cells c2.z.toArray c2.e)) s1 p1 q1 1 (.slice (some ⟨w.heap.size, 0, none⟩) 1 1) q2 s3 p3 q3 := ⟨H.a1.alloc _, H.a2.build, H.a3.alloc _, (Jt.build H.j12.symm H.a1).symm, H.j13, (Jt.build H.j23 H.a3), H.kp.step (World.grownBy_alloc w _ none) (.inl rfl), Nat.le_trans H.hb (World.grownBy_alloc w _ none).size⟩
      refine O2.build _ w _ ((ev _ (by simp) _ _ _ _ _ _ _ _ _).trans hu2) ⟨fun _ => hS _ H'.kp, ?_⟩
      have A := ih s1 1 s3 (by omega) (by omega) (by omega) (by omega) p1 q1 _ q2 p3 q3 _ H'
      rw [bit_set s3 _ (ib := b3) (ia := a3) (i := i) (by first | assumption | (exact Ne.symm (by assumption))) (by first | assumption | (exact Ne.symm (by assumption))), c3.fr_put s3 p3 q3 _ (i := c2.b) (by first | assumption | (exact Ne.symm (by assumption))) (by first | assumption | (exact Ne.symm (by assumption)))]
      exact A
    · obtain ⟨g, hg, hrow⟩ := H.a2.lit rfl
      refine O2.append _ w _ g ((ev _ (by simp) _ _ _ _ _ _ _ _ _).trans hx2) (by rw [c3.fr_eval s3 p3 q3 _ (o := .tmp c2.b) (by simp only [ne_eq, Operand.tmp.injEq]; first | assumption | (exact Ne.symm (by assumption))) (by simp only [ne_eq, Operand.tmp.injEq]; first | assumption | (exact Ne.symm (by assumption))), c2.fr_lit p2 q2 _ (by first | exact hz2 | (simp only [Chn.fr_size]; exact hz2))]; exact hg) H.hb H.a2.row hrow fun v w' hv1 hv2 hv => ?_
      have H' : St3 c1 c2 c3 base w0 w' s1 p1 q1 2 p2 v s3 p3 q3 := ⟨H.a1.append (H.j12.symm) hv2, ⟨hv1, fun h => by cases h⟩, H.a3.append (H.j23) hv2, (Jt.append (H.j12.symm) H.a1 hv).symm, H.j13, (Jt.append (H.j23) H.a3 hv), H.kp.step hv2 (.inr (.inr (.inl rfl))), Nat.le_trans H.hb hv2.size⟩
      refine ⟨fun _ => hS _ H'.kp, ?_⟩
      have A := ih s1 2 s3 (by omega) (by omega) (by omega) (by omega) p1 q1 p2 v p3 q3 _ H'
      rw [bit_set s3 _ (ib := b3) (ia := a3) (i := i) (by first | assumption | (exact Ne.symm (by assumption))) (by first | assumption | (exact Ne.symm (by assumption))), c3.fr_put s3 p3 q3 _ (i := c2.d) (by first | assumption | (exact Ne.symm (by assumption))) (by first | assumption | (exact Ne.symm (by assumption)))]
      exact A
    · have H' : St3 c1 c2 c3 base w0 (w.alloc (.cells c3.z.toArray c3.e)) s1 p1 q1 s2 p2 q2 1 (.slice (some ⟨w.heap.size, 0, none⟩) 1 1) q3 := ⟨H.a1.alloc _, H.a2.alloc _, H.a3.build, H.j12, (Jt.build H.j13.symm H.a1).symm, (Jt.build H.j23.symm H.a2).symm, H.kp.step (World.grownBy_alloc w _ none) (.inl rfl), Nat.le_trans H.hb (World.grownBy_alloc w _ none).size⟩
      refine O3.build _ w _ ((ev _ (by simp) _ _ _ _ _ _ _ _ _).trans hu3) ⟨fun _ => hS _ H'.kp, ?_⟩
      have A := ih s1 s2 1 (by omega) (by omega) (by omega) (by omega) p1 q1 p2 q2 _ q3 _ H'
      exact A
    · obtain ⟨g, hg, hrow⟩ := H.a3.lit rfl
      refine O3.append _ w _ g ((ev _ (by simp) _ _ _ _ _ _ _ _ _).trans hx3) (by rw [c3.fr_lit p3 q3 _ (by first | exact hz3 | (simp only [Chn.fr_size]; exact hz3))]; exact hg) H.hb H.a3.row hrow fun v w' hv1 hv2 hv => ?_
      have H' : St3 c1 c2 c3 base w0 w' s1 p1 q1 s2 p2 q2 2 p3 v := ⟨H.a1.append (H.j13.symm) hv2, H.a2.append (H.j23.symm) hv2, ⟨hv1, fun h => by cases h⟩, H.j12, (Jt.append (H.j13.symm) H.a1 hv).symm, (Jt.append (H.j23.symm) H.a2 hv).symm, H.kp.step hv2 (.inr (.inr (.inr rfl))), Nat.le_trans H.hb hv2.size⟩
      refine ⟨fun _ => hS _ H'.kp, ?_⟩
      have A := ih s1 s2 2 (by omega) (by omega) (by omega) (by omega) p1 q1 p2 q2 p3 v _ H'
      exact A
theorem chains3_go {c1 c2 c3 : Chn} {base : Nat} {a0 : Act} {w0 : World} {L0 : Array Bool} {ou1 os1 ou2 os2 ou3 os3 : Operand} {U1 U2 U3 : Value} {b1 a1 b2 a2 b3 a3 nE : Nat}
    (O1 : Op2 P ops Q c1 base ou1 os1 U1 b1 a1) (O2 : Op2 P ops Q c2 base ou2 os2 U2 b2 a2) (O3 : Op2 P ops Q c3 base ou3 os3 U3 b3 a3)
    (hc : chk3 md ops L0 b1 a1 b2 a2 b3 a3 = true)
    (hi : [b1, a1, b2, a2, b3, a3].Nodup) (hs : [c1.b, c1.d, c2.b, c2.d, c3.b, c3.d].Nodup)
    (hoff : ∀ o, o ∈ [ou1, os1, ou2, os2, ou3, os3] → ∀ t, t ∈ [c1.b, c1.d, c2.b, c2.d, c3.b, c3.d] → o ≠ .tmp t)
    (hu1 : a0.eval ou1 = U1) (hu2 : a0.eval ou2 = U2) (hu3 : a0.eval ou3 = U3) (hx1 : a0.eval os1 = c1.x0) (hx2 : a0.eval os2 = c2.x0) (hx3 : a0.eval os3 = c3.x0)
    (hz1 : c1.b < a0.tmps.size) (hz2 : c2.b < a0.tmps.size) (hz3 : c3.b < a0.tmps.size)
    (r1 : Rw base c1.e c1.sz w0 c1.x0 c1.xs) (r2 : Rw base c2.e c2.sz w0 c2.x0 c2.xs) (r3 : Rw base c3.e c3.sz w0 c3.x0 c3.xs) (p12 : Ap c1.x0 c2.x0) (p13 : Ap c1.x0 c3.x0) (p23 : Ap c2.x0 c3.x0) (hb : base ≤ w0.heap.size)
    (hS : ∀ w, Kp3 c1.x0.ownBlock c2.x0.ownBlock c3.x0.ownBlock w0 w → S w)
    (hE : ∀ p1 q1 p2 q2 p3 q3 w, Rw base c1.e c1.sz w q1 (c1.xs ++ [c1.z]) → Rw base c2.e c2.sz w q2 (c2.xs ++ [c2.z]) → Rw base c3.e c3.sz w q3 (c3.xs ++ [c3.z]) → Ap q1 q2 → Ap q1 q3 → Ap q2 q3 → Kp3 c1.x0.ownBlock c2.x0.ownBlock c3.x0.ownBlock w0 w →
      anyT P md ops Q S m nE ((((((L0.setIfInBounds b1 true).setIfInBounds a1 true).setIfInBounds b2 true).setIfInBounds a2 true).setIfInBounds b3 true).setIfInBounds a3 true) ((((((a0.put (some c1.b) p1).put (some c1.d) q1).put (some c2.b) p2).put (some c2.d) q2).put (some c3.b) p3).put (some c3.d) q3) w) :
    anyT P md ops Q S m (nE + 6) L0 a0 w0 := by
  have st : St3 c1 c2 c3 base w0 w0 0 undef undef 0 undef undef 0 undef undef :=
    ⟨⟨r1, fun h => by cases h⟩, ⟨r2, fun h => by cases h⟩, ⟨r3, fun h => by cases h⟩, ⟨p12, (fun h => by cases h), fun h => by cases h⟩, ⟨p13, (fun h => by cases h), fun h => by cases h⟩, ⟨p23, (fun h => by cases h), fun h => by cases h⟩, Kp3.refl _ _ _ _, hb⟩
  have hE' : ∀ p1 q1 p2 q2 p3 q3 w, St3 c1 c2 c3 base w0 w 2 p1 q1 2 p2 q2 2 p3 q3 → anyT P md ops Q S m nE (bitC 2 b3 a3 (bitC 2 b2 a2 (bitC 2 b1 a1 L0))) (c3.fr 2 p3 q3 (c2.fr 2 p2 q2 (c1.fr 2 p1 q1 a0))) w := fun p1 q1 p2 q2 p3 q3 w H => by
    rw [bit_two, bit_two, bit_two, fr_two, fr_two, fr_two]
    exact hE p1 q1 p2 q2 p3 q3 w H.a1.row H.a2.row H.a3.row H.j12.ap H.j13.ap H.j23.ap H.kp
  have A := chains3 O1 O2 O3 hc hi hs hoff hu1 hu2 hu3 hx1 hx2 hx3 hz1 hz2 hz3 hS hE' 6 0 0 0 (by omega) (by omega) (by omega) rfl undef undef undef undef undef undef w0 st
  rw [bit_zero, bit_zero, bit_zero, fr_zero, fr_zero, fr_zero] at A
  exact A
/-- What is kept of other blocks. -/
theorem Kp3.row {r1 r2 r3 : Option Nat} {w0 w : World} {g : Nat} {t : TypeId} {cs : Array Value} (h : Kp3 r1 r2 r3 w0 w) (hr : Row w0 g t cs) (h1 : some g ≠ r1) (h2 : some g ≠ r2) (h3 : some g ≠ r3) : Row w g t cs := (h.block g hr.lt h1 h2 h3).trans hr
theorem Kp3.below {base : Nat} {r1 r2 r3 : Option Nat} {W w0 w : World} (h : Kp3 r1 r2 r3 w0 w) (hb : Below base W w0) (hs : base ≤ w0.heap.size) (h1 : ∀ g, r1 = some g → base ≤ g) (h2 : ∀ g, r2 = some g → base ≤ g) (h3 : ∀ g, r3 = some g → base ≤ g) : Below base W w :=
  ⟨h.os.trans hb.os, h.tape.trans hb.tape, h.output.trans hb.output, Nat.le_trans hb.size h.size, fun k hk => (h.block k (Nat.lt_of_lt_of_le hk hs) (fun e => by have := h1 k e.symm; omega) (fun e => by have := h2 k e.symm; omega) (fun e => by have := h3 k e.symm; omega)).trans (hb.block k hk)⟩
end
end Go.Proofs.Ytjkdccokiaejhaa
/- What calls keep, told by the blocks that may change; own rows apart. No condition: no walk. -/
namespace Go.Proofs.Ytjkdccokiaejhaa
set_option maxRecDepth 100000
open Go.RowKit
/-- All but some blocks are kept. -/
structure Kq (o : Nat → Prop) (w w' : World) : Prop where
  os : w'.os = w.os
  tape : w'.tape = w.tape
  output : w'.output = w.output
  size : w.heap.size ≤ w'.heap.size
  block : ∀ k, k < w.heap.size → ¬ o k → w'.heap[k]? = w.heap[k]?
section
variable {o o' : Nat → Prop} {w w' w'' : World}
theorem Kq.refl (o : Nat → Prop) (w : World) : Kq o w w := ⟨rfl, rfl, rfl, Nat.le_refl _, fun _ _ _ => rfl⟩
theorem Kq.of_below (h : Below w.heap.size w w') : Kq o w w' := ⟨h.os, h.tape, h.output, h.size, fun k hk _ => h.block k hk⟩
theorem Kq.trans (h : Kq o w w') (k : Kq o' w' w'') (ho : ∀ b, b < w.heap.size → o' b → o b) : Kq o w w'' :=
  ⟨k.os.trans h.os, k.tape.trans h.tape, k.output.trans h.output, Nat.le_trans h.size k.size, fun b hb hn => (k.block b (Nat.lt_of_lt_of_le hb h.size) (fun e => hn (ho b hb e))).trans (h.block b hb hn)⟩
theorem Kq.mono (h : Kq o w w') (ho : ∀ b, o b → o' b) : Kq o' w w' := ⟨h.os, h.tape, h.output, h.size, fun b hb hn => h.block b hb (fun e => hn (ho b e))⟩
theorem Kq.grown {r : Option Nat} (h : w.grownBy w' r) (ho : ∀ b, r = some b → o b) : Kq o w w' := ⟨h.os, h.tape, h.output, h.size, fun k hk hn => h.block k hk (fun e => hn (ho k e.symm))⟩
theorem Kq.row {g : Nat} {t : TypeId} {cs : Array Value} (h : Kq o w w') (hr : Row w g t cs) (hn : ¬ o g) : Row w' g t cs := (h.block g hr.lt hn).trans hr
theorem Kq.below {n : Nat} {W : World} (h : Kq o w w') (hb : Below n W w) (hs : n ≤ w.heap.size) (hn : ∀ k, k < n → ¬ o k) : Below n W w' :=
  ⟨h.os.trans hb.os, h.tape.trans hb.tape, h.output.trans hb.output, Nat.le_trans hb.size h.size, fun k hk => (h.block k (Nat.lt_of_lt_of_le hk hs) (hn k hk)).trans (hb.block k hk)⟩
theorem Kq.own {base n sz : Nat} {e : TypeId} {v : Value} {xs : List Value} (h : Kq o w w') (hr : w.ownsRow base e sz v n xs) (hn : ∀ k, v.ownBlock = some k → ¬ o k) : w'.ownsRow base e sz v n xs := by
  refine ⟨hr.1, hr.2.imp_right ?_⟩
  rintro ⟨g, cap, cur, rfl, h1, h2, h3⟩
  have hlt : g < w.heap.size := (Array.getElem?_eq_some_iff.1 h2).1
  exact ⟨g, cap, cur, rfl, h1, (h.block g hlt (hn g rfl)).trans h2, h3⟩
theorem Kp3.kq {r1 r2 r3 : Option Nat} (h : Kp3 r1 r2 r3 w w') : Kq (fun k => r1 = some k ∨ r2 = some k ∨ r3 = some k) w w' :=
  ⟨h.os, h.tape, h.output, h.size, fun k hk hn => h.block k hk (fun e => hn (.inl e.symm)) (fun e => hn (.inr (.inl e.symm))) (fun e => hn (.inr (.inr e.symm)))⟩
end
theorem rw_off {base sz g : Nat} {e t : TypeId} {w : World} {v : Value} {xs : List (List Value)} {cs : Array Value} (h : Rw base e sz w v xs) (hr : Row w g t cs) (hne : t ≠ e) : some g ≠ v.ownBlock := by
  intro hg
  unfold Rw at h
  rcases h.2 with ⟨rfl, _⟩ | ⟨a, cap, cur, rfl, _, hh, _⟩
  · simp [Value.ownBlock] at hg
  · simp [Value.ownBlock] at hg
    subst hg
    unfold Row at hr
    rw [hh] at hr
    injection hr with hr
    injection hr with _ h2 _
    exact hne h2.symm
theorem rw_ap {base b2 s1 s2 : Nat} {e f : TypeId} {w : World} {v u : Value} {xs ys : List (List Value)} (h : Rw base e s1 w v xs) (k : Rw b2 f s2 w u ys) (hne : e ≠ f) : Ap v u := fun g h1 h2 => by
  unfold Rw at h k
  rcases h.2 with ⟨rfl, _⟩ | ⟨a, cap, cur, rfl, _, hh, _⟩
  · cases h1
  · rcases k.2 with ⟨rfl, _⟩ | ⟨b, cap', cur', rfl, _, kk, _⟩
    · cases h2
    · simp [Value.ownBlock] at h1 h2
      subst h1
      subst h2
      rw [hh] at kk
      injection kk with kk
      injection kk with _ h2 _
      exact hne h2
theorem Rw.far {base sz : Nat} {e : TypeId} {w w' : World} {v : Value} {xs : List (List Value)} {o : Option Nat} (h : Rw base e sz w v xs) (hg : w.grownBy w' o) (hn : o ≠ v.ownBlock) : Rw base e sz w' v xs := World.ownsRow.kept h hg (.inr (Ne.symm hn))
end Go.Proofs.Ytjkdccokiaejhaa
