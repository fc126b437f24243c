/- Small words that all texts share. No condition: nothing here speaks of a program. -/
import Derived.Laws.BitsAllLaws
import Derived.IntWalk
import Derived.Below
import Derived.WalkKit
import Derived.WalkSpells
import Derived.WalkLawsBesides
import Derived.Deep.Draws
import Derived.Laws.AppendOwnNone
import Derived.Deep.DeepAppendWide
import Derived.Deep.AppendLies
import Derived.Laws.OwnMore
import Derived.Laws.CopyOwn
import Derived.Laws.Strings
import Derived.Laws.Concat
import Derived.BigFrame
import Derived.Test.YtfihcgimgngmhaaProg
import Derived.LoopTactic
import Derived.BigQuiet
import Derived.Deep.QuietTactic
import Derived.Lib.AppendZerosOnto
import Derived.Test.YtfihcgimgngmhaaRows
import Derived.ProofKit
import Derived.OpenShut
import Derived.SizedLaws
import Derived.Lib.SmallJoins
import Derived.Deep.Slices
import Derived.Deep.Fields
import Derived.ChangeSame
namespace Go.Proofs.Ytfihcgimgngmhaa
open Go.RowKit
theorem ret_int {k : IntKind} {a b : Int} (h : a = b) : Ending.returned (.int k a) = .returned (.int k b) := by rw [h]
theorem ret_bool {a b : Bool} (h : a = b) : Ending.returned (.bool a) = .returned (.bool b) := by rw [h]
theorem hide {p : Prop} (h : p) : Hid p := h
end Go.Proofs.Ytfihcgimgngmhaa
/- Words for slices of bytes: what a slice reads as, and that it stays. No condition: nothing here speaks of one function. -/
namespace Go.Proofs.Ytfihcgimgngmhaa
open Go.RowKit

/-- Place k of a list of numbers. -/
def ix (zs : List Int) (k : Nat) : Int := zs.getD k 0
/-- The list as cells of bytes. -/
def cellsOf (zs : List Int) : List Value := zs.map (Value.int .u8)
/-- The numbers are bytes. -/
def Octets (zs : List Int) : Prop := ∀ z, z ∈ zs → 0 ≤ z ∧ z ≤ 255
/-- From address A on there lie the bytes zs, below the heap's end. -/
def Lies (w : World) (A : Option Addr) (zs : List Int) : Prop :=
  0 < zs.length → ∃ b off, A = some ⟨b, off, none⟩ ∧ b < w.heap.size ∧ ∀ k, k < zs.length → w.cell? ⟨b, off + k, none⟩ = some (.int .u8 (ix zs k))

theorem ix_lt (zs : List Int) {k : Nat} (h : k < zs.length) : ix zs k = zs[k] := by
  unfold ix; rw [List.getD_eq_getElem?_getD, List.getElem?_eq_getElem h]; rfl
theorem ix_ge (zs : List Int) {k : Nat} (h : zs.length ≤ k) : ix zs k = 0 := by
  unfold ix; rw [List.getD_eq_getElem?_getD, List.getElem?_eq_none h]; rfl
theorem Octets.ix {zs : List Int} (h : Octets zs) (k : Nat) : 0 ≤ ix zs k ∧ ix zs k ≤ 255 := by
  by_cases hk : k < zs.length
  · rw [ix_lt zs hk]; exact h _ (List.getElem_mem hk)
  · rw [ix_ge zs (by omega)]; omega
theorem ext_ix {zs ys : List Int} (hl : zs.length = ys.length) (h : ∀ k, k < zs.length → ix zs k = ix ys k) : zs = ys := by
  apply List.ext_getElem hl
  intro k h1 h2
  have := h k h1
  rwa [ix_lt zs h1, ix_lt ys h2] at this
theorem length_cellsOf (zs : List Int) : (cellsOf zs).length = zs.length := List.length_map _
theorem cellsOf_one {zs : List Int} : ∀ u ∈ cellsOf zs, u.oneCell' = true := by
  intro u hu
  unfold cellsOf at hu
  obtain ⟨z, _, rfl⟩ := List.mem_map.1 hu
  rfl
theorem cellsOf_append (zs ys : List Int) : cellsOf (zs ++ ys) = cellsOf zs ++ cellsOf ys := List.map_append
theorem cellsOf_at (zs : List Int) {k : Nat} (h : k < zs.length) : (cellsOf zs)[k]? = some (.int .u8 (ix zs k)) := by
  unfold cellsOf; rw [List.getElem?_map, List.getElem?_eq_getElem h, ix_lt zs h]; rfl
theorem cellsOf_some {zs : List Int} {k : Nat} {u : Value} (h : (cellsOf zs)[k]? = some u) : k < zs.length ∧ u = .int .u8 (ix zs k) := by
  have hk : k < zs.length := by
    rcases Nat.lt_or_ge k zs.length with h1 | h1
    · exact h1
    · rw [List.getElem?_eq_none (by rw [length_cellsOf]; exact h1)] at h; cases h
  rw [cellsOf_at zs hk] at h
  exact ⟨hk, (Option.some.inj h).symm⟩

section
variable {w w' : World} {A : Option Addr} {zs : List Int}
theorem Lies.none_ : Lies w A [] := fun h => absurd h (by simp)
theorem Lies.nil_ (h : Lies w A zs) (hA : A = none) : zs.length = 0 := by
  rcases Nat.eq_zero_or_pos zs.length with h0 | h0
  · exact h0
  · obtain ⟨_, _, e, _⟩ := h h0
    rw [hA] at e; cases e
theorem Lies.at_ {k : Nat} (h : Lies w A zs) (hk : k < zs.length) : ∃ b off, A = some ⟨b, off, none⟩ ∧ b < w.heap.size ∧ w.cell? ⟨b, off + k, none⟩ = some (.int .u8 (ix zs k)) := by
  obtain ⟨b, off, e, hb, hc⟩ := h (by omega)
  exact ⟨b, off, e, hb, hc k hk⟩
theorem Lies.below (h : Lies w A zs) (hb : Below w.heap.size w w') : Lies w' A zs := fun hn => by
  obtain ⟨b, off, e, hlt, hc⟩ := h hn
  exact ⟨b, off, e, Nat.lt_of_lt_of_le hlt hb.size, fun k hk => (hb.cell (p := ⟨b, off + k, none⟩) hlt).trans (hc k hk)⟩
theorem Lies.drew (h : Lies w A zs) : Lies w.drew A zs := h
theorem Lies.drewN (h : Lies w A zs) (n : Nat) : Lies (w.drewN n) A zs := h
theorem Lies.alloc (h : Lies w A zs) (o : Obj) : Lies (w.alloc o) A zs := h.below ((Below.refl _ _).alloc (Nat.le_refl _) o)
theorem Lies.take (h : Lies w A zs) (n : Nat) : Lies w A (zs.take n) := fun hn => by
  have hl : (zs.take n).length ≤ zs.length := by rw [List.length_take]; omega
  obtain ⟨b, off, e, hlt, hc⟩ := h (by omega)
  refine ⟨b, off, e, hlt, fun k hk => ?_⟩
  have : ix (zs.take n) k = ix zs k := by
    rw [ix_lt _ hk, ix_lt zs (by omega), List.getElem_take]
  rw [this]
  exact hc k (by omega)
/-- The address of a part, from place i on: the model keeps the old one where the room ends there. Behind a name, since the walk parts at an if. -/
def partA (A : Option Addr) (c i : Nat) : Option Addr := if c = i then A else Option.map (fun x => x.add i) A
/-- A part: its address as the model reckons it. -/
theorem Lies.part {c : Nat} (h : Lies w A zs) (hc : zs.length ≤ c) (i k : Nat) : Lies w (partA A c i) ((zs.drop i).take k) := fun hn => by
  rw [List.length_take, List.length_drop] at hn
  obtain ⟨b, off, e, hlt, hcell⟩ := h (by omega)
  have hne : ¬ c = i := by omega
  unfold partA
  rw [if_neg hne, e]
  refine ⟨b, off + i, by cases i <;> rfl, hlt, fun j hj => ?_⟩
  rw [List.length_take, List.length_drop] at hj
  have e2 : ix ((zs.drop i).take k) j = ix zs (i + j) := by
    rw [ix_lt _ (by rw [List.length_take, List.length_drop]; omega), ix_lt zs (by omega), List.getElem_take, List.getElem_drop]
  rw [e2, Nat.add_assoc]
  exact hcell (i + j) (by omega)
theorem Lies.rest {c : Nat} (h : Lies w A zs) (hc : zs.length ≤ c) (i : Nat) : Lies w (partA A c i) (zs.drop i) := by
  have := h.part hc i (zs.length - i)
  rwa [List.take_of_length_le (by rw [List.length_drop]; exact Nat.le_refl _)] at this
theorem Lies.cells {b off : Nat} (h : Lies w (some ⟨b, off, none⟩) zs) : ∀ j u, (cellsOf zs)[j]? = some u → w.cell? ((⟨b, off, none⟩ : Addr).add j) = some u := by
  intro j u hj
  obtain ⟨hk, rfl⟩ := cellsOf_some hj
  obtain ⟨b', off', e, _, hc⟩ := h.at_ hk
  injection e with e
  injection e with e1 e2 _
  subst e1 e2
  rcases j with _ | j
  · exact hc
  · exact hc
theorem Lies.of_own {base : Nat} {e : TypeId} {n c : Nat} (h : w.ownsRow base e 1 (.slice A n c) n (cellsOf zs)) : Lies w A zs := by
  intro hn
  have hl : zs.length = n := by have := h.1; rw [length_cellsOf] at this; omega
  rcases h.2 with ⟨_, h0⟩ | ⟨g, cap, cur, hv, _, hh, _⟩
  · omega
  · injection hv with hA _ hc
    subst hA hc
    refine ⟨g, 0, rfl, ?_, fun k hk => ?_⟩
    · rcases Nat.lt_or_ge g w.heap.size with h1 | h1
      · exact h1
      · rw [Array.getElem?_eq_none h1] at hh; cases hh
    · have := h.cellAt k (by omega)
      rw [Nat.zero_add, this, cellsOf_at zs hk]
end
theorem own_shape {w : World} {base : Nat} {e : TypeId} {v : Value} {n : Nat} {xs : List Value} (h : w.ownsRow base e 1 v n xs) : ∃ A c, v = .slice A n c ∧ (A = none → c = 0) := by
  rcases h.2 with ⟨rfl, rfl⟩ | ⟨g, cap, cur, rfl, _⟩
  · exact ⟨none, 0, rfl, fun _ => rfl⟩
  · exact ⟨_, cap, rfl, fun h => by cases h⟩
/-- append of a slice that lies anywhere, nil or not, onto a row of the call's own. -/
theorem wpList_append_lies {P : Program} {w : World} {ops : Array Oper} {rest : List Oper} {o : Oper} {a : Act} {Q : Exit → Act → World → Prop} (hgd : o.guard = none) (s x : Operand) (t : TypeId)
    (ho : o.op = .call { callee := .builtin .append, args := #[s, x], argTypes := #[t, t] })
    (base : Nat) (e : TypeId) (i : TypeInfo) (z : Value) (ht : P.underlying t = some (.slice e)) (hi : P.info? e = some i) (hz : i.zero = some z) (hsize : i.size = 1) (hby : i.bytes = 1) (hzs : z.cells.size = 1)
    (v : Value) (n : Nat) (xs : List Int) (hs : a.eval s = v) (hown : w.ownsRow base e 1 v n (cellsOf xs))
    (A : Option Addr) (m c : Nat) (zs : List Int) (hx : a.eval x = .slice A m c) (hm : zs.length = m) (hc : A = none → c = 0) (hl : Lies w A zs) (hb : n + m ≤ 200000000000000) (hbase : base ≤ w.heap.size)
    (h : ∀ v' w', w'.ownsRow base e 1 v' (n + m) (cellsOf (xs ++ zs)) → Below base w w' → wpList P ops Q rest (a.put o.dst v') w') : wpList P ops Q (o :: rest) a w := by
  subst hm
  rcases A with _ | ad
  · have h0 := hl.nil_ rfl
    have hz0 : zs = [] := List.eq_nil_of_length_eq_zero h0
    subst hz0
    obtain rfl := hc rfl
    exact wpList_append_own_none hgd s x t ho base e i 1 ht hi v n (cellsOf xs) hs hown hx (h v w (by simpa using hown) (Below.refl _ _))
  · refine wpList_append_own_wide w hgd s x t ho base e i z 1 1 ht hi hz hsize hby hzs (by omega) v n (cellsOf xs) hs hown ad zs.length c (cellsOf zs) hx (by rw [length_cellsOf]; omega) ?_ cellsOf_one (by unfold maxLen; omega) (by omega) hbase ?_
    · intro j u hj
      obtain ⟨hk, _⟩ := cellsOf_some hj
      obtain ⟨b, off, e', _⟩ := hl (by omega)
      injection e' with e'
      subst e'
      exact Lies.cells hl j u hj
    · intro v' w' h1 h2 _
      exact h v' w' (by rw [cellsOf_append]; exact h1) ((Below.refl _ _).grown h2 hbase (fun k hk => (hown.lt k hk).1))
theorem lies_one (w : World) (z : Int) (e : TypeId) : Lies (w.alloc (.cells #[.int .u8 z] e)) (some ⟨w.heap.size, 0, none⟩) [z] := fun _ => by
  refine ⟨w.heap.size, 0, rfl, by simp, fun k hk => ?_⟩
  have : k = 0 := by simp at hk; omega
  subst this
  exact cell_one_new w _ _ 0 _ rfl
/-- A literal's block, marked or not. -/
theorem lies_lit (w : World) (zs : List Int) (e : TypeId) (fr : Nat × Nat) : Lies (w.alloc (.cells (cellsOf zs).toArray e fr)) (some ⟨w.heap.size, 0, none⟩) zs := fun _ => by
  refine ⟨w.heap.size, 0, rfl, by simp, fun k hk => ?_⟩
  rw [Nat.zero_add, ← cellsOf_at zs hk]
  simp only [World.cell?, World.alloc, Array.getElem?_push, if_true]; simp
/-- n times z: behind a name, since the walk writes a list of 80 out. -/
def pad (n : Nat) (z : Int) : List Int := List.replicate n z
theorem length_pad (n : Nat) (z : Int) : (pad n z).length = n := List.length_replicate
theorem pad_drop (n m : Nat) (z : Int) : (pad (n + m) z).drop n = pad m z := by unfold pad; rw [List.drop_replicate]; congr 1; omega
theorem ix_pad_right (zs : List Int) (n : Nat) (z : Int) {k : Nat} (h1 : zs.length ≤ k) (h2 : k < zs.length + n) : ix (zs ++ pad n z) k = z := by
  have h3 : k < (zs ++ pad n z).length := by rw [List.length_append, length_pad]; exact h2
  rw [ix_lt _ h3, List.getElem_append_right h1]
  unfold pad; rw [List.getElem_replicate]
theorem kept_refl (a : World) : Below a.heap.size a a := Below.refl _ _
theorem kept_trans {a b c : World} (h : Below a.heap.size a b) (g : Below b.heap.size b c) : Below a.heap.size a c := h.trans (g.mono h.size)
theorem kept_alloc {a b : World} (h : Below a.heap.size a b) (o : Obj) : Below a.heap.size a (b.alloc o) := h.alloc h.size o
theorem kept_drewN {a b : World} (h : Below a.heap.size a b) (n : Nat) : Below a.heap.size a (b.drewN n) := ⟨h.os, h.tape, h.output, h.size, h.block⟩
theorem drewN_zero (w : World) : w.drewN 0 = w := rfl
theorem below_drewN' {B : Nat} {a w : World} (h : Below B a w) (n : Nat) : Below B a (w.drewN n) := ⟨h.os, h.tape, h.output, h.size, h.block⟩
end Go.Proofs.Ytfihcgimgngmhaa
/- Blocks that are known whole, and what stays of them. No condition. -/
namespace Go.Proofs.Ytfihcgimgngmhaa
open Go.RowKit
/-- Block g is just these cells. -/
def Row (w : World) (g : Nat) (t : TypeId) (cs : Array Value) : Prop := w.heap[g]? = some (.cells cs t (0, 0))
theorem Row.lt {w : World} {g : Nat} {t : TypeId} {cs : Array Value} (h : Row w g t cs) : g < w.heap.size := by
  rcases Nat.lt_or_ge g w.heap.size with h1 | h1
  · exact h1
  · unfold Row at h; rw [Array.getElem?_eq_none h1] at h; cases h
theorem Row.cell {w : World} {g : Nat} {t : TypeId} {cs : Array Value} (h : Row w g t cs) (i : Nat) : w.cell? ⟨g, i, none⟩ = cs[i]? := cell_of_row w g i cs t (0, 0) h
theorem Row.free {w : World} {g : Nat} {t : TypeId} {cs : Array Value} (h : Row w g t cs) (i : Nat) : w.frozen? ⟨g, i, none⟩ = false := by
  unfold Row at h; simp [World.frozen?, h]
theorem Row.new (w : World) (t : TypeId) (cs : Array Value) : Row (w.alloc (.cells cs t)) w.heap.size t cs := by
  unfold Row
  show (w.heap.push _)[w.heap.size]? = _
  rw [Array.getElem?_push, if_pos rfl]
theorem Row.put {w : World} {g : Nat} {t : TypeId} {cs : Array Value} (h : Row w g t cs) (i : Nat) (u : Value) : Row (w.setCell ⟨g, i, none⟩ u) g t (cs.setIfInBounds i u) := by
  unfold Row at h ⊢; simp [World.setCell, Array.getElem?_modify, h]
theorem Row.same {w w' : World} {g : Nat} {t : TypeId} {cs : Array Value} (h : Row w g t cs) (e : w'.heap[g]? = w.heap[g]?) : Row w' g t cs := e.trans h
theorem Row.below {w w' : World} {B g : Nat} {t : TypeId} {cs : Array Value} (h : Row w g t cs) (hb : Below B w w') (hl : g < B) : Row w' g t cs := (hb.block g hl).trans h
theorem Row.grown {w w' : World} {row : Option Nat} {g : Nat} {t : TypeId} {cs : Array Value} (h : Row w g t cs) (hg : w.grownBy w' row) (hne : some g ≠ row) : Row w' g t cs := (hg.block g h.lt hne).trans h
theorem Row.alloc {w : World} {g : Nat} {t : TypeId} {cs : Array Value} (h : Row w g t cs) (o : Obj) : Row (w.alloc o) g t cs := h.grown (World.grownBy_alloc w o none) (by simp)
theorem Row.drewN {w : World} {g : Nat} {t : TypeId} {cs : Array Value} (h : Row w g t cs) (n : Nat) : Row (w.drewN n) g t cs := h
theorem Row.drew {w : World} {g : Nat} {t : TypeId} {cs : Array Value} (h : Row w g t cs) : Row w.drew g t cs := h
theorem grown_trans {a b c : World} {row : Option Nat} (h : a.grownBy b row) (k : b.grownBy c row) : a.grownBy c row :=
  ⟨k.os.trans h.os, k.tape.trans h.tape, k.output.trans h.output, Nat.le_trans h.size k.size, fun i hi hr => (k.block i (Nat.lt_of_lt_of_le hi h.size) hr).trans (h.block i hi hr)⟩
theorem grown_refl (w : World) (row : Option Nat) : w.grownBy w row := ⟨rfl, rfl, rfl, Nat.le_refl _, fun _ _ _ => rfl⟩
theorem grown_drewN {a b : World} {row : Option Nat} (h : a.grownBy b row) (n : Nat) : a.grownBy (b.drewN n) row := ⟨h.os, h.tape, h.output, h.size, h.block⟩
theorem grown_drew {a b : World} {row : Option Nat} (h : a.grownBy b row) : a.grownBy b.drew row := ⟨h.os, h.tape, h.output, h.size, h.block⟩
theorem grown_alloc {a b : World} {row : Option Nat} (h : a.grownBy b row) (o : Obj) : a.grownBy (b.alloc o) row := grown_trans h (World.grownBy_alloc b o row)
theorem grown_put {a b : World} {g : Nat} (h : a.grownBy b (some g)) (i : Nat) (u : Value) : a.grownBy (b.setCell ⟨g, i, none⟩ u) (some g) :=
  grown_trans h ⟨rfl, rfl, rfl, by simp [World.setCell], fun k _ hr => Below.heap_setCell b ⟨g, i, none⟩ u k (fun e => hr (by rw [e]))⟩
/-- What turns no old block turns none but g. -/
theorem grown_any {a b : World} {row : Option Nat} (h : a.grownBy b none) : a.grownBy b row := ⟨h.os, h.tape, h.output, h.size, fun k hk _ => h.block k hk (by simp)⟩
theorem grown_below {a b : World} (h : Below a.heap.size a b) : a.grownBy b none := ⟨h.os, h.tape, h.output, h.size, fun k hk _ => h.block k hk⟩
theorem below_grown {a b : World} (h : a.grownBy b none) : Below a.heap.size a b := ⟨h.os, h.tape, h.output, h.size, fun k hk => h.block k hk (by simp)⟩
end Go.Proofs.Ytfihcgimgngmhaa
/- Slices of structs, m cells each, as lists of lists of cells: what a slice reads as, and that it stays; append of one; copy. Conditions: it has room. No program is spoken of. -/
namespace Go.Proofs.Ytfihcgimgngmhaa
open Go.RowKit
/-- So many structs as cells, one behind the other. -/
def cellsV (l : List (List Value)) : List Value := l.flatten
/-- Each has m cells, each of them one. -/
def AllV (m : Nat) (l : List (List Value)) : Prop := ∀ x, x ∈ l → x.length = m ∧ ∀ u ∈ x, u.oneCell' = true
/-- From address A on there lie the structs l, m cells each, below the heap's end. -/
def Els (m : Nat) (w : World) (A : Option Addr) (l : List (List Value)) : Prop :=
  0 < l.length → ∃ b off, A = some ⟨b, off, none⟩ ∧ b < w.heap.size ∧ ∀ k x, l[k]? = some x → ∀ i, i < m → w.cell? ⟨b, off + k * m + i, none⟩ = x[i]?
section
variable {m : Nat} {l : List (List Value)}
theorem AllV.nil_ : AllV m [] := fun _ h => by cases h
theorem AllV.at_ (h : AllV m l) {k : Nat} {x : List Value} (hk : l[k]? = some x) : x.length = m := (h x (List.mem_of_getElem? hk)).1
theorem AllV.take (h : AllV m l) (n : Nat) : AllV m (l.take n) := fun x hx => h x (List.mem_of_mem_take hx)
theorem AllV.drop (h : AllV m l) (n : Nat) : AllV m (l.drop n) := fun x hx => h x (List.mem_of_mem_drop hx)
theorem AllV.append {l' : List (List Value)} (h : AllV m l) (k : AllV m l') : AllV m (l ++ l') := fun x hx => (List.mem_append.1 hx).elim (h x) (k x)
theorem cellsV_cons (x : List Value) (l : List (List Value)) : cellsV (x :: l) = x ++ cellsV l := rfl
theorem cellsV_append (l l' : List (List Value)) : cellsV (l ++ l') = cellsV l ++ cellsV l' := by unfold cellsV; exact List.flatten_append
theorem length_cellsV : ∀ {l : List (List Value)}, AllV m l → (cellsV l).length = l.length * m
  | [], _ => by simp [cellsV]
  | x :: r, h => by
    rw [cellsV_cons, List.length_append, (h x (by simp)).1, length_cellsV fun y hy => h y (by simp [hy]), List.length_cons, Nat.add_mul, Nat.one_mul, Nat.add_comm]
theorem cellsV_of : ∀ {l : List (List Value)} {k : Nat} {x : List Value}, AllV m l → l[k]? = some x → ∀ i, i < m → (cellsV l)[k * m + i]? = x[i]?
  | [], k, x, _, h => by simp at h
  | y :: r, 0, x, ha, h => fun i hi => by
    simp at h; subst h
    have hy : y.length = m := (ha y (by simp)).1
    rw [cellsV_cons, Nat.zero_mul, Nat.zero_add, List.getElem?_append_left (by rw [hy]; exact hi)]
  | y :: r, k + 1, x, ha, h => fun i hi => by
    have hy : y.length = m := (ha y (by simp)).1
    have := cellsV_of (l := r) (k := k) (x := x) (fun z hz => ha z (by simp [hz])) (by simpa using h) i hi
    rw [cellsV_cons, List.getElem?_append_right (by rw [hy, Nat.add_mul]; omega), hy]
    rw [show (k + 1) * m + i - m = k * m + i by rw [Nat.add_mul]; omega]
    exact this
theorem cellsV_get {j : Nat} {u : Value} (ha : AllV m l) (h : (cellsV l)[j]? = some u) : ∃ k x i, l[k]? = some x ∧ i < m ∧ j = k * m + i ∧ x[i]? = some u := by
  have hj : j < l.length * m := by
    rcases Nat.lt_or_ge j (cellsV l).length with h1 | h1
    · rwa [length_cellsV ha] at h1
    · rw [List.getElem?_eq_none h1] at h; cases h
  have hm : 0 < m := by
    rcases Nat.eq_zero_or_pos m with rfl | h0
    · omega
    · exact h0
  have hd : j / m < l.length := Nat.div_lt_of_lt_mul (by rw [Nat.mul_comm]; exact hj)
  have hx : l[j / m]? = some l[j / m] := List.getElem?_eq_getElem hd
  have e : j = j / m * m + j % m := by have := Nat.div_add_mod j m; rw [Nat.mul_comm] at this; exact this.symm
  have h0 := cellsV_of ha hx (j % m) (Nat.mod_lt _ hm)
  rw [← e, h] at h0
  exact ⟨_, _, _, hx, Nat.mod_lt _ hm, e, h0.symm⟩
theorem cellsV_one (ha : AllV m l) : ∀ u ∈ cellsV l, u.oneCell' = true := fun u hu => by
  unfold cellsV at hu
  obtain ⟨x, hx, hu⟩ := List.mem_flatten.1 hu
  exact (ha x hx).2 u hu
end
section
variable {m : Nat} {w w' : World} {A : Option Addr} {l : List (List Value)}
theorem Els.nil_ : Els m w A [] := fun h => absurd h (by simp)
theorem Els.none_ (h : Els m w none l) : l = [] := by
  rcases l with _ | ⟨x, r⟩
  · rfl
  · obtain ⟨_, _, e, _⟩ := h (by simp)
    cases e
theorem Els.at_ {k : Nat} {x : List Value} (h : Els m w A l) (hk : l[k]? = some x) : ∃ b off, A = some ⟨b, off, none⟩ ∧ b < w.heap.size ∧ ∀ i, i < m → w.cell? ⟨b, off + k * m + i, none⟩ = x[i]? := by
  have hl : k < l.length := by
    rcases Nat.lt_or_ge k l.length with h1 | h1
    · exact h1
    · rw [List.getElem?_eq_none h1] at hk; cases hk
  obtain ⟨b, off, e, hb, hc⟩ := h (by omega)
  exact ⟨b, off, e, hb, hc k x hk⟩
theorem Els.below (h : Els m w A l) (hb : Below w.heap.size w w') : Els m w' A l := fun hn => by
  obtain ⟨b, off, e, hlt, hc⟩ := h hn
  exact ⟨b, off, e, Nat.lt_of_lt_of_le hlt hb.size, fun k x hk i hi => (hb.cell (p := ⟨b, off + k * m + i, none⟩) hlt).trans (hc k x hk i hi)⟩
theorem Els.alloc (h : Els m w A l) (o : Obj) : Els m (w.alloc o) A l := h.below ((Below.refl _ _).alloc (Nat.le_refl _) o)
theorem Els.drewN (h : Els m w A l) (n : Nat) : Els m (w.drewN n) A l := h
theorem Els.drew (h : Els m w A l) : Els m w.drew A l := h
theorem Els.grown {row : Option Nat} (h : Els m w A l) (hg : w.grownBy w' row) (hne : ∀ a, A = some a → some a.block ≠ row) : Els m w' A l := fun hn => by
  obtain ⟨b, off, e, hlt, hc⟩ := h hn
  have hb := hne _ e
  exact ⟨b, off, e, Nat.lt_of_lt_of_le hlt hg.size, fun k x hk i hi => (hg.cell_far ⟨b, off + k * m + i, none⟩ hlt hb).trans (hc k x hk i hi)⟩
theorem Els.take (h : Els m w A l) (n : Nat) : Els m w A (l.take n) := fun hn => by
  obtain ⟨b, off, e, hlt, hc⟩ := h (by rw [List.length_take] at hn; omega)
  refine ⟨b, off, e, hlt, fun k x hk => ?_⟩
  rw [List.getElem?_take] at hk
  split at hk
  · exact hc k x hk
  · cases hk
/-- The rest of a slice from the i-th on: its address as the model reckons it. -/
def partV (m : Nat) (A : Option Addr) (c i : Nat) : Option Addr := if c = i then A else Option.map (fun x => x.add (i * m)) A
theorem Els.rest {c : Nat} (h : Els m w A l) (hc : l.length ≤ c) (i : Nat) : Els m w (partV m A c i) (l.drop i) := fun hn => by
  rw [List.length_drop] at hn
  obtain ⟨b, off, e, hlt, hcell⟩ := h (by omega)
  have hne : ¬ c = i := by omega
  unfold partV
  rw [if_neg hne, e]
  refine ⟨b, off + i * m, ?_, hlt, fun k x hk => ?_⟩
  · show some ((⟨b, off, none⟩ : Addr).add (i * m)) = _
    rw [Go.WideShapes.add_plain]
  · rw [List.getElem?_drop] at hk
    have := hcell _ _ hk
    rw [show off + i * m + k * m = off + (i + k) * m by rw [Nat.add_mul]; omega]
    exact this
theorem partV_none {c i : Nat} (h : A = none → c = 0) (k : partV m A c i = none) : c - i = 0 := by
  unfold partV at k
  split at k
  · omega
  · cases A with
    | none => rw [h rfl]; omega
    | some a => cases k
/-- A block that is just these. -/
theorem els_row {g : Nat} {t : TypeId} {cs : Array Value} (h : Row w g t cs) (ha : AllV m l) (hc : cs.toList = cellsV l) : Els m w (some ⟨g, 0, none⟩) l := fun _ =>
  ⟨g, 0, rfl, h.lt, fun k x hk i hi => by rw [h.cell, ← Array.getElem?_toList, hc, Nat.zero_add]; exact cellsV_of ha hk i hi⟩
/-- What an own slice holds lies. -/
theorem els_own {base : Nat} {e : TypeId} {n c : Nat} (h : w.ownsRow base e m (.slice A n c) n (cellsV l)) (ha : AllV m l) (hm : 0 < m) : Els m w A l ∧ l.length = n := by
  have hn : l.length = n := by
    have := h.1
    rw [length_cellsV ha] at this
    exact Nat.eq_of_mul_eq_mul_right hm this
  refine ⟨fun hp => ?_, hn⟩
  rcases h.2 with ⟨e, h0⟩ | ⟨g, cap, cur, e, hg, hh, q1, q2, q3, q4⟩
  · omega
  · injection e with e1 e2 e3
    subst e1
    refine ⟨g, 0, rfl, (Array.getElem?_eq_some_iff.1 hh).1, fun k x hk i hi => ?_⟩
    have h0 := cellsV_of ha hk i hi
    have hl : k < l.length := by
      rcases Nat.lt_or_ge k l.length with h1 | h1
      · exact h1
      · rw [List.getElem?_eq_none h1] at hk; cases hk
    have hlt : k * m + i < n * m := by
      have : (k + 1) * m ≤ n * m := Nat.mul_le_mul_right m (by omega)
      rw [Nat.add_mul] at this
      omega
    rw [← q4, List.getElem?_take_of_lt hlt, Array.getElem?_toList] at h0
    rw [cell_of_row w g _ cur _ (0, 0) hh, Nat.zero_add]; exact h0
theorem Els.cells {b off : Nat} (h : Els m w (some ⟨b, off, none⟩) l) (ha : AllV m l) : ∀ j u, (cellsV l)[j]? = some u → w.cell? ((⟨b, off, none⟩ : Addr).add j) = some u := fun j u hj => by
  obtain ⟨k, x, i, hk, hi, rfl, hu⟩ := cellsV_get ha hj
  obtain ⟨b', off', e, _, h0⟩ := h.at_ hk
  injection e with e
  injection e with e1 e2 _
  subst e1 e2
  rw [Go.WideShapes.add_plain, ← Nat.add_assoc, h0 i hi, hu]
/-- A slice that the call made: its form. -/
theorem own_form {base : Nat} {e : TypeId} {v : Value} {n : Nat} {xs : List Value} (h : w.ownsRow base e m v n xs) : ∃ A c, v = .slice A n c ∧ (A = none → c = 0) ∧ n ≤ c ∧ c ≤ maxLen ∧ (∀ a, A = some a → a.spot = none ∧ a.off = 0) := by
  rcases h.2 with ⟨rfl, rfl⟩ | ⟨g, cap, cur, rfl, _, _, hc, hm, _⟩
  · exact ⟨none, 0, rfl, fun _ => rfl, Nat.le_refl _, by unfold maxLen; omega, fun a h => by cases h⟩
  · exact ⟨_, cap, rfl, (fun h => by cases h), hc, hm, fun a h => by cases h; exact ⟨rfl, rfl⟩⟩
end
/-- append of a slice that lies, nil and empty too, onto an own one. -/
theorem run_append_els {P : Program} {w : World} {s : Nat} (base : Nat) (t ty e : TypeId) (i : TypeInfo) (z : Value) (by' : Nat) (ht : P.underlying t = some (.slice e)) (hi : P.info? e = some i) (hz : i.zero = some z) (hsize : i.size = s) (hby : i.bytes = by') (hs0 : 0 < s) (hzs : z.cells.size = s)
    (v : Value) (n : Nat) (xs : List (List Value)) (hown : w.ownsRow base e s v n (cellsV xs))
    (A : Option Addr) (m c : Nat) (zs : List (List Value)) (ha : AllV s zs) (hm : zs.length = m) (hc : A = none → c = 0) (hl : Els s w A zs) (hb : (n + m) * by' ≤ 140737488355328) (hb2 : n + m ≤ 140737488355328) (hbase : base ≤ w.heap.size) :
    ∃ v' w', (Builtin.append_ #[t, t] ty #[v, .slice A m c]).run P w = .ok v' w' ∧ w'.ownsRow base e s v' (n + m) (cellsV (xs ++ zs)) ∧ w.grownBy w' v.ownBlock ∧ (v' = .slice none 0 0 ↔ v = .slice none 0 0 ∧ m = 0) := by
  subst hm
  rcases A with _ | ad
  · obtain rfl := hl.none_
    obtain rfl := hc rfl
    exact ⟨v, w, run_append_owned_none (P := P) (w := w) base t ty e i s ht hi v n (cellsV xs) hown, by simpa using hown, grown_refl _ _, by simp⟩
  · have hsp : ∀ j u, (cellsV zs)[j]? = some u → w.cell? (ad.add j) = some u := fun j u hj => by
      rcases zs with _ | ⟨x, r⟩
      · cases hj
      · obtain ⟨b, off, e, _⟩ := hl (by simp)
        injection e with e
        subst e
        exact hl.cells ha j u hj
    obtain ⟨v', w', hr, h1, h2, h3⟩ := run_append_own (P := P) w base t ty e i z s by' ht hi hz hsize hby hzs hs0 v n (cellsV xs) hown ad zs.length c (cellsV zs) (length_cellsV ha) hsp (cellsV_one ha) (by unfold maxLen; omega) (by omega) hbase
    exact ⟨v', w', hr, by rw [cellsV_append]; exact h1, h2, h3⟩
theorem run_copy_els {P : Program} (w : World) (dT sT ty elem : TypeId) (g dLen dCap : Nat) (A : Option Addr) (n c m : Nat) (l : List (List Value)) (hu : P.underlying dT = some (.slice elem)) (hs : (P.info? elem).map (·.size) = some m)
    (cur : Array Value) (t : TypeId) (hg : w.heap[g]? = some (.cells cur t (0, 0))) (hn : l.length = n) (hfit : n ≤ dLen) (hsz : n * m ≤ cur.size) (ha : AllV m l) (hl : Els m w A l) :
    (Builtin.copy_ #[dT, sT] ty #[.slice (some ⟨g, 0, none⟩) dLen dCap, .slice A n c]).run P w = .ok (goInt n) (w.setRow g (cellsV l ++ cur.toList.drop (n * m)).toArray) := by
  have hlen : (cellsV l).length = n * m := by rw [length_cellsV ha, hn]
  have h1 := cellsV_one ha
  have hmin : Nat.min n dLen = n := Nat.min_eq_left hfit
  have hst := run_storeCells_at P g 0 t (cellsV l) 0 cur w hg (by rw [hlen]; omega) h1
  rw [Nat.zero_add, Nat.zero_add, List.take_zero, List.nil_append, hlen] at hst
  cases hq : P.info? elem with
  | none => simp [hq] at hs
  | some i =>
    have hi : i.size = m := by simpa [hq] using hs
    cases A with
    | some a =>
      have hsrc : ∀ j v, (cellsV l)[j]? = some v → w.cell? (a.add j) = some v := fun j v hj => by
        have hp : 0 < l.length := by
          rcases Nat.eq_zero_or_pos l.length with h0 | h0
          · obtain rfl := List.eq_nil_of_length_eq_zero h0
            simp [cellsV] at hj
          · exact h0
        obtain ⟨b, off, e, _, _⟩ := hl hp
        injection e with e
        subst e
        exact hl.cells ha j v hj
      have hld := run_loadCells_list (P := P) w a (cellsV l) hsrc
      rw [hlen] at hld
      simp [Builtin.copy_, run_underlying hu, Builtin.lenOf, Builtin.firstCells, sizeOf, typeInfo, hq, hi, hmin, hld, hst]
    | none =>
      have h0 : n = 0 := by
        rcases Nat.eq_zero_or_pos n with h0 | h0
        · exact h0
        · obtain ⟨b, off, e, _⟩ := hl (by omega)
          cases e
      have e0 : l = [] := List.eq_nil_of_length_eq_zero (by omega)
      subst h0
      rw [e0] at hst ⊢
      simp [cellsV] at hst ⊢
      simp [Builtin.copy_, run_underlying hu, Builtin.lenOf, Builtin.firstCells, sizeOf, typeInfo, hq, hst]
/-- append of one that lies, onto an own one, in the walk. -/
theorem wpList_append_els {P : Program} {w : World} {ops : Array Oper} {rest : List Oper} {o : Oper} {a : Act} {Q : Exit → Act → World → Prop} (hgd : o.guard = none) (s x : Operand) (t : TypeId)
    (ho : o.op = .call { callee := .builtin .append, args := #[s, x], argTypes := #[t, t] }) {sz : Nat}
    (base : Nat) (e : TypeId) (i : TypeInfo) (z : Value) (by' : Nat) (ht : P.underlying t = some (.slice e)) (hi : P.info? e = some i) (hz : i.zero = some z) (hsize : i.size = sz) (hby : i.bytes = by') (hs0 : 0 < sz) (hzs : z.cells.size = sz)
    (v : Value) (n : Nat) (xs : List (List Value)) (hs : a.eval s = v) (hown : w.ownsRow base e sz v n (cellsV xs))
    (A : Option Addr) (m c : Nat) (zs : List (List Value)) (hx : a.eval x = .slice A m c) (ha : AllV sz zs) (hm : zs.length = m) (hc : A = none → c = 0) (hl : Els sz w A zs) (hb : (n + m) * by' ≤ 140737488355328) (hb2 : n + m ≤ 140737488355328) (hbase : base ≤ w.heap.size)
    (h : ∀ v' w', w'.ownsRow base e sz v' (n + m) (cellsV (xs ++ zs)) → w.grownBy w' v.ownBlock → wpList P ops Q rest (a.put o.dst v') w') : wpList P ops Q (o :: rest) a w := by
  refine wpList_plain hgd fun K hK => ?_
  obtain ⟨v', w', hr, h2, h3, _⟩ := run_append_els (P := P) (w := w) base t o.type e i z by' ht hi hz hsize hby hs0 hzs v n xs hown A m c zs ha hm hc hl hb hb2 hbase
  unfold Oper.wp execOp
  simp only [ho, resolve, invoke, builtin, Sem.run_bind, Sem.run_pure, Result.andThen_ok, List.map_toArray, List.map_cons, List.map_nil, hs, hx, hr]
  exact hK _ _ (h v' w' h2 h3)
theorem step_append_els {P : Program} {w : World} {ops : Array Oper} {o : Oper} {a : Act} {K : Act → World → Prop} {Q : Exit → Act → World → Prop} {E : Prop} {sz : Nat} (hgd : o.guard = none) (s x : Operand) (t : TypeId)
    (ho : o.op = .call { callee := .builtin .append, args := #[s, x], argTypes := #[t, t] })
    (base : Nat) (e : TypeId) (i : TypeInfo) (z : Value) (by' : Nat) (ht : P.underlying t = some (.slice e)) (hi : P.info? e = some i) (hz : i.zero = some z) (hsize : i.size = sz) (hby : i.bytes = by') (hs0 : 0 < sz) (hzs : z.cells.size = sz)
    (v : Value) (n : Nat) (xs : List (List Value)) (hs : a.eval s = v) (hown : w.ownsRow base e sz v n (cellsV xs))
    (A : Option Addr) (m c : Nat) (zs : List (List Value)) (hx : a.eval x = .slice A m c) (ha : AllV sz zs) (hm : zs.length = m) (hc : A = none → c = 0) (hl : Els sz w A zs) (hb : (n + m) * by' ≤ 140737488355328) (hb2 : n + m ≤ 140737488355328) (hbase : base ≤ w.heap.size)
    (h : ∀ v' w', w'.ownsRow base e sz v' (n + m) (cellsV (xs ++ zs)) → w.grownBy w' v.ownBlock → K (a.put o.dst v') w') :
    if Region.wanted o (yielded ops a.tmps) = true then Oper.wp P o a w K Q else E := by
  have hw : Region.wanted o (yielded ops a.tmps) = true := by simp [Region.wanted, hgd]
  rw [if_pos hw]
  obtain ⟨v', w', hr, h2, h3, _⟩ := run_append_els (P := P) (w := w) base t o.type e i z by' ht hi hz hsize hby hs0 hzs v n xs hown A m c zs ha hm hc hl hb hb2 hbase
  unfold Oper.wp execOp
  simp only [ho, resolve, invoke, builtin, Sem.run_bind, Sem.run_pure, Result.andThen_ok, List.map_toArray, List.map_cons, List.map_nil, hs, hx, hr]
  exact h v' w' h2 h3
end Go.Proofs.Ytfihcgimgngmhaa
/- Texts in the order of their bytes, and spans of them, in plain words. No condition: nothing here speaks of a program. -/
namespace Go.Proofs.Ytfihcgimgngmhaa
open Go.RowKit
/-- Is the text below the other one. -/
def ltB (a b : ByteArray) : Bool := Op.bytesLess a.toList b.toList
/-- Is the text empty. -/
def nilB (a : ByteArray) : Bool := a.toList.isEmpty
/-- Are the texts the same. -/
def eqB (a b : ByteArray) : Bool := a.toList == b.toList
/-- The lowest text above k. -/
def nextT (k : ByteArray) : ByteArray := k ++ ⟨#[0]⟩
/-- Is the text below the bound, the empty bound being above all. -/
def inB (k h : ByteArray) : Bool := nilB h || ltB k h
/-- Is the one bound not above the other. -/
def endB (h m : ByteArray) : Bool := nilB m || (!nilB h && (ltB h m || eqB h m))
def emB (lo hi : ByteArray) : Bool := !inB lo hi
def hasB (lo hi k : ByteArray) : Bool := !ltB k lo && inB k hi
def meetB (la ha lb hb : ByteArray) : Bool := !emB la ha && (!emB lb hb && (inB la hb && inB lb ha))
def covB (la ha lb hb : ByteArray) : Bool := emB lb hb || (!ltB lb la && endB hb ha)
/-- The document's own. -/
def leB (a b : ByteArray) : Bool := ltB a b || eqB a b
def remB (lo hi : ByteArray) : Bool := !nilB hi && leB hi lo
def rhasB (lo hi k : ByteArray) : Bool := !ltB k lo && (nilB hi || ltB k hi)
def rmeetB (la ha lb hb : ByteArray) : Bool := !(remB la ha || remB lb hb) && ((nilB ha || ltB lb ha) && (nilB hb || ltB la hb))
def rcovB (la ha lb hb : ByteArray) : Bool := remB lb hb || (!ltB lb la && (nilB ha || (!nilB hb && leB hb ha)))
/-- The greater one. -/
def maxT (a b : ByteArray) : ByteArray := if ltB a b = true then b else a
/-- The lesser bound. -/
def minT (a b : ByteArray) : ByteArray := if endB a b = true then a else b
theorem run_max_texts {P : Program} (w : World) (ts : Array TypeId) (t : TypeId) (x y : ByteArray) : (Builtin.max_ ts t #[.string x, .string y]).run P w = .ok (.string (maxT x y)) w := by
  cases h : ltB x y <;> (unfold ltB at h; simp [Builtin.max_, Builtin.max2, Op.stringOp, asBool, maxT, ltB, h])
end Go.Proofs.Ytfihcgimgngmhaa
/- Texts stand in a line; of finitely many each has a place, so that what is said of spans is said of numbers. No condition: nothing here speaks of a program. -/
namespace Go.Proofs.Ytfihcgimgngmhaa
open Go.RowKit
theorem less_self : ∀ x : List UInt8, Op.bytesLess x x = false
  | [] => rfl
  | a :: x => by simp [Op.bytesLess, less_self x, UInt8.lt_irrefl]
theorem less_or : ∀ x y : List UInt8, Op.bytesLess x y = false → Op.bytesLess y x = false → x = y
  | [], [], _, _ => rfl
  | [], _ :: _, h, _ => by simp [Op.bytesLess] at h
  | _ :: _, [], _, h => by simp [Op.bytesLess] at h
  | a :: x, b :: y, h, h' => by
    simp [Op.bytesLess] at h h'
    have hab : a = b := UInt8.le_antisymm h'.1 h.1
    subst hab
    rw [less_or x y (h.2 rfl) (h'.2 rfl)]
theorem less_trans : ∀ x y z : List UInt8, Op.bytesLess x y = true → Op.bytesLess y z = true → Op.bytesLess x z = true
  | _, _, [], _, h => by cases ‹List UInt8› <;> simp [Op.bytesLess] at h
  | [], _, _ :: _, _, _ => rfl
  | _ :: _, [], _ :: _, h, _ => by simp [Op.bytesLess] at h
  | a :: x, b :: y, c :: z, h, h' => by
    simp [Op.bytesLess] at h h' ⊢
    rcases h with h | ⟨rfl, h⟩
    · rcases h' with h' | ⟨rfl, _⟩
      · exact .inl (UInt8.lt_trans h h')
      · exact .inl h
    · rcases h' with h' | ⟨rfl, h'⟩
      · exact .inl h'
      · exact .inr ⟨rfl, less_trans x y z h h'⟩
theorem less_next : ∀ x y : List UInt8, Op.bytesLess x (y ++ [0]) = !Op.bytesLess y x
  | [], [] => rfl
  | [], _ :: _ => rfl
  | a :: x, [] => by cases x <;> simp [Op.bytesLess]
  | a :: x, b :: y => by
    simp only [List.cons_append, Op.bytesLess, less_next x y]
    by_cases h1 : a < b
    · have h2 : ¬ b < a := UInt8.lt_asymm h1
      have h3 : ¬ b = a := fun e => by subst e; exact UInt8.lt_irrefl _ h1
      simp [h1, h2, h3]
    · by_cases h2 : b < a
      · have h3 : ¬ a = b := fun e => by subst e; exact UInt8.lt_irrefl _ h2
        simp [h1, h2, h3]
      · have h3 : a = b := UInt8.le_antisymm (UInt8.not_lt.1 h2) (UInt8.not_lt.1 h1)
        subst h3
        simp [h1]
theorem text_ext {a b : ByteArray} (h : a.toList = b.toList) : a = b := by
  rw [ByteArray.toList_eq, ByteArray.toList_eq] at h
  exact ByteArray.ext (Array.toList_inj.1 h)
theorem lt_self (a : ByteArray) : ltB a a = false := less_self _
theorem lt_or {a b : ByteArray} (h : ltB a b = false) (h' : ltB b a = false) : a = b := text_ext (less_or _ _ h h')
theorem lt_trans {a b c : ByteArray} (h : ltB a b = true) (h' : ltB b c = true) : ltB a c = true := less_trans _ _ _ h h'
/-- The empty text. -/
def nilT : ByteArray := ⟨#[]⟩
theorem nil_list : nilT.toList = [] := ByteArray.toList_eq _
theorem lt_nil (a : ByteArray) : ltB a nilT = false := by
  unfold ltB; rw [nil_list]; cases a.toList <;> rfl
theorem nil_eq (a : ByteArray) : nilB a = eqB a nilT := by
  unfold nilB eqB; rw [nil_list]; cases a.toList <;> rfl
theorem eq_iff (a b : ByteArray) : eqB a b = true ↔ a = b := by
  unfold eqB; rw [beq_iff_eq]; exact ⟨text_ext, fun h => by rw [h]⟩
theorem next_list (a : ByteArray) : (a ++ ⟨#[0]⟩).toList = a.toList ++ [0] := by
  rw [ByteArray.toList_eq, ByteArray.toList_eq]; simp
/-- How many of the texts L are below x. -/
def rk (L : List ByteArray) (x : ByteArray) : Nat := L.countP fun y => ltB y x
theorem rk_le (L : List ByteArray) {a b : ByteArray} (h : ltB a b = true) : rk L a ≤ rk L b :=
  List.countP_mono_left fun _ _ hx => lt_trans hx h
theorem rk_lt {L : List ByteArray} {a b : ByteArray} (ha : a ∈ L) (h : ltB a b = true) : rk L a < rk L b := by
  induction L with
  | nil => cases ha
  | cons c L ih =>
    have hm := rk_le L h
    unfold rk at hm ih ⊢
    rw [List.countP_cons, List.countP_cons]
    by_cases hc : a ∈ L
    · have h1 := ih hc
      by_cases h2 : ltB c a = true
      · rw [if_pos h2, if_pos (lt_trans h2 h)]; omega
      · rw [if_neg h2]; split <;> omega
    · obtain rfl : a = c := by
        rcases List.mem_cons.1 ha with h1 | h1
        · exact h1
        · exact absurd h1 hc
      rw [if_neg (by rw [lt_self]; simp), if_pos h]; omega
theorem rk_iff {L : List ByteArray} {a b : ByteArray} (ha : a ∈ L) (hb : b ∈ L) : ltB a b = decide (rk L a < rk L b) := by
  cases h : ltB a b
  · symm; rw [decide_eq_false_iff_not]
    cases h' : ltB b a
    · rw [lt_or h h']; omega
    · have := rk_lt hb h'; omega
  · have := rk_lt ha h; symm; rw [decide_eq_true_iff]; exact this
theorem rk_inj {L : List ByteArray} {a b : ByteArray} (ha : a ∈ L) (hb : b ∈ L) : eqB a b = decide (rk L a = rk L b) := by
  rw [Bool.eq_iff_iff, eq_iff, decide_eq_true_iff]
  refine ⟨fun h => by rw [h], fun h => ?_⟩
  have h1 := rk_iff ha hb
  have h2 := rk_iff hb ha
  rw [h] at h1 h2
  exact lt_or (by rw [h1]; simp) (by rw [h2]; simp)
theorem rk_nil (L : List ByteArray) : rk L nilT = 0 := by
  unfold rk; rw [List.countP_eq_zero]; intro x _; rw [lt_nil]; simp
theorem rk_none {L : List ByteArray} {a : ByteArray} (h0 : nilT ∈ L) (ha : a ∈ L) : nilB a = decide (rk L a = 0) := by
  rw [nil_eq, rk_inj ha h0, rk_nil]
end Go.Proofs.Ytfihcgimgngmhaa
/- Pairs by rising keys, in plain words: where a key stands, what is put, taken out, listed. No condition: nothing here speaks of a program. -/
namespace Go.Proofs.Ytfihcgimgngmhaa
open Go.RowKit
/-- A pair. -/
structure Pr where
  k : ByteArray
  v : ByteArray
  n : Int
deriving DecidableEq
/-- Its cells. -/
def Pr.l (p : Pr) : List Value := [.string p.k, .string p.v, .int .i64 p.n]
def zeroP : Pr := ⟨nilT, nilT, 0⟩
def prV (l : List Pr) : List (List Value) := l.map Pr.l
theorem prV_all (l : List Pr) : AllV 3 (prV l) := fun x hx => by
  unfold prV at hx
  obtain ⟨p, _, rfl⟩ := List.mem_map.1 hx
  exact ⟨rfl, fun u hu => by simp [Pr.l] at hu; rcases hu with rfl | rfl | rfl <;> rfl⟩
theorem prV_len (l : List Pr) : (prV l).length = l.length := List.length_map _
theorem prV_append (l m : List Pr) : prV (l ++ m) = prV l ++ prV m := List.map_append
theorem prV_at {l : List Pr} {k : Nat} {p : Pr} (h : l[k]? = some p) : (prV l)[k]? = some p.l := by unfold prV; rw [List.getElem?_map, h]; rfl
/-- From address A on there lie the pairs l. -/
def Prs (w : World) (A : Option Addr) (l : List Pr) : Prop := Els 3 w A (prV l)
section
variable {w w' : World} {A : Option Addr} {l : List Pr}
theorem Prs.nil_ : Prs w A [] := Els.nil_
theorem Prs.none_ (h : Prs w none l) : l = [] := by
  have := Els.none_ h
  unfold prV at this
  exact List.map_eq_nil_iff.1 this
theorem Prs.at_ {k : Nat} {p : Pr} (h : Prs w A l) (hk : l[k]? = some p) : ∃ b off, A = some ⟨b, off, none⟩ ∧ b < w.heap.size ∧ w.cell? ⟨b, off + k * 3, none⟩ = some (.string p.k) ∧ w.cell? ⟨b, off + k * 3 + 1, none⟩ = some (.string p.v) ∧ w.cell? ⟨b, off + k * 3 + 2, none⟩ = some (.int .i64 p.n) := by
  obtain ⟨b, off, e, hb, hc⟩ := Els.at_ h (prV_at hk)
  exact ⟨b, off, e, hb, hc 0 (by omega), hc 1 (by omega), hc 2 (by omega)⟩
theorem Prs.below (h : Prs w A l) (hb : Below w.heap.size w w') : Prs w' A l := Els.below h hb
theorem Prs.alloc (h : Prs w A l) (o : Obj) : Prs (w.alloc o) A l := Els.alloc h o
theorem Prs.drewN (h : Prs w A l) (n : Nat) : Prs (w.drewN n) A l := h
theorem Prs.drew (h : Prs w A l) : Prs w.drew A l := h
theorem Prs.take (h : Prs w A l) (n : Nat) : Prs w A (l.take n) := by
  have := Els.take h n
  unfold Prs prV at *
  rwa [List.map_take]
theorem Prs.rest {c : Nat} (h : Prs w A l) (hc : l.length ≤ c) (i : Nat) : Prs w (partV 3 A c i) (l.drop i) := by
  have := Els.rest h (by rw [prV_len]; exact hc) i
  unfold Prs prV at *
  rwa [List.map_drop]
theorem Prs.grown {row : Option Nat} (h : Prs w A l) (hg : w.grownBy w' row) (hne : ∀ a, A = some a → some a.block ≠ row) : Prs w' A l := Els.grown h hg hne
end
/-! ### What is said of lists -/
/-- May the pair be stored. -/
def mayB (p : Pr) : Bool := !nilB p.k && (decide (p.k.size ≤ 16) && (decide (p.v.size ≤ 64) && decide (1 ≤ p.n)))
/-- Is the pair at j fine, and above the one ahead. -/
def okAt (l : List Pr) (j : Nat) : Bool :=
  match l[j]? with
  | none => false
  | some p => mayB p && (j == 0 || (match l[j - 1]? with
    | none => false
    | some q => ltB q.k p.k))
/-- Is the pair at j above the one ahead. -/
def upAt (l : List Pr) (j : Nat) : Bool := match l[j - 1]?, l[j]? with
  | some q, some p => ltB q.k p.k
  | _, _ => false
def RightL (l : List Pr) : Prop := l.length ≤ 32 ∧ ∀ j, j < l.length → okAt l j = true
noncomputable def rightB (l : List Pr) : Bool := @decide (RightL l) (Classical.propDecidable _)
theorem right_true {l : List Pr} (h : RightL l) : rightB l = true := by unfold rightB; exact @decide_eq_true _ (Classical.propDecidable _) h
theorem right_false {l : List Pr} (h : ¬ RightL l) : rightB l = false := by unfold rightB; exact @decide_eq_false _ (Classical.propDecidable _) h
/-- Do the keys rise. -/
def Rises (l : List Pr) : Prop := ∀ j, 0 < j → j < l.length → upAt l j = true
/-- How many stand ahead of the key: the first whose key is not below it. -/
def st (l : List Pr) (key : ByteArray) : Nat := (l.takeWhile fun p => ltB p.k key).length
/-- Does it stand there. -/
def isB (l : List Pr) (key : ByteArray) : Bool := match l[st l key]? with
  | some p => eqB p.k key
  | none => false
/-- The pair of the key. -/
def getP (l : List Pr) (key : ByteArray) : Pr := if isB l key = true then (l[st l key]?).getD zeroP else zeroP
/-- Is it refused for room. -/
def fullB (l : List Pr) (key : ByteArray) : Bool := !isB l key && decide (32 ≤ l.length)
/-- The version of what is put. -/
def verP (l : List Pr) (key : ByteArray) : Int := if isB l key = true then IntKind.i64.wrap ((getP l key).n + 1) else 1
/-- What is left behind it. -/
def behP (l : List Pr) (key : ByteArray) : Nat := if isB l key = true then st l key + 1 else st l key
def putP (l : List Pr) (key value : ByteArray) : List Pr := l.take (st l key) ++ (⟨key, value, verP l key⟩ :: l.drop (behP l key))
def delP (l : List Pr) (key : ByteArray) : List Pr := if isB l key = true then l.take (st l key) ++ l.drop (st l key + 1) else l
/-- Those that the span has. -/
def inP (l : List Pr) (lo hi : ByteArray) : List Pr := l.filter fun p => hasB lo hi p.k
def rngP (l : List Pr) (lo hi : ByteArray) : List Pr := (inP l lo hi).take 8
def moreB (l : List Pr) (lo hi : ByteArray) : Bool := decide (8 < (inP l lo hi).length)
theorem st_le (l : List Pr) (key : ByteArray) : st l key ≤ l.length := by
  unfold st; exact List.Sublist.length_le (List.takeWhile_sublist _)
theorem takeWhile_at {α : Type} (f : α → Bool) : ∀ (l : List α) (j : Nat), j < (l.takeWhile f).length → ∃ p, l[j]? = some p ∧ f p = true
  | [], j, h => by simp at h
  | x :: r, j, h => by
    rw [List.takeWhile_cons] at h
    by_cases hx : f x = true
    · rw [if_pos hx] at h
      cases j with
      | zero => exact ⟨x, rfl, hx⟩
      | succ j => simpa using takeWhile_at f r j (by simpa using h)
    · rw [if_neg hx] at h; simp at h
theorem takeWhile_is {α : Type} (f : α → Bool) : ∀ (l : List α) (j : Nat), (∀ i, i < j → ∃ p, l[i]? = some p ∧ f p = true) → (∀ p, l[j]? = some p → f p = false) → (l.takeWhile f).length = j
  | [], j, h, _ => by
    cases j with
    | zero => rfl
    | succ j => obtain ⟨p, hp, _⟩ := h 0 (by omega); simp at hp
  | x :: r, j, h, h2 => by
    cases j with
    | zero =>
      have := h2 x rfl
      rw [List.takeWhile_cons, if_neg (by rw [this]; simp)]; rfl
    | succ j =>
      obtain ⟨p, hp, hf⟩ := h 0 (by omega)
      simp at hp; subst hp
      rw [List.takeWhile_cons, if_pos hf, List.length_cons, takeWhile_is f r j (fun i hi => by simpa using h (i + 1) (by omega)) (fun p hp => h2 p (by simpa using hp))]
/-- Ahead of where a key stands all are below it. -/
theorem st_below {l : List Pr} {key : ByteArray} {j : Nat} (h : j < st l key) : ∃ p, l[j]? = some p ∧ ltB p.k key = true := takeWhile_at _ l j h
theorem st_is {l : List Pr} {key : ByteArray} {j : Nat} (h : ∀ i, i < j → ∃ p, l[i]? = some p ∧ ltB p.k key = true) (h2 : ∀ p, l[j]? = some p → ltB p.k key = false) : st l key = j := takeWhile_is _ l j h h2
theorem st_not {l : List Pr} {key : ByteArray} {p : Pr} (h : l[st l key]? = some p) : ltB p.k key = false := by
  unfold st at h
  have : ∀ (l : List Pr) (p : Pr), l[(l.takeWhile fun p => ltB p.k key).length]? = some p → ltB p.k key = false := by
    intro l
    induction l with
    | nil => intro p hp; simp at hp
    | cons x r ih =>
      intro p hp
      rw [List.takeWhile_cons] at hp
      cases hx : ltB x.k key
      · simp [hx] at hp; subst hp; exact hx
      · simp [hx] at hp; exact ih p hp
  exact this l p h
theorem isB_some {l : List Pr} {key : ByteArray} (h : isB l key = true) : ∃ p, l[st l key]? = some p ∧ p.k = key ∧ getP l key = p ∧ st l key < l.length := by
  have h0 := h
  unfold isB at h
  split at h
  · rename_i p hp
    refine ⟨p, hp, (eq_iff _ _).1 h, ?_, ?_⟩
    · unfold getP; rw [if_pos h0, hp]; rfl
    · rcases Nat.lt_or_ge (st l key) l.length with h1 | h1
      · exact h1
      · rw [List.getElem?_eq_none h1] at hp; cases hp
  · cases h
theorem getP_none {l : List Pr} {key : ByteArray} (h : isB l key = false) : getP l key = zeroP := by unfold getP; rw [if_neg (by rw [h]; simp)]
end Go.Proofs.Ytfihcgimgngmhaa
/- Where a key stands: the program's find, the document's at. Conditions: the list lies in memory, its length has room. -/
namespace Go.Proofs.Ytfihcgimgngmhaa
open Go.RowKit
/-- Ahead of place k all keys are below it. -/
def Ahead (l : List Pr) (key : ByteArray) (k : Nat) : Prop := ∀ j, j < k → ∃ p, l[j]? = some p ∧ ltB p.k key = true
theorem Ahead.none_ (l : List Pr) (key : ByteArray) : Ahead l key 0 := fun j hj => absurd hj (by omega)
theorem Ahead.next {l : List Pr} {key : ByteArray} {k : Nat} {p : Pr} (h : Ahead l key k) (hp : l[k]? = some p) (hx : ltB p.k key = true) : Ahead l key (k + 1) := fun j hj => by
  rcases Nat.lt_or_ge j k with h1 | h1
  · exact h j h1
  · obtain rfl : j = k := by omega
    exact ⟨p, hp, hx⟩
/-- What find answers. -/
def foundV (l : List Pr) (key : ByteArray) : Value := .tuple #[.int .i64 (st l key : Nat), .bool (isB l key)]
theorem Ahead.here {l : List Pr} {key : ByteArray} {k : Nat} {p : Pr} (h : Ahead l key k) (hp : l[k]? = some p) (hx : ltB p.k key = false) {t : Bool} (ht : eqB p.k key = t) : foundV l key = .tuple #[.int .i64 (k : Nat), .bool t] := by
  have e := st_is h (fun q hq => by rw [hp] at hq; cases hq; exact hx)
  unfold foundV isB
  rw [e, hp]
  simp only [ht]
theorem Ahead.end_ {l : List Pr} {key : ByteArray} (h : Ahead l key l.length) : foundV l key = .tuple #[.int .i64 (l.length : Nat), .bool false] := by
  have e := st_is h (fun q hq => by rw [List.getElem?_eq_none (Nat.le_refl _)] at hq; cases hq)
  unfold foundV isB
  rw [e, List.getElem?_eq_none (Nat.le_refl _)]
end Go.Proofs.Ytfihcgimgngmhaa
/- What slices.Grow of nothing, and slices.Concat of slices of pairs, come to. Conditions: the slices lie in memory, their lengths have room. -/
namespace Go.Proofs.Ytfihcgimgngmhaa
open Go.RowKit
/-- A slice value that is the list l. -/
def Pin (w : World) (v : Value) (l : List Pr) : Prop := ∃ A c, v = .slice A l.length c ∧ (A = none → c = 0) ∧ l.length ≤ c ∧ c ≤ 9223372036854775807 ∧ Prs w A l
theorem Pin.below {w w' : World} {v : Value} {l : List Pr} (h : Pin w v l) (hb : Below w.heap.size w w') : Pin w' v l := by
  obtain ⟨A, c, e, h1, h2, h3, h4⟩ := h
  exact ⟨A, c, e, h1, h2, h3, h4.below hb⟩
theorem Pin.nil_ (w : World) : Pin w (.slice none 0 0) [] := ⟨none, 0, rfl, fun _ => rfl, Nat.le_refl _, by omega, Prs.nil_⟩
/-- A slice that Concat is given. -/
structure Src where
  A : Option Addr
  n : Nat
  c : Nat
  l : List Pr
structure Src.Ok (w : World) (s : Src) : Prop where
  len : s.l.length = s.n
  nil : s.A = none → s.c = 0
  lies : Prs w s.A s.l
def catP (ss : List Src) (k : Nat) : List Pr := (ss.take k).flatMap Src.l
theorem catP_succ {ss : List Src} {k : Nat} {s : Src} (h : ss[k]? = some s) : catP ss (k + 1) = catP ss k ++ s.l := by
  unfold catP
  rw [List.take_add_one, h, List.flatMap_append]
  simp
theorem catP_le {ss : List Src} {j k : Nat} (h : j ≤ k) : (catP ss j).length ≤ (catP ss k).length := by
  induction k with
  | zero => rw [show j = 0 by omega]; exact Nat.le_refl _
  | succ k ih =>
    rcases Nat.lt_or_ge k j with h1 | h1
    · rw [show j = k + 1 by omega]; exact Nat.le_refl _
    · refine Nat.le_trans (ih h1) ?_
      cases hs : ss[k]? with
      | none =>
        unfold catP
        rw [List.take_add_one, hs, List.flatMap_append]; simp
      | some s => rw [catP_succ hs, List.length_append]; omega
end Go.Proofs.Ytfihcgimgngmhaa
/- How arguments are read: slices of bytes, instances. No condition. -/
namespace Go.Proofs.Ytfihcgimgngmhaa
set_option maxRecDepth 100000
open Go.ChangeShapes Go.WideShapes Go.ChangeAt Go.RowKit Go.Joins
theorem own : ownKnob Try.prog.godebug = none := by kernel_rfl
theorem laidOut : laidOutB Try.prog = true := by kernel_rfl
theorem Try.cells26 : Try.prog.cellsOf 26 = 2 := by kernel_rfl
theorem inst_in {H : Type} {enc : TypeId × Value → H} {W : World} {base b0 : Nat} {spare : Nat → Bool} {held : Bool} {r : Reach} {v : Value} {d : DataW H} {p : List MemPlace} (hv : Value.okWide Try.prog W r b0 26 v) (h : DataW.Trod enc Try.prog W base spare held 26 v d p) :
    ∃ x y : Int, v = .agg #[.int .i64 x, .int .i64 y] ∧ (-9223372036854775808 ≤ x ∧ x ≤ 9223372036854775807) ∧ (-9223372036854775808 ≤ y ∧ y ≤ 9223372036854775807) := by
  obtain ⟨c0, c1, y0, y1, m, rfl, _, _, hy0, hy1⟩ := open_agg2 Try.underlying26 (by kernel_rfl) Try.cells26 hv h
  obtain ⟨x, e0, _, wx⟩ := DataW.trod_int Try.underlying3 hy0
  obtain ⟨y, e1, _, wy⟩ := DataW.trod_int Try.underlying3 hy1
  simp at e0 e1
  subst e0 e1
  exact ⟨x, y, rfl, bounds_i64 wx, bounds_i64 wy⟩
set_option maxRecDepth 100000 in
/-- A text that came in. -/
theorem str_in {H : Type} {enc : TypeId × Value → H} {W : World} {base b0 : Nat} {spare : Nat → Bool} {held : Bool} {r : Reach} {v : Value} {d : DataW H} {p : List MemPlace} {ts : List TypeId} {ds : List (DataW H)} {j : Nat}
    (hv : Value.okWide Try.prog W r b0 9 v) (h : DataW.Trod enc Try.prog W base spare held 9 v d p) (hsz : (DataW.weightsEach Try.prog ts ds).all (· ≤ reachBytes) = true) (ht : ts[j]? = some 9) (hd : ds[j]? = some d) :
    ∃ s : ByteArray, v = .string s ∧ s.size ≤ 140737488351232 := by
  obtain ⟨s, rfl, rfl, _, _⟩ := Go.ChangeMaps.open_string Try.underlying9 hv h
  have hs := sized_string hsz ht hd
  have hr : reachBytes = 140737488351232 := rfl
  exact ⟨s, rfl, by rw [hr] at hs; simpa using hs⟩
theorem Try.cells72 : Try.prog.cellsOf 72 = 2 := by kernel_rfl
/-- A span that came in. -/
theorem span_in {H : Type} {enc : TypeId × Value → H} {W : World} {base b0 : Nat} {spare : Nat → Bool} {held : Bool} {r : Reach} {v : Value} {d : DataW H} {p : List MemPlace} (hv : Value.okWide Try.prog W r b0 72 v) (h : DataW.Trod enc Try.prog W base spare held 72 v d p) :
    ∃ x y : ByteArray, v = .agg #[.string x, .string y] := by
  obtain ⟨c0, c1, y0, y1, m, rfl, _, _, hy0, hy1⟩ := open_agg2 Try.underlying72 (by kernel_rfl) Try.cells72 hv h
  obtain ⟨x, e0, _, _⟩ := DataW.trod_string Try.underlying9 hy0
  obtain ⟨y, e1, _, _⟩ := DataW.trod_string Try.underlying9 hy1
  simp at e0 e1
  subst e0 e1
  exact ⟨x, y, rfl⟩
end Go.Proofs.Ytfihcgimgngmhaa
/- Slices of structs that come in, whatever the struct; pairs. No condition. -/
namespace Go.Proofs.Ytfihcgimgngmhaa
set_option maxRecDepth 100000
open Go.ChangeShapes Go.WideShapes Go.ChangeAt Go.RowKit Go.Joins
theorem list_of {α : Type} {p : Nat → α → Prop} : ∀ n, (∀ j, j < n → ∃ y, p j y) → ∃ l : List α, l.length = n ∧ ∀ j y, l[j]? = some y → p j y
  | 0, _ => ⟨[], rfl, fun j y h => by simp at h⟩
  | n + 1, h => by
    obtain ⟨l, hl, hp⟩ := list_of n (fun j hj => h j (by omega))
    obtain ⟨y, hy⟩ := h n (by omega)
    refine ⟨l ++ [y], by simp [hl], fun j z hz => ?_⟩
    rcases Nat.lt_or_ge j n with h1 | h1
    · rw [List.getElem?_append_left (by omega)] at hz; exact hp j z hz
    · rw [List.getElem?_append_right (by omega), hl] at hz
      have h2 : j = n := by
        rcases Nat.eq_or_lt_of_le h1 with h2 | h2
        · exact h2.symm
        · rw [List.getElem?_eq_none (by simp; omega)] at hz; cases hz
      subst h2
      rw [Nat.sub_self] at hz
      have : y = z := by simpa using hz
      subst this; exact hy
theorem weights_all {H : Type} {P : Program} {e : TypeId} : ∀ {ds : List (DataW H)} {d : DataW H}, d ∈ ds → ∀ n ∈ d.weights P e, n ∈ DataW.weightsAll P e ds
  | x :: r, d, hd, n, hn => by
    rw [DataW.weightsAll, List.mem_append]
    rcases List.mem_cons.1 hd with rfl | hd
    · exact .inl hn
    · exact .inr (weights_all hd n hn)
/-- A slice of structs that came in: what each is read as, that they lie. -/
theorem els_in {α H : Type} {enc : TypeId × Value → H} {P : Program} {W : World} {t e : TypeId} {m by' : Nat} (f : α → List Value) (Ok : α → Prop) (hu : P.underlying t = some (.slice e)) (hc : P.cellsOf e = m) (hm0 : 0 < m) (hb : P.bytesOf e = by')
    (rd : ∀ {fuel : Nat} {cs : List Value} {x : DataW H × List MemPlace}, DataW.trod enc P W 0 (fun _ => true) true fuel e cs = some x → (∀ n ∈ x.1.weights P e, n ≤ reachBytes) → ∃ y : α, cs = f y ∧ Ok y)
    {A : Option Addr} {n c fuel : Nat} {x : DataW H × List MemPlace} (hf : DataW.trod enc P W 0 (fun _ => true) true fuel t [.slice A n c] = some x) (hw : ∀ n ∈ x.1.weights P t, n ≤ reachBytes) :
    ∃ l : List α, l.length = n ∧ n ≤ c ∧ c ≤ maxLen ∧ c * by' ≤ 140737488351232 ∧ (A = none → c = 0) ∧ (∀ y ∈ l, Ok y) ∧ Els m W A (l.map f) := by
  rcases Go.Deep.open_slice hu hf with ⟨hcs, _⟩ | ⟨a, len, cap, m', nf, D, Pl, hcs, _, hl, hm, hmm, hx, hi⟩
  · injection hcs with hcs _
    injection hcs with h1 h2 h3
    subst h1 h2 h3
    exact ⟨[], rfl, Nat.le_refl _, by unfold maxLen; omega, by omega, fun _ => rfl, fun _ h => absurd h (by simp), Els.nil_⟩
  · injection hcs with hcs _
    injection hcs with h1 h2 h3
    subst h1 h2 h3
    have hmc : m' = c := by simpa using hmm
    subst hmc
    have hx1 := congrArg Prod.fst hx
    dsimp only at hx1
    have hroom : m' * by' ≤ 140737488351232 := by
      have := hw ((((List.range n).map D).length + ((List.range (m' - n)).map fun j => D (n + j)).length) * P.bytesOf e) (by rw [hx1]; unfold DataW.weights; rw [hu]; exact List.mem_cons_self ..)
      rw [hb] at this
      simp only [List.length_map, List.length_range] at this
      rw [show n + (m' - n) = m' by omega] at this
      exact this
    have each : ∀ j, j < n → ∃ y : α, Ok y ∧ ∃ b off, a = ⟨b, off, none⟩ ∧ b < W.heap.size ∧ ∀ i, i < m → W.cell? ⟨b, off + j * m + i, none⟩ = (f y)[i]? := by
      intro j hj
      obtain ⟨cs', hc', ht'⟩ := hi j (by omega)
      rw [hc] at hc'
      obtain ⟨_, hlen, hat⟩ := World.cells?_some hc'
      obtain ⟨y, rfl, ok⟩ := rd ht' fun k hk => by
        apply hw
        rw [hx1]
        unfold DataW.weights
        rw [hu]
        refine List.mem_cons_of_mem _ (List.mem_append_left _ (weights_all (d := D j) ?_ k hk))
        exact List.mem_map.2 ⟨j, List.mem_range.2 hj, rfl⟩
      have hsp : a.spot = none := by
        obtain ⟨cs0, hc0, ht0⟩ := hi 0 (by omega)
        rw [hc] at hc0
        obtain ⟨_, hlen0, hat0⟩ := World.cells?_some hc0
        have h0 := hat0 0 (by omega)
        rw [List.getElem?_eq_getElem (by omega)] at h0
        have := World.cell?_spot h0
        unfold Addr.add at this
        simpa using this
      obtain ⟨b, off, spot⟩ := a
      obtain rfl : spot = none := hsp
      refine ⟨y, ok, b, off, rfl, ?_, fun i hi => ?_⟩
      · have a0 := hat 0 (by omega)
        rw [Go.WideShapes.add_plain, Go.WideShapes.add_plain, List.getElem?_eq_getElem (by omega)] at a0
        rcases Nat.lt_or_ge b W.heap.size with h1 | h1
        · exact h1
        · simp [World.cell?, Array.getElem?_eq_none h1] at a0
      · have a0 := hat i hi
        rw [Go.WideShapes.add_plain, Go.WideShapes.add_plain] at a0
        exact a0
    obtain ⟨l, hln, hl2⟩ := list_of n each
    refine ⟨l, hln, hl, hm, hroom, (fun h => by cases h), fun y hy => ?_, fun hp => ?_⟩
    · obtain ⟨j, hj⟩ := List.getElem?_of_mem hy
      exact (hl2 j y hj).1
    · rw [List.length_map] at hp
      obtain ⟨_, b, off, rfl, hb', _⟩ := hl2 0 l[0] (List.getElem?_eq_getElem hp)
      refine ⟨b, off, rfl, hb', fun k x hk i hi => ?_⟩
      rw [List.getElem?_map, Option.map_eq_some_iff] at hk
      obtain ⟨y, hy, rfl⟩ := hk
      obtain ⟨_, b2, off2, e2, _, h2⟩ := hl2 k y hy
      cases e2
      exact h2 i hi
theorem one_cell {α : Type} {l : List α} {n : Nat} {x : α} (h : (l.drop n).take 1 = [x]) : l[n]? = some x := by
  rcases Nat.lt_or_ge n l.length with h1 | h1
  · rw [List.drop_eq_getElem_cons h1] at h
    injection h with h _
    rw [List.getElem?_eq_getElem h1, h]
  · rw [List.drop_of_length_le h1] at h; cases h
theorem Try.cells3 : Try.prog.cellsOf 3 = 1 := by kernel_rfl
theorem Try.cells9 : Try.prog.cellsOf 9 = 1 := by kernel_rfl
/-- A number that an int holds. -/
def I64 (n : Int) : Prop := -9223372036854775808 ≤ n ∧ n ≤ 9223372036854775807
/-- A slice of pairs that came in. -/
structure PairsIn (w : World) (A : Option Addr) (n c : Nat) (l : List Pr) : Prop where
  len : l.length = n
  le : n ≤ c
  room : c ≤ 3518437208780
  nil : A = none → c = 0
  ok : ∀ y ∈ l, I64 y.n
  lies : Prs w A l
end Go.Proofs.Ytfihcgimgngmhaa
