/- Small words that all texts share. No condition: nothing here speaks of a program. -/
import Derived.Laws.BitsAllLaws
import Derived.IntWalk
import Derived.Below
import Derived.Laws.Strings
import Derived.Laws.Concat
import Derived.BigFrame
import Derived.WalkKit
import Derived.WalkSpells
import Derived.WalkLawsBesides
import Derived.Deep.Draws
import Derived.Laws.AppendOwnNone
import Derived.Deep.DeepAppendWide
import Derived.Test.YtkmcnhjfnjikaaaGreatDoorRows
import Derived.LoopTactic
import Derived.BigQuiet
import Derived.Deep.QuietTactic
import Derived.Deep.DeepCutAuto
import Derived.Laws.CopyOwn
import Derived.ProofKit
import Derived.OpenShut
import Derived.SizedLaws
import Derived.Lib.SmallJoins
import Derived.Deep.AppendLies
import Derived.Deep.Quiet
import Derived.Deep.RegionHeld3
namespace Go.Proofs.YtkmcnhjfnjikaaaGreatDoor
open Go.RowKit
theorem ret_int {k : IntKind} {a b : Int} (h : a = b) : Ending.returned (.int k a) = .returned (.int k b) := by rw [h]
theorem ret_bool {a b : Bool} (h : a = b) : Ending.returned (.bool a) = .returned (.bool b) := by rw [h]
theorem hide {p : Prop} (h : p) : Hid p := h
end Go.Proofs.YtkmcnhjfnjikaaaGreatDoor
/- Texts in the order of their bytes, and spans of them, in plain words. No condition: nothing here speaks of a program. -/
namespace Go.Proofs.YtkmcnhjfnjikaaaGreatDoor
open Go.RowKit
/-- Is the text below the other one. -/
def ltB (a b : ByteArray) : Bool := Op.bytesLess a.toList b.toList
/-- Is the text empty. -/
def nilB (a : ByteArray) : Bool := a.toList.isEmpty
/-- Are the texts the same. -/
def eqB (a b : ByteArray) : Bool := a.toList == b.toList
/-- The lowest text above k. -/
def nextT (k : ByteArray) : ByteArray := k ++ ⟨#[0]⟩
/-- Is the text below the bound, the empty bound being above all. -/
def inB (k h : ByteArray) : Bool := nilB h || ltB k h
/-- Is the one bound not above the other. -/
def endB (h m : ByteArray) : Bool := nilB m || (!nilB h && (ltB h m || eqB h m))
def emB (lo hi : ByteArray) : Bool := !inB lo hi
def hasB (lo hi k : ByteArray) : Bool := !ltB k lo && inB k hi
def meetB (la ha lb hb : ByteArray) : Bool := !emB la ha && (!emB lb hb && (inB la hb && inB lb ha))
def covB (la ha lb hb : ByteArray) : Bool := emB lb hb || (!ltB lb la && endB hb ha)
/-- The document's own. -/
def leB (a b : ByteArray) : Bool := ltB a b || eqB a b
def remB (lo hi : ByteArray) : Bool := !nilB hi && leB hi lo
def rhasB (lo hi k : ByteArray) : Bool := !ltB k lo && (nilB hi || ltB k hi)
def rmeetB (la ha lb hb : ByteArray) : Bool := !(remB la ha || remB lb hb) && ((nilB ha || ltB lb ha) && (nilB hb || ltB la hb))
def rcovB (la ha lb hb : ByteArray) : Bool := remB lb hb || (!ltB lb la && (nilB ha || (!nilB hb && leB hb ha)))
/-- The greater one. -/
def maxT (a b : ByteArray) : ByteArray := if ltB a b = true then b else a
/-- The lesser bound. -/
def minT (a b : ByteArray) : ByteArray := if endB a b = true then a else b
theorem run_max_texts {P : Program} (w : World) (ts : Array TypeId) (t : TypeId) (x y : ByteArray) : (Builtin.max_ ts t #[.string x, .string y]).run P w = .ok (.string (maxT x y)) w := by
  cases h : ltB x y <;> (unfold ltB at h; simp [Builtin.max_, Builtin.max2, Op.stringOp, asBool, maxT, ltB, h])
end Go.Proofs.YtkmcnhjfnjikaaaGreatDoor
/- Texts stand in a line; of finitely many each has a place, so that what is said of spans is said of numbers. No condition: nothing here speaks of a program. -/
namespace Go.Proofs.YtkmcnhjfnjikaaaGreatDoor
open Go.RowKit
theorem less_self : ∀ x : List UInt8, Op.bytesLess x x = false
  | [] => rfl
  | a :: x => by simp [Op.bytesLess, less_self x, UInt8.lt_irrefl]
theorem less_or : ∀ x y : List UInt8, Op.bytesLess x y = false → Op.bytesLess y x = false → x = y
  | [], [], _, _ => rfl
  | [], _ :: _, h, _ => by simp [Op.bytesLess] at h
  | _ :: _, [], _, h => by simp [Op.bytesLess] at h
  | a :: x, b :: y, h, h' => by
    simp [Op.bytesLess] at h h'
    have hab : a = b := UInt8.le_antisymm h'.1 h.1
    subst hab
    rw [less_or x y (h.2 rfl) (h'.2 rfl)]
theorem less_trans : ∀ x y z : List UInt8, Op.bytesLess x y = true → Op.bytesLess y z = true → Op.bytesLess x z = true
  | _, _, [], _, h => by cases ‹List UInt8› <;> simp [Op.bytesLess] at h
  | [], _, _ :: _, _, _ => rfl
  | _ :: _, [], _ :: _, h, _ => by simp [Op.bytesLess] at h
  | a :: x, b :: y, c :: z, h, h' => by
    simp [Op.bytesLess] at h h' ⊢
    rcases h with h | ⟨rfl, h⟩
    · rcases h' with h' | ⟨rfl, _⟩
      · exact .inl (UInt8.lt_trans h h')
      · exact .inl h
    · rcases h' with h' | ⟨rfl, h'⟩
      · exact .inl h'
      · exact .inr ⟨rfl, less_trans x y z h h'⟩
theorem less_next : ∀ x y : List UInt8, Op.bytesLess x (y ++ [0]) = !Op.bytesLess y x
  | [], [] => rfl
  | [], _ :: _ => rfl
  | a :: x, [] => by cases x <;> simp [Op.bytesLess]
  | a :: x, b :: y => by
    simp only [List.cons_append, Op.bytesLess, less_next x y]
    by_cases h1 : a < b
    · have h2 : ¬ b < a := UInt8.lt_asymm h1
      have h3 : ¬ b = a := fun e => by subst e; exact UInt8.lt_irrefl _ h1
      simp [h1, h2, h3]
    · by_cases h2 : b < a
      · have h3 : ¬ a = b := fun e => by subst e; exact UInt8.lt_irrefl _ h2
        simp [h1, h2, h3]
      · have h3 : a = b := UInt8.le_antisymm (UInt8.not_lt.1 h2) (UInt8.not_lt.1 h1)
        subst h3
        simp [h1]
theorem text_ext {a b : ByteArray} (h : a.toList = b.toList) : a = b := by
  rw [ByteArray.toList_eq, ByteArray.toList_eq] at h
  exact ByteArray.ext (Array.toList_inj.1 h)
theorem lt_self (a : ByteArray) : ltB a a = false := less_self _
theorem lt_or {a b : ByteArray} (h : ltB a b = false) (h' : ltB b a = false) : a = b := text_ext (less_or _ _ h h')
theorem lt_trans {a b c : ByteArray} (h : ltB a b = true) (h' : ltB b c = true) : ltB a c = true := less_trans _ _ _ h h'
/-- The empty text. -/
def nilT : ByteArray := ⟨#[]⟩
theorem nil_list : nilT.toList = [] := ByteArray.toList_eq _
theorem lt_nil (a : ByteArray) : ltB a nilT = false := by
  unfold ltB; rw [nil_list]; cases a.toList <;> rfl
theorem nil_eq (a : ByteArray) : nilB a = eqB a nilT := by
  unfold nilB eqB; rw [nil_list]; cases a.toList <;> rfl
theorem eq_iff (a b : ByteArray) : eqB a b = true ↔ a = b := by
  unfold eqB; rw [beq_iff_eq]; exact ⟨text_ext, fun h => by rw [h]⟩
theorem next_list (a : ByteArray) : (a ++ ⟨#[0]⟩).toList = a.toList ++ [0] := by
  rw [ByteArray.toList_eq, ByteArray.toList_eq]; simp
/-- How many of the texts L are below x. -/
def rk (L : List ByteArray) (x : ByteArray) : Nat := L.countP fun y => ltB y x
theorem rk_le (L : List ByteArray) {a b : ByteArray} (h : ltB a b = true) : rk L a ≤ rk L b :=
  List.countP_mono_left fun _ _ hx => lt_trans hx h
theorem rk_lt {L : List ByteArray} {a b : ByteArray} (ha : a ∈ L) (h : ltB a b = true) : rk L a < rk L b := by
  induction L with
  | nil => cases ha
  | cons c L ih =>
    have hm := rk_le L h
    unfold rk at hm ih ⊢
    rw [List.countP_cons, List.countP_cons]
    by_cases hc : a ∈ L
    · have h1 := ih hc
      by_cases h2 : ltB c a = true
      · rw [if_pos h2, if_pos (lt_trans h2 h)]; omega
      · rw [if_neg h2]; split <;> omega
    · obtain rfl : a = c := by
        rcases List.mem_cons.1 ha with h1 | h1
        · exact h1
        · exact absurd h1 hc
      rw [if_neg (by rw [lt_self]; simp), if_pos h]; omega
theorem rk_iff {L : List ByteArray} {a b : ByteArray} (ha : a ∈ L) (hb : b ∈ L) : ltB a b = decide (rk L a < rk L b) := by
  cases h : ltB a b
  · symm; rw [decide_eq_false_iff_not]
    cases h' : ltB b a
    · rw [lt_or h h']; omega
    · have := rk_lt hb h'; omega
  · have := rk_lt ha h; symm; rw [decide_eq_true_iff]; exact this
theorem rk_inj {L : List ByteArray} {a b : ByteArray} (ha : a ∈ L) (hb : b ∈ L) : eqB a b = decide (rk L a = rk L b) := by
  rw [Bool.eq_iff_iff, eq_iff, decide_eq_true_iff]
  refine ⟨fun h => by rw [h], fun h => ?_⟩
  have h1 := rk_iff ha hb
  have h2 := rk_iff hb ha
  rw [h] at h1 h2
  exact lt_or (by rw [h1]; simp) (by rw [h2]; simp)
theorem rk_nil (L : List ByteArray) : rk L nilT = 0 := by
  unfold rk; rw [List.countP_eq_zero]; intro x _; rw [lt_nil]; simp
theorem rk_none {L : List ByteArray} {a : ByteArray} (h0 : nilT ∈ L) (ha : a ∈ L) : nilB a = decide (rk L a = 0) := by
  rw [nil_eq, rk_inj ha h0, rk_nil]
end Go.Proofs.YtkmcnhjfnjikaaaGreatDoor
/- Words for slices of bytes: what a slice reads as, and that it stays. No condition: nothing here speaks of one function. -/
namespace Go.Proofs.YtkmcnhjfnjikaaaGreatDoor
open Go.RowKit

/-- Place k of a list of numbers. -/
def ix (zs : List Int) (k : Nat) : Int := zs.getD k 0
/-- The list as cells of bytes. -/
def cellsOf (zs : List Int) : List Value := zs.map (Value.int .u8)
/-- The numbers are bytes. -/
def Octets (zs : List Int) : Prop := ∀ z, z ∈ zs → 0 ≤ z ∧ z ≤ 255
/-- From address A on there lie the bytes zs, below the heap's end. -/
def Lies (w : World) (A : Option Addr) (zs : List Int) : Prop :=
  0 < zs.length → ∃ b off, A = some ⟨b, off, none⟩ ∧ b < w.heap.size ∧ ∀ k, k < zs.length → w.cell? ⟨b, off + k, none⟩ = some (.int .u8 (ix zs k))

theorem ix_lt (zs : List Int) {k : Nat} (h : k < zs.length) : ix zs k = zs[k] := by
  unfold ix; rw [List.getD_eq_getElem?_getD, List.getElem?_eq_getElem h]; rfl
theorem ix_ge (zs : List Int) {k : Nat} (h : zs.length ≤ k) : ix zs k = 0 := by
  unfold ix; rw [List.getD_eq_getElem?_getD, List.getElem?_eq_none h]; rfl
theorem Octets.ix {zs : List Int} (h : Octets zs) (k : Nat) : 0 ≤ ix zs k ∧ ix zs k ≤ 255 := by
  by_cases hk : k < zs.length
  · rw [ix_lt zs hk]; exact h _ (List.getElem_mem hk)
  · rw [ix_ge zs (by omega)]; omega
theorem ext_ix {zs ys : List Int} (hl : zs.length = ys.length) (h : ∀ k, k < zs.length → ix zs k = ix ys k) : zs = ys := by
  apply List.ext_getElem hl
  intro k h1 h2
  have := h k h1
  rwa [ix_lt zs h1, ix_lt ys h2] at this
theorem length_cellsOf (zs : List Int) : (cellsOf zs).length = zs.length := List.length_map _
theorem cellsOf_one {zs : List Int} : ∀ u ∈ cellsOf zs, u.oneCell' = true := by
  intro u hu
  unfold cellsOf at hu
  obtain ⟨z, _, rfl⟩ := List.mem_map.1 hu
  rfl
theorem cellsOf_append (zs ys : List Int) : cellsOf (zs ++ ys) = cellsOf zs ++ cellsOf ys := List.map_append
theorem cellsOf_at (zs : List Int) {k : Nat} (h : k < zs.length) : (cellsOf zs)[k]? = some (.int .u8 (ix zs k)) := by
  unfold cellsOf; rw [List.getElem?_map, List.getElem?_eq_getElem h, ix_lt zs h]; rfl
theorem cellsOf_some {zs : List Int} {k : Nat} {u : Value} (h : (cellsOf zs)[k]? = some u) : k < zs.length ∧ u = .int .u8 (ix zs k) := by
  have hk : k < zs.length := by
    rcases Nat.lt_or_ge k zs.length with h1 | h1
    · exact h1
    · rw [List.getElem?_eq_none (by rw [length_cellsOf]; exact h1)] at h; cases h
  rw [cellsOf_at zs hk] at h
  exact ⟨hk, (Option.some.inj h).symm⟩

section
variable {w w' : World} {A : Option Addr} {zs : List Int}
theorem Lies.none_ : Lies w A [] := fun h => absurd h (by simp)
theorem Lies.nil_ (h : Lies w A zs) (hA : A = none) : zs.length = 0 := by
  rcases Nat.eq_zero_or_pos zs.length with h0 | h0
  · exact h0
  · obtain ⟨_, _, e, _⟩ := h h0
    rw [hA] at e; cases e
theorem Lies.at_ {k : Nat} (h : Lies w A zs) (hk : k < zs.length) : ∃ b off, A = some ⟨b, off, none⟩ ∧ b < w.heap.size ∧ w.cell? ⟨b, off + k, none⟩ = some (.int .u8 (ix zs k)) := by
  obtain ⟨b, off, e, hb, hc⟩ := h (by omega)
  exact ⟨b, off, e, hb, hc k hk⟩
theorem Lies.below (h : Lies w A zs) (hb : Below w.heap.size w w') : Lies w' A zs := fun hn => by
  obtain ⟨b, off, e, hlt, hc⟩ := h hn
  exact ⟨b, off, e, Nat.lt_of_lt_of_le hlt hb.size, fun k hk => (hb.cell (p := ⟨b, off + k, none⟩) hlt).trans (hc k hk)⟩
theorem Lies.drew (h : Lies w A zs) : Lies w.drew A zs := h
theorem Lies.drewN (h : Lies w A zs) (n : Nat) : Lies (w.drewN n) A zs := h
theorem Lies.alloc (h : Lies w A zs) (o : Obj) : Lies (w.alloc o) A zs := h.below ((Below.refl _ _).alloc (Nat.le_refl _) o)
theorem Lies.take (h : Lies w A zs) (n : Nat) : Lies w A (zs.take n) := fun hn => by
  have hl : (zs.take n).length ≤ zs.length := by rw [List.length_take]; omega
  obtain ⟨b, off, e, hlt, hc⟩ := h (by omega)
  refine ⟨b, off, e, hlt, fun k hk => ?_⟩
  have : ix (zs.take n) k = ix zs k := by
    rw [ix_lt _ hk, ix_lt zs (by omega), List.getElem_take]
  rw [this]
  exact hc k (by omega)
/-- The address of a part, from place i on: the model keeps the old one where the room ends there. Behind a name, since the walk parts at an if. -/
def partA (A : Option Addr) (c i : Nat) : Option Addr := if c = i then A else Option.map (fun x => x.add i) A
/-- A part: its address as the model reckons it. -/
theorem Lies.part {c : Nat} (h : Lies w A zs) (hc : zs.length ≤ c) (i k : Nat) : Lies w (partA A c i) ((zs.drop i).take k) := fun hn => by
  rw [List.length_take, List.length_drop] at hn
  obtain ⟨b, off, e, hlt, hcell⟩ := h (by omega)
  have hne : ¬ c = i := by omega
  unfold partA
  rw [if_neg hne, e]
  refine ⟨b, off + i, by cases i <;> rfl, hlt, fun j hj => ?_⟩
  rw [List.length_take, List.length_drop] at hj
  have e2 : ix ((zs.drop i).take k) j = ix zs (i + j) := by
    rw [ix_lt _ (by rw [List.length_take, List.length_drop]; omega), ix_lt zs (by omega), List.getElem_take, List.getElem_drop]
  rw [e2, Nat.add_assoc]
  exact hcell (i + j) (by omega)
theorem Lies.rest {c : Nat} (h : Lies w A zs) (hc : zs.length ≤ c) (i : Nat) : Lies w (partA A c i) (zs.drop i) := by
  have := h.part hc i (zs.length - i)
  rwa [List.take_of_length_le (by rw [List.length_drop]; exact Nat.le_refl _)] at this
theorem Lies.cells {b off : Nat} (h : Lies w (some ⟨b, off, none⟩) zs) : ∀ j u, (cellsOf zs)[j]? = some u → w.cell? ((⟨b, off, none⟩ : Addr).add j) = some u := by
  intro j u hj
  obtain ⟨hk, rfl⟩ := cellsOf_some hj
  obtain ⟨b', off', e, _, hc⟩ := h.at_ hk
  injection e with e
  injection e with e1 e2 _
  subst e1 e2
  rcases j with _ | j
  · exact hc
  · exact hc
theorem Lies.of_own {base : Nat} {e : TypeId} {n c : Nat} (h : w.ownsRow base e 1 (.slice A n c) n (cellsOf zs)) : Lies w A zs := by
  intro hn
  have hl : zs.length = n := by have := h.1; rw [length_cellsOf] at this; omega
  rcases h.2 with ⟨_, h0⟩ | ⟨g, cap, cur, hv, _, hh, _⟩
  · omega
  · injection hv with hA _ hc
    subst hA hc
    refine ⟨g, 0, rfl, ?_, fun k hk => ?_⟩
    · rcases Nat.lt_or_ge g w.heap.size with h1 | h1
      · exact h1
      · rw [Array.getElem?_eq_none h1] at hh; cases hh
    · have := h.cellAt k (by omega)
      rw [Nat.zero_add, this, cellsOf_at zs hk]
end
theorem own_shape {w : World} {base : Nat} {e : TypeId} {v : Value} {n : Nat} {xs : List Value} (h : w.ownsRow base e 1 v n xs) : ∃ A c, v = .slice A n c ∧ (A = none → c = 0) := by
  rcases h.2 with ⟨rfl, rfl⟩ | ⟨g, cap, cur, rfl, _⟩
  · exact ⟨none, 0, rfl, fun _ => rfl⟩
  · exact ⟨_, cap, rfl, fun h => by cases h⟩
/-- append of a slice that lies anywhere, nil or not, onto a row of the call's own. -/
theorem wpList_append_lies {P : Program} {w : World} {ops : Array Oper} {rest : List Oper} {o : Oper} {a : Act} {Q : Exit → Act → World → Prop} (hgd : o.guard = none) (s x : Operand) (t : TypeId)
    (ho : o.op = .call { callee := .builtin .append, args := #[s, x], argTypes := #[t, t] })
    (base : Nat) (e : TypeId) (i : TypeInfo) (z : Value) (ht : P.underlying t = some (.slice e)) (hi : P.info? e = some i) (hz : i.zero = some z) (hsize : i.size = 1) (hby : i.bytes = 1) (hzs : z.cells.size = 1)
    (v : Value) (n : Nat) (xs : List Int) (hs : a.eval s = v) (hown : w.ownsRow base e 1 v n (cellsOf xs))
    (A : Option Addr) (m c : Nat) (zs : List Int) (hx : a.eval x = .slice A m c) (hm : zs.length = m) (hc : A = none → c = 0) (hl : Lies w A zs) (hb : n + m ≤ 200000000000000) (hbase : base ≤ w.heap.size)
    (h : ∀ v' w', w'.ownsRow base e 1 v' (n + m) (cellsOf (xs ++ zs)) → Below base w w' → wpList P ops Q rest (a.put o.dst v') w') : wpList P ops Q (o :: rest) a w := by
  subst hm
  rcases A with _ | ad
  · have h0 := hl.nil_ rfl
    have hz0 : zs = [] := List.eq_nil_of_length_eq_zero h0
    subst hz0
    obtain rfl := hc rfl
    exact wpList_append_own_none hgd s x t ho base e i 1 ht hi v n (cellsOf xs) hs hown hx (h v w (by simpa using hown) (Below.refl _ _))
  · refine wpList_append_own_wide w hgd s x t ho base e i z 1 1 ht hi hz hsize hby hzs (by omega) v n (cellsOf xs) hs hown ad zs.length c (cellsOf zs) hx (by rw [length_cellsOf]; omega) ?_ cellsOf_one (by unfold maxLen; omega) (by omega) hbase ?_
    · intro j u hj
      obtain ⟨hk, _⟩ := cellsOf_some hj
      obtain ⟨b, off, e', _⟩ := hl (by omega)
      injection e' with e'
      subst e'
      exact Lies.cells hl j u hj
    · intro v' w' h1 h2 _
      exact h v' w' (by rw [cellsOf_append]; exact h1) ((Below.refl _ _).grown h2 hbase (fun k hk => (hown.lt k hk).1))
theorem lies_one (w : World) (z : Int) (e : TypeId) : Lies (w.alloc (.cells #[.int .u8 z] e)) (some ⟨w.heap.size, 0, none⟩) [z] := fun _ => by
  refine ⟨w.heap.size, 0, rfl, by simp, fun k hk => ?_⟩
  have : k = 0 := by simp at hk; omega
  subst this
  exact cell_one_new w _ _ 0 _ rfl
/-- A literal's block, marked or not. -/
theorem lies_lit (w : World) (zs : List Int) (e : TypeId) (fr : Nat × Nat) : Lies (w.alloc (.cells (cellsOf zs).toArray e fr)) (some ⟨w.heap.size, 0, none⟩) zs := fun _ => by
  refine ⟨w.heap.size, 0, rfl, by simp, fun k hk => ?_⟩
  rw [Nat.zero_add, ← cellsOf_at zs hk]
  simp only [World.cell?, World.alloc, Array.getElem?_push, if_true]; simp
/-- n times z: behind a name, since the walk writes a list of 80 out. -/
def pad (n : Nat) (z : Int) : List Int := List.replicate n z
theorem length_pad (n : Nat) (z : Int) : (pad n z).length = n := List.length_replicate
theorem pad_drop (n m : Nat) (z : Int) : (pad (n + m) z).drop n = pad m z := by unfold pad; rw [List.drop_replicate]; congr 1; omega
theorem ix_pad_right (zs : List Int) (n : Nat) (z : Int) {k : Nat} (h1 : zs.length ≤ k) (h2 : k < zs.length + n) : ix (zs ++ pad n z) k = z := by
  have h3 : k < (zs ++ pad n z).length := by rw [List.length_append, length_pad]; exact h2
  rw [ix_lt _ h3, List.getElem_append_right h1]
  unfold pad; rw [List.getElem_replicate]
theorem kept_refl (a : World) : Below a.heap.size a a := Below.refl _ _
theorem kept_trans {a b c : World} (h : Below a.heap.size a b) (g : Below b.heap.size b c) : Below a.heap.size a c := h.trans (g.mono h.size)
theorem kept_alloc {a b : World} (h : Below a.heap.size a b) (o : Obj) : Below a.heap.size a (b.alloc o) := h.alloc h.size o
theorem kept_drewN {a b : World} (h : Below a.heap.size a b) (n : Nat) : Below a.heap.size a (b.drewN n) := ⟨h.os, h.tape, h.output, h.size, h.block⟩
theorem drewN_zero (w : World) : w.drewN 0 = w := rfl
theorem below_drewN' {B : Nat} {a w : World} (h : Below B a w) (n : Nat) : Below B a (w.drewN n) := ⟨h.os, h.tape, h.output, h.size, h.block⟩
end Go.Proofs.YtkmcnhjfnjikaaaGreatDoor
/- Blocks that are known whole, and what stays of them. No condition. -/
namespace Go.Proofs.YtkmcnhjfnjikaaaGreatDoor
open Go.RowKit
/-- Block g is just these cells. -/
def Row (w : World) (g : Nat) (t : TypeId) (cs : Array Value) : Prop := w.heap[g]? = some (.cells cs t (0, 0))
theorem Row.lt {w : World} {g : Nat} {t : TypeId} {cs : Array Value} (h : Row w g t cs) : g < w.heap.size := by
  rcases Nat.lt_or_ge g w.heap.size with h1 | h1
  · exact h1
  · unfold Row at h; rw [Array.getElem?_eq_none h1] at h; cases h
theorem Row.cell {w : World} {g : Nat} {t : TypeId} {cs : Array Value} (h : Row w g t cs) (i : Nat) : w.cell? ⟨g, i, none⟩ = cs[i]? := cell_of_row w g i cs t (0, 0) h
theorem Row.free {w : World} {g : Nat} {t : TypeId} {cs : Array Value} (h : Row w g t cs) (i : Nat) : w.frozen? ⟨g, i, none⟩ = false := by
  unfold Row at h; simp [World.frozen?, h]
theorem Row.new (w : World) (t : TypeId) (cs : Array Value) : Row (w.alloc (.cells cs t)) w.heap.size t cs := by
  unfold Row
  show (w.heap.push _)[w.heap.size]? = _
  rw [Array.getElem?_push, if_pos rfl]
theorem Row.put {w : World} {g : Nat} {t : TypeId} {cs : Array Value} (h : Row w g t cs) (i : Nat) (u : Value) : Row (w.setCell ⟨g, i, none⟩ u) g t (cs.setIfInBounds i u) := by
  unfold Row at h ⊢; simp [World.setCell, Array.getElem?_modify, h]
theorem Row.same {w w' : World} {g : Nat} {t : TypeId} {cs : Array Value} (h : Row w g t cs) (e : w'.heap[g]? = w.heap[g]?) : Row w' g t cs := e.trans h
theorem Row.below {w w' : World} {B g : Nat} {t : TypeId} {cs : Array Value} (h : Row w g t cs) (hb : Below B w w') (hl : g < B) : Row w' g t cs := (hb.block g hl).trans h
theorem Row.grown {w w' : World} {row : Option Nat} {g : Nat} {t : TypeId} {cs : Array Value} (h : Row w g t cs) (hg : w.grownBy w' row) (hne : some g ≠ row) : Row w' g t cs := (hg.block g h.lt hne).trans h
theorem Row.alloc {w : World} {g : Nat} {t : TypeId} {cs : Array Value} (h : Row w g t cs) (o : Obj) : Row (w.alloc o) g t cs := h.grown (World.grownBy_alloc w o none) (by simp)
theorem Row.drewN {w : World} {g : Nat} {t : TypeId} {cs : Array Value} (h : Row w g t cs) (n : Nat) : Row (w.drewN n) g t cs := h
theorem Row.drew {w : World} {g : Nat} {t : TypeId} {cs : Array Value} (h : Row w g t cs) : Row w.drew g t cs := h
theorem grown_trans {a b c : World} {row : Option Nat} (h : a.grownBy b row) (k : b.grownBy c row) : a.grownBy c row :=
  ⟨k.os.trans h.os, k.tape.trans h.tape, k.output.trans h.output, Nat.le_trans h.size k.size, fun i hi hr => (k.block i (Nat.lt_of_lt_of_le hi h.size) hr).trans (h.block i hi hr)⟩
theorem grown_refl (w : World) (row : Option Nat) : w.grownBy w row := ⟨rfl, rfl, rfl, Nat.le_refl _, fun _ _ _ => rfl⟩
theorem grown_drewN {a b : World} {row : Option Nat} (h : a.grownBy b row) (n : Nat) : a.grownBy (b.drewN n) row := ⟨h.os, h.tape, h.output, h.size, h.block⟩
theorem grown_drew {a b : World} {row : Option Nat} (h : a.grownBy b row) : a.grownBy b.drew row := ⟨h.os, h.tape, h.output, h.size, h.block⟩
theorem grown_alloc {a b : World} {row : Option Nat} (h : a.grownBy b row) (o : Obj) : a.grownBy (b.alloc o) row := grown_trans h (World.grownBy_alloc b o row)
theorem grown_put {a b : World} {g : Nat} (h : a.grownBy b (some g)) (i : Nat) (u : Value) : a.grownBy (b.setCell ⟨g, i, none⟩ u) (some g) :=
  grown_trans h ⟨rfl, rfl, rfl, by simp [World.setCell], fun k _ hr => Below.heap_setCell b ⟨g, i, none⟩ u k (fun e => hr (by rw [e]))⟩
/-- What turns no old block turns none but g. -/
theorem grown_any {a b : World} {row : Option Nat} (h : a.grownBy b none) : a.grownBy b row := ⟨h.os, h.tape, h.output, h.size, fun k hk _ => h.block k hk (by simp)⟩
theorem grown_below {a b : World} (h : Below a.heap.size a b) : a.grownBy b none := ⟨h.os, h.tape, h.output, h.size, fun k hk _ => h.block k hk⟩
theorem below_grown {a b : World} (h : a.grownBy b none) : Below a.heap.size a b := ⟨h.os, h.tape, h.output, h.size, fun k hk => h.block k hk (by simp)⟩
end Go.Proofs.YtkmcnhjfnjikaaaGreatDoor
/- What Same comes to over two slices of bytes: are the lists the same. Conditions: each lies in memory, its length has room. -/
namespace Go.Proofs.YtkmcnhjfnjikaaaGreatDoor
open Go.RowKit
theorem Tryz.info5 : (Tryz.prog.info? 5).map (fun i => (i.zero, i.size, i.bytes)) = some (some (.int .u8 0), 1, 1) := by kernel_rfl
set_option maxHeartbeats 400000 in
theorem same_any (A B : Option Addr) (n m c d : Nat) (zs ys : List Int) (w : World) (hn : zs.length = n) (hm : ys.length = m) (hz : Lies w A zs) (hy : Lies w B ys) (ln : n ≤ 4611686018427387904) (lm : m ≤ 4611686018427387904) :
    Calls Tryz.prog 58 #[.slice A n c, .slice B m d] w fun e w' => e = .returned (.bool (decide (zs = ys))) ∧ ∃ q, w' = w.drewN q := by
  subst hn hm
  by_cases hl : zs.length = ys.length
  · have hb : ((zs.length : Int) != (ys.length : Int)) = false := by rw [hl]; simp
    have HL := hide hl
    have l1 : zs.length ≤ ys.length := by omega
    have l2 : ys.length ≤ zs.length := by omega
    clear hl
    go_enter Tryz.func58, Tryz.ntmps58
    go_wp2
    go_loopw [5] (fun i wr => ∃ k q : Nat, k ≤ zs.length ∧ i = .int .i64 k ∧ wr = w.drewN q ∧ Hid (∀ j, j < k → ix zs j = ix ys j)) (fun i _ => zs.length - (intOf i).toNat)
    case atStart => exact ⟨0, 0, by omega, rfl, rfl, fun j hj => absurd hj (by omega)⟩
    case round =>
      obtain ⟨k, q, hk, rfl, rfl, hs⟩ := hrel
      by_cases hlt : k < zs.length
      · obtain ⟨b1, o1, rfl, _, hc1⟩ := hz.at_ hlt
        obtain ⟨b2, o2, rfl, _, hc2⟩ := hy.at_ (k := k) (by omega)
        have Hz := hide hz; have Hy := hide hy; clear hz hy
        by_cases he : ix zs k = ix ys k
        · have hbe : ((ix zs k : Int) != ix ys k) = false := by rw [he]; simp
          have HE := hide he; clear he
          go_wp2
          go_quiet (fail)
          go_wp2
          go_roundw
          case rel => exact ⟨k + 1, _, by omega, by go_num, rfl, fun j hj => by
            rcases Nat.lt_or_ge j k with h1 | h1
            · exact hs.out j h1
            · obtain rfl : j = k := by omega
              exact HE.out⟩
          case measure => simp [intOf]; omega
        · have hbe : ((ix zs k : Int) != ix ys k) = true := by simpa using he
          have HE := hide he; clear he
          go_wp2
          go_quiet (fail)
          go_wp2
          go_ret
          exact ⟨ret_bool (by symm; rw [decide_eq_false_iff_not]; rintro rfl; exact HE.out rfl), _, World.drewN_drewN _ _ _⟩
      · go_wp2
        go_ret
        exact ⟨ret_bool (by symm; rw [decide_eq_true_iff]; exact ext_ix HL.out (fun j hj => hs.out j (by omega))), _, rfl⟩
  · have hb : ((zs.length : Int) != (ys.length : Int)) = true := by simp; omega
    have HL := hide hl
    clear hl
    go_enter Tryz.func58, Tryz.ntmps58
    go_wp2
    go_ret
    exact ⟨ret_bool (by symm; rw [decide_eq_false_iff_not]; intro h; exact HL.out (by rw [h])), 0, rfl⟩
end Go.Proofs.YtkmcnhjfnjikaaaGreatDoor
/- What Roomy and Intact come to. Conditions: the slices lie in memory, their lengths have room. -/
namespace Go.Proofs.YtkmcnhjfnjikaaaGreatDoor
open Go.RowKit
theorem zeros_cells (n : Nat) : (madeCells #[Value.int .u8 0] n).toList = cellsOf (pad n 0) := by
  rw [toList_madeCells_one]; unfold cellsOf pad; rw [List.map_replicate]
theorem own_block {w : World} {base g n : Nat} {e : TypeId} {xs : List Value} (h : w.ownsRow base e 1 (.slice (some ⟨g, 0, none⟩) n n) n xs) : base ≤ g ∧ n ≤ maxLen ∧ xs.length = n ∧ w.heap[g]? = some (.cells xs.toArray e (0, 0)) := by
  have hl : xs.length = n := by have := h.1; omega
  rcases h.2 with ⟨h0, _⟩ | ⟨g', cap, cur, hv, hb, hh, _, hm, hs, ht⟩
  · cases h0
  · injection hv with h1 _ h3
    injection h1 with h1
    injection h1 with h1
    subst h1 h3
    refine ⟨hb, hm, hl, ?_⟩
    have : xs.toArray = cur := by
      rw [← ht, List.take_of_length_le (by rw [Array.length_toList, hs]; exact Nat.le_refl _)]
    rw [this]; exact hh
theorem block_own {w : World} {base g n : Nat} {e : TypeId} {xs : List Value} (hb : base ≤ g) (hm : n ≤ maxLen) (hl : xs.length = n) (h : w.heap[g]? = some (.cells xs.toArray e (0, 0))) : w.ownsRow base e 1 (.slice (some ⟨g, 0, none⟩) n n) n xs :=
  ⟨by omega, .inr ⟨g, n, xs.toArray, rfl, hb, h, Nat.le_refl _, hm, by simp; omega, by rw [List.take_of_length_le (by simp; omega)]⟩⟩
/-- copy of a slice that lies anywhere to the head of a row of the call's own. -/
theorem wpList_copy_lies {P : Program} {w : World} {ops : Array Oper} {rest : List Oper} {o : Oper} {a : Act} {Q : Exit → Act → World → Prop} (hgd : o.guard = none) (d s : Operand) (t : TypeId)
    (ho : o.op = .call { callee := .builtin .copy, args := #[d, s], argTypes := #[t, t] }) (e : TypeId) (hu : P.underlying t = some (.slice e)) (hsz : (P.info? e).map (·.size) = some 1)
    (base g n : Nat) (xs : List Int) (hd : a.eval d = .slice (some ⟨g, 0, none⟩) n n) (hown : w.ownsRow base e 1 (.slice (some ⟨g, 0, none⟩) n n) n (cellsOf xs))
    (A : Option Addr) (m c : Nat) (zs : List Int) (hs : a.eval s = .slice A m c) (hm : zs.length = m) (hl : Lies w A zs) (hfit : m ≤ n) (w0 : World) (hb : Below base w0 w)
    (h : ∀ w', w'.ownsRow base e 1 (.slice (some ⟨g, 0, none⟩) n n) n (cellsOf (zs ++ xs.drop m)) → Below base w0 w' → wpList P ops Q rest (a.put o.dst (goInt m)) w') : wpList P ops Q (o :: rest) a w := by
  obtain ⟨hbg, hmx, hlen, hblk⟩ := own_block hown
  have hlx : xs.length = n := by rw [length_cellsOf] at hlen; exact hlen
  refine wpList_copy_splice hgd d s t t ho e hu hsz _ A n n m c hd hs g 0 (cellsOf xs) e hblk (cellsOf zs) (by rw [length_cellsOf]; show zs.length = min m n; omega) ?_ (by rw [length_cellsOf, length_cellsOf]; omega) cellsOf_one base w0 hb hbg ?_
  · intro hpos
    rw [length_cellsOf] at hpos
    obtain ⟨b, off, rfl, _⟩ := hl hpos
    exact ⟨rfl, _, rfl, fun j v hj => Lies.cells hl j v hj⟩
  · intro w' hw hb'
    have hsp : splice (cellsOf xs) 0 (cellsOf zs) = cellsOf (zs ++ xs.drop m) := by
      unfold splice
      rw [cellsOf_append, List.take_zero, List.nil_append, length_cellsOf, Nat.zero_add, hm]
      unfold cellsOf
      rw [List.map_drop]
    have hw' := hw.out
    rw [hsp] at hw'
    rw [length_cellsOf, hm]
    exact h w' (block_own hbg hmx (by rw [length_cellsOf, List.length_append, List.length_drop]; omega) hw') hb'
theorem fill_step (zs : List Int) (z : Int) (j : Nat) (h : j < 80) : (zs ++ pad j z ++ pad (80 - j) 0).set (zs.length + j) z = zs ++ pad (j + 1) z ++ pad (80 - (j + 1)) 0 := by
  unfold pad
  have e : 80 - j = (80 - (j + 1)) + 1 := by omega
  rw [e, List.replicate_succ, List.set_append_right _ _ (by simp), List.replicate_succ']
  have e2 : zs.length + j - (zs ++ List.replicate j z).length = 0 := by simp
  rw [e2, List.set_cons_zero]
  simp
end Go.Proofs.YtkmcnhjfnjikaaaGreatDoor
/- What Within comes to. Conditions: the bounds are no negative numbers and have room. -/
namespace Go.Proofs.YtkmcnhjfnjikaaaGreatDoor
open Go.RowKit
def withinI (n lo hi : Int) : Int := lo + n % (hi - lo + 1)
theorem withinI_bounds (n lo hi : Int) (h : lo ≤ hi) : lo ≤ withinI n lo hi ∧ withinI n lo hi ≤ hi := by
  unfold withinI
  have h0 := Int.emod_nonneg n (show hi - lo + 1 ≠ 0 by omega)
  have h1 := Int.emod_lt_of_pos n (show 0 < hi - lo + 1 by omega)
  omega
/-! ### Within -/
theorem tmod_rest (n m : Int) : n % m = n.tmod m % m := by
  have h := Int.mul_tdiv_add_tmod n m
  have e : n % m = (n.tmod m + m * n.tdiv m) % m := by rw [Int.add_comm, h]
  rw [e, Int.add_mul_emod_self_left]
theorem tmod_bounds (n m : Int) (hm : 0 < m) : -m < n.tmod m ∧ n.tmod m < m := by
  refine ⟨?_, Int.tmod_lt_of_pos n hm⟩
  have h := Int.tmod_lt_of_pos (-n) hm
  rw [Int.neg_tmod] at h
  omega
theorem tmod_neg (n m : Int) (hm : 0 < m) (h : n.tmod m < 0) : n % m = n.tmod m + m := by
  have hb := tmod_bounds n m hm
  rw [tmod_rest n m, ← Int.add_emod_right, Int.emod_eq_of_lt (by omega) (by omega)]
theorem tmod_pos (n m : Int) (hm : 0 < m) (h : 0 ≤ n.tmod m) : n % m = n.tmod m := by
  have hb := tmod_bounds n m hm
  rw [tmod_rest n m, Int.emod_eq_of_lt (by omega) (by omega)]

set_option maxHeartbeats 400000 in
theorem within_any (n lo hi : Int) (w : World) (l0 : 0 ≤ lo) (l1 : lo ≤ hi) (l2 : hi ≤ 4611686018427387904) :
    Calls Tryz.prog 16 #[.int .i64 n, .int .i64 lo, .int .i64 hi] w fun e w' => e = .returned (.int .i64 (withinI n lo hi)) ∧ w = w' := by
  have hb := tmod_bounds n (hi - lo + 1) (by omega)
  by_cases c : n.tmod (hi - lo + 1) < 0
  · go_enter Tryz.func16, Tryz.ntmps16
    go_wp2
    go_ret
    exact ⟨ret_int (by unfold withinI; rw [tmod_neg n _ (by omega) c]; omega), rfl⟩
  · go_enter Tryz.func16, Tryz.ntmps16
    go_wp2
    go_ret
    exact ⟨ret_int (by unfold withinI; rw [tmod_pos n _ (by omega) (by omega)]), rfl⟩
end Go.Proofs.YtkmcnhjfnjikaaaGreatDoor
/- How arguments are read: slices of bytes, instances. No condition. -/
namespace Go.Proofs.YtkmcnhjfnjikaaaGreatDoor
open Go.ChangeShapes Go.WideShapes Go.ChangeAt Go.RowKit Go.Joins
theorem own : ownKnob Tryz.prog.godebug = none := by kernel_rfl
theorem laidOut : laidOutB Tryz.prog = true := by kernel_rfl
theorem Tryz.bytes5 : Tryz.prog.bytesOf 5 = 1 := by kernel_rfl
theorem Tryz.cells5 : Tryz.prog.cellsOf 5 = 1 := by kernel_rfl
/-- A slice of bytes that came in. -/
structure SliceIn (w : World) (A : Option Addr) (n c : Nat) (zs : List Int) : Prop where
  len : zs.length = n
  le : n ≤ c
  room : c ≤ 140737488351232
  oct : Octets zs
  lies : Lies w A zs
  nil : A = none → c = 0
theorem length_lits {H : Type} (k : IntKind) (zs : List Int) : (lits (H := H) k zs).length = zs.length := by simp [lits]
theorem slice_in {H : Type} {enc : TypeId × Value → H} {W : World} {A : Option Addr} {n c : Nat} {d : DataW H} {p : List MemPlace} {ts : List TypeId} {ds : List (DataW H)} {j : Nat}
    (h : DataW.Trod enc Tryz.prog W 0 (fun _ => true) true 31 (.slice A n c) d p) (hsz : (DataW.weightsEach Tryz.prog ts ds).all (· ≤ reachBytes) = true) (ht : ts[j]? = some 31) (hd : ds[j]? = some d) :
    ∃ zs, SliceIn W A n c zs := by
  obtain ⟨fuel, hf⟩ := h
  rcases open_ints Tryz.underlying31 Tryz.underlying5 Tryz.cells5 hf with ⟨hcs, _⟩ | ⟨x, l, c', zs, hcs, _, hl, _, hz, hx, hcell, hwz⟩
  · simp [Value.cells] at hcs
    obtain ⟨rfl, rfl, rfl⟩ := hcs
    exact ⟨[], rfl, Nat.le_refl _, by omega, fun z hz => (by cases hz), Lies.none_, fun _ => rfl⟩
  · simp [Value.cells] at hcs
    obtain ⟨rfl, rfl, rfl⟩ := hcs
    have hz' : zs.length = c := by simpa using hz
    injection hx with hx _
    subst hx
    have hs := sized_slice hsz ht hd Tryz.underlying31
    rw [Tryz.bytes5, length_lits, length_lits, List.length_take, List.length_drop] at hs
    have hr : reachBytes = 140737488351232 := rfl
    refine ⟨zs.take n, by rw [List.length_take]; omega, hl, by omega, fun z hz => ?_, fun hn => ?_, fun h => by cases h⟩
    · exact bounds_u8 (hwz z (List.mem_of_mem_take hz))
    · rw [List.length_take] at hn
      obtain ⟨b, off, rfl, hc⟩ := ints_at hcell (by omega)
      have h0 := hc 0 (by omega)
      refine ⟨b, off, rfl, ?_, fun k hk => ?_⟩
      · rcases Nat.lt_or_ge b W.heap.size with h1 | h1
        · exact h1
        · simp [World.cell?, Array.getElem?_eq_none h1] at h0
      · rw [List.length_take] at hk
        have e : ix (zs.take n) k = zs.getD k 0 := by
          rw [ix_lt _ (by rw [List.length_take]; omega), List.getElem_take, ← ix_lt zs (by omega)]; rfl
        rw [e]
        exact hc k (by omega)
set_option maxRecDepth 100000 in
/-- A text that came in. -/
theorem str_in {H : Type} {enc : TypeId × Value → H} {W : World} {base b0 : Nat} {spare : Nat → Bool} {held : Bool} {r : Reach} {v : Value} {d : DataW H} {p : List MemPlace} {ts : List TypeId} {ds : List (DataW H)} {j : Nat}
    (hv : Value.okWide Tryz.prog W r b0 9 v) (h : DataW.Trod enc Tryz.prog W base spare held 9 v d p) (hsz : (DataW.weightsEach Tryz.prog ts ds).all (· ≤ reachBytes) = true) (ht : ts[j]? = some 9) (hd : ds[j]? = some d) :
    ∃ s : ByteArray, v = .string s ∧ s.size ≤ 140737488351232 := by
  obtain ⟨s, rfl, rfl, _, _⟩ := Go.ChangeMaps.open_string Tryz.underlying9 hv h
  have hs := sized_string hsz ht hd
  have hr : reachBytes = 140737488351232 := rfl
  exact ⟨s, rfl, by rw [hr] at hs; simpa using hs⟩
end Go.Proofs.YtkmcnhjfnjikaaaGreatDoor
/- append of a slice of bytes that lies anywhere, nil or not, onto a row of the call's own, as one step of a region that draws its order. No condition: nothing here speaks of one function. -/
namespace Go.Proofs.YtkmcnhjfnjikaaaGreatDoor
open Go.RowKit
theorem run_append_lies {P : Program} {w : World} (base : Nat) (t ty e : TypeId) (i : TypeInfo) (z : Value) (ht : P.underlying t = some (.slice e)) (hi : P.info? e = some i) (hz : i.zero = some z) (hsize : i.size = 1) (hby : i.bytes = 1) (hzs : z.cells.size = 1)
    (v : Value) (n : Nat) (xs : List Int) (hown : w.ownsRow base e 1 v n (cellsOf xs))
    (A : Option Addr) (m c : Nat) (zs : List Int) (hm : zs.length = m) (hc : A = none → c = 0) (hl : Lies w A zs) (hb : n + m ≤ 200000000000000) (hbase : base ≤ w.heap.size) :
    ∃ v' w', (Builtin.append_ #[t, t] ty #[v, .slice A m c]).run P w = .ok v' w' ∧ w'.ownsRow base e 1 v' (n + m) (cellsOf (xs ++ zs)) ∧ Below base w w' := by
  subst hm
  rcases A with _ | ad
  · have h0 := hl.nil_ rfl
    have hz0 : zs = [] := List.eq_nil_of_length_eq_zero h0
    subst hz0
    obtain rfl := hc rfl
    exact ⟨v, w, run_append_owned_none (P := P) (w := w) base t ty e i 1 ht hi v n (cellsOf xs) hown, by simpa using hown, Below.refl _ _⟩
  · obtain ⟨v', w', hr, h1, h2, _⟩ := run_append_own_wide (P := P) w base t ty e i z 1 1 ht hi hz hsize hby hzs (by omega) v n (cellsOf xs) hown ad zs.length c (cellsOf zs) (by rw [length_cellsOf]; omega) (by
      intro j u hj
      obtain ⟨hk, _⟩ := cellsOf_some hj
      obtain ⟨b, off, e', _⟩ := hl (by omega)
      injection e' with e'
      subst e'
      exact Lies.cells hl j u hj) cellsOf_one (by unfold maxLen; omega) (by omega) hbase
    exact ⟨v', w', hr, by rw [cellsOf_append]; exact h1, (Below.refl _ _).grown h2 hbase (fun k hk => (hown.lt k hk).1)⟩
theorem step_append_bytes {P : Program} {w : World} {ops : Array Oper} {o : Oper} {a : Act} {K : Act → World → Prop} {Q : Exit → Act → World → Prop} {E : Prop} (hgd : o.guard = none) (s x : Operand) (t : TypeId)
    (ho : o.op = .call { callee := .builtin .append, args := #[s, x], argTypes := #[t, t] })
    (base : Nat) (e : TypeId) (i : TypeInfo) (z : Value) (ht : P.underlying t = some (.slice e)) (hi : P.info? e = some i) (hz : i.zero = some z) (hsize : i.size = 1) (hby : i.bytes = 1) (hzs : z.cells.size = 1)
    (v : Value) (n : Nat) (xs : List Int) (hs : a.eval s = v) (hown : w.ownsRow base e 1 v n (cellsOf xs))
    (A : Option Addr) (m c : Nat) (zs : List Int) (hx : a.eval x = .slice A m c) (hm : zs.length = m) (hc : A = none → c = 0) (hl : Lies w A zs) (hb : n + m ≤ 200000000000000) (hbase : base ≤ w.heap.size)
    (h : ∀ v' w', w'.ownsRow base e 1 v' (n + m) (cellsOf (xs ++ zs)) → Below base w w' → K (a.put o.dst v') w') :
    if Region.wanted o (yielded ops a.tmps) = true then Oper.wp P o a w K Q else E := by
  have hw : Region.wanted o (yielded ops a.tmps) = true := by simp [Region.wanted, hgd]
  rw [if_pos hw]
  obtain ⟨v', w', hr, h2, h3⟩ := run_append_lies (P := P) (w := w) base t o.type e i z ht hi hz hsize hby hzs v n xs hown A m c zs hm hc hl hb hbase
  unfold Oper.wp execOp
  simp only [ho, resolve, invoke, builtin, Sem.run_bind, Sem.run_pure, Result.andThen_ok, List.map_toArray, List.map_cons, List.map_nil, hs, hx, hr]
  exact h v' w' h2 h3
end Go.Proofs.YtkmcnhjfnjikaaaGreatDoor
/- A region that draws its order, whose operations read and whose calls make memory: one walk for all orders, in any class of worlds. No condition: nothing here speaks of a program. -/
namespace Go.Proofs.YtkmcnhjfnjikaaaGreatDoor
open Go.RowKit
/-- A world in which S holds. -/
structure Sp (S : World → Prop) where
  w : World
  ok : S w
theorem wp_region_sp {P : Program} {id : Nat} {Q : Exit → Act → World → Prop} {a : Act} {w : World} {l : List Oper} (S : World → Prop) (hm : P.follows .mixedOrders = true) (hB : Region.lexB .any l.toArray = true) (h0 : S w.drew)
    (h : wpQuiet P l.toArray (fun w' => ∃ k : Sp S, w' = k.w) (fun a' => ∀ k : Sp S, Q .normal a' k.w) l a) : (Code.region id l.toArray true).wp P Q a w :=
  wp_region_quiet (C := fun w' => ∃ k : Sp S, w' = k.w) hm hB ⟨⟨w.drew, h0⟩, rfl⟩ (by simpa using h)
/-- Cut behind n operations. -/
theorem wpQuiet_cut {P : Program} {ops : Array Oper} {C : World → Prop} {Q R : Act → Prop} : ∀ (n : Nat) (l : List Oper) (a : Act), wpQuiet P ops C R (l.take n) a → (∀ a', R a' → wpQuiet P ops C Q (l.drop n) a') → wpQuiet P ops C Q l a
  | 0, _, _, h, hr => hr _ h
  | _ + 1, [], _, h, hr => hr _ h
  | n + 1, o :: l, a, h, hr => by
    have h' : if Region.wanted o (yielded ops a.tmps) then o.quiet P a C (wpQuiet P ops C R (l.take n)) else wpQuiet P ops C R (l.take n) (a.put o.dst undef) := h
    show if Region.wanted o (yielded ops a.tmps) then o.quiet P a C (wpQuiet P ops C Q l) else wpQuiet P ops C Q l (a.put o.dst undef)
    split
    · rename_i hw
      rw [if_pos hw] at h'
      exact Oper.quiet_mono (fun a' k => wpQuiet_cut n l a' k hr) h'
    · rename_i hw
      rw [if_neg hw] at h'
      exact wpQuiet_cut n l _ h' hr
theorem sp_call {P : Program} {f : FuncId} {args : Array Value} {v : Value} {S : World → Prop} (step : ∀ w w', S w → Below w.heap.size w w' → S w') (k : Sp S) (h : Calls P f args k.w fun e w' => e = .returned v ∧ Below k.w.heap.size k.w w') :
    Calls P f args k.w fun e w' => e = .returned v ∧ ∃ k : Sp S, w' = k.w := h.mono fun _ w' ⟨he, hb⟩ => ⟨he, ⟨w', step _ _ k.ok hb⟩, rfl⟩
theorem below_same {P : Program} {f : FuncId} {args : Array Value} {v : Value} {w : World} (h : Calls P f args w fun e w' => e = .returned v ∧ w = w') : Calls P f args w fun e w' => e = .returned v ∧ Below w.heap.size w w' :=
  h.mono fun _ _ ⟨he, e⟩ => ⟨he, by subst e; exact Below.refl _ _⟩
/-- Block g is a pair. -/
structure Pr (w : World) (g : Nat) (a b : Int) : Prop where
  lt : g < w.heap.size
  c0 : w.cell? ⟨g, 0, none⟩ = some (.int .i64 a)
  c1 : w.cell? ⟨g, 1, none⟩ = some (.int .i64 b)
theorem Pr.kept {w w' : World} {g : Nat} {a b : Int} (h : Pr w g a b) (hb : Below w.heap.size w w') : Pr w' g a b := ⟨Nat.lt_of_lt_of_le h.lt hb.size, (hb.cell (p := ⟨g, 0, none⟩) h.lt).trans h.c0, (hb.cell (p := ⟨g, 1, none⟩) h.lt).trans h.c1⟩
theorem Pr.alloc {w : World} {g : Nat} {a b : Int} (h : Pr w g a b) (o : Obj) : Pr (w.alloc o) g a b := h.kept ((Below.refl _ _).alloc (Nat.le_refl _) o)
theorem Pr.drew {w : World} {g : Nat} {a b : Int} (h : Pr w g a b) : Pr w.drew g a b := ⟨h.lt, h.c0, h.c1⟩
theorem Pr.new (w : World) (a b : Int) (t : TypeId) : Pr (w.alloc (.cells #[.int .i64 a, .int .i64 b] t)) w.heap.size a b := by
  have h := Row.new w t #[.int .i64 a, .int .i64 b]
  exact ⟨h.lt, h.cell 0, h.cell 1⟩
end Go.Proofs.YtkmcnhjfnjikaaaGreatDoor
/- A region that draws its order and ends in one operation that waits for all others (a store): what its loads read need hold only till then. No condition: nothing here speaks of a program. -/
namespace Go.Proofs.YtkmcnhjfnjikaaaGreatDoor
open Go.RowKit
section
variable {P : Program} {ops : Array Oper} {Q : Exit → Act → World → Prop} {md : Region.Mode} {S : World → Prop} {m : Nat}
/-- Does number m wait for number i itself? -/
def waits (md : Region.Mode) (ops : Array Oper) (m i : Nat) : Bool :=
  match ops[m]? with
  | some o => o.after.toList.any fun e => Region.binds md e && e.on == i
  | none => false
theorem waits_spec {i : Nat} (h : waits md ops m i = true) {listed : Array Bool} (hr : m ∈ Region.ready md ops listed) : listed.getD i false = true := by
  obtain ⟨_, o, ho, hall⟩ := mem_ready.1 hr
  unfold waits at h
  rw [ho] at h
  obtain ⟨e, he, h2⟩ := List.any_eq_true.1 h
  rw [Bool.and_eq_true, beq_iff_eq] at h2
  rw [← h2.2]
  exact hall e (Array.mem_toList_iff.1 he) h2.1
theorem getD_differ {listed : Array Bool} {i : Nat} (h : listed.getD i true = false) (k : listed.getD i false = true) : False := by
  rcases Nat.lt_or_ge i listed.size with h1 | h1
  · simp [h1] at h k; rw [h] at k; cases k
  · simp [Array.getElem?_eq_none h1] at k
/-- In whatever order; behind each operation but number m the condition S holds. -/
def anyT (P : Program) (md : Region.Mode) (ops : Array Oper) (Q : Exit → Act → World → Prop) (S : World → Prop) (m : Nat) : Nat → Array Bool → Act → World → Prop
  | 0, listed, a, w => wpAny P md ops Q 0 listed a w
  | n + 1, listed, a, w => (Region.ready md ops listed = [] → Q .normal a w) ∧
    ∀ i, i ∈ Region.ready md ops listed → wpOp P ops Q i (fun a' w' => (i ≠ m → S w') ∧ anyT P md ops Q S m n (listed.setIfInBounds i true) a' w') a w
theorem any_of_T : ∀ {n : Nat} {listed : Array Bool} {a : Act} {w : World}, anyT P md ops Q S m n listed a w → wpAny P md ops Q n listed a w
  | 0, _, _, _, h => h
  | _ + 1, _, _, _, h => ⟨h.1, fun i hi => wpOp_mono (fun _ _ k => any_of_T k.2) (h.2 i hi)⟩
/-- One that reads, and for which number m waits, may go first. -/
theorem anyT_take {i : Nat} {oi : Oper} {v : Value} (hi : ops[i]? = some oi) (hs : Region.noSelect ops = true) (hw : waits md ops m i = true) (hQ : ∀ c a w, Q (.panic c) (a.put oi.dst v) w → Q (.panic c) a w) :
    ∀ {n : Nat} {listed : Array Bool} {a : Act} {w : World}, Region.free md ops listed i = true → (Region.ready md ops listed).contains i = true → YieldsIf P ops S oi v a → S w →
      anyT P md ops Q S m n (listed.setIfInBounds i true) (a.put oi.dst v) w → anyT P md ops Q S m (n + 1) listed a w := by
  have hsel := Region.noSelect_spec hs
  have main : ∀ (n : Nat) (listed : Array Bool) (a : Act) (w : World),
      (∀ j oj, ops[j]? = some oj → j ≠ i → listed.getD j true = false → (∀ e ∈ oj.after, Region.binds md e = true → e.on ≠ i) → oi.apart ops oj = true) →
      i ∈ Region.ready md ops listed → YieldsIf P ops S oi v a → S w → anyT P md ops Q S m n (listed.setIfInBounds i true) (a.put oi.dst v) w → anyT P md ops Q S m (n + 1) listed a w := by
    intro n
    induction n with
    | zero =>
      intro listed a w _ hr hy hS H
      have H' : Region.ready md ops (listed.setIfInBounds i true) = [] ∧ Q .normal (a.put oi.dst v) w := H
      refine ⟨fun h0 => absurd (h0 ▸ hr) (by simp), fun j hj => ?_⟩
      rcases Classical.em (j = i) with rfl | hji
      · exact hy.wpOp hi hS ⟨fun _ => hS, H⟩
      · exact absurd (H'.1 ▸ ready_mono hj hji) (by simp)
    | succ n ih =>
      intro listed a w hfree hr hy hS H
      refine ⟨fun h0 => absurd (h0 ▸ hr) (by simp), fun j hj => ?_⟩
      rcases Classical.em (j = i) with rfl | hji
      · exact hy.wpOp hi hS ⟨fun _ => hS, H⟩
      · have hun := (mem_ready.1 hr).1
        have hjm : j ≠ m := fun e => getD_differ hun (waits_spec hw (e ▸ hj))
        obtain ⟨hju, oj, hoj, hall⟩ := mem_ready.1 hj
        have hno : ∀ e ∈ oj.after, Region.binds md e = true → e.on ≠ i := fun e he hb k => getD_differ hun (by rw [← k]; exact hall e he hb)
        have step := wpOp_putIf hoj (hfree j oj hoj hji hju hno) (fun cs b => hsel i oi cs b hi) (fun cs b => hsel j oj cs b hoj) hQ hy (H.2 j (ready_mono hj hji))
        refine wpOp_mono (fun a' w' k => ⟨k.2.1, ih (listed.setIfInBounds j true) a' w' (fun x ox hox hxi hxu hxno => hfree x ox hox hxi ?_ hxno) (ready_mono hr (Ne.symm hji)) k.1 (k.2.1 hjm) ?_⟩) step
        · rcases Classical.em (j = x) with rfl | hjx
          · exact hju
          · rwa [getD_set_ne true hjx] at hxu
        · rw [Array.setIfInBounds_comm _ _ hji]
          exact k.2.2
  intro n listed a w hf hr hy hS h
  exact main n listed a w (Region.free_spec hi hf) (by simpa using hr) hy hS h
theorem wp_region_T {id : Nat} {a : Act} {w : World} (m : Nat) (S : World → Prop) (hm : P.follows .mixedOrders = true) (h : anyT P .any ops Q S m ops.size (Array.replicate ops.size false) a w.drew) : (Code.region id ops true).wp P Q a w :=
  wp_region_any hm (any_of_T h)
theorem anyT_done {n : Nat} {listed : Array Bool} {a : Act} {w : World} (hr : Region.ready md ops listed = []) (h : Q .normal a w) : anyT P md ops Q S m n listed a w := by
  cases n with
  | zero => exact ⟨hr, h⟩
  | succ n => exact ⟨fun _ => h, fun i hi => by rw [hr] at hi; cases hi⟩
theorem stepT {n i : Nat} {o : Oper} {listed : Array Bool} {a : Act} {w : World} (ho : ops[i]? = some o)
    (h : ∀ K' : Act → World → Prop, Shut (∀ a w, (i ≠ m → S w) → anyT P md ops Q S m n (listed.setIfInBounds i true) a w → K' a w) → if Region.wanted o (yielded ops a.tmps) = true then Oper.wp P o a w K' Q else K' (a.put o.dst undef) w) :
    wpOp P ops Q i (fun a' w' => (i ≠ m → S w') ∧ anyT P md ops Q S m n (listed.setIfInBounds i true) a' w') a w :=
  wpOp_step ho fun K' hK => h K' fun a w h1 h2 => hK a w ⟨h1, h2⟩
theorem anyT_one {n i : Nat} {o : Oper} {listed : Array Bool} {a : Act} {w : World} (hr : Region.ready md ops listed = [i]) (ho : ops[i]? = some o)
    (h : ∀ K' : Act → World → Prop, Shut (∀ a w, (i ≠ m → S w) → anyT P md ops Q S m n (listed.setIfInBounds i true) a w → K' a w) → if Region.wanted o (yielded ops a.tmps) = true then Oper.wp P o a w K' Q else K' (a.put o.dst undef) w) :
    anyT P md ops Q S m (n + 1) listed a w :=
  ⟨fun h0 => (by rw [h0] at hr; cases hr), fun j hj => (by
    rw [hr] at hj
    obtain rfl := List.mem_singleton.1 hj
    exact stepT ho h)⟩
theorem anyT_two {n i j : Nat} {o p : Oper} {listed : Array Bool} {a : Act} {w : World} (hr : Region.ready md ops listed = [i, j]) (ho : ops[i]? = some o) (hp : ops[j]? = some p)
    (h : ∀ K' : Act → World → Prop, Shut (∀ a w, (i ≠ m → S w) → anyT P md ops Q S m n (listed.setIfInBounds i true) a w → K' a w) → if Region.wanted o (yielded ops a.tmps) = true then Oper.wp P o a w K' Q else K' (a.put o.dst undef) w)
    (k : ∀ K' : Act → World → Prop, Shut (∀ a w, (j ≠ m → S w) → anyT P md ops Q S m n (listed.setIfInBounds j true) a w → K' a w) → if Region.wanted p (yielded ops a.tmps) = true then Oper.wp P p a w K' Q else K' (a.put p.dst undef) w) :
    anyT P md ops Q S m (n + 1) listed a w :=
  ⟨fun h0 => (by rw [h0] at hr; cases hr), fun x hx => (by
    rw [hr] at hx
    rcases List.mem_cons.1 hx with rfl | hx
    · exact stepT ho h
    · obtain rfl := List.mem_singleton.1 hx
      exact stepT hp k)⟩
end
end Go.Proofs.YtkmcnhjfnjikaaaGreatDoor
