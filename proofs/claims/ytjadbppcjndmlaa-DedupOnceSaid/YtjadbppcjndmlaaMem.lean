/- Words for slices of bytes: what a slice reads as, and that it stays. No condition: nothing here speaks of one function. -/
import Derived.Test.YtjadbppcjndmlaaBase
import Derived.WalkKit
import Derived.WalkSpells
import Derived.WalkLawsBesides
import Derived.Deep.Draws
import Derived.Laws.AppendOwnNone
import Derived.Deep.DeepAppendWide
namespace Go.Proofs.Ytjadbppcjndmlaa
open Go.RowKit

/-- Place k of a list of numbers. -/
def ix (zs : List Int) (k : Nat) : Int := zs.getD k 0
/-- The list as cells of bytes. -/
def cellsOf (zs : List Int) : List Value := zs.map (Value.int .u8)
/-- The numbers are bytes. -/
def Octets (zs : List Int) : Prop := ∀ z, z ∈ zs → 0 ≤ z ∧ z ≤ 255
/-- From address A on there lie the bytes zs, below the heap's end. -/
def Lies (w : World) (A : Option Addr) (zs : List Int) : Prop :=
  0 < zs.length → ∃ b off, A = some ⟨b, off, none⟩ ∧ b < w.heap.size ∧ ∀ k, k < zs.length → w.cell? ⟨b, off + k, none⟩ = some (.int .u8 (ix zs k))

theorem ix_lt (zs : List Int) {k : Nat} (h : k < zs.length) : ix zs k = zs[k] := by
  unfold ix; rw [List.getD_eq_getElem?_getD, List.getElem?_eq_getElem h]; rfl
theorem ix_ge (zs : List Int) {k : Nat} (h : zs.length ≤ k) : ix zs k = 0 := by
  unfold ix; rw [List.getD_eq_getElem?_getD, List.getElem?_eq_none h]; rfl
theorem Octets.ix {zs : List Int} (h : Octets zs) (k : Nat) : 0 ≤ ix zs k ∧ ix zs k ≤ 255 := by
  by_cases hk : k < zs.length
  · rw [ix_lt zs hk]; exact h _ (List.getElem_mem hk)
  · rw [ix_ge zs (by omega)]; omega
theorem ext_ix {zs ys : List Int} (hl : zs.length = ys.length) (h : ∀ k, k < zs.length → ix zs k = ix ys k) : zs = ys := by
  apply List.ext_getElem hl
  intro k h1 h2
  have := h k h1
  rwa [ix_lt zs h1, ix_lt ys h2] at this
theorem length_cellsOf (zs : List Int) : (cellsOf zs).length = zs.length := List.length_map _
theorem cellsOf_one {zs : List Int} : ∀ u ∈ cellsOf zs, u.oneCell' = true := by
  intro u hu
  unfold cellsOf at hu
  obtain ⟨z, _, rfl⟩ := List.mem_map.1 hu
  rfl
theorem cellsOf_append (zs ys : List Int) : cellsOf (zs ++ ys) = cellsOf zs ++ cellsOf ys := List.map_append
theorem cellsOf_at (zs : List Int) {k : Nat} (h : k < zs.length) : (cellsOf zs)[k]? = some (.int .u8 (ix zs k)) := by
  unfold cellsOf; rw [List.getElem?_map, List.getElem?_eq_getElem h, ix_lt zs h]; rfl
theorem cellsOf_some {zs : List Int} {k : Nat} {u : Value} (h : (cellsOf zs)[k]? = some u) : k < zs.length ∧ u = .int .u8 (ix zs k) := by
  have hk : k < zs.length := by
    rcases Nat.lt_or_ge k zs.length with h1 | h1
    · exact h1
    · rw [List.getElem?_eq_none (by rw [length_cellsOf]; exact h1)] at h; cases h
  rw [cellsOf_at zs hk] at h
  exact ⟨hk, (Option.some.inj h).symm⟩

section
variable {w w' : World} {A : Option Addr} {zs : List Int}
theorem Lies.none_ : Lies w A [] := fun h => absurd h (by simp)
theorem Lies.nil_ (h : Lies w A zs) (hA : A = none) : zs.length = 0 := by
  rcases Nat.eq_zero_or_pos zs.length with h0 | h0
  · exact h0
  · obtain ⟨_, _, e, _⟩ := h h0
    rw [hA] at e; cases e
theorem Lies.at_ {k : Nat} (h : Lies w A zs) (hk : k < zs.length) : ∃ b off, A = some ⟨b, off, none⟩ ∧ b < w.heap.size ∧ w.cell? ⟨b, off + k, none⟩ = some (.int .u8 (ix zs k)) := by
  obtain ⟨b, off, e, hb, hc⟩ := h (by omega)
  exact ⟨b, off, e, hb, hc k hk⟩
theorem Lies.below (h : Lies w A zs) (hb : Below w.heap.size w w') : Lies w' A zs := fun hn => by
  obtain ⟨b, off, e, hlt, hc⟩ := h hn
  exact ⟨b, off, e, Nat.lt_of_lt_of_le hlt hb.size, fun k hk => (hb.cell (p := ⟨b, off + k, none⟩) hlt).trans (hc k hk)⟩
theorem Lies.drew (h : Lies w A zs) : Lies w.drew A zs := h
theorem Lies.drewN (h : Lies w A zs) (n : Nat) : Lies (w.drewN n) A zs := h
theorem Lies.alloc (h : Lies w A zs) (o : Obj) : Lies (w.alloc o) A zs := h.below ((Below.refl _ _).alloc (Nat.le_refl _) o)
theorem Lies.take (h : Lies w A zs) (n : Nat) : Lies w A (zs.take n) := fun hn => by
  have hl : (zs.take n).length ≤ zs.length := by rw [List.length_take]; omega
  obtain ⟨b, off, e, hlt, hc⟩ := h (by omega)
  refine ⟨b, off, e, hlt, fun k hk => ?_⟩
  have : ix (zs.take n) k = ix zs k := by
    rw [ix_lt _ hk, ix_lt zs (by omega), List.getElem_take]
  rw [this]
  exact hc k (by omega)
/-- The address of a part, from place i on: the model keeps the old one where the room ends there. Behind a name, since the walk parts at an if. -/
def partA (A : Option Addr) (c i : Nat) : Option Addr := if c = i then A else Option.map (fun x => x.add i) A
/-- A part: its address as the model reckons it. -/
theorem Lies.part {c : Nat} (h : Lies w A zs) (hc : zs.length ≤ c) (i k : Nat) : Lies w (partA A c i) ((zs.drop i).take k) := fun hn => by
  rw [List.length_take, List.length_drop] at hn
  obtain ⟨b, off, e, hlt, hcell⟩ := h (by omega)
  have hne : ¬ c = i := by omega
  unfold partA
  rw [if_neg hne, e]
  refine ⟨b, off + i, by cases i <;> rfl, hlt, fun j hj => ?_⟩
  rw [List.length_take, List.length_drop] at hj
  have e2 : ix ((zs.drop i).take k) j = ix zs (i + j) := by
    rw [ix_lt _ (by rw [List.length_take, List.length_drop]; omega), ix_lt zs (by omega), List.getElem_take, List.getElem_drop]
  rw [e2, Nat.add_assoc]
  exact hcell (i + j) (by omega)
theorem Lies.rest {c : Nat} (h : Lies w A zs) (hc : zs.length ≤ c) (i : Nat) : Lies w (partA A c i) (zs.drop i) := by
  have := h.part hc i (zs.length - i)
  rwa [List.take_of_length_le (by rw [List.length_drop]; exact Nat.le_refl _)] at this
theorem Lies.cells {b off : Nat} (h : Lies w (some ⟨b, off, none⟩) zs) : ∀ j u, (cellsOf zs)[j]? = some u → w.cell? ((⟨b, off, none⟩ : Addr).add j) = some u := by
  intro j u hj
  obtain ⟨hk, rfl⟩ := cellsOf_some hj
  obtain ⟨b', off', e, _, hc⟩ := h.at_ hk
  injection e with e
  injection e with e1 e2 _
  subst e1 e2
  rcases j with _ | j
  · exact hc
  · exact hc
theorem Lies.of_own {base : Nat} {e : TypeId} {n c : Nat} (h : w.ownsRow base e 1 (.slice A n c) n (cellsOf zs)) : Lies w A zs := by
  intro hn
  have hl : zs.length = n := by have := h.1; rw [length_cellsOf] at this; omega
  rcases h.2 with ⟨_, h0⟩ | ⟨g, cap, cur, hv, _, hh, _⟩
  · omega
  · injection hv with hA _ hc
    subst hA hc
    refine ⟨g, 0, rfl, ?_, fun k hk => ?_⟩
    · rcases Nat.lt_or_ge g w.heap.size with h1 | h1
      · exact h1
      · rw [Array.getElem?_eq_none h1] at hh; cases hh
    · have := h.cellAt k (by omega)
      rw [Nat.zero_add, this, cellsOf_at zs hk]
end
theorem own_shape {w : World} {base : Nat} {e : TypeId} {v : Value} {n : Nat} {xs : List Value} (h : w.ownsRow base e 1 v n xs) : ∃ A c, v = .slice A n c ∧ (A = none → c = 0) := by
  rcases h.2 with ⟨rfl, rfl⟩ | ⟨g, cap, cur, rfl, _⟩
  · exact ⟨none, 0, rfl, fun _ => rfl⟩
  · exact ⟨_, cap, rfl, fun h => by cases h⟩
/-- append of a slice that lies anywhere, nil or not, onto a row of the call's own. -/
theorem wpList_append_lies {P : Program} {w : World} {ops : Array Oper} {rest : List Oper} {o : Oper} {a : Act} {Q : Exit → Act → World → Prop} (hgd : o.guard = none) (s x : Operand) (t : TypeId)
    (ho : o.op = .call { callee := .builtin .append, args := #[s, x], argTypes := #[t, t] })
    (base : Nat) (e : TypeId) (i : TypeInfo) (z : Value) (ht : P.underlying t = some (.slice e)) (hi : P.info? e = some i) (hz : i.zero = some z) (hsize : i.size = 1) (hby : i.bytes = 1) (hzs : z.cells.size = 1)
    (v : Value) (n : Nat) (xs : List Int) (hs : a.eval s = v) (hown : w.ownsRow base e 1 v n (cellsOf xs))
    (A : Option Addr) (m c : Nat) (zs : List Int) (hx : a.eval x = .slice A m c) (hm : zs.length = m) (hc : A = none → c = 0) (hl : Lies w A zs) (hb : n + m ≤ 200000000000000) (hbase : base ≤ w.heap.size)
    (h : ∀ v' w', w'.ownsRow base e 1 v' (n + m) (cellsOf (xs ++ zs)) → Below base w w' → wpList P ops Q rest (a.put o.dst v') w') : wpList P ops Q (o :: rest) a w := by
  subst hm
  rcases A with _ | ad
  · have h0 := hl.nil_ rfl
    have hz0 : zs = [] := List.eq_nil_of_length_eq_zero h0
    subst hz0
    obtain rfl := hc rfl
    exact wpList_append_own_none hgd s x t ho base e i 1 ht hi v n (cellsOf xs) hs hown hx (h v w (by simpa using hown) (Below.refl _ _))
  · refine wpList_append_own_wide w hgd s x t ho base e i z 1 1 ht hi hz hsize hby hzs (by omega) v n (cellsOf xs) hs hown ad zs.length c (cellsOf zs) hx (by rw [length_cellsOf]; omega) ?_ cellsOf_one (by unfold maxLen; omega) (by omega) hbase ?_
    · intro j u hj
      obtain ⟨hk, _⟩ := cellsOf_some hj
      obtain ⟨b, off, e', _⟩ := hl (by omega)
      injection e' with e'
      subst e'
      exact Lies.cells hl j u hj
    · intro v' w' h1 h2 _
      exact h v' w' (by rw [cellsOf_append]; exact h1) ((Below.refl _ _).grown h2 hbase (fun k hk => (hown.lt k hk).1))
theorem lies_one (w : World) (z : Int) (e : TypeId) : Lies (w.alloc (.cells #[.int .u8 z] e)) (some ⟨w.heap.size, 0, none⟩) [z] := fun _ => by
  refine ⟨w.heap.size, 0, rfl, by simp, fun k hk => ?_⟩
  have : k = 0 := by simp at hk; omega
  subst this
  exact cell_one_new w _ _ 0 _ rfl
/-- A literal's block, marked or not. -/
theorem lies_lit (w : World) (zs : List Int) (e : TypeId) (fr : Nat × Nat) : Lies (w.alloc (.cells (cellsOf zs).toArray e fr)) (some ⟨w.heap.size, 0, none⟩) zs := fun _ => by
  refine ⟨w.heap.size, 0, rfl, by simp, fun k hk => ?_⟩
  rw [Nat.zero_add, ← cellsOf_at zs hk]
  simp only [World.cell?, World.alloc, Array.getElem?_push, if_true]; simp
/-- n times z: behind a name, since the walk writes a list of 80 out. -/
def pad (n : Nat) (z : Int) : List Int := List.replicate n z
theorem length_pad (n : Nat) (z : Int) : (pad n z).length = n := List.length_replicate
theorem pad_drop (n m : Nat) (z : Int) : (pad (n + m) z).drop n = pad m z := by unfold pad; rw [List.drop_replicate]; congr 1; omega
theorem ix_pad_right (zs : List Int) (n : Nat) (z : Int) {k : Nat} (h1 : zs.length ≤ k) (h2 : k < zs.length + n) : ix (zs ++ pad n z) k = z := by
  have h3 : k < (zs ++ pad n z).length := by rw [List.length_append, length_pad]; exact h2
  rw [ix_lt _ h3, List.getElem_append_right h1]
  unfold pad; rw [List.getElem_replicate]
theorem kept_refl (a : World) : Below a.heap.size a a := Below.refl _ _
theorem kept_trans {a b c : World} (h : Below a.heap.size a b) (g : Below b.heap.size b c) : Below a.heap.size a c := h.trans (g.mono h.size)
theorem kept_alloc {a b : World} (h : Below a.heap.size a b) (o : Obj) : Below a.heap.size a (b.alloc o) := h.alloc h.size o
theorem kept_drewN {a b : World} (h : Below a.heap.size a b) (n : Nat) : Below a.heap.size a (b.drewN n) := ⟨h.os, h.tape, h.output, h.size, h.block⟩
theorem drewN_zero (w : World) : w.drewN 0 = w := rfl
theorem below_drewN' {B : Nat} {a w : World} (h : Below B a w) (n : Nat) : Below B a (w.drewN n) := ⟨h.os, h.tape, h.output, h.size, h.block⟩
end Go.Proofs.Ytjadbppcjndmlaa
