/- The program's disk in memory: what a pointer to it stands for, and what stays of it when memory turns. No condition. -/
import Derived.Test.YtkmcnhjfnjikaaaGreatDoorPure
import Derived.Test.YtkmcnhjfnjikaaaGreatDoorKbas
import Derived.Test.YtkmcnhjfnjikaaaGreatDoorProg
import Derived.Maps.OwnSet
import Derived.Maps.OwnOps
import Derived.Sort.KeysCollected
import Derived.WalkKit
import Derived.WalkSpells
import Derived.WalkLawsBesides
import Derived.LoopTactic
import Derived.Maps.RangeWalk
import Derived.BigQuiet
import Derived.Deep.QuietTactic
import Derived.RegionTactic
import Derived.StillTailTactics
namespace Go.Proofs.YtkmcnhjfnjikaaaGreatDoor
open Go.RowKit Go.Maps
/-- The world w' is w, but for the blocks of S and for new ones. -/
structure Turn (S : Nat → Prop) (w w' : World) : Prop where
  os : w'.os = w.os
  tape : w'.tape = w.tape
  output : w'.output = w.output
  size : w.heap.size ≤ w'.heap.size
  block : ∀ k, k < w.heap.size → ¬ S k → w'.heap[k]? = w.heap[k]?
/-- .. and what is owned behind it was owned, or is new. -/
structure Own (S : Nat → Prop) (w : World) (S' : Nat → Prop) (w' : World) : Prop where
  turn : Turn S w w'
  new : ∀ k, S' k → S k ∨ w.heap.size ≤ k
section
variable {S S' T : Nat → Prop} {w w' w2 : World}
theorem Turn.refl (S : Nat → Prop) (w : World) : Turn S w w := ⟨rfl, rfl, rfl, Nat.le_refl _, fun _ _ _ => rfl⟩
theorem Turn.mono (h : Turn S w w') (hs : ∀ k, S k → T k) : Turn T w w' := ⟨h.os, h.tape, h.output, h.size, fun k hk hn => h.block k hk fun x => hn (hs k x)⟩
theorem Turn.trans (h : Turn S w w') (g : Turn S' w' w2) (hs : ∀ k, S' k → S k ∨ w.heap.size ≤ k) : Turn S w w2 :=
  ⟨g.os.trans h.os, g.tape.trans h.tape, g.output.trans h.output, Nat.le_trans h.size g.size, fun k hk hn => (g.block k (Nat.lt_of_lt_of_le hk h.size) fun x => by rcases hs k x with y | y; exact hn y; omega).trans (h.block k hk hn)⟩
theorem Turn.of_below (h : Below w.heap.size w w') : Turn S w w' := ⟨h.os, h.tape, h.output, h.size, fun k hk _ => h.block k hk⟩
theorem Turn.of_grown {row : Option Nat} (h : w.grownBy w' row) (hr : ∀ k, row = some k → S k) : Turn S w w' :=
  ⟨h.os, h.tape, h.output, h.size, fun k hk hn => h.block k hk fun e => hn (hr k e.symm)⟩
theorem Turn.drewN (h : Turn S w w') (n : Nat) : Turn S w (w'.drewN n) := ⟨h.os, h.tape, h.output, h.size, h.block⟩
theorem Turn.put (h : Turn S w w') {g : Nat} (hg : S g) (i : Nat) (u : Value) : Turn S w (w'.setCell ⟨g, i, none⟩ u) :=
  ⟨h.os, h.tape, h.output, by simp [World.setCell]; exact h.size, fun k hk hn => (Below.heap_setCell w' ⟨g, i, none⟩ u k (fun e => hn (e ▸ hg))).trans (h.block k hk hn)⟩
theorem Turn.alloc (h : Turn S w w') (o : Obj) : Turn S w (w'.alloc o) := h.trans (Turn.of_below (S := fun _ => False) ((Below.refl _ _).alloc (Nat.le_refl _) o)) (fun _ x => x.elim)
theorem Own.refl (S : Nat → Prop) (w : World) : Own S w S w := ⟨Turn.refl _ _, fun _ h => .inl h⟩
theorem Own.trans {S2 : Nat → Prop} (h : Own S w S' w') (g : Own S' w' S2 w2) : Own S w S2 w2 :=
  ⟨h.turn.trans g.turn h.new, fun k hk => by
    rcases g.new k hk with x | x
    · exact h.new k x
    · exact .inr (Nat.le_trans h.turn.size x)⟩
/-- What was owned, and all that is new. -/
def More (S : Nat → Prop) (w w' : World) : Nat → Prop := fun k => S k ∨ (w.heap.size ≤ k ∧ k < w'.heap.size)
theorem Own.more (h : Turn S w w') : Own S w (More S w w') w' := ⟨h, fun _ hk => hk.imp id And.left⟩
end
/-- How a pointer in a map's cell reads: the number of its block; nil: -1. -/
def ptrElem (v : Value) : Option (DataW Unit × List MemPlace) :=
  match v with
  | .pointer none => some (.lit (.int .i64 (-1)), [])
  | .pointer (some ⟨p, 0, none⟩) => some (.lit (.int .i64 p), [])
  | _ => none
theorem ptrElem_inv {v : Value} {y : DataW Unit × List MemPlace} (h : ptrElem v = some y) : (v = .pointer none ∧ y = (.lit (.int .i64 (-1)), [])) ∨ ∃ p : Nat, v = .pointer (some ⟨p, 0, none⟩) ∧ y = (.lit (.int .i64 p), []) := by
  unfold ptrElem at h
  split at h
  · cases h; exact .inl ⟨rfl, rfl⟩
  · rename_i p; cases h; exact .inr ⟨p, rfl, rfl⟩
  · cases h
theorem law : Keyed Tryz.prog 9 := string_keyed Tryz.underlying9
/-- A name as a key. -/
def kl (s : ByteArray) : Lit := .string s.data.toList
theorem kl_key (s : ByteArray) : WideAt.IsKeyLit (kl s) := trivial
theorem kl_inj {a b : ByteArray} (h : kl a = kl b) : a = b := by
  unfold kl at h
  injection h with h
  exact ByteArray.ext (Array.toList_inj.1 h)
theorem key_of {s : ByteArray} (h : s.size ≤ maxLen) : keyOf Tryz.prog 9 (.string s) = some (kl s) := Go.WideMaps.keyOf_string_mk Tryz.underlying9 h
theorem ptr_zero (w : World) : (zeroValue 101).run Tryz.prog w = .ok (.pointer none) w := by kernel_rfl
/-- Where a file lies: its own block, its bytes' block, their room. -/
structure Loc where
  p : Nat
  r : Option Nat
  c : Nat
def Loc.A (x : Loc) : Option Addr := x.r.map fun r => ⟨r, 0, none⟩
def upd (loc : ByteArray → Loc) (nm : ByteArray) (x : Loc) : ByteArray → Loc := fun s => if s = nm then x else loc s
theorem upd_self (loc : ByteArray → Loc) (nm : ByteArray) (x : Loc) : upd loc nm x nm = x := by simp [upd]
theorem upd_other (loc : ByteArray → Loc) {nm s : ByteArray} (x : Loc) (h : s ≠ nm) : upd loc nm x s = loc s := by simp [upd, h]
/-- A file's own block and its bytes. -/
structure OneF (w : World) (x : Loc) (n k : Nat) (zs : List Int) : Prop where
  head : Row w x.p 115 #[.slice x.A n x.c, .int .i64 k]
  data : w.ownsRow 0 5 1 (.slice x.A n x.c) n (cellsOf zs)
theorem OneF.kept {w w' : World} {x : Loc} {n k : Nat} {zs : List Int} (h : OneF w x n k zs) (h1 : w'.heap[x.p]? = w.heap[x.p]?) (h2 : ∀ r, x.r = some r → w'.heap[r]? = w.heap[r]?) : OneF w' x n k zs := by
  refine ⟨h1.trans h.head, h.data.1, ?_⟩
  rcases h.data.2 with hn | ⟨g, cap, cur, hv, hb, hg, rest⟩
  · exact .inl hn
  · refine .inr ⟨g, cap, cur, hv, hb, ?_, rest⟩
    rw [h2 g ?_]
    · exact hg
    · injection hv with hA
      unfold Loc.A at hA
      cases hr : x.r with
      | none => rw [hr] at hA; cases hA
      | some q => rw [hr] at hA; simp at hA; rw [hA]
theorem OneF.len {w : World} {x : Loc} {n k : Nat} {zs : List Int} (h : OneF w x n k zs) : zs.length = n := by have := h.data.1; rw [length_cellsOf] at this; omega
theorem OneF.lies {w : World} {x : Loc} {n k : Nat} {zs : List Int} (h : OneF w x n k zs) : Lies w x.A zs := Lies.of_own h.data
theorem OneF.nil {w : World} {x : Loc} {n k : Nat} {zs : List Int} (h : OneF w x n k zs) (hA : x.A = none) : x.c = 0 := by
  rcases h.data.2 with ⟨hv, _⟩ | ⟨g, cap, cur, hv, _⟩
  · injection hv
  · injection hv with h1; rw [hA] at h1; cases h1
theorem OneF.le {w : World} {x : Loc} {n k : Nat} {zs : List Int} (h : OneF w x n k zs) : n ≤ x.c := by
  rcases h.data.2 with ⟨hv, h0⟩ | ⟨g, cap, cur, hv, _, _, hc, _⟩
  · omega
  · injection hv with _ _ h3; rw [h3]; exact hc
/-- The files l lie at loc, each in blocks of its own, all in S. -/
structure Files (S : Nat → Prop) (w : World) (l : List Fl) (loc : ByteArray → Loc) : Prop where
  one : ∀ x, x ∈ l → OneF w (loc x.nm) x.dt.length x.kp x.dt
  inj : ∀ x, x ∈ l → ∀ y, y ∈ l → (loc x.nm).p = (loc y.nm).p → x.nm = y.nm
  apart : ∀ x, x ∈ l → ∀ y, y ∈ l → ∀ r, (loc x.nm).r = some r → (loc y.nm).r = some r → x.nm = y.nm
  inp : ∀ x, x ∈ l → S (loc x.nm).p
  inr : ∀ x, x ∈ l → ∀ r, (loc x.nm).r = some r → S r
section
variable {S S' : Nat → Prop} {w w' : World} {l : List Fl} {loc : ByteArray → Loc} {b : Nat}
theorem Files.kept (h : Files S w l loc) (hs : ∀ k, S k → S' k) (hp : ∀ x, x ∈ l → w'.heap[(loc x.nm).p]? = w.heap[(loc x.nm).p]?) (hr : ∀ x, x ∈ l → ∀ r, (loc x.nm).r = some r → w'.heap[r]? = w.heap[r]?) : Files S' w' l loc :=
  ⟨fun x hx => (h.one x hx).kept (hp x hx) (hr x hx), h.inj, h.apart, fun x hx => hs _ (h.inp x hx), fun x hx r hr => hs _ (h.inr x hx r hr)⟩
theorem Files.del (h : Files S w l loc) (nm : ByteArray) : Files S w (delF nm l) loc :=
  ⟨fun x hx => h.one x (mem_delF.1 hx).1, fun x hx y hy => h.inj x (mem_delF.1 hx).1 y (mem_delF.1 hy).1, fun x hx y hy => h.apart x (mem_delF.1 hx).1 y (mem_delF.1 hy).1, fun x hx => h.inp x (mem_delF.1 hx).1, fun x hx => h.inr x (mem_delF.1 hx).1⟩
theorem Files.put (h : Files S w l loc) (hu : Up l) (f : Fl) (x : Loc) (ho : OneF w x f.dt.length f.kp f.dt) (hp : ∀ y, y ∈ l → y.nm ≠ f.nm → (loc y.nm).p ≠ x.p) (hr : ∀ y, y ∈ l → y.nm ≠ f.nm → ∀ r, (loc y.nm).r = some r → x.r ≠ some r)
    (h1 : S x.p) (h2 : ∀ r, x.r = some r → S r) : Files S w (putF f l) (upd loc f.nm x) := by
  have key : ∀ y, y ∈ putF f l → (y = f ∧ upd loc f.nm x y.nm = x) ∨ (y ∈ l ∧ y.nm ≠ f.nm ∧ upd loc f.nm x y.nm = loc y.nm) := fun y hy => by
    rcases (mem_putF hu).1 hy with rfl | ⟨h3, h4⟩
    · exact .inl ⟨rfl, upd_self ..⟩
    · exact .inr ⟨h3, h4, upd_other _ _ h4⟩
  refine ⟨fun y hy => ?_, fun y hy z hz e => ?_, fun y hy z hz r e1 e2 => ?_, fun y hy => ?_, fun y hy => ?_⟩
  · rcases key y hy with ⟨rfl, e⟩ | ⟨h3, _, e⟩
    · rw [e]; exact ho
    · rw [e]; exact h.one y h3
  · rcases key y hy with ⟨rfl, ey⟩ | ⟨h3, h4, ey⟩ <;> rcases key z hz with ⟨rfl, ez⟩ | ⟨h5, h6, ez⟩
    · rfl
    · rw [ey, ez] at e; exact absurd e.symm (hp z h5 h6)
    · rw [ey, ez] at e; exact absurd e (hp y h3 h4)
    · rw [ey, ez] at e; exact h.inj y h3 z h5 e
  · rcases key y hy with ⟨rfl, ey⟩ | ⟨h3, h4, ey⟩ <;> rcases key z hz with ⟨rfl, ez⟩ | ⟨h5, h6, ez⟩
    · rfl
    · rw [ey] at e1; rw [ez] at e2; exact absurd e1 (hr z h5 h6 r e2)
    · rw [ey] at e1; rw [ez] at e2; exact absurd e2 (hr y h3 h4 r e1)
    · rw [ey] at e1; rw [ez] at e2; exact h.apart y h3 z h5 r e1 e2
  · rcases key y hy with ⟨rfl, e⟩ | ⟨h3, _, e⟩
    · rw [e]; exact h1
    · rw [e]; exact h.inp y h3
  · rcases key y hy with ⟨rfl, e⟩ | ⟨h3, _, e⟩
    · rw [e]; exact h2
    · rw [e]; exact h.inr y h3
/-- What the map holds under a name. -/
def ptrO (loc : ByteArray → Loc) (l : List Fl) (s : ByteArray) : Option Addr := (find s l).map fun _ => ⟨(loc s).p, 0, none⟩
def numO (loc : ByteArray → Loc) (l : List Fl) (s : ByteArray) : Int := if (find s l).isSome then (loc s).p else -1
/-- Block b is the map of the files l. -/
def MapIs (w : World) (b : Nat) (l : List Fl) (loc : ByteArray → Loc) : Prop :=
  ∃ D : DataW Unit, w.ownsMap Tryz.prog 9 ptrElem b l.length D ∧ size D = l.length ∧ ∀ s : ByteArray, has D (kl s) = (find s l).isSome ∧ D.atKey (kl s) (.lit (.int .i64 (-1))) = .lit (.int .i64 (numO loc l s))
theorem MapIs.kept (h : MapIs w b l loc) (e : w'.heap[b]? = w.heap[b]?) : MapIs w' b l loc := by
  obtain ⟨D, ⟨es, c, hb, r⟩, hm⟩ := h
  exact ⟨D, ⟨es, c, e.trans hb, r⟩, hm⟩
theorem MapIs.lt (h : MapIs w b l loc) : b < w.heap.size := by obtain ⟨D, hD, _⟩ := h; exact hD.lt
theorem MapIs.ne (h : MapIs w b l loc) {g : Nat} {t : TypeId} {cs : Array Value} (hr : Row w g t cs) : g ≠ b := fun e => by
  obtain ⟨D, ⟨es, c, hb, _⟩, _⟩ := h
  unfold Row at hr
  rw [e, hb] at hr; cases hr
theorem MapIs.ne_own (h : MapIs w b l loc) {A : Option Addr} {n c : Nat} {xs : List Value} (ho : w.ownsRow 0 5 1 (.slice A n c) n xs) {r : Nat} (hA : A = some ⟨r, 0, none⟩) : r ≠ b := fun e => by
  obtain ⟨D, ⟨es, c, hb, _⟩, _⟩ := h
  rcases ho.2 with ⟨hv, _⟩ | ⟨g, cap, cur, hv, _, hg, _⟩
  · injection hv with h1; rw [hA] at h1; cases h1
  · injection hv with h1; rw [hA] at h1; injection h1 with h1; injection h1 with h1; rw [← h1, e, hb] at hg; cases hg
/-- 'files[name]'. -/
theorem MapIs.look (h : MapIs w b l loc) (s : ByteArray) (hs : s.size ≤ maxLen) :
    (Instr.lookup 74 (.map (some b)) (.string s) false).run Tryz.prog w = .ok (.pointer (ptrO loc l s)) w := by
  obtain ⟨D, hD, _, hm⟩ := h
  obtain ⟨v, ps, hr, hv⟩ := hD.lookup (z := .pointer none) law Tryz.underlying74 (ptr_zero w) (zd := .lit (.int .i64 (-1))) (zp := []) rfl (key_of hs)
  rw [(hm s).2] at hv
  rw [hr]
  have : v = .pointer (ptrO loc l s) := by
    unfold numO at hv
    unfold ptrO
    cases hf : find s l with
    | none =>
      rw [hf] at hv
      rcases ptrElem_inv hv with ⟨e, _⟩ | ⟨p, _, e⟩
      · exact e
      · simp at e
    | some f =>
      rw [hf] at hv
      rcases ptrElem_inv hv with ⟨_, e⟩ | ⟨p, e1, e⟩
      · simp at e
      · simp at e; rw [e1]; simp
  rw [this]
theorem tight {n : Nat} {D : DataW Unit} (h : w.ownsMap Tryz.prog 9 ptrElem b n D) : w.ownsMap Tryz.prog 9 ptrElem b (size D) D := by
  obtain ⟨es, c, hb, F, hs, rfl⟩ := h
  exact ⟨es, c, hb, F, by simp [size, length_sorted], rfl⟩
/-- 'files[name] = pointer'. -/
theorem MapIs.put (h : MapIs w b l loc) (hu : Up l) (hn : l.length < maxLen) (f : Fl) (x : Loc) (hs : f.nm.size ≤ maxLen) :
    ∃ w', (Instr.mapUpdate 74 (.map (some b)) (.string f.nm) (.pointer (some ⟨x.p, 0, none⟩))).run Tryz.prog w = .ok () w' ∧ MapIs w' b (putF f l) (upd loc f.nm x) ∧ w.grownBy w' (some b) := by
  obtain ⟨D, hD, hz, hm⟩ := h
  obtain ⟨w', hr, hD', hg⟩ := hD.update law Tryz.underlying74 hn (key_of hs) (val := .pointer (some ⟨x.p, 0, none⟩)) (d := .lit (.int .i64 x.p)) (ps := []) rfl
  have ht := hD.tidy law
  have hz' : size (D.put (kl f.nm) (.lit (.int .i64 x.p))) = (putF f l).length := by
    rw [size_put ht, length_putF f l hu, hz, (hm f.nm).1]
  refine ⟨w', hr, ⟨_, ?_, hz', fun s => ?_⟩, hg⟩
  · rw [← hz']; exact tight hD'
  · unfold numO
    rw [find_putF f s l hu]
    by_cases e : s = f.nm
    · subst e
      rw [if_pos rfl, upd_self]
      exact ⟨by rw [has_put_same ht.isMap (kl_key _)]; rfl, by rw [atKey_put_same ht.isMap (kl_key _)]; rfl⟩
    · rw [if_neg e, upd_other _ _ e]
      have hne : kl s ≠ kl f.nm := fun k => e (kl_inj k)
      exact ⟨by rw [has_put_other hne]; exact (hm s).1, by rw [atKey_put_other hne]; exact (hm s).2⟩
/-- What is left where a name was struck. -/
theorem MapIs.strike (hu : Up l) {D : DataW Unit} {nm : ByteArray} (ht : Tidy D) (hz : size D = l.length) (hm : ∀ s : ByteArray, has D (kl s) = (find s l).isSome ∧ D.atKey (kl s) (.lit (.int .i64 (-1))) = .lit (.int .i64 (numO loc l s)))
    {n : Nat} (hD' : w'.ownsMap Tryz.prog 9 ptrElem b n (D.del (kl nm))) : MapIs w' b (delF nm l) loc := by
  have hz' : size (D.del (kl nm)) = (delF nm l).length := by
    have h1 := size_del (k := kl nm) ht
    rw [(hm nm).1, hz] at h1
    rw [length_delF nm l hu]
    cases hf : find nm l with
    | none => rw [hf] at h1; simpa using h1
    | some f => rw [hf] at h1; simp at h1 ⊢; omega
  refine ⟨_, by rw [← hz']; exact tight hD', hz', fun s => ?_⟩
  unfold numO
  rw [find_delF]
  by_cases e : s = nm
  · subst e
    rw [if_pos rfl]
    exact ⟨by rw [has_del_same]; rfl, by rw [atKey_del_same]; rfl⟩
  · rw [if_neg e]
    have hne : kl s ≠ kl nm := fun k => e (kl_inj k)
    exact ⟨by rw [has_del_other hne]; exact (hm s).1, by rw [atKey_del_other hne]; exact (hm s).2⟩
/-- The same file block under the same name. -/
theorem MapIs.same (h : MapIs w b l loc) (hu : Up l) (f : Fl) (x : Loc) (hi : (find f.nm l).isSome) (hp : x.p = (loc f.nm).p) : MapIs w b (putF f l) (upd loc f.nm x) := by
  obtain ⟨D, hD, hz, hm⟩ := h
  have hl : (putF f l).length = l.length := by rw [length_putF f l hu, if_pos hi]
  refine ⟨D, by rw [hl]; exact hD, by rw [hl]; exact hz, fun s => ?_⟩
  unfold numO
  rw [find_putF f s l hu]
  have := hm s
  unfold numO at this
  by_cases e : s = f.nm
  · subst e
    rw [if_pos rfl, upd_self, hp]
    rw [hi] at this
    exact this
  · rw [if_neg e, upd_other _ _ e]; exact this
end
/-- A disk that may be. -/
structure DOk (d : DS) : Prop where
  up : Up d.l
  q : 0 ≤ d.q ∧ d.q ≤ 1048576
  tot : (total d.l : Int) ≤ d.q
  kp : ∀ f, f ∈ d.l → f.kp ≤ f.dt.length
  nm : ∀ f, f ∈ d.l → nameB f.nm = true
  oct : ∀ f, f ∈ d.l → Octets f.dt
  left : -1 ≤ d.left ∧ d.left ≤ 9223372036854775807
/-- The parts of a disk at block g. -/
structure Dp (S : Nat → Prop) (w : World) (g b : Nat) (lf : Int) (loc : ByteArray → Loc) (d : DS) : Prop where
  ok : DOk d
  lt : ∀ k, S k → k < w.heap.size
  row : Row w g 76 #[.int .i64 d.q, .map (some b), .int .i64 lf, .bool d.off]
  lf : max lf (-1) = d.left ∧ -9223372036854775808 ≤ lf ∧ lf ≤ 9223372036854775807
  sg : S g
  sb : S b
  map : MapIs w b d.l loc
  files : Files S w d.l loc
/-- At block g there is the disk d; all its blocks are in S. -/
def Dk (S : Nat → Prop) (w : World) (g : Nat) (d : DS) : Prop := ∃ b lf loc, Dp S w g b lf loc d
section
variable {S S' : Nat → Prop} {w w' : World} {g b : Nat} {lf : Int} {loc : ByteArray → Loc} {d : DS}
theorem Dp.files_lt (h : Dp S w g b lf loc d) {x : Fl} (hx : x ∈ d.l) : (loc x.nm).p < w.heap.size ∧ ∀ r, (loc x.nm).r = some r → r < w.heap.size :=
  ⟨h.lt _ (h.files.inp x hx), fun r hr => h.lt _ (h.files.inr x hx r hr)⟩
/-- It stays while its blocks stay. -/
theorem Dp.kept (h : Dp S w g b lf loc d) (hs : w.heap.size ≤ w'.heap.size) (e : ∀ k, S k → w'.heap[k]? = w.heap[k]?) : Dp S w' g b lf loc d :=
  ⟨h.ok, fun k hk => Nat.lt_of_lt_of_le (h.lt k hk) hs, (e g h.sg).trans h.row, h.lf, h.sg, h.sb, h.map.kept (e b h.sb), h.files.kept (fun _ k => k) (fun x hx => e _ (h.files.inp x hx)) (fun x hx r hr => e _ (h.files.inr x hx r hr))⟩
theorem Dk.kept (h : Dk S w g d) (hs : w.heap.size ≤ w'.heap.size) (e : ∀ k, S k → w'.heap[k]? = w.heap[k]?) : Dk S w' g d := by
  obtain ⟨b, lf, loc, h⟩ := h; exact ⟨b, lf, loc, h.kept hs e⟩
theorem Dk.lt (h : Dk S w g d) : ∀ k, S k → k < w.heap.size := by obtain ⟨b, lf, loc, h⟩ := h; exact h.lt
theorem Dk.ok (h : Dk S w g d) : DOk d := by obtain ⟨b, lf, loc, h⟩ := h; exact h.ok
theorem Dk.below (h : Dk S w g d) (hb : Below w.heap.size w w') : Dk S w' g d := h.kept hb.size fun k hk => hb.block k (h.lt k hk)
theorem Dp.below (h : Dp S w g b lf loc d) (hb : Below w.heap.size w w') : Dp S w' g b lf loc d := h.kept hb.size fun k hk => hb.block k (h.lt k hk)
theorem Dk.turn {T : Nat → Prop} (h : Dk S w g d) (ht : Turn T w w') (hd : ∀ k, S k → ¬ T k) : Dk S w' g d := h.kept ht.size fun k hk => ht.block k (h.lt k hk) (hd k hk)
theorem Dp.ne (h : Dp S w g b lf loc d) {x : Fl} (hx : x ∈ d.l) : (loc x.nm).p ≠ g := fun e => by
  have h1 := (h.files.one x hx).head
  have h2 := h.row
  unfold Row at h1 h2
  rw [e, h2] at h1
  injection h1 with h1
  injection h1 with _ h1
  exact absurd h1 (by decide)
end
end Go.Proofs.YtkmcnhjfnjikaaaGreatDoor
/- May a file have that name: the program's, the document's, the law's own. Condition: the text has room. -/
namespace Go.Proofs.YtkmcnhjfnjikaaaGreatDoor
open Go.RowKit
/-- May byte k stand in a name. -/
def okAt (s : ByteArray) (k : Nat) : Prop := ∀ h : k < s.size, 33 ≤ (s[k].toNat : Int) ∧ (s[k].toNat : Int) ≤ 126
theorem all_ok (s : ByteArray) : (s.data.toList.all fun c => 33 ≤ c && c ≤ 126) = true ↔ ∀ k, k < s.size → okAt s k := by
  rw [List.all_eq_true]
  constructor
  · intro h k hk _
    have := h (s[k]) (by show s.data[k] ∈ s.data.toList; exact Array.getElem_mem_toList hk)
    simp [UInt8.le_iff_toNat_le] at this
    omega
  · intro h c hc
    obtain ⟨k, hk, rfl⟩ := List.getElem_of_mem hc
    rw [Array.length_toList] at hk
    have := h k hk hk
    simp [UInt8.le_iff_toNat_le]
    have e : s[k] = s.data[k] := rfl
    rw [e] at this
    omega
theorem name_yes {s : ByteArray} (h0 : 1 ≤ s.size) (h1 : s.size ≤ 24) (h : ∀ k, k < s.size → okAt s k) : nameB s = true := by
  unfold nameB; rw [(all_ok s).2 h]; simp [h0, h1]
theorem name_no {s : ByteArray} {k : Nat} (hk : k < s.size) (h : ¬ okAt s k) : nameB s = false := by
  unfold nameB
  have : (s.data.toList.all fun c => 33 ≤ c && c ≤ 126) = false := by
    cases hc : (s.data.toList.all fun c => 33 ≤ c && c ≤ 126)
    · rfl
    · exact absurd ((all_ok s).1 hc k hk) h
  rw [this]; simp
theorem name_size {s : ByteArray} (h : nameB s = true) : 1 ≤ s.size ∧ s.size ≤ 24 := by
  unfold nameB at h; simp at h; exact ⟨h.1, h.2.1⟩
set_option maxHeartbeats 1000000 in
theorem mayBe_any (s : ByteArray) (w : World) (hs : s.size ≤ 140737488351232) : Calls Tryz.prog 63 #[.string s] w fun e w' => e = .returned (.bool (nameB s)) ∧ w = w' := by
  by_cases h0 : s.size < 1
  · have hn := hide (show nameB s = false from by unfold nameB; simp; omega)
    go_enter Tryz.func63, Tryz.ntmps63
    go_wp2
    go_ret
    exact ⟨ret_bool hn.out.symm, rfl⟩
  by_cases h1 : 24 < s.size
  · have hn := hide (show nameB s = false from by unfold nameB; simp; omega)
    go_enter Tryz.func63, Tryz.ntmps63
    go_wp2
    go_ret
    exact ⟨ret_bool hn.out.symm, rfl⟩
  go_enter Tryz.func63, Tryz.ntmps63
  go_wp2
  go_loop [14] (fun i => ∃ k : Nat, k ≤ s.size ∧ i = .int .i64 k ∧ Hid (∀ j, j < k → okAt s j)) (fun i => s.size - (intOf i).toNat)
  case atStart => exact ⟨0, by omega, rfl, fun j hj => absurd hj (by omega)⟩
  case round =>
    obtain ⟨k, hk, rfl, hs⟩ := hrel
    by_cases hlt : k < s.size
    · by_cases hc : okAt s k
      · have hc' := hc hlt
        have HC := hide hc
        have HS := hide (show ∀ j, j < k + 1 → okAt s j from fun j hj => by
          rcases Nat.lt_or_ge j k with h | h
          · exact hs.out j h
          · obtain rfl : j = k := by omega
            exact HC.out)
        obtain ⟨hc1, hc2⟩ := hc'
        clear hc HC hs
        go_wp2
        go_round
        case rel => exact ⟨k + 1, by omega, by go_num, HS⟩
        case measure => simp [intOf]; omega
      · have hn := hide (name_no hlt hc)
        have hc' : (s[k].toNat : Int) < 33 ∨ 126 < (s[k].toNat : Int) := by
          rcases Int.lt_or_le (s[k].toNat : Int) 33 with h | h
          · exact .inl h
          · right
            rcases Int.lt_or_le 126 (s[k].toNat : Int) with h2 | h2
            · exact h2
            · exact absurd (fun _ => ⟨h, h2⟩) hc
        clear hc hs
        rcases hc' with hc' | hc'
        · go_wp2
          go_ret
          exact ⟨ret_bool hn.out.symm, rfl⟩
        · go_wp2
          all_goals
            go_ret
            exact ⟨ret_bool hn.out.symm, rfl⟩
    · have hn := hide (name_yes (s := s) (by omega) (by omega) (fun j hj => hs.out j (by omega)))
      go_wp2
      go_ret
      exact ⟨ret_bool hn.out.symm, rfl⟩
end Go.Proofs.YtkmcnhjfnjikaaaGreatDoor
/- New, spend, Arm, Off of the program's disk. Condition: a number that an int holds. -/
namespace Go.Proofs.YtkmcnhjfnjikaaaGreatDoor
open Go.RowKit Go.Maps
section
variable {S : Nat → Prop} {w w' : World} {g b : Nat} {lf : Int} {loc : ByteArray → Loc} {d : DS}
theorem dok_spent (h : DOk d) : DOk d.spent := by
  unfold DS.spent
  have := h.left
  split
  · exact ⟨h.up, h.q, h.tot, h.kp, h.nm, h.oct, h.left⟩
  · split
    · refine ⟨h.up, h.q, h.tot, h.kp, h.nm, h.oct, ?_⟩
      simp only; omega
    · exact h
theorem spent_l (d : DS) : d.spent.l = d.l := by
  unfold DS.spent
  split
  · rfl
  · split <;> rfl
theorem spent_q (d : DS) : d.spent.q = d.q := by
  unfold DS.spent
  split
  · rfl
  · split <;> rfl
/-- What stays where the disk's own cells alone turn. -/
theorem Dp.cells (h : Dp S w g b lf loc d) {e : DS} {m : Int} (hw : w.grownBy w' (some g)) (hr : Row w' g 76 #[.int .i64 e.q, .map (some b), .int .i64 m, .bool e.off]) (hm : max m (-1) = e.left ∧ -9223372036854775808 ≤ m ∧ m ≤ 9223372036854775807) (hl : e.l = d.l) (hk : DOk e) : Dp S w' g b m loc e := by
  refine ⟨hk, fun k hk => Nat.lt_of_lt_of_le (h.lt k hk) hw.size, hr, hm, h.sg, h.sb, ?_, ?_⟩
  · rw [hl]; exact h.map.kept (hw.block b (h.lt b h.sb) (fun e => h.map.ne h.row (Option.some.inj e).symm))
  · rw [hl]
    refine h.files.kept (fun _ k => k) (fun x hx => hw.block _ (h.files_lt hx).1 (fun e => h.ne hx (Option.some.inj e))) (fun x hx r hr2 => hw.block r ((h.files_lt hx).2 r hr2) (fun e => ?_))
    obtain rfl := Option.some.inj e
    have h1 := (h.files.one x hx).data
    rcases h1.2 with ⟨hv, _⟩ | ⟨q, cap, cur, hv, _, hg, _⟩
    · injection hv with hA; unfold Loc.A at hA; rw [hr2] at hA; cases hA
    · injection hv with hA; unfold Loc.A at hA; rw [hr2] at hA; injection hA with hA; injection hA with hA
      have h2 := h.row
      unfold Row at h2
      rw [← hA, h2] at hg
      injection hg with hg; injection hg with _ hg
      exact absurd hg (by decide)
end
set_option maxHeartbeats 1000000 in
theorem spend_dp {S : Nat → Prop} {g b : Nat} {lf : Int} {loc : ByteArray → Loc} {d : DS} {w : World} (h : Dp S w g b lf loc d) :
    Calls Tryz.prog 64 #[.pointer (some ⟨g, 0, none⟩)] w fun e w' => e = .returned (.bool d.spends) ∧ (∃ m, Dp S w' g b m loc d.spent) ∧ w.grownBy w' (some g) := by
  have hlf := h.lf
  have c2 : w.cell? ⟨g, 2, none⟩ = some (.int .i64 lf) := h.row.cell 2
  have f2 : w.frozen? ⟨g, 2, none⟩ = false := h.row.free 2
  have f3 : w.frozen? ⟨g, 3, none⟩ = false := h.row.free 3
  have c3 : w.cell? ⟨g, 3, none⟩ = some (.bool d.off) := h.row.cell 3
  by_cases h0 : lf = 0
  · subst h0
    have hd : d.left = 0 := by have := hlf.1; omega
    have H := hide (show DS.spends d = false ∧ (∃ m, Dp S (w.setCell ⟨g, 3, none⟩ (.bool true)) g b m loc d.spent) ∧ w.grownBy (w.setCell ⟨g, 3, none⟩ (.bool true)) (some g) from by
      have hg := grown_put (grown_refl w (some g)) 3 (.bool true)
      refine ⟨by unfold DS.spends; rw [hd]; rfl, ⟨0, h.cells hg ?_ ?_ (spent_l d) (dok_spent h.ok)⟩, hg⟩
      · rw [show d.spent = { d with off := true } from by unfold DS.spent; rw [if_pos hd]]
        exact h.row.put 3 (.bool true)
      · rw [show d.spent = { d with off := true } from by unfold DS.spent; rw [if_pos hd]]
        exact hlf)
    clear h hlf hd
    go_enter Tryz.func64, Tryz.ntmps64
    go_wp2
    go_ret
    exact ⟨ret_bool H.out.1.symm, H.out.2⟩
  · by_cases h1 : 0 < lf
    · have hd : d.left = lf := by have := hlf.1; omega
      have H := hide (show DS.spends d = true ∧ (∃ m, Dp S (w.setCell ⟨g, 2, none⟩ (.int .i64 (lf - 1))) g b m loc d.spent) ∧ w.grownBy (w.setCell ⟨g, 2, none⟩ (.int .i64 (lf - 1))) (some g) from by
        have hg := grown_put (grown_refl w (some g)) 2 (.int .i64 (lf - 1))
        have e : d.spent = { d with left := lf - 1 } := by unfold DS.spent; rw [if_neg (by omega), if_pos (by omega), hd]
        refine ⟨by unfold DS.spends; rw [hd]; simpa using h0, ⟨lf - 1, h.cells hg ?_ ?_ (spent_l d) (dok_spent h.ok)⟩, hg⟩
        · rw [e]; exact h.row.put 2 (.int .i64 (lf - 1))
        · rw [e]; simp only; omega)
      have hlo := hlf.2
      clear h hlf hd
      go_enter Tryz.func64, Tryz.ntmps64
      go_wp2
      go_ret
      exact ⟨ret_bool H.out.1.symm, H.out.2⟩
    · have hd : d.left = -1 := by have := hlf.1; omega
      have H := hide (show DS.spends d = true ∧ (∃ m, Dp S w g b m loc d.spent) ∧ w.grownBy w (some g) from by
        have e : d.spent = d := by unfold DS.spent; rw [if_neg (by omega), if_neg (by omega)]
        exact ⟨by unfold DS.spends; rw [hd]; rfl, e.symm ▸ ⟨lf, h⟩, grown_refl _ _⟩)
      have hlo := hlf.2
      clear h hlf hd
      go_enter Tryz.func64, Tryz.ntmps64
      go_wp2
      go_ret
      exact ⟨ret_bool H.out.1.symm, H.out.2⟩
theorem spend_any {S : Nat → Prop} (g : Nat) (d : DS) (w : World) (h : Dk S w g d) :
    Calls Tryz.prog 64 #[.pointer (some ⟨g, 0, none⟩)] w fun e w' => e = .returned (.bool d.spends) ∧ Dk S w' g d.spent ∧ w.grownBy w' (some g) := by
  obtain ⟨b, lf, loc, h⟩ := h
  exact (spend_dp h).mono fun e w' ⟨h1, ⟨m, h2⟩, h3⟩ => ⟨h1, ⟨b, m, loc, h2⟩, h3⟩
theorem dok_arm {d : DS} (h : DOk d) (n : Int) (hn : n ≤ 9223372036854775807) : DOk (armS d n) :=
  ⟨h.up, h.q, h.tot, h.kp, h.nm, h.oct, by unfold armS; simp only; omega⟩
set_option maxHeartbeats 1000000 in
theorem arm_any {S : Nat → Prop} (g : Nat) (n : Int) (d : DS) (w : World) (h : Dk S w g d) (hn : -9223372036854775808 ≤ n ∧ n ≤ 9223372036854775807) :
    Calls Tryz.prog 22 #[.pointer (some ⟨g, 0, none⟩), .int .i64 n] w fun e w' => e = .returned (.tuple #[]) ∧ Dk S w' g (armS d n) ∧ w.grownBy w' (some g) := by
  obtain ⟨b, lf, loc, h⟩ := h
  have c2 : w.cell? ⟨g, 2, none⟩ = some (.int .i64 lf) := h.row.cell 2
  have f2 : w.frozen? ⟨g, 2, none⟩ = false := h.row.free 2
  have hg := grown_put (grown_refl w (some g)) 2 (.int .i64 n)
  have H := hide (show Dk S (w.setCell ⟨g, 2, none⟩ (.int .i64 n)) g (armS d n) ∧ w.grownBy (w.setCell ⟨g, 2, none⟩ (.int .i64 n)) (some g) from
    ⟨⟨b, n, loc, h.cells (e := armS d n) (m := n) hg (h.row.put 2 (.int .i64 n)) ⟨rfl, hn⟩ rfl (dok_arm h.ok n hn.2)⟩, hg⟩)
  clear h hg
  go_enter Tryz.func22, Tryz.ntmps22
  go_wp2
  go_end0
  exact ⟨rfl, H.out⟩
/-- The blocks of a new disk. -/
def fresh (w : World) : Nat → Prop := fun k => k = w.heap.size ∨ k = w.heap.size + 1
theorem dk_new (w : World) (q : Int) (hq : 0 ≤ q ∧ q ≤ 1048576) :
    Dk (fresh w) ((w.alloc (.map #[] 0)).alloc (.cells #[.int .i64 q, .map (some w.heap.size), .int .i64 (-1), .bool false] 76)) (w.heap.size + 1) (newS q) := by
  refine ⟨w.heap.size, -1, fun _ => ⟨0, none, 0⟩, ⟨List.Pairwise.nil, hq, ?_, fun f hf => (by cases hf), fun f hf => (by cases hf), fun f hf => (by cases hf), ?_⟩, fun k hk => ?_, ?_, ⟨rfl, by omega, by omega⟩, .inr rfl, .inl rfl, ⟨.map [], (World.ownsMap_made w _ _ _).alloc _, rfl, fun s => ⟨rfl, rfl⟩⟩,
    ⟨fun x hx => (by cases hx), fun x hx => (by cases hx), fun x hx => (by cases hx), fun x hx => (by cases hx), fun x hx => (by cases hx)⟩⟩
  · unfold newS total; simpa using hq.1
  · unfold newS; simp
  · unfold fresh at hk; simp; omega
  · have := Row.new (w.alloc (.map #[] 0)) 76 #[.int .i64 q, .map (some w.heap.size), .int .i64 (-1), .bool false]
    simpa [newS] using this
set_option maxHeartbeats 1000000 in
theorem new_yes (q : Int) (w : World) (hq : 0 ≤ q ∧ q ≤ 1048576) :
    Calls Tryz.prog 10 #[.int .i64 q] w fun e w' => ∃ g, e = .returned (.tuple #[.pointer (some ⟨g, 0, none⟩), .int .i64 0]) ∧ Dk (fresh w) w' g (newS q) ∧ Below w.heap.size w w' := by
  have H := hide (dk_new w q hq)
  have hmm := @run_makeMap Tryz.prog
  go_enter Tryz.func10, Tryz.ntmps10
  go_wp2
  go_ret2
  exact ⟨_, rfl, H.out, kept_alloc (kept_alloc (kept_refl w) _) _⟩
set_option maxHeartbeats 1000000 in
theorem new_no (q : Int) (w : World) (hq : q < 0 ∨ 1048576 < q) :
    Calls Tryz.prog 10 #[.int .i64 q] w fun e w' => e = .returned (.tuple #[.pointer none, .int .i64 1]) ∧ w = w' := by
  rcases hq with hq | hq
  · go_enter Tryz.func10, Tryz.ntmps10
    go_wp2
    go_ret2
    exact ⟨rfl, rfl⟩
  · have h2 : ¬ q < 0 := by omega
    go_enter Tryz.func10, Tryz.ntmps10
    go_wp2
    go_ret2
    exact ⟨rfl, rfl⟩
end Go.Proofs.YtkmcnhjfnjikaaaGreatDoor
/- Total, Room of the program's disk. No condition. -/
namespace Go.Proofs.YtkmcnhjfnjikaaaGreatDoor
open Go.RowKit Go.Maps
/-- The bytes of the files that are no longer to come. -/
def sumLeft (left : Lit → Bool) (l : List Fl) : Nat := (l.map fun f => if left (kl f.nm) = true then 0 else f.dt.length).sum
theorem sum_cons (left : Lit → Bool) (x : Fl) (l : List Fl) : sumLeft left (x :: l) = (if left (kl x.nm) = true then 0 else x.dt.length) + sumLeft left l := by simp [sumLeft]
theorem sum_start {left : Lit → Bool} : ∀ {l : List Fl}, (∀ f, f ∈ l → left (kl f.nm) = true) → sumLeft left l = 0
  | [], _ => rfl
  | x :: l, h => by rw [sum_cons, sum_start (fun f hf => h f (List.mem_cons_of_mem _ hf)), if_pos (h x (List.mem_cons_self ..))]
theorem sum_end {left : Lit → Bool} (h : ∀ k, left k = false) : ∀ l : List Fl, sumLeft left l = total l
  | [] => rfl
  | x :: l => by rw [sum_cons, sum_end h l, total_cons, h]; simp
theorem sum_same {left : Lit → Bool} {nm : ByteArray} : ∀ {l : List Fl}, (∀ f, f ∈ l → f.nm ≠ nm) → sumLeft (fun z => left z && !z.sameKey (kl nm)) l = sumLeft left l
  | [], _ => rfl
  | x :: l, h => by
    rw [sum_cons, sum_cons, sum_same (fun f hf => h f (List.mem_cons_of_mem _ hf))]
    rw [sameKey_ne (fun k => h x (List.mem_cons_self ..) (kl_inj k))]
    simp
theorem sum_step {left : Lit → Bool} {f : Fl} (hl : left (kl f.nm) = true) : ∀ {l : List Fl}, Up l → f ∈ l → sumLeft (fun z => left z && !z.sameKey (kl f.nm)) l = sumLeft left l + f.dt.length
  | x :: l, hu, hm => by
    have hall : ∀ z, z ∈ l → ltB x.nm z.nm = true := fun z hz => List.rel_of_pairwise_cons hu hz
    rw [sum_cons, sum_cons]
    rcases List.mem_cons.1 hm with rfl | hm
    · rw [sum_same fun z hz k => by have := hall z hz; rw [k, lt_self] at this; cases this]
      rw [WideAt.sameKey_self (kl_key _), hl]
      simp; omega
    · have hne : x.nm ≠ f.nm := fun k => by have := hall f hm; rw [k, lt_self] at this; cases this
      rw [sum_step hl (List.Pairwise.of_cons hu) hm, sameKey_ne (fun k => hne (kl_inj k))]
      simp; omega
theorem sum_le (left : Lit → Bool) : ∀ l : List Fl, sumLeft left l ≤ total l
  | [] => Nat.le_refl _
  | x :: l => by
    have := sum_le left l
    rw [sum_cons, total_cons]; split <;> omega
set_option maxRecDepth 100000 in
theorem inv_key {key : Value} {k : Lit} (h : keyOf Tryz.prog 9 key = some k) : ∃ x : ByteArray, key = .string x := by
  obtain ⟨x, e, _⟩ := keyOf_str Tryz.underlying9 h
  exact ⟨⟨x.toArray⟩, e⟩
theorem inv_val {v : Value} {y : DataW Unit × List MemPlace} (h : ptrElem v = some y) : ∃ c : Option Addr, v = .pointer c := by
  rcases ptrElem_inv h with ⟨e, _⟩ | ⟨p, e, _⟩
  · exact ⟨_, e⟩
  · exact ⟨_, e⟩
set_option maxRecDepth 100000 in
theorem key_is {x : ByteArray} {k : Lit} (h : keyOf Tryz.prog 9 (.string x) = some k) : k = kl x := by
  obtain ⟨y, e, e2, _⟩ := keyOf_str Tryz.underlying9 h
  unfold encStr at e
  injection e with e
  rw [e2, e]; rfl
/-- What the map's next entry is. -/
theorem entry_is {S : Nat → Prop} {w : World} {g b : Nat} {lf : Int} {loc : ByteArray → Loc} {d : DS} (h : Dp S w g b lf loc d) {D : DataW Unit}
    (hm : ∀ s : ByteArray, has D (kl s) = (find s d.l).isSome ∧ D.atKey (kl s) (.lit (.int .i64 (-1))) = .lit (.int .i64 (numO loc d.l s))) {x : ByteArray} {c : Option Addr} {y : DataW Unit × List MemPlace}
    (hv : ptrElem (.pointer c) = some y) (hat : ∀ zd, D.atKey (kl x) zd = y.1) : ∃ f, f ∈ d.l ∧ f.nm = x ∧ c = some ⟨(loc x).p, 0, none⟩ ∧ w.cell? ⟨(loc x).p, 0, none⟩ = some (.slice (loc x).A f.dt.length (loc x).c) := by
  have h1 := has_true_of_atKey hat
  rw [(hm x).1] at h1
  obtain ⟨f, hf⟩ := Option.isSome_iff_exists.1 h1
  obtain ⟨hfm, hfn⟩ := find_mem hf
  have h2 := (hm x).2
  unfold numO at h2
  rw [hat, hf] at h2
  refine ⟨f, hfm, hfn, ?_, ?_⟩
  · rcases ptrElem_inv hv with ⟨_, e⟩ | ⟨p, e1, e⟩
    · rw [e] at h2; simp at h2
    · rw [e] at h2; simp at h2; injection e1 with e1; rw [e1, show p = (loc x).p by omega]
  · have := (h.files.one f hfm).head.cell 0
    rw [hfn] at this
    exact this
set_option maxHeartbeats 1000000 in
theorem total_any {S : Nat → Prop} (g : Nat) (d : DS) (w : World) (h : Dk S w g d) :
    Calls Tryz.prog 33 #[.pointer (some ⟨g, 0, none⟩)] w fun e w' => e = .returned (.int .i64 (total d.l)) ∧ Below w.heap.size w w' := by
  obtain ⟨b, lf, loc, h⟩ := h
  obtain ⟨D, hD, hz, hm⟩ := h.map
  have hle := h.ok.tot
  have hq := h.ok.q.2
  have hsl := hide (fun left => sum_le left d.l)
  have c1 : w.cell? ⟨g, 1, none⟩ = some (.map (some b)) := h.row.cell 1
  have HO := hide hD
  have HM := hide hm
  have H := hide h
  clear hm hz hD h
  go_enter Tryz.func33, Tryz.ntmps33
  go_wp2_with (first
    | (at_range; refine wpList_range_own _ rfl _ 74 rfl 9 101 law Tryz.underlying74 _ b d.l.length _ rfl HO.out ?_; intro w0 hrg0 hg0 hs0)
    | go_in)
  have hb0 := hide (below_grown hg0)
  clear hg0 hs0
  go_frame
  go_loopw [3] (fun v wr => ∃ (left : Lit → Bool) (cnt : Nat), wr.ranges Tryz.prog 9 ptrElem b w.heap.size d.l.length D left cnt ∧ v = .int .i64 (sumLeft left d.l : Nat) ∧ Hid (Below w.heap.size w wr))
    (fun _ wr => wr.rangeLeft b w.heap.size)
  case atStart =>
    exact ⟨_, _, hrg0, by rw [sum_start (l := d.l) (fun f hf => by rw [(HM.out f.nm).1, find_of_mem H.out.ok.up hf]; rfl)]; rfl, hb0⟩
  case round =>
    obtain ⟨left, cnt, hrg, rfl, hb⟩ := hrel
    clear hrg0 hb0
    go_wp2_with (first
      | (at_next; refine wpList_next_ranges _ rfl _ rfl 9 law ptrElem Value.string Value.pointer (fun key k hk => inv_key hk) (fun v y hv => inv_val hv) b w.heap.size d.l.length _ _ _ rfl hrg ?_ ?_)
      | go_in)
    · intro hc0 hl0
      have he := hide (sum_end hl0 d.l)
      clear hl0 hc0
      go_wp2
      go_ret
      exact ⟨ret_int (by rw [he.out]), hb.out⟩
    · intro x c k yd yp w2 cnt2 hkey hlk hv hat hrg2 hlt hg2 hs2 hen
      obtain rfl := key_is hkey
      have hb2 := hide (hb.out.grown hg2 hb.out.size (fun k e => by injection e; omega))
      obtain ⟨f, hfm, rfl, rfl, hcell⟩ := entry_is (H.out.below hb2.out) HM.out hv hat
      have hst := hide (sum_step hlk H.out.ok.up hfm)
      have hs1 := hsl.out left
      have hs3 := hsl.out (fun z => left z && !z.sameKey (kl f.nm))
      have hadd : sumLeft left d.l + f.dt.length ≤ 1048576 := by rw [← hst.out]; omega
      have HR := hide hrg
      have HL := hide hlt
      clear hkey hlk hv hat hg2 hs2 hrg hlt hb hs3
      go_wp2
      go_roundw
      case rel => exact ⟨_, cnt2, hrg2, by rw [hst.out]; go_num, hb2⟩
      case measure => rw [hrg2.left_eq, HR.out.left_eq]; exact HL.out
end Go.Proofs.YtkmcnhjfnjikaaaGreatDoor
