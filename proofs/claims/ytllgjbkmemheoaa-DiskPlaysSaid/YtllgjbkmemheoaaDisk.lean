/- The program's disk in memory: what a pointer to it stands for, and what stays of it when memory turns. No condition. -/
import Derived.Test.YtllgjbkmemheoaaPure
import Derived.Test.YtllgjbkmemheoaaBlk
import Derived.Test.YtllgjbkmemheoaaProg
import Derived.Maps.OwnSet
import Derived.Maps.OwnOps
import Derived.Sort.KeysCollected
namespace Go.Proofs.Ytllgjbkmemheoaa
open Go.RowKit Go.Maps
/-- The world w' is w, but for the blocks of S and for new ones. -/
structure Turn (S : Nat → Prop) (w w' : World) : Prop where
  os : w'.os = w.os
  tape : w'.tape = w.tape
  output : w'.output = w.output
  size : w.heap.size ≤ w'.heap.size
  block : ∀ k, k < w.heap.size → ¬ S k → w'.heap[k]? = w.heap[k]?
/-- .. and what is owned behind it was owned, or is new. -/
structure Own (S : Nat → Prop) (w : World) (S' : Nat → Prop) (w' : World) : Prop where
  turn : Turn S w w'
  new : ∀ k, S' k → S k ∨ w.heap.size ≤ k
section
variable {S S' T : Nat → Prop} {w w' w2 : World}
theorem Turn.refl (S : Nat → Prop) (w : World) : Turn S w w := ⟨rfl, rfl, rfl, Nat.le_refl _, fun _ _ _ => rfl⟩
theorem Turn.mono (h : Turn S w w') (hs : ∀ k, S k → T k) : Turn T w w' := ⟨h.os, h.tape, h.output, h.size, fun k hk hn => h.block k hk fun x => hn (hs k x)⟩
theorem Turn.trans (h : Turn S w w') (g : Turn S' w' w2) (hs : ∀ k, S' k → S k ∨ w.heap.size ≤ k) : Turn S w w2 :=
  ⟨g.os.trans h.os, g.tape.trans h.tape, g.output.trans h.output, Nat.le_trans h.size g.size, fun k hk hn => (g.block k (Nat.lt_of_lt_of_le hk h.size) fun x => by rcases hs k x with y | y; exact hn y; omega).trans (h.block k hk hn)⟩
theorem Turn.of_below (h : Below w.heap.size w w') : Turn S w w' := ⟨h.os, h.tape, h.output, h.size, fun k hk _ => h.block k hk⟩
theorem Turn.of_grown {row : Option Nat} (h : w.grownBy w' row) (hr : ∀ k, row = some k → S k) : Turn S w w' :=
  ⟨h.os, h.tape, h.output, h.size, fun k hk hn => h.block k hk fun e => hn (hr k e.symm)⟩
theorem Turn.drewN (h : Turn S w w') (n : Nat) : Turn S w (w'.drewN n) := ⟨h.os, h.tape, h.output, h.size, h.block⟩
theorem Turn.put (h : Turn S w w') {g : Nat} (hg : S g) (i : Nat) (u : Value) : Turn S w (w'.setCell ⟨g, i, none⟩ u) :=
  ⟨h.os, h.tape, h.output, by simp [World.setCell]; exact h.size, fun k hk hn => (Below.heap_setCell w' ⟨g, i, none⟩ u k (fun e => hn (e ▸ hg))).trans (h.block k hk hn)⟩
theorem Turn.alloc (h : Turn S w w') (o : Obj) : Turn S w (w'.alloc o) := h.trans (Turn.of_below (S := fun _ => False) ((Below.refl _ _).alloc (Nat.le_refl _) o)) (fun _ x => x.elim)
theorem Own.refl (S : Nat → Prop) (w : World) : Own S w S w := ⟨Turn.refl _ _, fun _ h => .inl h⟩
theorem Own.trans {S2 : Nat → Prop} (h : Own S w S' w') (g : Own S' w' S2 w2) : Own S w S2 w2 :=
  ⟨h.turn.trans g.turn h.new, fun k hk => by
    rcases g.new k hk with x | x
    · exact h.new k x
    · exact .inr (Nat.le_trans h.turn.size x)⟩
/-- What was owned, and all that is new. -/
def More (S : Nat → Prop) (w w' : World) : Nat → Prop := fun k => S k ∨ (w.heap.size ≤ k ∧ k < w'.heap.size)
theorem Own.more (h : Turn S w w') : Own S w (More S w w') w' := ⟨h, fun _ hk => hk.imp id And.left⟩
end
/-- How a pointer in a map's cell reads: the number of its block; nil: -1. -/
def ptrElem (v : Value) : Option (DataW Unit × List MemPlace) :=
  match v with
  | .pointer none => some (.lit (.int .i64 (-1)), [])
  | .pointer (some ⟨p, 0, none⟩) => some (.lit (.int .i64 p), [])
  | _ => none
theorem ptrElem_inv {v : Value} {y : DataW Unit × List MemPlace} (h : ptrElem v = some y) : (v = .pointer none ∧ y = (.lit (.int .i64 (-1)), [])) ∨ ∃ p : Nat, v = .pointer (some ⟨p, 0, none⟩) ∧ y = (.lit (.int .i64 p), []) := by
  unfold ptrElem at h
  split at h
  · cases h; exact .inl ⟨rfl, rfl⟩
  · rename_i p; cases h; exact .inr ⟨p, rfl, rfl⟩
  · cases h
theorem law : Keyed Try.prog 9 := string_keyed Try.underlying9
/-- A name as a key. -/
def kl (s : ByteArray) : Lit := .string s.data.toList
theorem kl_key (s : ByteArray) : WideAt.IsKeyLit (kl s) := trivial
theorem kl_inj {a b : ByteArray} (h : kl a = kl b) : a = b := by
  unfold kl at h
  injection h with h
  exact ByteArray.ext (Array.toList_inj.1 h)
theorem key_of {s : ByteArray} (h : s.size ≤ maxLen) : keyOf Try.prog 9 (.string s) = some (kl s) := Go.WideMaps.keyOf_string_mk Try.underlying9 h
theorem ptr_zero (w : World) : (zeroValue 60).run Try.prog w = .ok (.pointer none) w := by kernel_rfl
/-- Where a file lies: its own block, its bytes' block, their room. -/
structure Loc where
  p : Nat
  r : Option Nat
  c : Nat
def Loc.A (x : Loc) : Option Addr := x.r.map fun r => ⟨r, 0, none⟩
def upd (loc : ByteArray → Loc) (nm : ByteArray) (x : Loc) : ByteArray → Loc := fun s => if s = nm then x else loc s
theorem upd_self (loc : ByteArray → Loc) (nm : ByteArray) (x : Loc) : upd loc nm x nm = x := by simp [upd]
theorem upd_other (loc : ByteArray → Loc) {nm s : ByteArray} (x : Loc) (h : s ≠ nm) : upd loc nm x s = loc s := by simp [upd, h]
/-- A file's own block and its bytes. -/
structure OneF (w : World) (x : Loc) (n k : Nat) (zs : List Int) : Prop where
  head : Row w x.p 62 #[.slice x.A n x.c, .int .i64 k]
  data : w.ownsRow 0 5 1 (.slice x.A n x.c) n (cellsOf zs)
theorem OneF.kept {w w' : World} {x : Loc} {n k : Nat} {zs : List Int} (h : OneF w x n k zs) (h1 : w'.heap[x.p]? = w.heap[x.p]?) (h2 : ∀ r, x.r = some r → w'.heap[r]? = w.heap[r]?) : OneF w' x n k zs := by
  refine ⟨h1.trans h.head, h.data.1, ?_⟩
  rcases h.data.2 with hn | ⟨g, cap, cur, hv, hb, hg, rest⟩
  · exact .inl hn
  · refine .inr ⟨g, cap, cur, hv, hb, ?_, rest⟩
    rw [h2 g ?_]
    · exact hg
    · injection hv with hA
      unfold Loc.A at hA
      cases hr : x.r with
      | none => rw [hr] at hA; cases hA
      | some q => rw [hr] at hA; simp at hA; rw [hA]
theorem OneF.len {w : World} {x : Loc} {n k : Nat} {zs : List Int} (h : OneF w x n k zs) : zs.length = n := by have := h.data.1; rw [length_cellsOf] at this; omega
theorem OneF.lies {w : World} {x : Loc} {n k : Nat} {zs : List Int} (h : OneF w x n k zs) : Lies w x.A zs := Lies.of_own h.data
theorem OneF.nil {w : World} {x : Loc} {n k : Nat} {zs : List Int} (h : OneF w x n k zs) (hA : x.A = none) : x.c = 0 := by
  rcases h.data.2 with ⟨hv, _⟩ | ⟨g, cap, cur, hv, _⟩
  · injection hv
  · injection hv with h1; rw [hA] at h1; cases h1
theorem OneF.le {w : World} {x : Loc} {n k : Nat} {zs : List Int} (h : OneF w x n k zs) : n ≤ x.c := by
  rcases h.data.2 with ⟨hv, h0⟩ | ⟨g, cap, cur, hv, _, _, hc, _⟩
  · omega
  · injection hv with _ _ h3; rw [h3]; exact hc
/-- The files l lie at loc, each in blocks of its own, all in S. -/
structure Files (S : Nat → Prop) (w : World) (l : List Fl) (loc : ByteArray → Loc) : Prop where
  one : ∀ x, x ∈ l → OneF w (loc x.nm) x.dt.length x.kp x.dt
  inj : ∀ x, x ∈ l → ∀ y, y ∈ l → (loc x.nm).p = (loc y.nm).p → x.nm = y.nm
  apart : ∀ x, x ∈ l → ∀ y, y ∈ l → ∀ r, (loc x.nm).r = some r → (loc y.nm).r = some r → x.nm = y.nm
  inp : ∀ x, x ∈ l → S (loc x.nm).p
  inr : ∀ x, x ∈ l → ∀ r, (loc x.nm).r = some r → S r
section
variable {S S' : Nat → Prop} {w w' : World} {l : List Fl} {loc : ByteArray → Loc} {b : Nat}
theorem Files.kept (h : Files S w l loc) (hs : ∀ k, S k → S' k) (hp : ∀ x, x ∈ l → w'.heap[(loc x.nm).p]? = w.heap[(loc x.nm).p]?) (hr : ∀ x, x ∈ l → ∀ r, (loc x.nm).r = some r → w'.heap[r]? = w.heap[r]?) : Files S' w' l loc :=
  ⟨fun x hx => (h.one x hx).kept (hp x hx) (hr x hx), h.inj, h.apart, fun x hx => hs _ (h.inp x hx), fun x hx r hr => hs _ (h.inr x hx r hr)⟩
theorem Files.del (h : Files S w l loc) (nm : ByteArray) : Files S w (delF nm l) loc :=
  ⟨fun x hx => h.one x (mem_delF.1 hx).1, fun x hx y hy => h.inj x (mem_delF.1 hx).1 y (mem_delF.1 hy).1, fun x hx y hy => h.apart x (mem_delF.1 hx).1 y (mem_delF.1 hy).1, fun x hx => h.inp x (mem_delF.1 hx).1, fun x hx => h.inr x (mem_delF.1 hx).1⟩
theorem Files.put (h : Files S w l loc) (hu : Up l) (f : Fl) (x : Loc) (ho : OneF w x f.dt.length f.kp f.dt) (hp : ∀ y, y ∈ l → y.nm ≠ f.nm → (loc y.nm).p ≠ x.p) (hr : ∀ y, y ∈ l → y.nm ≠ f.nm → ∀ r, (loc y.nm).r = some r → x.r ≠ some r)
    (h1 : S x.p) (h2 : ∀ r, x.r = some r → S r) : Files S w (putF f l) (upd loc f.nm x) := by
  have key : ∀ y, y ∈ putF f l → (y = f ∧ upd loc f.nm x y.nm = x) ∨ (y ∈ l ∧ y.nm ≠ f.nm ∧ upd loc f.nm x y.nm = loc y.nm) := fun y hy => by
    rcases (mem_putF hu).1 hy with rfl | ⟨h3, h4⟩
    · exact .inl ⟨rfl, upd_self ..⟩
    · exact .inr ⟨h3, h4, upd_other _ _ h4⟩
  refine ⟨fun y hy => ?_, fun y hy z hz e => ?_, fun y hy z hz r e1 e2 => ?_, fun y hy => ?_, fun y hy => ?_⟩
  · rcases key y hy with ⟨rfl, e⟩ | ⟨h3, _, e⟩
    · rw [e]; exact ho
    · rw [e]; exact h.one y h3
  · rcases key y hy with ⟨rfl, ey⟩ | ⟨h3, h4, ey⟩ <;> rcases key z hz with ⟨rfl, ez⟩ | ⟨h5, h6, ez⟩
    · rfl
    · rw [ey, ez] at e; exact absurd e.symm (hp z h5 h6)
    · rw [ey, ez] at e; exact absurd e (hp y h3 h4)
    · rw [ey, ez] at e; exact h.inj y h3 z h5 e
  · rcases key y hy with ⟨rfl, ey⟩ | ⟨h3, h4, ey⟩ <;> rcases key z hz with ⟨rfl, ez⟩ | ⟨h5, h6, ez⟩
    · rfl
    · rw [ey] at e1; rw [ez] at e2; exact absurd e1 (hr z h5 h6 r e2)
    · rw [ey] at e1; rw [ez] at e2; exact absurd e2 (hr y h3 h4 r e1)
    · rw [ey] at e1; rw [ez] at e2; exact h.apart y h3 z h5 r e1 e2
  · rcases key y hy with ⟨rfl, e⟩ | ⟨h3, _, e⟩
    · rw [e]; exact h1
    · rw [e]; exact h.inp y h3
  · rcases key y hy with ⟨rfl, e⟩ | ⟨h3, _, e⟩
    · rw [e]; exact h2
    · rw [e]; exact h.inr y h3
/-- What the map holds under a name. -/
def ptrO (loc : ByteArray → Loc) (l : List Fl) (s : ByteArray) : Option Addr := (find s l).map fun _ => ⟨(loc s).p, 0, none⟩
def numO (loc : ByteArray → Loc) (l : List Fl) (s : ByteArray) : Int := if (find s l).isSome then (loc s).p else -1
/-- Block b is the map of the files l. -/
def MapIs (w : World) (b : Nat) (l : List Fl) (loc : ByteArray → Loc) : Prop :=
  ∃ D : DataW Unit, w.ownsMap Try.prog 9 ptrElem b l.length D ∧ size D = l.length ∧ ∀ s : ByteArray, has D (kl s) = (find s l).isSome ∧ D.atKey (kl s) (.lit (.int .i64 (-1))) = .lit (.int .i64 (numO loc l s))
theorem MapIs.kept (h : MapIs w b l loc) (e : w'.heap[b]? = w.heap[b]?) : MapIs w' b l loc := by
  obtain ⟨D, ⟨es, c, hb, r⟩, hm⟩ := h
  exact ⟨D, ⟨es, c, e.trans hb, r⟩, hm⟩
theorem MapIs.lt (h : MapIs w b l loc) : b < w.heap.size := by obtain ⟨D, hD, _⟩ := h; exact hD.lt
theorem MapIs.ne (h : MapIs w b l loc) {g : Nat} {t : TypeId} {cs : Array Value} (hr : Row w g t cs) : g ≠ b := fun e => by
  obtain ⟨D, ⟨es, c, hb, _⟩, _⟩ := h
  unfold Row at hr
  rw [e, hb] at hr; cases hr
theorem MapIs.ne_own (h : MapIs w b l loc) {A : Option Addr} {n c : Nat} {xs : List Value} (ho : w.ownsRow 0 5 1 (.slice A n c) n xs) {r : Nat} (hA : A = some ⟨r, 0, none⟩) : r ≠ b := fun e => by
  obtain ⟨D, ⟨es, c, hb, _⟩, _⟩ := h
  rcases ho.2 with ⟨hv, _⟩ | ⟨g, cap, cur, hv, _, hg, _⟩
  · injection hv with h1; rw [hA] at h1; cases h1
  · injection hv with h1; rw [hA] at h1; injection h1 with h1; injection h1 with h1; rw [← h1, e, hb] at hg; cases hg
/-- 'files[name]'. -/
theorem MapIs.look (h : MapIs w b l loc) (s : ByteArray) (hs : s.size ≤ maxLen) :
    (Instr.lookup 57 (.map (some b)) (.string s) false).run Try.prog w = .ok (.pointer (ptrO loc l s)) w := by
  obtain ⟨D, hD, _, hm⟩ := h
  obtain ⟨v, ps, hr, hv⟩ := hD.lookup (z := .pointer none) law Try.underlying57 (ptr_zero w) (zd := .lit (.int .i64 (-1))) (zp := []) rfl (key_of hs)
  rw [(hm s).2] at hv
  rw [hr]
  have : v = .pointer (ptrO loc l s) := by
    unfold numO at hv
    unfold ptrO
    cases hf : find s l with
    | none =>
      rw [hf] at hv
      rcases ptrElem_inv hv with ⟨e, _⟩ | ⟨p, _, e⟩
      · exact e
      · simp at e
    | some f =>
      rw [hf] at hv
      rcases ptrElem_inv hv with ⟨_, e⟩ | ⟨p, e1, e⟩
      · simp at e
      · simp at e; rw [e1]; simp
  rw [this]
theorem tight {n : Nat} {D : DataW Unit} (h : w.ownsMap Try.prog 9 ptrElem b n D) : w.ownsMap Try.prog 9 ptrElem b (size D) D := by
  obtain ⟨es, c, hb, F, hs, rfl⟩ := h
  exact ⟨es, c, hb, F, by simp [size, length_sorted], rfl⟩
/-- 'files[name] = pointer'. -/
theorem MapIs.put (h : MapIs w b l loc) (hu : Up l) (hn : l.length < maxLen) (f : Fl) (x : Loc) (hs : f.nm.size ≤ maxLen) :
    ∃ w', (Instr.mapUpdate 57 (.map (some b)) (.string f.nm) (.pointer (some ⟨x.p, 0, none⟩))).run Try.prog w = .ok () w' ∧ MapIs w' b (putF f l) (upd loc f.nm x) ∧ w.grownBy w' (some b) := by
  obtain ⟨D, hD, hz, hm⟩ := h
  obtain ⟨w', hr, hD', hg⟩ := hD.update law Try.underlying57 hn (key_of hs) (val := .pointer (some ⟨x.p, 0, none⟩)) (d := .lit (.int .i64 x.p)) (ps := []) rfl
  have ht := hD.tidy law
  have hz' : size (D.put (kl f.nm) (.lit (.int .i64 x.p))) = (putF f l).length := by
    rw [size_put ht, length_putF f l hu, hz, (hm f.nm).1]
  refine ⟨w', hr, ⟨_, ?_, hz', fun s => ?_⟩, hg⟩
  · rw [← hz']; exact tight hD'
  · unfold numO
    rw [find_putF f s l hu]
    by_cases e : s = f.nm
    · subst e
      rw [if_pos rfl, upd_self]
      exact ⟨by rw [has_put_same ht.isMap (kl_key _)]; rfl, by rw [atKey_put_same ht.isMap (kl_key _)]; rfl⟩
    · rw [if_neg e, upd_other _ _ e]
      have hne : kl s ≠ kl f.nm := fun k => e (kl_inj k)
      exact ⟨by rw [has_put_other hne]; exact (hm s).1, by rw [atKey_put_other hne]; exact (hm s).2⟩
/-- What is left where a name was struck. -/
theorem MapIs.strike (hu : Up l) {D : DataW Unit} {nm : ByteArray} (ht : Tidy D) (hz : size D = l.length) (hm : ∀ s : ByteArray, has D (kl s) = (find s l).isSome ∧ D.atKey (kl s) (.lit (.int .i64 (-1))) = .lit (.int .i64 (numO loc l s)))
    {n : Nat} (hD' : w'.ownsMap Try.prog 9 ptrElem b n (D.del (kl nm))) : MapIs w' b (delF nm l) loc := by
  have hz' : size (D.del (kl nm)) = (delF nm l).length := by
    have h1 := size_del (k := kl nm) ht
    rw [(hm nm).1, hz] at h1
    rw [length_delF nm l hu]
    cases hf : find nm l with
    | none => rw [hf] at h1; simpa using h1
    | some f => rw [hf] at h1; simp at h1 ⊢; omega
  refine ⟨_, by rw [← hz']; exact tight hD', hz', fun s => ?_⟩
  unfold numO
  rw [find_delF]
  by_cases e : s = nm
  · subst e
    rw [if_pos rfl]
    exact ⟨by rw [has_del_same]; rfl, by rw [atKey_del_same]; rfl⟩
  · rw [if_neg e]
    have hne : kl s ≠ kl nm := fun k => e (kl_inj k)
    exact ⟨by rw [has_del_other hne]; exact (hm s).1, by rw [atKey_del_other hne]; exact (hm s).2⟩
/-- The same file block under the same name. -/
theorem MapIs.same (h : MapIs w b l loc) (hu : Up l) (f : Fl) (x : Loc) (hi : (find f.nm l).isSome) (hp : x.p = (loc f.nm).p) : MapIs w b (putF f l) (upd loc f.nm x) := by
  obtain ⟨D, hD, hz, hm⟩ := h
  have hl : (putF f l).length = l.length := by rw [length_putF f l hu, if_pos hi]
  refine ⟨D, by rw [hl]; exact hD, by rw [hl]; exact hz, fun s => ?_⟩
  unfold numO
  rw [find_putF f s l hu]
  have := hm s
  unfold numO at this
  by_cases e : s = f.nm
  · subst e
    rw [if_pos rfl, upd_self, hp]
    rw [hi] at this
    exact this
  · rw [if_neg e, upd_other _ _ e]; exact this
end
/-- A disk that may be. -/
structure DOk (d : DS) : Prop where
  up : Up d.l
  q : 0 ≤ d.q ∧ d.q ≤ 1048576
  tot : (total d.l : Int) ≤ d.q
  kp : ∀ f, f ∈ d.l → f.kp ≤ f.dt.length
  nm : ∀ f, f ∈ d.l → nameB f.nm = true
  oct : ∀ f, f ∈ d.l → Octets f.dt
  left : -1 ≤ d.left ∧ d.left ≤ 9223372036854775807
/-- The parts of a disk at block g. -/
structure Dp (S : Nat → Prop) (w : World) (g b : Nat) (lf : Int) (loc : ByteArray → Loc) (d : DS) : Prop where
  ok : DOk d
  lt : ∀ k, S k → k < w.heap.size
  row : Row w g 59 #[.int .i64 d.q, .map (some b), .int .i64 lf, .bool d.off]
  lf : max lf (-1) = d.left ∧ -9223372036854775808 ≤ lf ∧ lf ≤ 9223372036854775807
  sg : S g
  sb : S b
  map : MapIs w b d.l loc
  files : Files S w d.l loc
/-- At block g there is the disk d; all its blocks are in S. -/
def Dk (S : Nat → Prop) (w : World) (g : Nat) (d : DS) : Prop := ∃ b lf loc, Dp S w g b lf loc d
section
variable {S S' : Nat → Prop} {w w' : World} {g b : Nat} {lf : Int} {loc : ByteArray → Loc} {d : DS}
theorem Dp.files_lt (h : Dp S w g b lf loc d) {x : Fl} (hx : x ∈ d.l) : (loc x.nm).p < w.heap.size ∧ ∀ r, (loc x.nm).r = some r → r < w.heap.size :=
  ⟨h.lt _ (h.files.inp x hx), fun r hr => h.lt _ (h.files.inr x hx r hr)⟩
/-- It stays while its blocks stay. -/
theorem Dp.kept (h : Dp S w g b lf loc d) (hs : w.heap.size ≤ w'.heap.size) (e : ∀ k, S k → w'.heap[k]? = w.heap[k]?) : Dp S w' g b lf loc d :=
  ⟨h.ok, fun k hk => Nat.lt_of_lt_of_le (h.lt k hk) hs, (e g h.sg).trans h.row, h.lf, h.sg, h.sb, h.map.kept (e b h.sb), h.files.kept (fun _ k => k) (fun x hx => e _ (h.files.inp x hx)) (fun x hx r hr => e _ (h.files.inr x hx r hr))⟩
theorem Dk.kept (h : Dk S w g d) (hs : w.heap.size ≤ w'.heap.size) (e : ∀ k, S k → w'.heap[k]? = w.heap[k]?) : Dk S w' g d := by
  obtain ⟨b, lf, loc, h⟩ := h; exact ⟨b, lf, loc, h.kept hs e⟩
theorem Dk.lt (h : Dk S w g d) : ∀ k, S k → k < w.heap.size := by obtain ⟨b, lf, loc, h⟩ := h; exact h.lt
theorem Dk.ok (h : Dk S w g d) : DOk d := by obtain ⟨b, lf, loc, h⟩ := h; exact h.ok
theorem Dk.below (h : Dk S w g d) (hb : Below w.heap.size w w') : Dk S w' g d := h.kept hb.size fun k hk => hb.block k (h.lt k hk)
theorem Dp.below (h : Dp S w g b lf loc d) (hb : Below w.heap.size w w') : Dp S w' g b lf loc d := h.kept hb.size fun k hk => hb.block k (h.lt k hk)
theorem Dk.turn {T : Nat → Prop} (h : Dk S w g d) (ht : Turn T w w') (hd : ∀ k, S k → ¬ T k) : Dk S w' g d := h.kept ht.size fun k hk => ht.block k (h.lt k hk) (hd k hk)
theorem Dp.ne (h : Dp S w g b lf loc d) {x : Fl} (hx : x ∈ d.l) : (loc x.nm).p ≠ g := fun e => by
  have h1 := (h.files.one x hx).head
  have h2 := h.row
  unfold Row at h1 h2
  rw [e, h2] at h1
  injection h1 with h1
  injection h1 with _ h1
  exact absurd h1 (by decide)
end
end Go.Proofs.Ytllgjbkmemheoaa
