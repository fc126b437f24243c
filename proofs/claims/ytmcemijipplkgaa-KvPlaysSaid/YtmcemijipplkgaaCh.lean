/- A drawn region that puts one element each behind three rows of the call's own: in whatever order its literals and appends come, the same rows are there behind it. No condition: nothing here speaks of a program. -/
import Derived.Test.YtmcemijipplkgaaTl
import Derived.Test.YtmcemijipplkgaaEls
import Derived.Maps.AppendAt
namespace Go.Proofs.Ytmcemijipplkgaa
open Go.RowKit
/-- A row of structs of the call's own. -/
def Rw (base : Nat) (e : TypeId) (sz : Nat) (w : World) (v : Value) (xs : List (List Value)) : Prop := w.ownsRow base e sz v xs.length (cellsV xs)
/-- The rows lie in two blocks. -/
def Ap (v u : Value) : Prop := ∀ g, v.ownBlock = some g → u.ownBlock ≠ some g
theorem Ap.symm {v u : Value} (h : Ap v u) : Ap u v := fun g h1 h2 => h g h2 h1
section
variable {base sz : Nat} {e : TypeId} {w w' : World} {v u : Value} {xs : List (List Value)}
theorem Rw.lt (h : Rw base e sz w v xs) : ∀ k, v.ownBlock = some k → base ≤ k ∧ k < w.heap.size := by unfold Rw at h; exact h.lt
theorem Rw.alloc (h : Rw base e sz w v xs) (o : Obj) : Rw base e sz (w.alloc o) v xs := World.ownsRow.alloc h o
theorem Rw.grown (h : Rw base e sz w v xs) (hg : w.grownBy w' u.ownBlock) (ha : Ap u v) : Rw base e sz w' v xs :=
  World.ownsRow.kept h hg (by cases hv : v.ownBlock with
    | none => exact .inl rfl
    | some g => exact .inr fun e => ha g e.symm hv)
theorem Rw.below (h : Rw base e sz w v xs) (hb : Below w.heap.size w w') : Rw base e sz w' v xs :=
  World.ownsRow.kept h (grown_below hb) (by cases hv : v.ownBlock with
    | none => exact .inl rfl
    | some g => exact .inr (by simp))
end
/-- What stays behind the region: all but three blocks. -/
structure Kp3 (r1 r2 r3 : Option Nat) (w0 w : World) : Prop where
  os : w.os = w0.os
  tape : w.tape = w0.tape
  output : w.output = w0.output
  size : w0.heap.size ≤ w.heap.size
  block : ∀ k, k < w0.heap.size → some k ≠ r1 → some k ≠ r2 → some k ≠ r3 → w.heap[k]? = w0.heap[k]?
theorem Kp3.refl (r1 r2 r3 : Option Nat) (w : World) : Kp3 r1 r2 r3 w w := ⟨rfl, rfl, rfl, Nat.le_refl _, fun _ _ _ _ _ => rfl⟩
theorem Kp3.step {r1 r2 r3 row : Option Nat} {w0 w w' : World} (h : Kp3 r1 r2 r3 w0 w) (hg : w.grownBy w' row) (hr : row = none ∨ row = r1 ∨ row = r2 ∨ row = r3) : Kp3 r1 r2 r3 w0 w' :=
  ⟨hg.os.trans h.os, hg.tape.trans h.tape, hg.output.trans h.output, Nat.le_trans h.size hg.size, fun k hk h1 h2 h3 => (hg.block k (Nat.lt_of_lt_of_le hk h.size) (by
    rcases hr with rfl | rfl | rfl | rfl
    · simp
    · exact h1
    · exact h2
    · exact h3)).trans (h.block k hk h1 h2 h3)⟩
/-- A chain: a literal of one element, appended to a row. -/
structure Chn where
  b : Nat
  d : Nat
  e : TypeId
  sz : Nat
  xs : List (List Value)
  z : List Value
  x0 : Value
def Chn.fr (c : Chn) (s : Nat) (p q : Value) (a : Act) : Act := if s = 0 then a else if s = 1 then a.put (some c.b) p else (a.put (some c.b) p).put (some c.d) q
def Chn.cur (c : Chn) (s : Nat) (q : Value) : Value := if s = 2 then q else c.x0
def Chn.rows (c : Chn) (s : Nat) : List (List Value) := if s = 2 then c.xs ++ [c.z] else c.xs
structure Chn.At (c : Chn) (base : Nat) (w : World) (s : Nat) (p q : Value) : Prop where
  row : Rw base c.e c.sz w (c.cur s q) (c.rows s)
  lit : s = 1 → ∃ g, p = .slice (some ⟨g, 0, none⟩) 1 1 ∧ Row w g c.e c.z.toArray
/-- Two chains don't touch. -/
structure Jt (c1 : Chn) (s1 : Nat) (p1 q1 : Value) (c2 : Chn) (s2 : Nat) (p2 q2 : Value) : Prop where
  ap : Ap (c1.cur s1 q1) (c2.cur s2 q2)
  o1 : s1 = 1 → ∀ g, p1 = .slice (some ⟨g, 0, none⟩) 1 1 → (c2.cur s2 q2).ownBlock ≠ some g
  o2 : s2 = 1 → ∀ g, p2 = .slice (some ⟨g, 0, none⟩) 1 1 → (c1.cur s1 q1).ownBlock ≠ some g
theorem Jt.symm {c1 c2 : Chn} {s1 s2 : Nat} {p1 q1 p2 q2 : Value} (h : Jt c1 s1 p1 q1 c2 s2 p2 q2) : Jt c2 s2 p2 q2 c1 s1 p1 q1 := ⟨h.ap.symm, h.o2, h.o1⟩
section
variable {c d : Chn} {base s : Nat} {w w' : World} {p q p' q' : Value}
theorem Chn.At.alloc (h : c.At base w s p q) (o : Obj) : c.At base (w.alloc o) s p q :=
  ⟨h.row.alloc o, fun hs => by obtain ⟨g, e, hr⟩ := h.lit hs; exact ⟨g, e, hr.alloc o⟩⟩
theorem Chn.At.build (h : c.At base w 0 p q) : c.At base (w.alloc (.cells c.z.toArray c.e)) 1 (.slice (some ⟨w.heap.size, 0, none⟩) 1 1) q' :=
  ⟨h.row.alloc _, fun _ => ⟨_, rfl, Row.new w c.e c.z.toArray⟩⟩
theorem Jt.build (h : Jt c 0 p q d s p' q') (hd : d.At base w s p' q') : Jt c 1 (.slice (some ⟨w.heap.size, 0, none⟩) 1 1) q d s p' q' :=
  ⟨h.ap, fun _ g e hg => by
    injection e with e _ _
    injection e with e
    injection e with e _ _
    subst e
    exact absurd (hd.row.lt _ hg).2 (Nat.lt_irrefl _), fun hs g e => h.o2 hs g e⟩
theorem Chn.At.append (h : c.At base w s p q) (hj : Jt d 1 p' q' c s p q) (hg : w.grownBy w' d.x0.ownBlock) : c.At base w' s p q := by
  refine ⟨h.row.grown hg hj.ap, fun hs => ?_⟩
  obtain ⟨g, e, hr⟩ := h.lit hs
  exact ⟨g, e, hr.grown hg (fun e2 => hj.o2 hs g e e2.symm)⟩
theorem Jt.append {v : Value} (h : Jt d 1 p' q' c s p q) (hc : c.At base w s p q) (hv : v.ownBlock = d.x0.ownBlock ∨ v.ownBlock = some w.heap.size) : Jt d 2 p' v c s p q := by
  have e1 : d.cur 1 q' = d.x0 := rfl
  have e2 : d.cur 2 v = v := rfl
  refine ⟨?_, (fun hs => by cases hs), fun hs g e => ?_⟩
  · rw [e2]
    intro g hg
    rcases hv with hv | hv
    · exact h.ap g (by rw [e1, ← hv, hg])
    · intro hg2
      rw [hv] at hg
      injection hg with hg
      have := (hc.row.lt _ hg2).2
      omega
  · rw [e2]
    rcases hv with hv | hv
    · rw [hv]; exact h.o2 hs g e
    · rw [hv]
      intro e3
      injection e3 with e3
      obtain ⟨g', e4, hr⟩ := hc.lit hs
      rw [e] at e4
      injection e4 with e4 _ _
      injection e4 with e4
      injection e4 with e4 _ _
      have := hr.lt
      omega
end
/-! ### The frame -/
theorem put_put (a : Act) (i : Nat) (x y : Value) : (a.put (some i) x).put (some i) y = a.put (some i) y := by simp [Act.put]
theorem put_swap (a : Act) {i j : Nat} (h : i ≠ j) (x y : Value) : (a.put (some i) x).put (some j) y = (a.put (some j) y).put (some i) x := Act.put_comm a x y (fun d hd hj => h (by injection hd with hd; injection hj with hj; rw [hd, hj]))
theorem Chn.fr_put (c : Chn) (s : Nat) (p q : Value) (a : Act) {i : Nat} (hb : c.b ≠ i) (hd : c.d ≠ i) (x : Value) : (c.fr s p q a).put (some i) x = c.fr s p q (a.put (some i) x) := by
  unfold Chn.fr
  split
  · rfl
  · split
    · exact put_swap a hb p x
    · rw [put_swap _ hd, put_swap _ hb]
theorem Chn.fr_eval (c : Chn) (s : Nat) (p q : Value) (a : Act) {o : Operand} (hb : o ≠ .tmp c.b) (hd : o ≠ .tmp c.d) : (c.fr s p q a).eval o = a.eval o := by
  unfold Chn.fr
  have h1 : ∀ (a : Act) (x : Value), (a.put (some c.b) x).eval o = a.eval o := fun a x => Act.eval_put (fun d hd2 => by injection hd2 with hd2; subst hd2; exact hb)
  have h2 : ∀ (a : Act) (x : Value), (a.put (some c.d) x).eval o = a.eval o := fun a x => Act.eval_put (fun d hd2 => by injection hd2 with hd2; subst hd2; exact hd)
  split
  · rfl
  · split
    · exact h1 a p
    · rw [h2, h1]
theorem put_size (a : Act) (i : Nat) (x : Value) : (a.put (some i) x).tmps.size = a.tmps.size := by simp [Act.put]
theorem Chn.fr_size (c : Chn) (s : Nat) (p q : Value) (a : Act) : (c.fr s p q a).tmps.size = a.tmps.size := by
  unfold Chn.fr
  split
  · rfl
  · split
    · exact put_size a _ p
    · rw [put_size, put_size]
theorem put_here (a : Act) {i : Nat} (h : i < a.tmps.size) (x : Value) : (a.put (some i) x).eval (.tmp i) = x := by simp [Act.put, Act.eval, h]
theorem Chn.fr_lit (c : Chn) (p q : Value) (a : Act) (h : c.b < a.tmps.size) : (c.fr 1 p q a).eval (.tmp c.b) = p := put_here a h p
end Go.Proofs.Ytmcemijipplkgaa
