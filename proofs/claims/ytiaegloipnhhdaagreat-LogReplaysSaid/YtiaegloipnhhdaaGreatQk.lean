/- A drawn region that puts one element each behind three rows of the call's own: in whatever order its literals and appends come, the same rows are there behind it. No condition: nothing here speaks of a program. -/
import Derived.Test.YtiaegloipnhhdaaGreatQa
import Derived.Maps.AppendAt
import Derived.Test.YtiaegloipnhhdaaGreatQg
import Derived.Deep.Slices
import Derived.Deep.Fields
import Derived.ChangeSame
namespace Go.Proofs.YtiaegloipnhhdaaGreat
open Go.RowKit
/-- A row of structs of the call's own. -/
def Rw (base : Nat) (e : TypeId) (sz : Nat) (w : World) (v : Value) (xs : List (List Value)) : Prop := w.ownsRow base e sz v xs.length (cellsV xs)
/-- The rows lie in two blocks. -/
def Ap (v u : Value) : Prop := ∀ g, v.ownBlock = some g → u.ownBlock ≠ some g
theorem Ap.symm {v u : Value} (h : Ap v u) : Ap u v := fun g h1 h2 => h g h2 h1
section
variable {base sz : Nat} {e : TypeId} {w w' : World} {v u : Value} {xs : List (List Value)}
theorem Rw.lt (h : Rw base e sz w v xs) : ∀ k, v.ownBlock = some k → base ≤ k ∧ k < w.heap.size := by unfold Rw at h; exact h.lt
theorem Rw.alloc (h : Rw base e sz w v xs) (o : Obj) : Rw base e sz (w.alloc o) v xs := World.ownsRow.alloc h o
theorem Rw.grown (h : Rw base e sz w v xs) (hg : w.grownBy w' u.ownBlock) (ha : Ap u v) : Rw base e sz w' v xs :=
  World.ownsRow.kept h hg (by cases hv : v.ownBlock with
    | none => exact .inl rfl
    | some g => exact .inr fun e => ha g e.symm hv)
theorem Rw.below (h : Rw base e sz w v xs) (hb : Below w.heap.size w w') : Rw base e sz w' v xs :=
  World.ownsRow.kept h (grown_below hb) (by cases hv : v.ownBlock with
    | none => exact .inl rfl
    | some g => exact .inr (by simp))
end
/-- What stays behind the region: all but three blocks. -/
structure Kp3 (r1 r2 r3 : Option Nat) (w0 w : World) : Prop where
  os : w.os = w0.os
  tape : w.tape = w0.tape
  output : w.output = w0.output
  size : w0.heap.size ≤ w.heap.size
  block : ∀ k, k < w0.heap.size → some k ≠ r1 → some k ≠ r2 → some k ≠ r3 → w.heap[k]? = w0.heap[k]?
theorem Kp3.refl (r1 r2 r3 : Option Nat) (w : World) : Kp3 r1 r2 r3 w w := ⟨rfl, rfl, rfl, Nat.le_refl _, fun _ _ _ _ _ => rfl⟩
theorem Kp3.step {r1 r2 r3 row : Option Nat} {w0 w w' : World} (h : Kp3 r1 r2 r3 w0 w) (hg : w.grownBy w' row) (hr : row = none ∨ row = r1 ∨ row = r2 ∨ row = r3) : Kp3 r1 r2 r3 w0 w' :=
  ⟨hg.os.trans h.os, hg.tape.trans h.tape, hg.output.trans h.output, Nat.le_trans h.size hg.size, fun k hk h1 h2 h3 => (hg.block k (Nat.lt_of_lt_of_le hk h.size) (by
    rcases hr with rfl | rfl | rfl | rfl
    · simp
    · exact h1
    · exact h2
    · exact h3)).trans (h.block k hk h1 h2 h3)⟩
/-- A chain: a literal of one element, appended to a row. -/
structure Chn where
  b : Nat
  d : Nat
  e : TypeId
  sz : Nat
  xs : List (List Value)
  z : List Value
  x0 : Value
def Chn.fr (c : Chn) (s : Nat) (p q : Value) (a : Act) : Act := if s = 0 then a else if s = 1 then a.put (some c.b) p else (a.put (some c.b) p).put (some c.d) q
def Chn.cur (c : Chn) (s : Nat) (q : Value) : Value := if s = 2 then q else c.x0
def Chn.rows (c : Chn) (s : Nat) : List (List Value) := if s = 2 then c.xs ++ [c.z] else c.xs
structure Chn.At (c : Chn) (base : Nat) (w : World) (s : Nat) (p q : Value) : Prop where
  row : Rw base c.e c.sz w (c.cur s q) (c.rows s)
  lit : s = 1 → ∃ g, p = .slice (some ⟨g, 0, none⟩) 1 1 ∧ Row w g c.e c.z.toArray
/-- Two chains don't touch. -/
structure Jt (c1 : Chn) (s1 : Nat) (p1 q1 : Value) (c2 : Chn) (s2 : Nat) (p2 q2 : Value) : Prop where
  ap : Ap (c1.cur s1 q1) (c2.cur s2 q2)
  o1 : s1 = 1 → ∀ g, p1 = .slice (some ⟨g, 0, none⟩) 1 1 → (c2.cur s2 q2).ownBlock ≠ some g
  o2 : s2 = 1 → ∀ g, p2 = .slice (some ⟨g, 0, none⟩) 1 1 → (c1.cur s1 q1).ownBlock ≠ some g
theorem Jt.symm {c1 c2 : Chn} {s1 s2 : Nat} {p1 q1 p2 q2 : Value} (h : Jt c1 s1 p1 q1 c2 s2 p2 q2) : Jt c2 s2 p2 q2 c1 s1 p1 q1 := ⟨h.ap.symm, h.o2, h.o1⟩
section
variable {c d : Chn} {base s : Nat} {w w' : World} {p q p' q' : Value}
theorem Chn.At.alloc (h : c.At base w s p q) (o : Obj) : c.At base (w.alloc o) s p q :=
  ⟨h.row.alloc o, fun hs => by obtain ⟨g, e, hr⟩ := h.lit hs; exact ⟨g, e, hr.alloc o⟩⟩
theorem Chn.At.build (h : c.At base w 0 p q) : c.At base (w.alloc (.cells c.z.toArray c.e)) 1 (.slice (some ⟨w.heap.size, 0, none⟩) 1 1) q' :=
  ⟨h.row.alloc _, fun _ => ⟨_, rfl, Row.new w c.e c.z.toArray⟩⟩
theorem Jt.build (h : Jt c 0 p q d s p' q') (hd : d.At base w s p' q') : Jt c 1 (.slice (some ⟨w.heap.size, 0, none⟩) 1 1) q d s p' q' :=
  ⟨h.ap, fun _ g e hg => by
    injection e with e _ _
    injection e with e
    injection e with e _ _
    subst e
    exact absurd (hd.row.lt _ hg).2 (Nat.lt_irrefl _), fun hs g e => h.o2 hs g e⟩
theorem Chn.At.append (h : c.At base w s p q) (hj : Jt d 1 p' q' c s p q) (hg : w.grownBy w' d.x0.ownBlock) : c.At base w' s p q := by
  refine ⟨h.row.grown hg hj.ap, fun hs => ?_⟩
  obtain ⟨g, e, hr⟩ := h.lit hs
  exact ⟨g, e, hr.grown hg (fun e2 => hj.o2 hs g e e2.symm)⟩
theorem Jt.append {v : Value} (h : Jt d 1 p' q' c s p q) (hc : c.At base w s p q) (hv : v.ownBlock = d.x0.ownBlock ∨ v.ownBlock = some w.heap.size) : Jt d 2 p' v c s p q := by
  have e1 : d.cur 1 q' = d.x0 := rfl
  have e2 : d.cur 2 v = v := rfl
  refine ⟨?_, (fun hs => by cases hs), fun hs g e => ?_⟩
  · rw [e2]
    intro g hg
    rcases hv with hv | hv
    · exact h.ap g (by rw [e1, ← hv, hg])
    · intro hg2
      rw [hv] at hg
      injection hg with hg
      have := (hc.row.lt _ hg2).2
      omega
  · rw [e2]
    rcases hv with hv | hv
    · rw [hv]; exact h.o2 hs g e
    · rw [hv]
      intro e3
      injection e3 with e3
      obtain ⟨g', e4, hr⟩ := hc.lit hs
      rw [e] at e4
      injection e4 with e4 _ _
      injection e4 with e4
      injection e4 with e4 _ _
      have := hr.lt
      omega
end
/-! ### The frame -/
theorem put_put (a : Act) (i : Nat) (x y : Value) : (a.put (some i) x).put (some i) y = a.put (some i) y := by simp [Act.put]
theorem put_swap (a : Act) {i j : Nat} (h : i ≠ j) (x y : Value) : (a.put (some i) x).put (some j) y = (a.put (some j) y).put (some i) x := Act.put_comm a x y (fun d hd hj => h (by injection hd with hd; injection hj with hj; rw [hd, hj]))
theorem Chn.fr_put (c : Chn) (s : Nat) (p q : Value) (a : Act) {i : Nat} (hb : c.b ≠ i) (hd : c.d ≠ i) (x : Value) : (c.fr s p q a).put (some i) x = c.fr s p q (a.put (some i) x) := by
  unfold Chn.fr
  split
  · rfl
  · split
    · exact put_swap a hb p x
    · rw [put_swap _ hd, put_swap _ hb]
theorem Chn.fr_eval (c : Chn) (s : Nat) (p q : Value) (a : Act) {o : Operand} (hb : o ≠ .tmp c.b) (hd : o ≠ .tmp c.d) : (c.fr s p q a).eval o = a.eval o := by
  unfold Chn.fr
  have h1 : ∀ (a : Act) (x : Value), (a.put (some c.b) x).eval o = a.eval o := fun a x => Act.eval_put (fun d hd2 => by injection hd2 with hd2; subst hd2; exact hb)
  have h2 : ∀ (a : Act) (x : Value), (a.put (some c.d) x).eval o = a.eval o := fun a x => Act.eval_put (fun d hd2 => by injection hd2 with hd2; subst hd2; exact hd)
  split
  · rfl
  · split
    · exact h1 a p
    · rw [h2, h1]
theorem put_size (a : Act) (i : Nat) (x : Value) : (a.put (some i) x).tmps.size = a.tmps.size := by simp [Act.put]
theorem Chn.fr_size (c : Chn) (s : Nat) (p q : Value) (a : Act) : (c.fr s p q a).tmps.size = a.tmps.size := by
  unfold Chn.fr
  split
  · rfl
  · split
    · exact put_size a _ p
    · rw [put_size, put_size]
theorem put_here (a : Act) {i : Nat} (h : i < a.tmps.size) (x : Value) : (a.put (some i) x).eval (.tmp i) = x := by simp [Act.put, Act.eval, h]
theorem Chn.fr_lit (c : Chn) (p q : Value) (a : Act) (h : c.b < a.tmps.size) : (c.fr 1 p q a).eval (.tmp c.b) = p := put_here a h p
end Go.Proofs.YtiaegloipnhhdaaGreat
/- Three chains in one drawn region: whatever the order. No condition: nothing here speaks of a program. -/
namespace Go.Proofs.YtiaegloipnhhdaaGreat
open Go.RowKit
structure St3 (c1 c2 c3 : Chn) (base : Nat) (w0 w : World) (s1 : Nat) (p1 q1 : Value) (s2 : Nat) (p2 q2 : Value) (s3 : Nat) (p3 q3 : Value) : Prop where
  a1 : c1.At base w s1 p1 q1
  a2 : c2.At base w s2 p2 q2
  a3 : c3.At base w s3 p3 q3
  j12 : Jt c1 s1 p1 q1 c2 s2 p2 q2
  j13 : Jt c1 s1 p1 q1 c3 s3 p3 q3
  j23 : Jt c2 s2 p2 q2 c3 s3 p3 q3
  kp : Kp3 c1.x0.ownBlock c2.x0.ownBlock c3.x0.ownBlock w0 w
  hb : base ≤ w.heap.size
/-- A chain's two operations: the literal reads ou, the append reads os and the literal. -/
structure Op2 (P : Program) (ops : Array Oper) (Q : Exit → Act → World → Prop) (c : Chn) (base : Nat) (ou os : Operand) (U : Value) (ib ia : Nat) : Prop where
  build : ∀ (a : Act) (w : World) (K : Act → World → Prop), a.eval ou = U → K (a.put (some c.b) (.slice (some ⟨w.heap.size, 0, none⟩) 1 1)) (w.alloc (.cells c.z.toArray c.e)) → wpOp P ops Q ib K a w
  append : ∀ (a : Act) (w : World) (K : Act → World → Prop) (g : Nat), a.eval os = c.x0 → a.eval (.tmp c.b) = .slice (some ⟨g, 0, none⟩) 1 1 → base ≤ w.heap.size → Rw base c.e c.sz w c.x0 c.xs → Row w g c.e c.z.toArray →
    (∀ v w', Rw base c.e c.sz w' v (c.xs ++ [c.z]) → w.grownBy w' c.x0.ownBlock → (v.ownBlock = c.x0.ownBlock ∨ v.ownBlock = some w.heap.size) → K (a.put (some c.d) v) w') → wpOp P ops Q ia K a w
/-- Which are listed. -/
def bitC (s ib ia : Nat) (L : Array Bool) : Array Bool := if s = 0 then L else if s = 1 then L.setIfInBounds ib true else (L.setIfInBounds ib true).setIfInBounds ia true
theorem bit_set (s : Nat) {ib ia i : Nat} (L : Array Bool) (hb : ib ≠ i) (ha : ia ≠ i) : (bitC s ib ia L).setIfInBounds i true = bitC s ib ia (L.setIfInBounds i true) := by
  unfold bitC
  split
  · rfl
  · split
    · exact (Array.setIfInBounds_comm _ _ hb)
    · rw [Array.setIfInBounds_comm _ _ ha, Array.setIfInBounds_comm _ _ hb]
theorem bit_two (ib ia : Nat) (L : Array Bool) : bitC 2 ib ia L = (L.setIfInBounds ib true).setIfInBounds ia true := by unfold bitC; simp
theorem bit_zero (ib ia : Nat) (L : Array Bool) : bitC 0 ib ia L = L := by unfold bitC; simp
theorem fr_two (c : Chn) (p q : Value) (a : Act) : c.fr 2 p q a = (a.put (some c.b) p).put (some c.d) q := by unfold Chn.fr; simp
theorem fr_zero (c : Chn) (p q : Value) (a : Act) : c.fr 0 p q a = a := by unfold Chn.fr; simp
/-- At each state just these may come. -/
def chk3 (md : Region.Mode) (ops : Array Oper) (L0 : Array Bool) (b1 a1 b2 a2 b3 a3 : Nat) : Bool :=
  [0, 1, 2].all fun s1 => [0, 1, 2].all fun s2 => [0, 1, 2].all fun s3 => (s1 == 2 && s2 == 2 && s3 == 2) ||
    (let r := Region.ready md ops (bitC s3 b3 a3 (bitC s2 b2 a2 (bitC s1 b1 a1 L0)))
     !r.isEmpty && r.all fun i => (s1 == 0 && i == b1) || (s1 == 1 && i == a1) || (s2 == 0 && i == b2) || (s2 == 1 && i == a2) || (s3 == 0 && i == b3) || (s3 == 1 && i == a3))
theorem chk3_at {md : Region.Mode} {ops : Array Oper} {L0 : Array Bool} {b1 a1 b2 a2 b3 a3 : Nat} (h : chk3 md ops L0 b1 a1 b2 a2 b3 a3 = true) {s1 s2 s3 : Nat} (h1 : s1 ≤ 2) (h2 : s2 ≤ 2) (h3 : s3 ≤ 2) (hn : s1 + s2 + s3 < 6) :
    Region.ready md ops (bitC s3 b3 a3 (bitC s2 b2 a2 (bitC s1 b1 a1 L0))) ≠ [] ∧ ∀ i, i ∈ Region.ready md ops (bitC s3 b3 a3 (bitC s2 b2 a2 (bitC s1 b1 a1 L0))) → (s1 = 0 ∧ i = b1) ∨ (s1 = 1 ∧ i = a1) ∨ (s2 = 0 ∧ i = b2) ∨ (s2 = 1 ∧ i = a2) ∨ (s3 = 0 ∧ i = b3) ∨ (s3 = 1 ∧ i = a3) := by
  unfold chk3 at h
  have m : ∀ s, s ≤ 2 → s ∈ [0, 1, 2] := fun s hs => by
    rcases s with _ | _ | _ | s
    · simp
    · simp
    · simp
    · omega
  have h4 := List.all_eq_true.1 (List.all_eq_true.1 (List.all_eq_true.1 h s1 (m s1 h1)) s2 (m s2 h2)) s3 (m s3 h3)
  have hf : (s1 == 2 && s2 == 2 && s3 == 2) = false := by
    cases h5 : (s1 == 2 && s2 == 2 && s3 == 2)
    · rfl
    · simp at h5; omega
  rw [hf, Bool.false_or, Bool.and_eq_true] at h4
  refine ⟨fun e => by rw [e] at h4; simp at h4, fun i hi => ?_⟩
  have := List.all_eq_true.1 h4.2 i hi
  simpa [or_assoc] using this
section
variable {P : Program} {md : Region.Mode} {ops : Array Oper} {Q : Exit → Act → World → Prop} {S : World → Prop} {m : Nat}
theorem chains3 {c1 c2 c3 : Chn} {base : Nat} {a0 : Act} {w0 : World} {L0 : Array Bool} {ou1 os1 ou2 os2 ou3 os3 : Operand} {U1 U2 U3 : Value} {b1 a1 b2 a2 b3 a3 nE : Nat}
    (O1 : Op2 P ops Q c1 base ou1 os1 U1 b1 a1) (O2 : Op2 P ops Q c2 base ou2 os2 U2 b2 a2) (O3 : Op2 P ops Q c3 base ou3 os3 U3 b3 a3)
    (hc : chk3 md ops L0 b1 a1 b2 a2 b3 a3 = true)
    (hi : [b1, a1, b2, a2, b3, a3].Nodup) (hs : [c1.b, c1.d, c2.b, c2.d, c3.b, c3.d].Nodup)
    (hoff : ∀ o, o ∈ [ou1, os1, ou2, os2, ou3, os3] → ∀ t, t ∈ [c1.b, c1.d, c2.b, c2.d, c3.b, c3.d] → o ≠ .tmp t)
    (hu1 : a0.eval ou1 = U1) (hu2 : a0.eval ou2 = U2) (hu3 : a0.eval ou3 = U3) (hx1 : a0.eval os1 = c1.x0) (hx2 : a0.eval os2 = c2.x0) (hx3 : a0.eval os3 = c3.x0)
    (hz1 : c1.b < a0.tmps.size) (hz2 : c2.b < a0.tmps.size) (hz3 : c3.b < a0.tmps.size)
    (hS : ∀ w, Kp3 c1.x0.ownBlock c2.x0.ownBlock c3.x0.ownBlock w0 w → S w)
    (hE : ∀ p1 q1 p2 q2 p3 q3 w, St3 c1 c2 c3 base w0 w 2 p1 q1 2 p2 q2 2 p3 q3 → anyT P md ops Q S m nE (bitC 2 b3 a3 (bitC 2 b2 a2 (bitC 2 b1 a1 L0))) (c3.fr 2 p3 q3 (c2.fr 2 p2 q2 (c1.fr 2 p1 q1 a0))) w) :
    ∀ (r s1 s2 s3 : Nat), s1 ≤ 2 → s2 ≤ 2 → s3 ≤ 2 → r + (s1 + s2 + s3) = 6 → ∀ (p1 q1 p2 q2 p3 q3 : Value) (w : World), St3 c1 c2 c3 base w0 w s1 p1 q1 s2 p2 q2 s3 p3 q3 →
      anyT P md ops Q S m (nE + r) (bitC s3 b3 a3 (bitC s2 b2 a2 (bitC s1 b1 a1 L0))) (c3.fr s3 p3 q3 (c2.fr s2 p2 q2 (c1.fr s1 p1 q1 a0))) w := by
  have ev : ∀ (o : Operand), o ∈ [ou1, os1, ou2, os2, ou3, os3] → ∀ (s1 s2 s3 : Nat) (p1 q1 p2 q2 p3 q3 : Value), (c3.fr s3 p3 q3 (c2.fr s2 p2 q2 (c1.fr s1 p1 q1 a0))).eval o = a0.eval o := fun o ho s1 s2 s3 p1 q1 p2 q2 p3 q3 => by
    rw [c3.fr_eval s3 p3 q3 _ (hoff o ho _ (by simp)) (hoff o ho _ (by simp)), c2.fr_eval s2 p2 q2 _ (hoff o ho _ (by simp)) (hoff o ho _ (by simp)), c1.fr_eval s1 p1 q1 _ (hoff o ho _ (by simp)) (hoff o ho _ (by simp))]
  simp only [List.nodup_cons, List.mem_cons, List.not_mem_nil, or_false, not_or, List.nodup_nil, and_true, not_false_eq_true] at hi hs
  obtain ⟨⟨i12, i13, i14, i15, i16⟩, ⟨i23, i24, i25, i26⟩, ⟨i34, i35, i36⟩, ⟨i45, i46⟩, i56⟩ := hi
  obtain ⟨⟨t12, t13, t14, t15, t16⟩, ⟨t23, t24, t25, t26⟩, ⟨t34, t35, t36⟩, ⟨t45, t46⟩, t56⟩ := hs
  intro r
  induction r with
  | zero =>
    intro s1 s2 s3 h1 h2 h3 hr p1 q1 p2 q2 p3 q3 w H
    obtain rfl : s1 = 2 := by omega
    obtain rfl : s2 = 2 := by omega
    obtain rfl : s3 = 2 := by omega
    exact hE p1 q1 p2 q2 p3 q3 w H
  | succ r ih =>
    intro s1 s2 s3 h1 h2 h3 hr p1 q1 p2 q2 p3 q3 w H
    obtain ⟨hne, hall⟩ := chk3_at hc h1 h2 h3 (by omega)
    refine ⟨fun h0 => absurd h0 hne, fun i hin => ?_⟩
    rcases hall i hin with ⟨rfl, rfl⟩ | ⟨rfl, rfl⟩ | ⟨rfl, rfl⟩ | ⟨rfl, rfl⟩ | ⟨rfl, rfl⟩ | ⟨rfl, rfl⟩
    · have H' : St3 c1 c2 c3 base w0 (w.alloc (.cells c1.z.toArray c1.e)) 1 (.slice (some ⟨w.heap.size, 0, none⟩) 1 1) q1 s2 p2 q2 s3 p3 q3 := ⟨H.a1.build, H.a2.alloc _, H.a3.alloc _, (Jt.build H.j12 H.a2), (Jt.build H.j13 H.a3), H.j23, H.kp.step (World.grownBy_alloc w _ none) (.inl rfl), Nat.le_trans H.hb (World.grownBy_alloc w _ none).size⟩
      refine O1.build _ w _ ((ev _ (by simp) _ _ _ _ _ _ _ _ _).trans hu1) ⟨fun _ => hS _ H'.kp, ?_⟩
      have A := ih 1 s2 s3 (by omega) (by omega) (by omega) (by omega) _ q1 p2 q2 p3 q3 _ H'
      rw [bit_set s3 _ (ib := b3) (ia := a3) (i := i) (by first | assumption | (exact Ne.symm (by assumption))) (by first | assumption | (exact Ne.symm (by assumption))), bit_set s2 _ (ib := b2) (ia := a2) (i := i) (by first | assumption | (exact Ne.symm (by assumption))) (by first | assumption | (exact Ne.symm (by assumption))), c3.fr_put s3 p3 q3 _ (i := c1.b) (by first | assumption | (exact Ne.symm (by assumption))) (by first | assumption | (exact Ne.symm (by assumption))), c2.fr_put s2 p2 q2 _ (i := c1.b) (by first | assumption | (exact Ne.symm (by assumption))) (by first | assumption | (exact Ne.symm (by assumption)))]
      exact A
    · obtain ⟨g, hg, hrow⟩ := H.a1.lit rfl
      refine O1.append _ w _ g ((ev _ (by simp) _ _ _ _ _ _ _ _ _).trans hx1) (by rw [c3.fr_eval s3 p3 q3 _ (o := .tmp c1.b) (by simp only [ne_eq, Operand.tmp.injEq]; first | assumption | (exact Ne.symm (by assumption))) (by simp only [ne_eq, Operand.tmp.injEq]; first | assumption | (exact Ne.symm (by assumption))), c2.fr_eval s2 p2 q2 _ (o := .tmp c1.b) (by simp only [ne_eq, Operand.tmp.injEq]; first | assumption | (exact Ne.symm (by assumption))) (by simp only [ne_eq, Operand.tmp.injEq]; first | assumption | (exact Ne.symm (by assumption))), c1.fr_lit p1 q1 _ (by first | exact hz1 | (simp only [Chn.fr_size]; exact hz1))]; exact hg) H.hb H.a1.row hrow fun v w' hv1 hv2 hv => ?_
      have H' : St3 c1 c2 c3 base w0 w' 2 p1 v s2 p2 q2 s3 p3 q3 := ⟨⟨hv1, fun h => by cases h⟩, H.a2.append (H.j12) hv2, H.a3.append (H.j13) hv2, (Jt.append (H.j12) H.a2 hv), (Jt.append (H.j13) H.a3 hv), H.j23, H.kp.step hv2 (.inr (.inl rfl)), Nat.le_trans H.hb hv2.size⟩
      refine ⟨fun _ => hS _ H'.kp, ?_⟩
      have A := ih 2 s2 s3 (by omega) (by omega) (by omega) (by omega) p1 v p2 q2 p3 q3 _ H'
      rw [bit_set s3 _ (ib := b3) (ia := a3) (i := i) (by first | assumption | (exact Ne.symm (by assumption))) (by first | assumption | (exact Ne.symm (by assumption))), bit_set s2 _ (ib := b2) (ia := a2) (i := i) (by first | assumption | (exact Ne.symm (by assumption))) (by first | assumption | (exact Ne.symm (by assumption))), c3.fr_put s3 p3 q3 _ (i := c1.d) (by first | assumption | (exact Ne.symm (by assumption))) (by first | assumption | (exact Ne.symm (by assumption))), c2.fr_put s2 p2 q2 _ (i := c1.d) (by first | assumption | (exact Ne.symm (by assumption))) (by first | assumption | (exact Ne.symm (by assumption)))]
      exact A
    · have H' : St3 c1 c2 c3 base w0 (w.alloc (.cells c2.z.toArray c2.e)) s1 p1 q1 1 (.slice (some ⟨w.heap.size, 0, none⟩) 1 1) q2 s3 p3 q3 := ⟨H.a1.alloc _, H.a2.build, H.a3.alloc _, (Jt.build H.j12.symm H.a1).symm, H.j13, (Jt.build H.j23 H.a3), H.kp.step (World.grownBy_alloc w _ none) (.inl rfl), Nat.le_trans H.hb (World.grownBy_alloc w _ none).size⟩
      refine O2.build _ w _ ((ev _ (by simp) _ _ _ _ _ _ _ _ _).trans hu2) ⟨fun _ => hS _ H'.kp, ?_⟩
      have A := ih s1 1 s3 (by omega) (by omega) (by omega) (by omega) p1 q1 _ q2 p3 q3 _ H'
      rw [bit_set s3 _ (ib := b3) (ia := a3) (i := i) (by first | assumption | (exact Ne.symm (by assumption))) (by first | assumption | (exact Ne.symm (by assumption))), c3.fr_put s3 p3 q3 _ (i := c2.b) (by first | assumption | (exact Ne.symm (by assumption))) (by first | assumption | (exact Ne.symm (by assumption)))]
      exact A
    · obtain ⟨g, hg, hrow⟩ := H.a2.lit rfl
      refine O2.append _ w _ g ((ev _ (by simp) _ _ _ _ _ _ _ _ _).trans hx2) (by rw [c3.fr_eval s3 p3 q3 _ (o := .tmp c2.b) (by simp only [ne_eq, Operand.tmp.injEq]; first | assumption | (exact Ne.symm (by assumption))) (by simp only [ne_eq, Operand.tmp.injEq]; first | assumption | (exact Ne.symm (by assumption))), c2.fr_lit p2 q2 _ (by first | exact hz2 | (simp only [Chn.fr_size]; exact hz2))]; exact hg) H.hb H.a2.row hrow fun v w' hv1 hv2 hv => ?_
      have H' : St3 c1 c2 c3 base w0 w' s1 p1 q1 2 p2 v s3 p3 q3 := ⟨H.a1.append (H.j12.symm) hv2, ⟨hv1, fun h => by cases h⟩, H.a3.append (H.j23) hv2, (Jt.append (H.j12.symm) H.a1 hv).symm, H.j13, (Jt.append (H.j23) H.a3 hv), H.kp.step hv2 (.inr (.inr (.inl rfl))), Nat.le_trans H.hb hv2.size⟩
      refine ⟨fun _ => hS _ H'.kp, ?_⟩
      have A := ih s1 2 s3 (by omega) (by omega) (by omega) (by omega) p1 q1 p2 v p3 q3 _ H'
      rw [bit_set s3 _ (ib := b3) (ia := a3) (i := i) (by first | assumption | (exact Ne.symm (by assumption))) (by first | assumption | (exact Ne.symm (by assumption))), c3.fr_put s3 p3 q3 _ (i := c2.d) (by first | assumption | (exact Ne.symm (by assumption))) (by first | assumption | (exact Ne.symm (by assumption)))]
      exact A
    · have H' : St3 c1 c2 c3 base w0 (w.alloc (.cells c3.z.toArray c3.e)) s1 p1 q1 s2 p2 q2 1 (.slice (some ⟨w.heap.size, 0, none⟩) 1 1) q3 := ⟨H.a1.alloc _, H.a2.alloc _, H.a3.build, H.j12, (Jt.build H.j13.symm H.a1).symm, (Jt.build H.j23.symm H.a2).symm, H.kp.step (World.grownBy_alloc w _ none) (.inl rfl), Nat.le_trans H.hb (World.grownBy_alloc w _ none).size⟩
      refine O3.build _ w _ ((ev _ (by simp) _ _ _ _ _ _ _ _ _).trans hu3) ⟨fun _ => hS _ H'.kp, ?_⟩
      have A := ih s1 s2 1 (by omega) (by omega) (by omega) (by omega) p1 q1 p2 q2 _ q3 _ H'
      exact A
    · obtain ⟨g, hg, hrow⟩ := H.a3.lit rfl
      refine O3.append _ w _ g ((ev _ (by simp) _ _ _ _ _ _ _ _ _).trans hx3) (by rw [c3.fr_lit p3 q3 _ (by first | exact hz3 | (simp only [Chn.fr_size]; exact hz3))]; exact hg) H.hb H.a3.row hrow fun v w' hv1 hv2 hv => ?_
      have H' : St3 c1 c2 c3 base w0 w' s1 p1 q1 s2 p2 q2 2 p3 v := ⟨H.a1.append (H.j13.symm) hv2, H.a2.append (H.j23.symm) hv2, ⟨hv1, fun h => by cases h⟩, H.j12, (Jt.append (H.j13.symm) H.a1 hv).symm, (Jt.append (H.j23.symm) H.a2 hv).symm, H.kp.step hv2 (.inr (.inr (.inr rfl))), Nat.le_trans H.hb hv2.size⟩
      refine ⟨fun _ => hS _ H'.kp, ?_⟩
      have A := ih s1 s2 2 (by omega) (by omega) (by omega) (by omega) p1 q1 p2 q2 p3 v _ H'
      exact A
theorem chains3_go {c1 c2 c3 : Chn} {base : Nat} {a0 : Act} {w0 : World} {L0 : Array Bool} {ou1 os1 ou2 os2 ou3 os3 : Operand} {U1 U2 U3 : Value} {b1 a1 b2 a2 b3 a3 nE : Nat}
    (O1 : Op2 P ops Q c1 base ou1 os1 U1 b1 a1) (O2 : Op2 P ops Q c2 base ou2 os2 U2 b2 a2) (O3 : Op2 P ops Q c3 base ou3 os3 U3 b3 a3)
    (hc : chk3 md ops L0 b1 a1 b2 a2 b3 a3 = true)
    (hi : [b1, a1, b2, a2, b3, a3].Nodup) (hs : [c1.b, c1.d, c2.b, c2.d, c3.b, c3.d].Nodup)
    (hoff : ∀ o, o ∈ [ou1, os1, ou2, os2, ou3, os3] → ∀ t, t ∈ [c1.b, c1.d, c2.b, c2.d, c3.b, c3.d] → o ≠ .tmp t)
    (hu1 : a0.eval ou1 = U1) (hu2 : a0.eval ou2 = U2) (hu3 : a0.eval ou3 = U3) (hx1 : a0.eval os1 = c1.x0) (hx2 : a0.eval os2 = c2.x0) (hx3 : a0.eval os3 = c3.x0)
    (hz1 : c1.b < a0.tmps.size) (hz2 : c2.b < a0.tmps.size) (hz3 : c3.b < a0.tmps.size)
    (r1 : Rw base c1.e c1.sz w0 c1.x0 c1.xs) (r2 : Rw base c2.e c2.sz w0 c2.x0 c2.xs) (r3 : Rw base c3.e c3.sz w0 c3.x0 c3.xs) (p12 : Ap c1.x0 c2.x0) (p13 : Ap c1.x0 c3.x0) (p23 : Ap c2.x0 c3.x0) (hb : base ≤ w0.heap.size)
    (hS : ∀ w, Kp3 c1.x0.ownBlock c2.x0.ownBlock c3.x0.ownBlock w0 w → S w)
    (hE : ∀ p1 q1 p2 q2 p3 q3 w, Rw base c1.e c1.sz w q1 (c1.xs ++ [c1.z]) → Rw base c2.e c2.sz w q2 (c2.xs ++ [c2.z]) → Rw base c3.e c3.sz w q3 (c3.xs ++ [c3.z]) → Ap q1 q2 → Ap q1 q3 → Ap q2 q3 → Kp3 c1.x0.ownBlock c2.x0.ownBlock c3.x0.ownBlock w0 w →
      anyT P md ops Q S m nE ((((((L0.setIfInBounds b1 true).setIfInBounds a1 true).setIfInBounds b2 true).setIfInBounds a2 true).setIfInBounds b3 true).setIfInBounds a3 true) ((((((a0.put (some c1.b) p1).put (some c1.d) q1).put (some c2.b) p2).put (some c2.d) q2).put (some c3.b) p3).put (some c3.d) q3) w) :
    anyT P md ops Q S m (nE + 6) L0 a0 w0 := by
  have st : St3 c1 c2 c3 base w0 w0 0 undef undef 0 undef undef 0 undef undef :=
    ⟨⟨r1, fun h => by cases h⟩, ⟨r2, fun h => by cases h⟩, ⟨r3, fun h => by cases h⟩, ⟨p12, (fun h => by cases h), fun h => by cases h⟩, ⟨p13, (fun h => by cases h), fun h => by cases h⟩, ⟨p23, (fun h => by cases h), fun h => by cases h⟩, Kp3.refl _ _ _ _, hb⟩
  have hE' : ∀ p1 q1 p2 q2 p3 q3 w, St3 c1 c2 c3 base w0 w 2 p1 q1 2 p2 q2 2 p3 q3 → anyT P md ops Q S m nE (bitC 2 b3 a3 (bitC 2 b2 a2 (bitC 2 b1 a1 L0))) (c3.fr 2 p3 q3 (c2.fr 2 p2 q2 (c1.fr 2 p1 q1 a0))) w := fun p1 q1 p2 q2 p3 q3 w H => by
    rw [bit_two, bit_two, bit_two, fr_two, fr_two, fr_two]
    exact hE p1 q1 p2 q2 p3 q3 w H.a1.row H.a2.row H.a3.row H.j12.ap H.j13.ap H.j23.ap H.kp
  have A := chains3 O1 O2 O3 hc hi hs hoff hu1 hu2 hu3 hx1 hx2 hx3 hz1 hz2 hz3 hS hE' 6 0 0 0 (by omega) (by omega) (by omega) rfl undef undef undef undef undef undef w0 st
  rw [bit_zero, bit_zero, bit_zero, fr_zero, fr_zero, fr_zero] at A
  exact A
/-- What is kept of other blocks. -/
theorem Kp3.row {r1 r2 r3 : Option Nat} {w0 w : World} {g : Nat} {t : TypeId} {cs : Array Value} (h : Kp3 r1 r2 r3 w0 w) (hr : Row w0 g t cs) (h1 : some g ≠ r1) (h2 : some g ≠ r2) (h3 : some g ≠ r3) : Row w g t cs := (h.block g hr.lt h1 h2 h3).trans hr
theorem Kp3.below {base : Nat} {r1 r2 r3 : Option Nat} {W w0 w : World} (h : Kp3 r1 r2 r3 w0 w) (hb : Below base W w0) (hs : base ≤ w0.heap.size) (h1 : ∀ g, r1 = some g → base ≤ g) (h2 : ∀ g, r2 = some g → base ≤ g) (h3 : ∀ g, r3 = some g → base ≤ g) : Below base W w :=
  ⟨h.os.trans hb.os, h.tape.trans hb.tape, h.output.trans hb.output, Nat.le_trans hb.size h.size, fun k hk => (h.block k (Nat.lt_of_lt_of_le hk hs) (fun e => by have := h1 k e.symm; omega) (fun e => by have := h2 k e.symm; omega) (fun e => by have := h3 k e.symm; omega)).trans (hb.block k hk)⟩
end
end Go.Proofs.YtiaegloipnhhdaaGreat
/- What calls keep, told by the blocks that may change; own rows apart. No condition: no walk. -/
namespace Go.Proofs.YtiaegloipnhhdaaGreat
set_option maxRecDepth 100000
open Go.RowKit
/-- All but some blocks are kept. -/
structure Kq (o : Nat → Prop) (w w' : World) : Prop where
  os : w'.os = w.os
  tape : w'.tape = w.tape
  output : w'.output = w.output
  size : w.heap.size ≤ w'.heap.size
  block : ∀ k, k < w.heap.size → ¬ o k → w'.heap[k]? = w.heap[k]?
section
variable {o o' : Nat → Prop} {w w' w'' : World}
theorem Kq.refl (o : Nat → Prop) (w : World) : Kq o w w := ⟨rfl, rfl, rfl, Nat.le_refl _, fun _ _ _ => rfl⟩
theorem Kq.of_below (h : Below w.heap.size w w') : Kq o w w' := ⟨h.os, h.tape, h.output, h.size, fun k hk _ => h.block k hk⟩
theorem Kq.trans (h : Kq o w w') (k : Kq o' w' w'') (ho : ∀ b, b < w.heap.size → o' b → o b) : Kq o w w'' :=
  ⟨k.os.trans h.os, k.tape.trans h.tape, k.output.trans h.output, Nat.le_trans h.size k.size, fun b hb hn => (k.block b (Nat.lt_of_lt_of_le hb h.size) (fun e => hn (ho b hb e))).trans (h.block b hb hn)⟩
theorem Kq.mono (h : Kq o w w') (ho : ∀ b, o b → o' b) : Kq o' w w' := ⟨h.os, h.tape, h.output, h.size, fun b hb hn => h.block b hb (fun e => hn (ho b e))⟩
theorem Kq.grown {r : Option Nat} (h : w.grownBy w' r) (ho : ∀ b, r = some b → o b) : Kq o w w' := ⟨h.os, h.tape, h.output, h.size, fun k hk hn => h.block k hk (fun e => hn (ho k e.symm))⟩
theorem Kq.row {g : Nat} {t : TypeId} {cs : Array Value} (h : Kq o w w') (hr : Row w g t cs) (hn : ¬ o g) : Row w' g t cs := (h.block g hr.lt hn).trans hr
theorem Kq.below {n : Nat} {W : World} (h : Kq o w w') (hb : Below n W w) (hs : n ≤ w.heap.size) (hn : ∀ k, k < n → ¬ o k) : Below n W w' :=
  ⟨h.os.trans hb.os, h.tape.trans hb.tape, h.output.trans hb.output, Nat.le_trans hb.size h.size, fun k hk => (h.block k (Nat.lt_of_lt_of_le hk hs) (hn k hk)).trans (hb.block k hk)⟩
theorem Kq.own {base n sz : Nat} {e : TypeId} {v : Value} {xs : List Value} (h : Kq o w w') (hr : w.ownsRow base e sz v n xs) (hn : ∀ k, v.ownBlock = some k → ¬ o k) : w'.ownsRow base e sz v n xs := by
  refine ⟨hr.1, hr.2.imp_right ?_⟩
  rintro ⟨g, cap, cur, rfl, h1, h2, h3⟩
  have hlt : g < w.heap.size := (Array.getElem?_eq_some_iff.1 h2).1
  exact ⟨g, cap, cur, rfl, h1, (h.block g hlt (hn g rfl)).trans h2, h3⟩
theorem Kp3.kq {r1 r2 r3 : Option Nat} (h : Kp3 r1 r2 r3 w w') : Kq (fun k => r1 = some k ∨ r2 = some k ∨ r3 = some k) w w' :=
  ⟨h.os, h.tape, h.output, h.size, fun k hk hn => h.block k hk (fun e => hn (.inl e.symm)) (fun e => hn (.inr (.inl e.symm))) (fun e => hn (.inr (.inr e.symm)))⟩
end
theorem rw_off {base sz g : Nat} {e t : TypeId} {w : World} {v : Value} {xs : List (List Value)} {cs : Array Value} (h : Rw base e sz w v xs) (hr : Row w g t cs) (hne : t ≠ e) : some g ≠ v.ownBlock := by
  intro hg
  unfold Rw at h
  rcases h.2 with ⟨rfl, _⟩ | ⟨a, cap, cur, rfl, _, hh, _⟩
  · simp [Value.ownBlock] at hg
  · simp [Value.ownBlock] at hg
    subst hg
    unfold Row at hr
    rw [hh] at hr
    injection hr with hr
    injection hr with _ h2 _
    exact hne h2.symm
theorem rw_ap {base b2 s1 s2 : Nat} {e f : TypeId} {w : World} {v u : Value} {xs ys : List (List Value)} (h : Rw base e s1 w v xs) (k : Rw b2 f s2 w u ys) (hne : e ≠ f) : Ap v u := fun g h1 h2 => by
  unfold Rw at h k
  rcases h.2 with ⟨rfl, _⟩ | ⟨a, cap, cur, rfl, _, hh, _⟩
  · cases h1
  · rcases k.2 with ⟨rfl, _⟩ | ⟨b, cap', cur', rfl, _, kk, _⟩
    · cases h2
    · simp [Value.ownBlock] at h1 h2
      subst h1
      subst h2
      rw [hh] at kk
      injection kk with kk
      injection kk with _ h2 _
      exact hne h2
theorem Rw.far {base sz : Nat} {e : TypeId} {w w' : World} {v : Value} {xs : List (List Value)} {o : Option Nat} (h : Rw base e sz w v xs) (hg : w.grownBy w' o) (hn : o ≠ v.ownBlock) : Rw base e sz w' v xs := World.ownsRow.kept h hg (.inr (Ne.symm hn))
end Go.Proofs.YtiaegloipnhhdaaGreat
/- Letters and cells as they come in. No condition. -/
namespace Go.Proofs.YtiaegloipnhhdaaGreat
set_option maxRecDepth 100000
open Go.ChangeShapes Go.WideShapes Go.ChangeAt Go.RowKit Go.Joins
theorem cells_deps : Tryz.prog.cellsOf 26 = 7 := by kernel_rfl
theorem cells_attr : Tryz.prog.cellsOf 36 = 8 := by kernel_rfl
theorem cells_bool : Tryz.prog.cellsOf 4 = 1 := by kernel_rfl
theorem cells_str : Tryz.prog.cellsOf 9 = 1 := by kernel_rfl
theorem cells_cm : Tryz.prog.cellsOf 34 = 7 := by kernel_rfl
theorem cells_bal : Tryz.prog.cellsOf 32 = 2 := by kernel_rfl
theorem cells_inst : Tryz.prog.cellsOf 30 = 2 := by kernel_rfl
theorem cells_cell : Tryz.prog.cellsOf 38 = 21 := by kernel_rfl
theorem list_of {α : Type} {p : Nat → α → Prop} : ∀ n, (∀ j, j < n → ∃ y, p j y) → ∃ l : List α, l.length = n ∧ ∀ j y, l[j]? = some y → p j y
  | 0, _ => ⟨[], rfl, fun j y h => by simp at h⟩
  | n + 1, h => by
    obtain ⟨l, hl, hp⟩ := list_of n (fun j hj => h j (by omega))
    obtain ⟨y, hy⟩ := h n (by omega)
    refine ⟨l ++ [y], by simp [hl], fun j z hz => ?_⟩
    rcases Nat.lt_or_ge j n with h1 | h1
    · rw [List.getElem?_append_left (by omega)] at hz; exact hp j z hz
    · rw [List.getElem?_append_right (by omega), hl] at hz
      have h2 : j = n := by
        rcases Nat.eq_or_lt_of_le h1 with h2 | h2
        · exact h2.symm
        · rw [List.getElem?_eq_none (by simp; omega)] at hz; cases hz
      subst h2
      rw [Nat.sub_self] at hz
      have : y = z := by simpa using hz
      subst this; exact hy
theorem weights_all {H : Type} {P : Program} {e : TypeId} : ∀ {ds : List (DataW H)} {d : DataW H}, d ∈ ds → ∀ n ∈ d.weights P e, n ∈ DataW.weightsAll P e ds
  | x :: r, d, hd, n, hn => by
    rw [DataW.weightsAll, List.mem_append]
    rcases List.mem_cons.1 hd with rfl | hd
    · exact .inl hn
    · exact .inr (weights_all hd n hn)
/-- A slice of structs that came in: what each is read as, that they lie. -/
theorem els_in {α H : Type} {enc : TypeId × Value → H} {P : Program} {W : World} {t e : TypeId} {m by' : Nat} (f : α → List Value) (Ok : α → Prop) (hu : P.underlying t = some (.slice e)) (hc : P.cellsOf e = m) (hm0 : 0 < m) (hb : P.bytesOf e = by')
    (rd : ∀ {fuel : Nat} {cs : List Value} {x : DataW H × List MemPlace}, DataW.trod enc P W 0 (fun _ => true) true fuel e cs = some x → (∀ n ∈ x.1.weights P e, n ≤ reachBytes) → ∃ y : α, cs = f y ∧ Ok y)
    {A : Option Addr} {n c fuel : Nat} {x : DataW H × List MemPlace} (hf : DataW.trod enc P W 0 (fun _ => true) true fuel t [.slice A n c] = some x) (hw : ∀ n ∈ x.1.weights P t, n ≤ reachBytes) :
    ∃ l : List α, l.length = n ∧ n ≤ c ∧ c ≤ maxLen ∧ c * by' ≤ 140737488351232 ∧ (A = none → c = 0) ∧ (∀ y ∈ l, Ok y) ∧ Els m W A (l.map f) := by
  rcases Go.Deep.open_slice hu hf with ⟨hcs, _⟩ | ⟨a, len, cap, m', nf, D, Pl, hcs, _, hl, hm, hmm, hx, hi⟩
  · injection hcs with hcs _
    injection hcs with h1 h2 h3
    subst h1 h2 h3
    exact ⟨[], rfl, Nat.le_refl _, by unfold maxLen; omega, by omega, fun _ => rfl, fun _ h => absurd h (by simp), Els.nil_⟩
  · injection hcs with hcs _
    injection hcs with h1 h2 h3
    subst h1 h2 h3
    have hmc : m' = c := by simpa using hmm
    subst hmc
    have hx1 := congrArg Prod.fst hx
    dsimp only at hx1
    have hroom : m' * by' ≤ 140737488351232 := by
      have := hw ((((List.range n).map D).length + ((List.range (m' - n)).map fun j => D (n + j)).length) * P.bytesOf e) (by rw [hx1]; unfold DataW.weights; rw [hu]; exact List.mem_cons_self ..)
      rw [hb] at this
      simp only [List.length_map, List.length_range] at this
      rw [show n + (m' - n) = m' by omega] at this
      exact this
    have each : ∀ j, j < n → ∃ y : α, Ok y ∧ ∃ b off, a = ⟨b, off, none⟩ ∧ b < W.heap.size ∧ ∀ i, i < m → W.cell? ⟨b, off + j * m + i, none⟩ = (f y)[i]? := by
      intro j hj
      obtain ⟨cs', hc', ht'⟩ := hi j (by omega)
      rw [hc] at hc'
      obtain ⟨_, hlen, hat⟩ := World.cells?_some hc'
      obtain ⟨y, rfl, ok⟩ := rd ht' fun k hk => by
        apply hw
        rw [hx1]
        unfold DataW.weights
        rw [hu]
        refine List.mem_cons_of_mem _ (List.mem_append_left _ (weights_all (d := D j) ?_ k hk))
        exact List.mem_map.2 ⟨j, List.mem_range.2 hj, rfl⟩
      have hsp : a.spot = none := by
        obtain ⟨cs0, hc0, ht0⟩ := hi 0 (by omega)
        rw [hc] at hc0
        obtain ⟨_, hlen0, hat0⟩ := World.cells?_some hc0
        have h0 := hat0 0 (by omega)
        rw [List.getElem?_eq_getElem (by omega)] at h0
        have := World.cell?_spot h0
        unfold Addr.add at this
        simpa using this
      obtain ⟨b, off, spot⟩ := a
      obtain rfl : spot = none := hsp
      refine ⟨y, ok, b, off, rfl, ?_, fun i hi => ?_⟩
      · have a0 := hat 0 (by omega)
        rw [Go.WideShapes.add_plain, Go.WideShapes.add_plain, List.getElem?_eq_getElem (by omega)] at a0
        rcases Nat.lt_or_ge b W.heap.size with h1 | h1
        · exact h1
        · simp [World.cell?, Array.getElem?_eq_none h1] at a0
      · have a0 := hat i hi
        rw [Go.WideShapes.add_plain, Go.WideShapes.add_plain] at a0
        exact a0
    obtain ⟨l, hln, hl2⟩ := list_of n each
    refine ⟨l, hln, hl, hm, hroom, (fun h => by cases h), fun y hy => ?_, fun hp => ?_⟩
    · obtain ⟨j, hj⟩ := List.getElem?_of_mem hy
      exact (hl2 j y hj).1
    · rw [List.length_map] at hp
      obtain ⟨_, b, off, rfl, hb', _⟩ := hl2 0 l[0] (List.getElem?_eq_getElem hp)
      refine ⟨b, off, rfl, hb', fun k x hk i hi => ?_⟩
      rw [List.getElem?_map, Option.map_eq_some_iff] at hk
      obtain ⟨y, hy, rfl⟩ := hk
      obtain ⟨_, b2, off2, e2, _, h2⟩ := hl2 k y hy
      cases e2
      exact h2 i hi
section
variable {H : Type} {enc : TypeId × Value → H} {W : World} {base : Nat} {spare : Nat → Bool} {held : Bool}
theorem int_cell {m : Nat} {c : Value} {y : DataW H × List MemPlace} (h : DataW.trod enc Tryz.prog W base spare held m 3 [c] = some y) : ∃ n, c = .int .i64 n ∧ I64 n := by
  obtain ⟨k, e0, _, w0⟩ := DataW.trod_int Tryz.underlying3 h
  simp at e0
  exact ⟨k, e0, wf_i64.1 w0⟩
theorem deps_cells {fuel : Nat} {cs : List Value} {x : DataW H × List MemPlace} (ht : DataW.trod enc Tryz.prog W base spare held fuel 26 cs = some x) : ∃ d1 d2 d3 d4 d5 d6 d7 : Int, cs = [.int .i64 d1, .int .i64 d2, .int .i64 d3, .int .i64 d4, .int .i64 d5, .int .i64 d6, .int .i64 d7] ∧ ∀ n, n ∈ [d1, d2, d3, d4, d5, d6, d7] → I64 n := by
  obtain ⟨ys, m, _, _, hlen, hyl, hfs⟩ := DataW.trod_array Tryz.underlying26 ht
  rw [cells_deps] at hlen
  obtain ⟨c0, c1, c2, c3, c4, c5, c6, rfl⟩ : ∃ c0 c1 c2 c3 c4 c5 c6, cs = [c0, c1, c2, c3, c4, c5, c6] := by
    match cs, hlen with
    | [c0, c1, c2, c3, c4, c5, c6], _ => exact ⟨c0, c1, c2, c3, c4, c5, c6, rfl⟩
  have each : ∀ i, i < 7 → ∃ c, ([c0, c1, c2, c3, c4, c5, c6] : List Value)[i]? = some c ∧ ∃ n, c = .int .i64 n ∧ I64 n := fun i hi => by
    have g := hfs i hi
    rw [cells_int, Nat.mul_one, List.getElem?_eq_getElem (by omega), List.drop_eq_getElem_cons (by simpa using hi)] at g
    exact ⟨_, List.getElem?_eq_getElem (by simpa using hi), int_cell g⟩
  obtain ⟨_, e0, d1, rfl, o1⟩ := each 0 (by omega)
  obtain ⟨_, e1, d2, rfl, o2⟩ := each 1 (by omega)
  obtain ⟨_, e2, d3, rfl, o3⟩ := each 2 (by omega)
  obtain ⟨_, e3, d4, rfl, o4⟩ := each 3 (by omega)
  obtain ⟨_, e4, d5, rfl, o5⟩ := each 4 (by omega)
  obtain ⟨_, e5, d6, rfl, o6⟩ := each 5 (by omega)
  obtain ⟨_, e6, d7, rfl, o7⟩ := each 6 (by omega)
  simp at e0 e1 e2 e3 e4 e5 e6
  subst e0 e1 e2 e3 e4 e5 e6
  refine ⟨d1, d2, d3, d4, d5, d6, d7, rfl, fun n hn => ?_⟩
  simp at hn
  rcases hn with rfl | rfl | rfl | rfl | rfl | rfl | rfl <;> assumption
theorem attr_cells {fuel : Nat} {cs : List Value} {x : DataW H × List MemPlace} (ht : DataW.trod enc Tryz.prog W base spare held fuel 36 cs = some x) : ∃ a0 a1 a2 a3 a4 a5 a6 a7 : Int, cs = [.int .i64 a0, .int .i64 a1, .int .i64 a2, .int .i64 a3, .int .i64 a4, .int .i64 a5, .int .i64 a6, .int .i64 a7] ∧ Ok8 [a0, a1, a2, a3, a4, a5, a6, a7] := by
  obtain ⟨ys, n', _, _, hlen, hyl, hfs⟩ := DataW.trod_struct Tryz.underlying36 ht
  rw [cells_attr] at hlen
  obtain ⟨c0, r, rfl, hr⟩ : ∃ c0 r, cs = c0 :: r ∧ r.length = 7 := by
    match cs, hlen with
    | c0 :: r, h => exact ⟨c0, r, rfl, by simpa using h⟩
  have g0 := hfs 0 _ rfl
  have g1 := hfs 1 _ rfl
  clear hfs
  change DataW.trod enc Tryz.prog W base spare held n' 3 (((c0 :: r).drop 0).take (Tryz.prog.cellsOf 3)) = _ at g0
  change DataW.trod enc Tryz.prog W base spare held n' 26 (((c0 :: r).drop 1).take (Tryz.prog.cellsOf 26)) = _ at g1
  have hyl2 : ys.length = 2 := hyl
  obtain ⟨y0, y1, rfl⟩ : ∃ y0 y1, ys = [y0, y1] := by
    match ys, hyl2 with
    | [y0, y1], _ => exact ⟨y0, y1, rfl⟩
  change _ = some y0 at g0
  change _ = some y1 at g1
  rw [cells_int] at g0
  rw [cells_deps, List.drop_succ_cons, List.drop_zero, List.take_of_length_le (by omega)] at g1
  obtain ⟨n, rfl, hn⟩ := int_cell (c := c0) g0
  obtain ⟨a1, a2, a3, a4, a5, a6, a7, rfl, hd⟩ := deps_cells g1
  refine ⟨n, a1, a2, a3, a4, a5, a6, a7, rfl, rfl, fun k hk => ?_⟩
  rcases List.mem_cons.1 hk with rfl | hk
  · exact hn
  · exact hd k hk
end
/-- What a letter's texts may be. -/
structure ClIn (x : Cl) : Prop where
  a : x.a.length = 8
  c : CmOk x.c
section
variable {H : Type} {enc : TypeId × Value → H} {W : World} {base : Nat} {spare : Nat → Bool} {held : Bool}
theorem pair_cells {T : TypeId} {fs : Array Field} (hu : Tryz.prog.underlying T = some (.struct fs)) (hT : Tryz.prog.cellsOf T = 2) (h0 : ∃ f0 f1, fs = #[f0, f1] ∧ f0.type = 3 ∧ f0.offset = 0 ∧ f1.type = 3 ∧ f1.offset = 1) {fuel : Nat} {cs : List Value} {x : DataW H × List MemPlace}
    (ht : DataW.trod enc Tryz.prog W base spare held fuel T cs = some x) : ∃ a b : Int, cs = [.int .i64 a, .int .i64 b] := by
  obtain ⟨f0, f1, rfl, t0, o0, t1, o1⟩ := h0
  obtain ⟨ys, n', _, _, hlen, hyl, hfs⟩ := DataW.trod_struct hu ht
  rw [hT] at hlen
  have hyl2 : ys.length = 2 := hyl
  obtain ⟨y0, y1, rfl⟩ : ∃ y0 y1, ys = [y0, y1] := by
    match ys, hyl2 with
    | [y0, y1], _ => exact ⟨y0, y1, rfl⟩
  obtain ⟨c0, c1, rfl⟩ : ∃ c0 c1, cs = [c0, c1] := by
    match cs, hlen with
    | [c0, c1], _ => exact ⟨c0, c1, rfl⟩
  have g0 := hfs 0 f0 rfl
  have g1 := hfs 1 f1 rfl
  rw [t0, o0, cells_int] at g0
  rw [t1, o1, cells_int] at g1
  change DataW.trod enc Tryz.prog W base spare held n' 3 [c0] = some y0 at g0
  change DataW.trod enc Tryz.prog W base spare held n' 3 [c1] = some y1 at g1
  obtain ⟨a, rfl, _⟩ := int_cell g0
  obtain ⟨b, rfl, _⟩ := int_cell g1
  exact ⟨a, b, rfl⟩
theorem bal_cells {fuel : Nat} {cs : List Value} {x : DataW H × List MemPlace} (ht : DataW.trod enc Tryz.prog W base spare held fuel 32 cs = some x) : ∃ a b : Int, cs = [.int .i64 a, .int .i64 b] :=
  pair_cells Tryz.underlying32 cells_bal ⟨_, _, rfl, rfl, rfl, rfl, rfl⟩ ht
theorem inst_cells {fuel : Nat} {cs : List Value} {x : DataW H × List MemPlace} (ht : DataW.trod enc Tryz.prog W base spare held fuel 30 cs = some x) : ∃ a b : Int, cs = [.int .i64 a, .int .i64 b] :=
  pair_cells Tryz.underlying30 cells_inst ⟨_, _, rfl, rfl, rfl, rfl, rfl⟩ ht
theorem attr8_cells {fuel : Nat} {cs : List Value} {x : DataW H × List MemPlace} (ht : DataW.trod enc Tryz.prog W base spare held fuel 36 cs = some x) : ∃ a : List Int, cs = cellsR a ∧ a.length = 8 := by
  obtain ⟨a0, a1, a2, a3, a4, a5, a6, a7, e, _⟩ := attr_cells ht
  exact ⟨[a0, a1, a2, a3, a4, a5, a6, a7], e, rfl⟩
theorem deps7_cells {fuel : Nat} {cs : List Value} {x : DataW H × List MemPlace} (ht : DataW.trod enc Tryz.prog W base spare held fuel 26 cs = some x) : ∃ a : List Int, cs = cellsR a ∧ a.length = 7 := by
  obtain ⟨a1, a2, a3, a4, a5, a6, a7, e, _⟩ := deps_cells ht
  exact ⟨[a1, a2, a3, a4, a5, a6, a7], e, rfl⟩
theorem drop_part (cs : List Value) (o n : Nat) : cs.drop o = (cs.drop o).take n ++ cs.drop (o + n) := by rw [← List.drop_drop, List.take_append_drop]
theorem cell_cells {fuel : Nat} {cs : List Value} {x : DataW H × List MemPlace} (ht : DataW.trod enc Tryz.prog W base spare held fuel 38 cs = some x) (hsz : ∀ n ∈ x.1.weights Tryz.prog 38, n ≤ reachBytes) : ∃ y : Cl, cs = y.l ∧ ClIn y := by
  obtain ⟨ys, n', _, rfl, hlen, hyl, hfs⟩ := DataW.trod_struct Tryz.underlying38 ht
  rw [cells_cell] at hlen
  have hyl6 : ys.length = 6 := hyl
  obtain ⟨y0, y1, y2, y3, y4, y5, rfl⟩ : ∃ y0 y1 y2 y3 y4 y5, ys = [y0, y1, y2, y3, y4, y5] := by
    match ys, hyl6 with
    | [y0, y1, y2, y3, y4, y5], _ => exact ⟨y0, y1, y2, y3, y4, y5, rfl⟩
  have g0 := hfs 0 _ rfl
  have g1 := hfs 1 _ rfl
  have g2 := hfs 2 _ rfl
  have g3 := hfs 3 _ rfl
  have g4 := hfs 4 _ rfl
  have g5 := hfs 5 _ rfl
  clear hfs
  change DataW.trod enc Tryz.prog W base spare held n' 3 ((cs.drop 0).take (Tryz.prog.cellsOf 3)) = some y0 at g0
  change DataW.trod enc Tryz.prog W base spare held n' 32 ((cs.drop 1).take (Tryz.prog.cellsOf 32)) = some y1 at g1
  change DataW.trod enc Tryz.prog W base spare held n' 32 ((cs.drop 3).take (Tryz.prog.cellsOf 32)) = some y2 at g2
  change DataW.trod enc Tryz.prog W base spare held n' 34 ((cs.drop 5).take (Tryz.prog.cellsOf 34)) = some y3 at g3
  change DataW.trod enc Tryz.prog W base spare held n' 36 ((cs.drop 12).take (Tryz.prog.cellsOf 36)) = some y4 at g4
  change DataW.trod enc Tryz.prog W base spare held n' 4 ((cs.drop 20).take (Tryz.prog.cellsOf 4)) = some y5 at g5
  rw [cells_int] at g0
  rw [cells_bal] at g1 g2
  rw [cells_cm] at g3
  rw [cells_attr] at g4
  rw [cells_bool] at g5
  obtain ⟨st, e0, _, _⟩ := DataW.trod_int Tryz.underlying3 g0
  obtain ⟨p1, p2, e1⟩ := bal_cells g1
  obtain ⟨v1, v2, e2⟩ := bal_cells g2
  obtain ⟨c, e3, hc⟩ := cmd_cells g3 fun n hn => by
    apply hsz
    unfold DataW.weights
    rw [Tryz.underlying38]
    exact DataW.weights_mem_each (ts := [3, 32, 32, 34, 36, 4]) (j := 3) rfl rfl n hn
  obtain ⟨a, e4, ha⟩ := attr8_cells g4
  obtain ⟨s, e5, _⟩ := DataW.trod_bool Tryz.underlying4 g5
  refine ⟨⟨st, (p1, p2), (v1, v2), c, a, s⟩, ?_, ha, hc⟩
  have h1 := drop_part cs 0 1
  rw [drop_part cs (0 + 1) 2, drop_part cs (0 + 1 + 2) 2, drop_part cs (0 + 1 + 2 + 2) 7, drop_part cs (0 + 1 + 2 + 2 + 7) 8, drop_part cs (0 + 1 + 2 + 2 + 7 + 8) 1, List.drop_zero, List.drop_of_length_le (show cs.length ≤ 0 + 1 + 2 + 2 + 7 + 8 + 1 by omega)] at h1
  rw [List.drop_zero] at e0
  rw [e0, e1, e2, e3, e4, e5] at h1
  rw [h1]
  unfold Cl.l
  simp
end
/-- A cell that came in. -/
theorem cell_in {H : Type} {enc : TypeId × Value → H} {W : World} {base b0 : Nat} {spare : Nat → Bool} {held : Bool} {r : Reach} {v : Value} {d : DataW H} {p : List MemPlace} {ts : List TypeId} {ds : List (DataW H)} {j : Nat}
    (hv : Value.okWide Tryz.prog W r b0 38 v) (h : DataW.Trod enc Tryz.prog W base spare held 38 v d p) (hsz : (DataW.weightsEach Tryz.prog ts ds).all (· ≤ reachBytes) = true) (ht : ts[j]? = some 38) (hd : ds[j]? = some d) :
    ∃ m : Cl, v = .agg (clC m) ∧ ClIn m := by
  obtain ⟨cs, rfl, hcs⟩ := okWide_struct Tryz.underlying38 hv
  obtain ⟨fuel, hf⟩ := h
  obtain ⟨m, hy, ok⟩ := cell_cells hf fun n hn => by
    have := List.all_eq_true.1 hsz _ (DataW.weights_mem_each ht hd n hn)
    simpa using this
  have e : cs.toList = m.l := hy
  refine ⟨m, ?_, ok⟩
  obtain ⟨l⟩ := cs
  simp only at e
  rw [e]; rfl
end Go.Proofs.YtiaegloipnhhdaaGreat
/- The calls of layer 16's laws, as they come in. No condition. -/
namespace Go.Proofs.YtiaegloipnhhdaaGreat
set_option maxRecDepth 100000
open Go.ChangeShapes Go.WideShapes Go.ChangeAt Go.RowKit Go.Joins
/-- A call: its kind, an instance, a cell, slots. -/
structure Ga where
  k : Int
  i : Int × Int
  c : Cl
  u : List Int
def Ga.l (x : Ga) : List Value := .int .i64 x.k :: .int .i64 x.i.1 :: .int .i64 x.i.2 :: (x.c.l ++ cellsR x.u)
def gaC (x : Ga) : Array Value := x.l.toArray
structure GaOk (x : Ga) : Prop where
  i : Ok x.i
  c : ClIn x.c
  u : x.u.length = 7
theorem Ga.len {x : Ga} (h : GaOk x) : x.l.length = 31 := by
  unfold Ga.l
  rw [List.length_cons, List.length_cons, List.length_cons, List.length_append, Cl.len h.c.a, length_cellsR, h.u]
theorem cells_gask : Tryz.prog.cellsOf 40 = 31 := by kernel_rfl
theorem bytes_gask : Tryz.prog.bytesOf 40 = 280 := by kernel_rfl
section
variable {H : Type} {enc : TypeId × Value → H} {W : World} {base : Nat} {spare : Nat → Bool} {held : Bool}
theorem inst_okcells {fuel : Nat} {cs : List Value} {x : DataW H × List MemPlace} (ht : DataW.trod enc Tryz.prog W base spare held fuel 30 cs = some x) : ∃ a b : Int, cs = [.int .i64 a, .int .i64 b] ∧ I64 a ∧ I64 b := by
  obtain ⟨ys, n', _, _, hlen, hyl, hfs⟩ := DataW.trod_struct Tryz.underlying30 ht
  rw [cells_inst] at hlen
  have hyl2 : ys.length = 2 := hyl
  obtain ⟨y0, y1, rfl⟩ : ∃ y0 y1, ys = [y0, y1] := by
    match ys, hyl2 with
    | [y0, y1], _ => exact ⟨y0, y1, rfl⟩
  obtain ⟨c0, c1, rfl⟩ : ∃ c0 c1, cs = [c0, c1] := by
    match cs, hlen with
    | [c0, c1], _ => exact ⟨c0, c1, rfl⟩
  have g0 := hfs 0 _ rfl
  have g1 := hfs 1 _ rfl
  change DataW.trod enc Tryz.prog W base spare held n' 3 (([c0, c1].drop 0).take (Tryz.prog.cellsOf 3)) = some y0 at g0
  change DataW.trod enc Tryz.prog W base spare held n' 3 (([c0, c1].drop 1).take (Tryz.prog.cellsOf 3)) = some y1 at g1
  rw [cells_int] at g0 g1
  obtain ⟨a, rfl, ha⟩ := int_cell (c := c0) g0
  obtain ⟨b, rfl, hb⟩ := int_cell (c := c1) g1
  exact ⟨a, b, rfl, ha, hb⟩
theorem gask_cells {fuel : Nat} {cs : List Value} {x : DataW H × List MemPlace} (ht : DataW.trod enc Tryz.prog W base spare held fuel 40 cs = some x) (hsz : ∀ n ∈ x.1.weights Tryz.prog 40, n ≤ reachBytes) : ∃ y : Ga, cs = y.l ∧ GaOk y := by
  obtain ⟨ys, n', _, rfl, hlen, hyl, hfs⟩ := DataW.trod_struct Tryz.underlying40 ht
  rw [cells_gask] at hlen
  have hyl4 : ys.length = 4 := hyl
  obtain ⟨y0, y1, y2, y3, rfl⟩ : ∃ y0 y1 y2 y3, ys = [y0, y1, y2, y3] := by
    match ys, hyl4 with
    | [y0, y1, y2, y3], _ => exact ⟨y0, y1, y2, y3, rfl⟩
  have g0 := hfs 0 _ rfl
  have g1 := hfs 1 _ rfl
  have g2 := hfs 2 _ rfl
  have g3 := hfs 3 _ rfl
  clear hfs
  change DataW.trod enc Tryz.prog W base spare held n' 3 ((cs.drop 0).take (Tryz.prog.cellsOf 3)) = some y0 at g0
  change DataW.trod enc Tryz.prog W base spare held n' 30 ((cs.drop 1).take (Tryz.prog.cellsOf 30)) = some y1 at g1
  change DataW.trod enc Tryz.prog W base spare held n' 38 ((cs.drop 3).take (Tryz.prog.cellsOf 38)) = some y2 at g2
  change DataW.trod enc Tryz.prog W base spare held n' 26 ((cs.drop 24).take (Tryz.prog.cellsOf 26)) = some y3 at g3
  rw [cells_int] at g0
  rw [cells_inst] at g1
  rw [cells_cell] at g2
  rw [cells_deps] at g3
  obtain ⟨k, e0, _, _⟩ := DataW.trod_int Tryz.underlying3 g0
  obtain ⟨i1, i2, e1, w1, w2⟩ := inst_okcells g1
  obtain ⟨c, e2, hc⟩ := cell_cells g2 fun n hn => by
    apply hsz
    unfold DataW.weights
    rw [Tryz.underlying40]
    exact DataW.weights_mem_each (ts := [3, 30, 38, 26]) (j := 2) rfl rfl n hn
  obtain ⟨u, e3, hu⟩ := deps7_cells g3
  refine ⟨⟨k, (i1, i2), c, u⟩, ?_, ⟨⟨w1, w2⟩, hc, hu⟩⟩
  have h1 := drop_part cs 0 1
  rw [drop_part cs (0 + 1) 2, drop_part cs (0 + 1 + 2) 21, drop_part cs (0 + 1 + 2 + 21) 7, List.drop_zero, List.drop_of_length_le (show cs.length ≤ 0 + 1 + 2 + 21 + 7 by omega)] at h1
  rw [List.drop_zero] at e0
  rw [e0, e1, e2, e3] at h1
  rw [h1]
  unfold Ga.l
  simp
end
/-- A slice of calls that came in. -/
structure GasIn (w : World) (A : Option Addr) (n c : Nat) (l : List Ga) : Prop where
  len : l.length = n
  le : n ≤ c
  room : c ≤ 9223372036854775807
  ok : ∀ y ∈ l, GaOk y
  lies : Els 31 w A (l.map Ga.l)
theorem gasks_in {H : Type} {enc : TypeId × Value → H} {W : World} {A : Option Addr} {n c : Nat} {d : DataW H} {p : List MemPlace} {ts : List TypeId} {ds : List (DataW H)} {j : Nat}
    (h : DataW.Trod enc Tryz.prog W 0 (fun _ => true) true 22 (.slice A n c) d p) (hsz : (DataW.weightsEach Tryz.prog ts ds).all (· ≤ reachBytes) = true) (ht : ts[j]? = some 22) (hd : ds[j]? = some d) : ∃ l, GasIn W A n c l := by
  obtain ⟨fuel, hf⟩ := h
  obtain ⟨l, h1, h2, h3, _, _, h6, h7⟩ := els_in Ga.l GaOk Tryz.underlying22 cells_gask (by omega) bytes_gask (fun ht hw => gask_cells ht hw) hf (fun n hn => by
    have := List.all_eq_true.1 hsz _ (DataW.weights_mem_each ht hd n hn)
    simpa using this)
  exact ⟨l, h1, h2, by unfold maxLen at h3; omega, h6, h7⟩
end Go.Proofs.YtiaegloipnhhdaaGreat
