/- Three chains in one drawn region: whatever the order. No condition: nothing here speaks of a program. -/
import Derived.Test.YtmcemijipplkgaaCh
namespace Go.Proofs.Ytmcemijipplkgaa
open Go.RowKit
structure St3 (c1 c2 c3 : Chn) (base : Nat) (w0 w : World) (s1 : Nat) (p1 q1 : Value) (s2 : Nat) (p2 q2 : Value) (s3 : Nat) (p3 q3 : Value) : Prop where
  a1 : c1.At base w s1 p1 q1
  a2 : c2.At base w s2 p2 q2
  a3 : c3.At base w s3 p3 q3
  j12 : Jt c1 s1 p1 q1 c2 s2 p2 q2
  j13 : Jt c1 s1 p1 q1 c3 s3 p3 q3
  j23 : Jt c2 s2 p2 q2 c3 s3 p3 q3
  kp : Kp3 c1.x0.ownBlock c2.x0.ownBlock c3.x0.ownBlock w0 w
  hb : base ≤ w.heap.size
/-- A chain's two operations: the literal reads ou, the append reads os and the literal. -/
structure Op2 (P : Program) (ops : Array Oper) (Q : Exit → Act → World → Prop) (c : Chn) (base : Nat) (ou os : Operand) (U : Value) (ib ia : Nat) : Prop where
  build : ∀ (a : Act) (w : World) (K : Act → World → Prop), a.eval ou = U → K (a.put (some c.b) (.slice (some ⟨w.heap.size, 0, none⟩) 1 1)) (w.alloc (.cells c.z.toArray c.e)) → wpOp P ops Q ib K a w
  append : ∀ (a : Act) (w : World) (K : Act → World → Prop) (g : Nat), a.eval os = c.x0 → a.eval (.tmp c.b) = .slice (some ⟨g, 0, none⟩) 1 1 → base ≤ w.heap.size → Rw base c.e c.sz w c.x0 c.xs → Row w g c.e c.z.toArray →
    (∀ v w', Rw base c.e c.sz w' v (c.xs ++ [c.z]) → w.grownBy w' c.x0.ownBlock → (v.ownBlock = c.x0.ownBlock ∨ v.ownBlock = some w.heap.size) → K (a.put (some c.d) v) w') → wpOp P ops Q ia K a w
/-- Which are listed. -/
def bitC (s ib ia : Nat) (L : Array Bool) : Array Bool := if s = 0 then L else if s = 1 then L.setIfInBounds ib true else (L.setIfInBounds ib true).setIfInBounds ia true
theorem bit_set (s : Nat) {ib ia i : Nat} (L : Array Bool) (hb : ib ≠ i) (ha : ia ≠ i) : (bitC s ib ia L).setIfInBounds i true = bitC s ib ia (L.setIfInBounds i true) := by
  unfold bitC
  split
  · rfl
  · split
    · exact (Array.setIfInBounds_comm _ _ hb)
    · rw [Array.setIfInBounds_comm _ _ ha, Array.setIfInBounds_comm _ _ hb]
theorem bit_two (ib ia : Nat) (L : Array Bool) : bitC 2 ib ia L = (L.setIfInBounds ib true).setIfInBounds ia true := by unfold bitC; simp
theorem bit_zero (ib ia : Nat) (L : Array Bool) : bitC 0 ib ia L = L := by unfold bitC; simp
theorem fr_two (c : Chn) (p q : Value) (a : Act) : c.fr 2 p q a = (a.put (some c.b) p).put (some c.d) q := by unfold Chn.fr; simp
theorem fr_zero (c : Chn) (p q : Value) (a : Act) : c.fr 0 p q a = a := by unfold Chn.fr; simp
/-- At each state just these may come. -/
def chk3 (md : Region.Mode) (ops : Array Oper) (L0 : Array Bool) (b1 a1 b2 a2 b3 a3 : Nat) : Bool :=
  [0, 1, 2].all fun s1 => [0, 1, 2].all fun s2 => [0, 1, 2].all fun s3 => (s1 == 2 && s2 == 2 && s3 == 2) ||
    (let r := Region.ready md ops (bitC s3 b3 a3 (bitC s2 b2 a2 (bitC s1 b1 a1 L0)))
     !r.isEmpty && r.all fun i => (s1 == 0 && i == b1) || (s1 == 1 && i == a1) || (s2 == 0 && i == b2) || (s2 == 1 && i == a2) || (s3 == 0 && i == b3) || (s3 == 1 && i == a3))
theorem chk3_at {md : Region.Mode} {ops : Array Oper} {L0 : Array Bool} {b1 a1 b2 a2 b3 a3 : Nat} (h : chk3 md ops L0 b1 a1 b2 a2 b3 a3 = true) {s1 s2 s3 : Nat} (h1 : s1 ≤ 2) (h2 : s2 ≤ 2) (h3 : s3 ≤ 2) (hn : s1 + s2 + s3 < 6) :
    Region.ready md ops (bitC s3 b3 a3 (bitC s2 b2 a2 (bitC s1 b1 a1 L0))) ≠ [] ∧ ∀ i, i ∈ Region.ready md ops (bitC s3 b3 a3 (bitC s2 b2 a2 (bitC s1 b1 a1 L0))) → (s1 = 0 ∧ i = b1) ∨ (s1 = 1 ∧ i = a1) ∨ (s2 = 0 ∧ i = b2) ∨ (s2 = 1 ∧ i = a2) ∨ (s3 = 0 ∧ i = b3) ∨ (s3 = 1 ∧ i = a3) := by
  unfold chk3 at h
  have m : ∀ s, s ≤ 2 → s ∈ [0, 1, 2] := fun s hs => by
    rcases s with _ | _ | _ | s
    · simp
    · simp
    · simp
    · omega
  have h4 := List.all_eq_true.1 (List.all_eq_true.1 (List.all_eq_true.1 h s1 (m s1 h1)) s2 (m s2 h2)) s3 (m s3 h3)
  have hf : (s1 == 2 && s2 == 2 && s3 == 2) = false := by
    cases h5 : (s1 == 2 && s2 == 2 && s3 == 2)
    · rfl
    · simp at h5; omega
  rw [hf, Bool.false_or, Bool.and_eq_true] at h4
  refine ⟨fun e => by rw [e] at h4; simp at h4, fun i hi => ?_⟩
  have := List.all_eq_true.1 h4.2 i hi
  simpa [or_assoc] using this
section
variable {P : Program} {md : Region.Mode} {ops : Array Oper} {Q : Exit → Act → World → Prop} {S : World → Prop} {m : Nat}
theorem chains3 {c1 c2 c3 : Chn} {base : Nat} {a0 : Act} {w0 : World} {L0 : Array Bool} {ou1 os1 ou2 os2 ou3 os3 : Operand} {U1 U2 U3 : Value} {b1 a1 b2 a2 b3 a3 nE : Nat}
    (O1 : Op2 P ops Q c1 base ou1 os1 U1 b1 a1) (O2 : Op2 P ops Q c2 base ou2 os2 U2 b2 a2) (O3 : Op2 P ops Q c3 base ou3 os3 U3 b3 a3)
    (hc : chk3 md ops L0 b1 a1 b2 a2 b3 a3 = true)
    (hi : [b1, a1, b2, a2, b3, a3].Nodup) (hs : [c1.b, c1.d, c2.b, c2.d, c3.b, c3.d].Nodup)
    (hoff : ∀ o, o ∈ [ou1, os1, ou2, os2, ou3, os3] → ∀ t, t ∈ [c1.b, c1.d, c2.b, c2.d, c3.b, c3.d] → o ≠ .tmp t)
    (hu1 : a0.eval ou1 = U1) (hu2 : a0.eval ou2 = U2) (hu3 : a0.eval ou3 = U3) (hx1 : a0.eval os1 = c1.x0) (hx2 : a0.eval os2 = c2.x0) (hx3 : a0.eval os3 = c3.x0)
    (hz1 : c1.b < a0.tmps.size) (hz2 : c2.b < a0.tmps.size) (hz3 : c3.b < a0.tmps.size)
    (hS : ∀ w, Kp3 c1.x0.ownBlock c2.x0.ownBlock c3.x0.ownBlock w0 w → S w)
    (hE : ∀ p1 q1 p2 q2 p3 q3 w, St3 c1 c2 c3 base w0 w 2 p1 q1 2 p2 q2 2 p3 q3 → anyT P md ops Q S m nE (bitC 2 b3 a3 (bitC 2 b2 a2 (bitC 2 b1 a1 L0))) (c3.fr 2 p3 q3 (c2.fr 2 p2 q2 (c1.fr 2 p1 q1 a0))) w) :
    ∀ (r s1 s2 s3 : Nat), s1 ≤ 2 → s2 ≤ 2 → s3 ≤ 2 → r + (s1 + s2 + s3) = 6 → ∀ (p1 q1 p2 q2 p3 q3 : Value) (w : World), St3 c1 c2 c3 base w0 w s1 p1 q1 s2 p2 q2 s3 p3 q3 →
      anyT P md ops Q S m (nE + r) (bitC s3 b3 a3 (bitC s2 b2 a2 (bitC s1 b1 a1 L0))) (c3.fr s3 p3 q3 (c2.fr s2 p2 q2 (c1.fr s1 p1 q1 a0))) w := by
  have ev : ∀ (o : Operand), o ∈ [ou1, os1, ou2, os2, ou3, os3] → ∀ (s1 s2 s3 : Nat) (p1 q1 p2 q2 p3 q3 : Value), (c3.fr s3 p3 q3 (c2.fr s2 p2 q2 (c1.fr s1 p1 q1 a0))).eval o = a0.eval o := fun o ho s1 s2 s3 p1 q1 p2 q2 p3 q3 => by
    rw [c3.fr_eval s3 p3 q3 _ (hoff o ho _ (by simp)) (hoff o ho _ (by simp)), c2.fr_eval s2 p2 q2 _ (hoff o ho _ (by simp)) (hoff o ho _ (by simp)), c1.fr_eval s1 p1 q1 _ (hoff o ho _ (by simp)) (hoff o ho _ (by simp))]
  simp only [List.nodup_cons, List.mem_cons, List.not_mem_nil, or_false, not_or, List.nodup_nil, and_true, not_false_eq_true] at hi hs
  obtain ⟨⟨i12, i13, i14, i15, i16⟩, ⟨i23, i24, i25, i26⟩, ⟨i34, i35, i36⟩, ⟨i45, i46⟩, i56⟩ := hi
  obtain ⟨⟨t12, t13, t14, t15, t16⟩, ⟨t23, t24, t25, t26⟩, ⟨t34, t35, t36⟩, ⟨t45, t46⟩, t56⟩ := hs
  intro r
  induction r with
  | zero =>
    intro s1 s2 s3 h1 h2 h3 hr p1 q1 p2 q2 p3 q3 w H
    obtain rfl : s1 = 2 := by omega
    obtain rfl : s2 = 2 := by omega
    obtain rfl : s3 = 2 := by omega
    exact hE p1 q1 p2 q2 p3 q3 w H
  | succ r ih =>
    intro s1 s2 s3 h1 h2 h3 hr p1 q1 p2 q2 p3 q3 w H
    obtain ⟨hne, hall⟩ := chk3_at hc h1 h2 h3 (by omega)
    refine ⟨fun h0 => absurd h0 hne, fun i hin => ?_⟩
    rcases hall i hin with ⟨rfl, rfl⟩ | ⟨rfl, rfl⟩ | ⟨rfl, rfl⟩ | ⟨rfl, rfl⟩ | ⟨rfl, rfl⟩ | ⟨rfl, rfl⟩
    · have H' : St3 c1 c2 c3 base w0 (w.alloc (.cells c1.z.toArray c1.e)) 1 (.slice (some ⟨w.heap.size, 0, none⟩) 1 1) q1 s2 p2 q2 s3 p3 q3 := ⟨H.a1.build, H.a2.alloc _, H.a3.alloc _, (Jt.build H.j12 H.a2), (Jt.build H.j13 H.a3), H.j23, H.kp.step (World.grownBy_alloc w _ none) (.inl rfl), Nat.le_trans H.hb (World.grownBy_alloc w _ none).size⟩
      refine O1.build _ w _ ((ev _ (by simp) _ _ _ _ _ _ _ _ _).trans hu1) ⟨fun _ => hS _ H'.kp, ?_⟩
      have A := ih 1 s2 s3 (by omega) (by omega) (by omega) (by omega) _ q1 p2 q2 p3 q3 _ H'
      rw [bit_set s3 _ (ib := b3) (ia := a3) (i := i) (by first | assumption | (exact Ne.symm (by assumption))) (by first | assumption | (exact Ne.symm (by assumption))), bit_set s2 _ (ib := b2) (ia := a2) (i := i) (by first | assumption | (exact Ne.symm (by assumption))) (by first | assumption | (exact Ne.symm (by assumption))), c3.fr_put s3 p3 q3 _ (i := c1.b) (by first | assumption | (exact Ne.symm (by assumption))) (by first | assumption | (exact Ne.symm (by assumption))), c2.fr_put s2 p2 q2 _ (i := c1.b) (by first | assumption | (exact Ne.symm (by assumption))) (by first | assumption | (exact Ne.symm (by assumption)))]
      exact A
    · obtain ⟨g, hg, hrow⟩ := H.a1.lit rfl
      refine O1.append _ w _ g ((ev _ (by simp) _ _ _ _ _ _ _ _ _).trans hx1) (by rw [c3.fr_eval s3 p3 q3 _ (o := .tmp c1.b) (by simp only [ne_eq, Operand.tmp.injEq]; first | assumption | (exact Ne.symm (by assumption))) (by simp only [ne_eq, Operand.tmp.injEq]; first | assumption | (exact Ne.symm (by assumption))), c2.fr_eval s2 p2 q2 _ (o := .tmp c1.b) (by simp only [ne_eq, Operand.tmp.injEq]; first | assumption | (exact Ne.symm (by assumption))) (by simp only [ne_eq, Operand.tmp.injEq]; first | assumption | (exact Ne.symm (by assumption))), c1.fr_lit p1 q1 _ (by first | exact hz1 | (simp only [Chn.fr_size]; exact hz1))]; exact hg) H.hb H.a1.row hrow fun v w' hv1 hv2 hv => ?_
      have H' : St3 c1 c2 c3 base w0 w' 2 p1 v s2 p2 q2 s3 p3 q3 := ⟨⟨hv1, fun h => by cases h⟩, H.a2.append (H.j12) hv2, H.a3.append (H.j13) hv2, (Jt.append (H.j12) H.a2 hv), (Jt.append (H.j13) H.a3 hv), H.j23, H.kp.step hv2 (.inr (.inl rfl)), Nat.le_trans H.hb hv2.size⟩
      refine ⟨fun _ => hS _ H'.kp, ?_⟩
      have A := ih 2 s2 s3 (by omega) (by omega) (by omega) (by omega) p1 v p2 q2 p3 q3 _ H'
      rw [bit_set s3 _ (ib := b3) (ia := a3) (i := i) (by first | assumption | (exact Ne.symm (by assumption))) (by first | assumption | (exact Ne.symm (by assumption))), bit_set s2 _ (ib := b2) (ia := a2) (i := i) (by first | assumption | (exact Ne.symm (by assumption))) (by first | assumption | (exact Ne.symm (by assumption))), c3.fr_put s3 p3 q3 _ (i := c1.d) (by first | assumption | (exact Ne.symm (by assumption))) (by first | assumption | (exact Ne.symm (by assumption))), c2.fr_put s2 p2 q2 _ (i := c1.d) (by first | assumption | (exact Ne.symm (by assumption))) (by first | assumption | (exact Ne.symm (by assumption)))]
      exact A
    · have H' : St3 c1 c2 c3 base w0 (w.alloc (.cells c2.z.toArray c2.e)) s1 p1 q1 1 (.slice (some ⟨w.heap.size, 0, none⟩) 1 1) q2 s3 p3 q3 := ⟨H.a1.alloc _, H.a2.build, H.a3.alloc _, (Jt.build H.j12.symm H.a1).symm, H.j13, (Jt.build H.j23 H.a3), H.kp.step (World.grownBy_alloc w _ none) (.inl rfl), Nat.le_trans H.hb (World.grownBy_alloc w _ none).size⟩
      refine O2.build _ w _ ((ev _ (by simp) _ _ _ _ _ _ _ _ _).trans hu2) ⟨fun _ => hS _ H'.kp, ?_⟩
      have A := ih s1 1 s3 (by omega) (by omega) (by omega) (by omega) p1 q1 _ q2 p3 q3 _ H'
      rw [bit_set s3 _ (ib := b3) (ia := a3) (i := i) (by first | assumption | (exact Ne.symm (by assumption))) (by first | assumption | (exact Ne.symm (by assumption))), c3.fr_put s3 p3 q3 _ (i := c2.b) (by first | assumption | (exact Ne.symm (by assumption))) (by first | assumption | (exact Ne.symm (by assumption)))]
      exact A
    · obtain ⟨g, hg, hrow⟩ := H.a2.lit rfl
      refine O2.append _ w _ g ((ev _ (by simp) _ _ _ _ _ _ _ _ _).trans hx2) (by rw [c3.fr_eval s3 p3 q3 _ (o := .tmp c2.b) (by simp only [ne_eq, Operand.tmp.injEq]; first | assumption | (exact Ne.symm (by assumption))) (by simp only [ne_eq, Operand.tmp.injEq]; first | assumption | (exact Ne.symm (by assumption))), c2.fr_lit p2 q2 _ (by first | exact hz2 | (simp only [Chn.fr_size]; exact hz2))]; exact hg) H.hb H.a2.row hrow fun v w' hv1 hv2 hv => ?_
      have H' : St3 c1 c2 c3 base w0 w' s1 p1 q1 2 p2 v s3 p3 q3 := ⟨H.a1.append (H.j12.symm) hv2, ⟨hv1, fun h => by cases h⟩, H.a3.append (H.j23) hv2, (Jt.append (H.j12.symm) H.a1 hv).symm, H.j13, (Jt.append (H.j23) H.a3 hv), H.kp.step hv2 (.inr (.inr (.inl rfl))), Nat.le_trans H.hb hv2.size⟩
      refine ⟨fun _ => hS _ H'.kp, ?_⟩
      have A := ih s1 2 s3 (by omega) (by omega) (by omega) (by omega) p1 q1 p2 v p3 q3 _ H'
      rw [bit_set s3 _ (ib := b3) (ia := a3) (i := i) (by first | assumption | (exact Ne.symm (by assumption))) (by first | assumption | (exact Ne.symm (by assumption))), c3.fr_put s3 p3 q3 _ (i := c2.d) (by first | assumption | (exact Ne.symm (by assumption))) (by first | assumption | (exact Ne.symm (by assumption)))]
      exact A
    · have H' : St3 c1 c2 c3 base w0 (w.alloc (.cells c3.z.toArray c3.e)) s1 p1 q1 s2 p2 q2 1 (.slice (some ⟨w.heap.size, 0, none⟩) 1 1) q3 := ⟨H.a1.alloc _, H.a2.alloc _, H.a3.build, H.j12, (Jt.build H.j13.symm H.a1).symm, (Jt.build H.j23.symm H.a2).symm, H.kp.step (World.grownBy_alloc w _ none) (.inl rfl), Nat.le_trans H.hb (World.grownBy_alloc w _ none).size⟩
      refine O3.build _ w _ ((ev _ (by simp) _ _ _ _ _ _ _ _ _).trans hu3) ⟨fun _ => hS _ H'.kp, ?_⟩
      have A := ih s1 s2 1 (by omega) (by omega) (by omega) (by omega) p1 q1 p2 q2 _ q3 _ H'
      exact A
    · obtain ⟨g, hg, hrow⟩ := H.a3.lit rfl
      refine O3.append _ w _ g ((ev _ (by simp) _ _ _ _ _ _ _ _ _).trans hx3) (by rw [c3.fr_lit p3 q3 _ (by first | exact hz3 | (simp only [Chn.fr_size]; exact hz3))]; exact hg) H.hb H.a3.row hrow fun v w' hv1 hv2 hv => ?_
      have H' : St3 c1 c2 c3 base w0 w' s1 p1 q1 s2 p2 q2 2 p3 v := ⟨H.a1.append (H.j13.symm) hv2, H.a2.append (H.j23.symm) hv2, ⟨hv1, fun h => by cases h⟩, H.j12, (Jt.append (H.j13.symm) H.a1 hv).symm, (Jt.append (H.j23.symm) H.a2 hv).symm, H.kp.step hv2 (.inr (.inr (.inr rfl))), Nat.le_trans H.hb hv2.size⟩
      refine ⟨fun _ => hS _ H'.kp, ?_⟩
      have A := ih s1 s2 2 (by omega) (by omega) (by omega) (by omega) p1 q1 p2 q2 p3 v _ H'
      exact A
theorem chains3_go {c1 c2 c3 : Chn} {base : Nat} {a0 : Act} {w0 : World} {L0 : Array Bool} {ou1 os1 ou2 os2 ou3 os3 : Operand} {U1 U2 U3 : Value} {b1 a1 b2 a2 b3 a3 nE : Nat}
    (O1 : Op2 P ops Q c1 base ou1 os1 U1 b1 a1) (O2 : Op2 P ops Q c2 base ou2 os2 U2 b2 a2) (O3 : Op2 P ops Q c3 base ou3 os3 U3 b3 a3)
    (hc : chk3 md ops L0 b1 a1 b2 a2 b3 a3 = true)
    (hi : [b1, a1, b2, a2, b3, a3].Nodup) (hs : [c1.b, c1.d, c2.b, c2.d, c3.b, c3.d].Nodup)
    (hoff : ∀ o, o ∈ [ou1, os1, ou2, os2, ou3, os3] → ∀ t, t ∈ [c1.b, c1.d, c2.b, c2.d, c3.b, c3.d] → o ≠ .tmp t)
    (hu1 : a0.eval ou1 = U1) (hu2 : a0.eval ou2 = U2) (hu3 : a0.eval ou3 = U3) (hx1 : a0.eval os1 = c1.x0) (hx2 : a0.eval os2 = c2.x0) (hx3 : a0.eval os3 = c3.x0)
    (hz1 : c1.b < a0.tmps.size) (hz2 : c2.b < a0.tmps.size) (hz3 : c3.b < a0.tmps.size)
    (r1 : Rw base c1.e c1.sz w0 c1.x0 c1.xs) (r2 : Rw base c2.e c2.sz w0 c2.x0 c2.xs) (r3 : Rw base c3.e c3.sz w0 c3.x0 c3.xs) (p12 : Ap c1.x0 c2.x0) (p13 : Ap c1.x0 c3.x0) (p23 : Ap c2.x0 c3.x0) (hb : base ≤ w0.heap.size)
    (hS : ∀ w, Kp3 c1.x0.ownBlock c2.x0.ownBlock c3.x0.ownBlock w0 w → S w)
    (hE : ∀ p1 q1 p2 q2 p3 q3 w, Rw base c1.e c1.sz w q1 (c1.xs ++ [c1.z]) → Rw base c2.e c2.sz w q2 (c2.xs ++ [c2.z]) → Rw base c3.e c3.sz w q3 (c3.xs ++ [c3.z]) → Ap q1 q2 → Ap q1 q3 → Ap q2 q3 → Kp3 c1.x0.ownBlock c2.x0.ownBlock c3.x0.ownBlock w0 w →
      anyT P md ops Q S m nE ((((((L0.setIfInBounds b1 true).setIfInBounds a1 true).setIfInBounds b2 true).setIfInBounds a2 true).setIfInBounds b3 true).setIfInBounds a3 true) ((((((a0.put (some c1.b) p1).put (some c1.d) q1).put (some c2.b) p2).put (some c2.d) q2).put (some c3.b) p3).put (some c3.d) q3) w) :
    anyT P md ops Q S m (nE + 6) L0 a0 w0 := by
  have st : St3 c1 c2 c3 base w0 w0 0 undef undef 0 undef undef 0 undef undef :=
    ⟨⟨r1, fun h => by cases h⟩, ⟨r2, fun h => by cases h⟩, ⟨r3, fun h => by cases h⟩, ⟨p12, (fun h => by cases h), fun h => by cases h⟩, ⟨p13, (fun h => by cases h), fun h => by cases h⟩, ⟨p23, (fun h => by cases h), fun h => by cases h⟩, Kp3.refl _ _ _ _, hb⟩
  have hE' : ∀ p1 q1 p2 q2 p3 q3 w, St3 c1 c2 c3 base w0 w 2 p1 q1 2 p2 q2 2 p3 q3 → anyT P md ops Q S m nE (bitC 2 b3 a3 (bitC 2 b2 a2 (bitC 2 b1 a1 L0))) (c3.fr 2 p3 q3 (c2.fr 2 p2 q2 (c1.fr 2 p1 q1 a0))) w := fun p1 q1 p2 q2 p3 q3 w H => by
    rw [bit_two, bit_two, bit_two, fr_two, fr_two, fr_two]
    exact hE p1 q1 p2 q2 p3 q3 w H.a1.row H.a2.row H.a3.row H.j12.ap H.j13.ap H.j23.ap H.kp
  have A := chains3 O1 O2 O3 hc hi hs hoff hu1 hu2 hu3 hx1 hx2 hx3 hz1 hz2 hz3 hS hE' 6 0 0 0 (by omega) (by omega) (by omega) rfl undef undef undef undef undef undef w0 st
  rw [bit_zero, bit_zero, bit_zero, fr_zero, fr_zero, fr_zero] at A
  exact A
/-- What is kept of other blocks. -/
theorem Kp3.row {r1 r2 r3 : Option Nat} {w0 w : World} {g : Nat} {t : TypeId} {cs : Array Value} (h : Kp3 r1 r2 r3 w0 w) (hr : Row w0 g t cs) (h1 : some g ≠ r1) (h2 : some g ≠ r2) (h3 : some g ≠ r3) : Row w g t cs := (h.block g hr.lt h1 h2 h3).trans hr
theorem Kp3.below {base : Nat} {r1 r2 r3 : Option Nat} {W w0 w : World} (h : Kp3 r1 r2 r3 w0 w) (hb : Below base W w0) (hs : base ≤ w0.heap.size) (h1 : ∀ g, r1 = some g → base ≤ g) (h2 : ∀ g, r2 = some g → base ≤ g) (h3 : ∀ g, r3 = some g → base ≤ g) : Below base W w :=
  ⟨h.os.trans hb.os, h.tape.trans hb.tape, h.output.trans hb.output, Nat.le_trans hb.size h.size, fun k hk => (h.block k (Nat.lt_of_lt_of_le hk hs) (fun e => by have := h1 k e.symm; omega) (fun e => by have := h2 k e.symm; omega) (fun e => by have := h3 k e.symm; omega)).trans (hb.block k hk)⟩
end
end Go.Proofs.Ytmcemijipplkgaa
