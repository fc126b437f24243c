/- Three chains in one drawn region, and the first two assigns, which may come as soon as their rows are there: whatever the order. No condition: nothing here speaks of a program. -/
import Derived.Test.YtmcemijipplkgaaCh3
namespace Go.Proofs.Ytmcemijipplkgaa
open Go.RowKit
def asg (t x1 : Nat) (q1 : Value) (x2 : Nat) (q2 : Value) (a : Act) : Act := if t = 0 then a else if t = 1 then a.put (some x1) q1 else (a.put (some x1) q1).put (some x2) q2
theorem asg_zero (x1 : Nat) (q1 : Value) (x2 : Nat) (q2 : Value) (a : Act) : asg 0 x1 q1 x2 q2 a = a := by unfold asg; simp
theorem asg_one (x1 : Nat) (q1 : Value) (x2 : Nat) (q2 : Value) (a : Act) : asg 1 x1 q1 x2 q2 a = a.put (some x1) q1 := by unfold asg; simp
theorem asg_two (x1 : Nat) (q1 : Value) (x2 : Nat) (q2 : Value) (a : Act) : asg 2 x1 q1 x2 q2 a = (a.put (some x1) q1).put (some x2) q2 := by unfold asg; simp
theorem asg_put (t x1 : Nat) (q1 : Value) (x2 : Nat) (q2 : Value) (a : Act) {i : Nat} (h1 : x1 ≠ i) (h2 : x2 ≠ i) (v : Value) : (asg t x1 q1 x2 q2 a).put (some i) v = asg t x1 q1 x2 q2 (a.put (some i) v) := by
  unfold asg
  split
  · rfl
  · split
    · exact put_swap a h1 q1 v
    · rw [put_swap _ h2, put_swap _ h1]
theorem asg_eval (t x1 : Nat) (q1 : Value) (x2 : Nat) (q2 : Value) (a : Act) {o : Operand} (h1 : o ≠ .tmp x1) (h2 : o ≠ .tmp x2) : (asg t x1 q1 x2 q2 a).eval o = a.eval o := by
  unfold asg
  have e1 : ∀ (a : Act) (x : Value), (a.put (some x1) x).eval o = a.eval o := fun a x => Act.eval_put (fun d hd => by injection hd with hd; subst hd; exact h1)
  have e2 : ∀ (a : Act) (x : Value), (a.put (some x2) x).eval o = a.eval o := fun a x => Act.eval_put (fun d hd => by injection hd with hd; subst hd; exact h2)
  split
  · rfl
  · split
    · exact e1 a q1
    · rw [e2, e1]
theorem Chn.fr_out (c : Chn) (p q : Value) (a : Act) (h : c.d < a.tmps.size) : (c.fr 2 p q a).eval (.tmp c.d) = q := by rw [fr_two]; exact put_here _ (by rw [put_size]; exact h) q
def chk4 (md : Region.Mode) (ops : Array Oper) (L0 : Array Bool) (b1 a1 b2 a2 b3 a3 e1 e2 : Nat) : Bool :=
  [0, 1, 2].all fun t => [0, 1, 2].all fun s1 => [0, 1, 2].all fun s2 => [0, 1, 2].all fun s3 => (s1 == 2 && s2 == 2 && s3 == 2 && t == 2) || (!(t == 0) && !(s1 == 2)) || (t == 2 && !(s2 == 2)) ||
    (let r := Region.ready md ops (bitC t e1 e2 (bitC s3 b3 a3 (bitC s2 b2 a2 (bitC s1 b1 a1 L0))))
     !r.isEmpty && r.all fun i => (s1 == 0 && i == b1) || (s1 == 1 && i == a1) || (s2 == 0 && i == b2) || (s2 == 1 && i == a2) || (s3 == 0 && i == b3) || (s3 == 1 && i == a3) || (t == 0 && s1 == 2 && i == e1) || (t == 1 && s2 == 2 && i == e2))
theorem chk4_at {md : Region.Mode} {ops : Array Oper} {L0 : Array Bool} {b1 a1 b2 a2 b3 a3 e1 e2 : Nat} (h : chk4 md ops L0 b1 a1 b2 a2 b3 a3 e1 e2 = true) {t s1 s2 s3 : Nat} (ht : t ≤ 2) (h1 : s1 ≤ 2) (h2 : s2 ≤ 2) (h3 : s3 ≤ 2) (hn : s1 + s2 + s3 + t < 8) (k1 : 1 ≤ t → s1 = 2) (k2 : 2 ≤ t → s2 = 2) :
    Region.ready md ops (bitC t e1 e2 (bitC s3 b3 a3 (bitC s2 b2 a2 (bitC s1 b1 a1 L0)))) ≠ [] ∧ ∀ i, i ∈ Region.ready md ops (bitC t e1 e2 (bitC s3 b3 a3 (bitC s2 b2 a2 (bitC s1 b1 a1 L0)))) → (s1 = 0 ∧ i = b1) ∨ (s1 = 1 ∧ i = a1) ∨ (s2 = 0 ∧ i = b2) ∨ (s2 = 1 ∧ i = a2) ∨ (s3 = 0 ∧ i = b3) ∨ (s3 = 1 ∧ i = a3) ∨ (t = 0 ∧ s1 = 2 ∧ i = e1) ∨ (t = 1 ∧ s2 = 2 ∧ i = e2) := by
  unfold chk4 at h
  have m : ∀ s, s ≤ 2 → s ∈ [0, 1, 2] := fun s hs => by
    rcases s with _ | _ | _ | s
    · simp
    · simp
    · simp
    · omega
  have h4 := List.all_eq_true.1 (List.all_eq_true.1 (List.all_eq_true.1 (List.all_eq_true.1 h t (m t ht)) s1 (m s1 h1)) s2 (m s2 h2)) s3 (m s3 h3)
  have hf : ((s1 == 2 && s2 == 2 && s3 == 2 && t == 2) || (!(t == 0) && !(s1 == 2)) || (t == 2 && !(s2 == 2))) = false := by
    cases h5 : ((s1 == 2 && s2 == 2 && s3 == 2 && t == 2) || (!(t == 0) && !(s1 == 2)) || (t == 2 && !(s2 == 2)))
    · rfl
    · simp at h5; omega
  rw [hf, Bool.false_or, Bool.and_eq_true] at h4
  refine ⟨fun e => by rw [e] at h4; simp at h4, fun i hi => ?_⟩
  have := List.all_eq_true.1 h4.2 i hi
  simpa [or_assoc, and_assoc] using this
section
variable {P : Program} {md : Region.Mode} {ops : Array Oper} {Q : Exit → Act → World → Prop} {S : World → Prop} {m : Nat}
theorem chains4 {c1 c2 c3 : Chn} {base : Nat} {a0 : Act} {w0 : World} {L0 : Array Bool} {ou1 os1 ou2 os2 ou3 os3 : Operand} {U1 U2 U3 : Value} {b1 a1 b2 a2 b3 a3 e1 e2 x1 x2 nE : Nat}
    (O1 : Op2 P ops Q c1 base ou1 os1 U1 b1 a1) (O2 : Op2 P ops Q c2 base ou2 os2 U2 b2 a2) (O3 : Op2 P ops Q c3 base ou3 os3 U3 b3 a3)
    (A1 : ∀ (a : Act) (w : World) (K : Act → World → Prop), K (a.put (some x1) (a.eval (.tmp c1.d))) w → wpOp P ops Q e1 K a w)
    (A2 : ∀ (a : Act) (w : World) (K : Act → World → Prop), K (a.put (some x2) (a.eval (.tmp c2.d))) w → wpOp P ops Q e2 K a w)
    (hc : chk4 md ops L0 b1 a1 b2 a2 b3 a3 e1 e2 = true)
    (hi : [b1, a1, b2, a2, b3, a3, e1, e2].Nodup) (hs : [c1.b, c1.d, c2.b, c2.d, c3.b, c3.d, x1, x2].Nodup)
    (hoff : ∀ o, o ∈ [ou1, os1, ou2, os2, ou3, os3] → ∀ t, t ∈ [c1.b, c1.d, c2.b, c2.d, c3.b, c3.d, x1, x2] → o ≠ .tmp t)
    (hu1 : a0.eval ou1 = U1) (hu2 : a0.eval ou2 = U2) (hu3 : a0.eval ou3 = U3) (hx1 : a0.eval os1 = c1.x0) (hx2 : a0.eval os2 = c2.x0) (hx3 : a0.eval os3 = c3.x0)
    (hz1 : c1.b < a0.tmps.size) (hz2 : c2.b < a0.tmps.size) (hz3 : c3.b < a0.tmps.size) (hd1 : c1.d < a0.tmps.size) (hd2 : c2.d < a0.tmps.size)
    (hS : ∀ w, Kp3 c1.x0.ownBlock c2.x0.ownBlock c3.x0.ownBlock w0 w → S w)
    (hE : ∀ p1 q1 p2 q2 p3 q3 w, St3 c1 c2 c3 base w0 w 2 p1 q1 2 p2 q2 2 p3 q3 → anyT P md ops Q S m nE (bitC 2 e1 e2 (bitC 2 b3 a3 (bitC 2 b2 a2 (bitC 2 b1 a1 L0)))) (asg 2 x1 q1 x2 q2 (c3.fr 2 p3 q3 (c2.fr 2 p2 q2 (c1.fr 2 p1 q1 a0)))) w) :
    ∀ (r t s1 s2 s3 : Nat), t ≤ 2 → s1 ≤ 2 → s2 ≤ 2 → s3 ≤ 2 → r + (s1 + s2 + s3 + t) = 8 → (1 ≤ t → s1 = 2) → (2 ≤ t → s2 = 2) → ∀ (p1 q1 p2 q2 p3 q3 : Value) (w : World), St3 c1 c2 c3 base w0 w s1 p1 q1 s2 p2 q2 s3 p3 q3 →
      anyT P md ops Q S m (nE + r) (bitC t e1 e2 (bitC s3 b3 a3 (bitC s2 b2 a2 (bitC s1 b1 a1 L0)))) (asg t x1 q1 x2 q2 (c3.fr s3 p3 q3 (c2.fr s2 p2 q2 (c1.fr s1 p1 q1 a0)))) w := by
  have ev : ∀ (o : Operand), o ∈ [ou1, os1, ou2, os2, ou3, os3] → ∀ (t s1 s2 s3 : Nat) (p1 q1 p2 q2 p3 q3 : Value), (asg t x1 q1 x2 q2 (c3.fr s3 p3 q3 (c2.fr s2 p2 q2 (c1.fr s1 p1 q1 a0)))).eval o = a0.eval o := fun o ho t s1 s2 s3 p1 q1 p2 q2 p3 q3 => by
    rw [asg_eval t x1 q1 x2 q2 _ (hoff o ho _ (by simp)) (hoff o ho _ (by simp)), c3.fr_eval s3 p3 q3 _ (hoff o ho _ (by simp)) (hoff o ho _ (by simp)), c2.fr_eval s2 p2 q2 _ (hoff o ho _ (by simp)) (hoff o ho _ (by simp)), c1.fr_eval s1 p1 q1 _ (hoff o ho _ (by simp)) (hoff o ho _ (by simp))]
  simp only [List.nodup_cons, List.mem_cons, List.not_mem_nil, or_false, not_or, List.nodup_nil, and_true, not_false_eq_true] at hi hs
  obtain ⟨⟨i12, i13, i14, i15, i16, i17, i18⟩, ⟨i23, i24, i25, i26, i27, i28⟩, ⟨i34, i35, i36, i37, i38⟩, ⟨i45, i46, i47, i48⟩, ⟨i56, i57, i58⟩, ⟨i67, i68⟩, i78⟩ := hi
  obtain ⟨⟨t12, t13, t14, t15, t16, t17, t18⟩, ⟨t23, t24, t25, t26, t27, t28⟩, ⟨t34, t35, t36, t37, t38⟩, ⟨t45, t46, t47, t48⟩, ⟨t56, t57, t58⟩, ⟨t67, t68⟩, t78⟩ := hs
  intro r
  induction r with
  | zero =>
    intro t s1 s2 s3 h0 h1 h2 h3 hr _ _ p1 q1 p2 q2 p3 q3 w H
    obtain rfl : s1 = 2 := by omega
    obtain rfl : s2 = 2 := by omega
    obtain rfl : s3 = 2 := by omega
    obtain rfl : t = 2 := by omega
    exact hE p1 q1 p2 q2 p3 q3 w H
  | succ r ih =>
    intro t s1 s2 s3 h0 h1 h2 h3 hr k1 k2 p1 q1 p2 q2 p3 q3 w H
    obtain ⟨hne, hall⟩ := chk4_at hc h0 h1 h2 h3 (by omega) k1 k2
    refine ⟨fun h0 => absurd h0 hne, fun i hin => ?_⟩
    rcases hall i hin with ⟨rfl, rfl⟩ | ⟨rfl, rfl⟩ | ⟨rfl, rfl⟩ | ⟨rfl, rfl⟩ | ⟨rfl, rfl⟩ | ⟨rfl, rfl⟩ | ⟨rfl, rfl, rfl⟩ | ⟨rfl, rfl, rfl⟩
    · have H' : St3 c1 c2 c3 base w0 (w.alloc (.cells c1.z.toArray c1.e)) 1 (.slice (some ⟨w.heap.size, 0, none⟩) 1 1) q1 s2 p2 q2 s3 p3 q3 := ⟨H.a1.build, H.a2.alloc _, H.a3.alloc _, (Jt.build H.j12 H.a2), (Jt.build H.j13 H.a3), H.j23, H.kp.step (World.grownBy_alloc w _ none) (.inl rfl), Nat.le_trans H.hb (World.grownBy_alloc w _ none).size⟩
      refine O1.build _ w _ ((ev _ (by simp) _ _ _ _ _ _ _ _ _ _).trans hu1) ⟨fun _ => hS _ H'.kp, ?_⟩
      have A := ih t 1 s2 s3 (by omega) (by omega) (by omega) (by omega) (by omega) (fun h => by have := k1 h; omega) (fun h => k2 h) _ q1 p2 q2 p3 q3 _ H'
      rw [bit_set t _ (ib := e1) (ia := e2) (i := i) (by first | assumption | (exact Ne.symm (by assumption))) (by first | assumption | (exact Ne.symm (by assumption))), bit_set s3 _ (ib := b3) (ia := a3) (i := i) (by first | assumption | (exact Ne.symm (by assumption))) (by first | assumption | (exact Ne.symm (by assumption))), bit_set s2 _ (ib := b2) (ia := a2) (i := i) (by first | assumption | (exact Ne.symm (by assumption))) (by first | assumption | (exact Ne.symm (by assumption))), asg_put t x1 q1 x2 q2 _ (i := c1.b) (by first | assumption | (exact Ne.symm (by assumption))) (by first | assumption | (exact Ne.symm (by assumption))), c3.fr_put s3 p3 q3 _ (i := c1.b) (by first | assumption | (exact Ne.symm (by assumption))) (by first | assumption | (exact Ne.symm (by assumption))), c2.fr_put s2 p2 q2 _ (i := c1.b) (by first | assumption | (exact Ne.symm (by assumption))) (by first | assumption | (exact Ne.symm (by assumption)))]
      exact A
    · obtain ⟨g, hg, hrow⟩ := H.a1.lit rfl
      refine O1.append _ w _ g ((ev _ (by simp) _ _ _ _ _ _ _ _ _ _).trans hx1) (by rw [asg_eval t x1 q1 x2 q2 _ (o := .tmp c1.b) (by simp only [ne_eq, Operand.tmp.injEq]; first | assumption | (exact Ne.symm (by assumption))) (by simp only [ne_eq, Operand.tmp.injEq]; first | assumption | (exact Ne.symm (by assumption))), c3.fr_eval s3 p3 q3 _ (o := .tmp c1.b) (by simp only [ne_eq, Operand.tmp.injEq]; first | assumption | (exact Ne.symm (by assumption))) (by simp only [ne_eq, Operand.tmp.injEq]; first | assumption | (exact Ne.symm (by assumption))), c2.fr_eval s2 p2 q2 _ (o := .tmp c1.b) (by simp only [ne_eq, Operand.tmp.injEq]; first | assumption | (exact Ne.symm (by assumption))) (by simp only [ne_eq, Operand.tmp.injEq]; first | assumption | (exact Ne.symm (by assumption))), c1.fr_lit p1 q1 _ (by first | exact hz1 | (simp only [Chn.fr_size]; exact hz1))]; exact hg) H.hb H.a1.row hrow fun v w' hv1 hv2 hv => ?_
      have H' : St3 c1 c2 c3 base w0 w' 2 p1 v s2 p2 q2 s3 p3 q3 := ⟨⟨hv1, fun h => by cases h⟩, H.a2.append (H.j12) hv2, H.a3.append (H.j13) hv2, (Jt.append (H.j12) H.a2 hv), (Jt.append (H.j13) H.a3 hv), H.j23, H.kp.step hv2 (.inr (.inl rfl)), Nat.le_trans H.hb hv2.size⟩
      refine ⟨fun _ => hS _ H'.kp, ?_⟩
      have A := ih t 2 s2 s3 (by omega) (by omega) (by omega) (by omega) (by omega) (fun _ => rfl) (fun h => k2 h) p1 v p2 q2 p3 q3 _ H'
      rw [bit_set t _ (ib := e1) (ia := e2) (i := i) (by first | assumption | (exact Ne.symm (by assumption))) (by first | assumption | (exact Ne.symm (by assumption))), bit_set s3 _ (ib := b3) (ia := a3) (i := i) (by first | assumption | (exact Ne.symm (by assumption))) (by first | assumption | (exact Ne.symm (by assumption))), bit_set s2 _ (ib := b2) (ia := a2) (i := i) (by first | assumption | (exact Ne.symm (by assumption))) (by first | assumption | (exact Ne.symm (by assumption))), asg_put t x1 q1 x2 q2 _ (i := c1.d) (by first | assumption | (exact Ne.symm (by assumption))) (by first | assumption | (exact Ne.symm (by assumption))), c3.fr_put s3 p3 q3 _ (i := c1.d) (by first | assumption | (exact Ne.symm (by assumption))) (by first | assumption | (exact Ne.symm (by assumption))), c2.fr_put s2 p2 q2 _ (i := c1.d) (by first | assumption | (exact Ne.symm (by assumption))) (by first | assumption | (exact Ne.symm (by assumption)))]
      obtain rfl : t = 0 := by rcases Nat.eq_zero_or_pos t with h | h; exact h; exact absurd (k1 h) (by omega)
      rw [asg_zero] at A ⊢
      exact A
    · have H' : St3 c1 c2 c3 base w0 (w.alloc (.cells c2.z.toArray c2.e)) s1 p1 q1 1 (.slice (some ⟨w.heap.size, 0, none⟩) 1 1) q2 s3 p3 q3 := ⟨H.a1.alloc _, H.a2.build, H.a3.alloc _, (Jt.build H.j12.symm H.a1).symm, H.j13, (Jt.build H.j23 H.a3), H.kp.step (World.grownBy_alloc w _ none) (.inl rfl), Nat.le_trans H.hb (World.grownBy_alloc w _ none).size⟩
      refine O2.build _ w _ ((ev _ (by simp) _ _ _ _ _ _ _ _ _ _).trans hu2) ⟨fun _ => hS _ H'.kp, ?_⟩
      have A := ih t s1 1 s3 (by omega) (by omega) (by omega) (by omega) (by omega) (fun h => k1 h) (fun h => by have := k2 h; omega) p1 q1 _ q2 p3 q3 _ H'
      rw [bit_set t _ (ib := e1) (ia := e2) (i := i) (by first | assumption | (exact Ne.symm (by assumption))) (by first | assumption | (exact Ne.symm (by assumption))), bit_set s3 _ (ib := b3) (ia := a3) (i := i) (by first | assumption | (exact Ne.symm (by assumption))) (by first | assumption | (exact Ne.symm (by assumption))), asg_put t x1 q1 x2 q2 _ (i := c2.b) (by first | assumption | (exact Ne.symm (by assumption))) (by first | assumption | (exact Ne.symm (by assumption))), c3.fr_put s3 p3 q3 _ (i := c2.b) (by first | assumption | (exact Ne.symm (by assumption))) (by first | assumption | (exact Ne.symm (by assumption)))]
      exact A
    · obtain ⟨g, hg, hrow⟩ := H.a2.lit rfl
      refine O2.append _ w _ g ((ev _ (by simp) _ _ _ _ _ _ _ _ _ _).trans hx2) (by rw [asg_eval t x1 q1 x2 q2 _ (o := .tmp c2.b) (by simp only [ne_eq, Operand.tmp.injEq]; first | assumption | (exact Ne.symm (by assumption))) (by simp only [ne_eq, Operand.tmp.injEq]; first | assumption | (exact Ne.symm (by assumption))), c3.fr_eval s3 p3 q3 _ (o := .tmp c2.b) (by simp only [ne_eq, Operand.tmp.injEq]; first | assumption | (exact Ne.symm (by assumption))) (by simp only [ne_eq, Operand.tmp.injEq]; first | assumption | (exact Ne.symm (by assumption))), c2.fr_lit p2 q2 _ (by first | exact hz2 | (simp only [Chn.fr_size]; exact hz2))]; exact hg) H.hb H.a2.row hrow fun v w' hv1 hv2 hv => ?_
      have H' : St3 c1 c2 c3 base w0 w' s1 p1 q1 2 p2 v s3 p3 q3 := ⟨H.a1.append (H.j12.symm) hv2, ⟨hv1, fun h => by cases h⟩, H.a3.append (H.j23) hv2, (Jt.append (H.j12.symm) H.a1 hv).symm, H.j13, (Jt.append (H.j23) H.a3 hv), H.kp.step hv2 (.inr (.inr (.inl rfl))), Nat.le_trans H.hb hv2.size⟩
      refine ⟨fun _ => hS _ H'.kp, ?_⟩
      have A := ih t s1 2 s3 (by omega) (by omega) (by omega) (by omega) (by omega) (fun h => k1 h) (fun _ => rfl) p1 q1 p2 v p3 q3 _ H'
      rw [bit_set t _ (ib := e1) (ia := e2) (i := i) (by first | assumption | (exact Ne.symm (by assumption))) (by first | assumption | (exact Ne.symm (by assumption))), bit_set s3 _ (ib := b3) (ia := a3) (i := i) (by first | assumption | (exact Ne.symm (by assumption))) (by first | assumption | (exact Ne.symm (by assumption))), asg_put t x1 q1 x2 q2 _ (i := c2.d) (by first | assumption | (exact Ne.symm (by assumption))) (by first | assumption | (exact Ne.symm (by assumption))), c3.fr_put s3 p3 q3 _ (i := c2.d) (by first | assumption | (exact Ne.symm (by assumption))) (by first | assumption | (exact Ne.symm (by assumption)))]
      have hq : ∀ a : Act, asg t x1 q1 x2 q2 a = asg t x1 q1 x2 v a := fun a => by
        have : t < 2 := by rcases Nat.lt_or_ge t 2 with h | h; exact h; exact absurd (k2 h) (by omega)
        rcases Nat.eq_zero_or_pos t with h | h
        · subst h; rw [asg_zero, asg_zero]
        · obtain rfl : t = 1 := by omega
          rw [asg_one, asg_one]
      rw [hq]
      exact A
    · have H' : St3 c1 c2 c3 base w0 (w.alloc (.cells c3.z.toArray c3.e)) s1 p1 q1 s2 p2 q2 1 (.slice (some ⟨w.heap.size, 0, none⟩) 1 1) q3 := ⟨H.a1.alloc _, H.a2.alloc _, H.a3.build, H.j12, (Jt.build H.j13.symm H.a1).symm, (Jt.build H.j23.symm H.a2).symm, H.kp.step (World.grownBy_alloc w _ none) (.inl rfl), Nat.le_trans H.hb (World.grownBy_alloc w _ none).size⟩
      refine O3.build _ w _ ((ev _ (by simp) _ _ _ _ _ _ _ _ _ _).trans hu3) ⟨fun _ => hS _ H'.kp, ?_⟩
      have A := ih t s1 s2 1 (by omega) (by omega) (by omega) (by omega) (by omega) (fun h => k1 h) (fun h => k2 h) p1 q1 p2 q2 _ q3 _ H'
      rw [bit_set t _ (ib := e1) (ia := e2) (i := i) (by first | assumption | (exact Ne.symm (by assumption))) (by first | assumption | (exact Ne.symm (by assumption))), asg_put t x1 q1 x2 q2 _ (i := c3.b) (by first | assumption | (exact Ne.symm (by assumption))) (by first | assumption | (exact Ne.symm (by assumption)))]
      exact A
    · obtain ⟨g, hg, hrow⟩ := H.a3.lit rfl
      refine O3.append _ w _ g ((ev _ (by simp) _ _ _ _ _ _ _ _ _ _).trans hx3) (by rw [asg_eval t x1 q1 x2 q2 _ (o := .tmp c3.b) (by simp only [ne_eq, Operand.tmp.injEq]; first | assumption | (exact Ne.symm (by assumption))) (by simp only [ne_eq, Operand.tmp.injEq]; first | assumption | (exact Ne.symm (by assumption))), c3.fr_lit p3 q3 _ (by first | exact hz3 | (simp only [Chn.fr_size]; exact hz3))]; exact hg) H.hb H.a3.row hrow fun v w' hv1 hv2 hv => ?_
      have H' : St3 c1 c2 c3 base w0 w' s1 p1 q1 s2 p2 q2 2 p3 v := ⟨H.a1.append (H.j13.symm) hv2, H.a2.append (H.j23.symm) hv2, ⟨hv1, fun h => by cases h⟩, H.j12, (Jt.append (H.j13.symm) H.a1 hv).symm, (Jt.append (H.j23.symm) H.a2 hv).symm, H.kp.step hv2 (.inr (.inr (.inr rfl))), Nat.le_trans H.hb hv2.size⟩
      refine ⟨fun _ => hS _ H'.kp, ?_⟩
      have A := ih t s1 s2 2 (by omega) (by omega) (by omega) (by omega) (by omega) (fun h => k1 h) (fun h => k2 h) p1 q1 p2 q2 p3 v _ H'
      rw [bit_set t _ (ib := e1) (ia := e2) (i := i) (by first | assumption | (exact Ne.symm (by assumption))) (by first | assumption | (exact Ne.symm (by assumption))), asg_put t x1 q1 x2 q2 _ (i := c3.d) (by first | assumption | (exact Ne.symm (by assumption))) (by first | assumption | (exact Ne.symm (by assumption)))]
      exact A
    · refine A1 _ w _ ⟨fun _ => hS _ H.kp, ?_⟩
      have A := ih 1 2 s2 s3 (by omega) (by omega) (by omega) (by omega) (by omega) (fun _ => rfl) (fun h => by omega) p1 q1 p2 q2 p3 q3 w H
      rw [asg_zero, c3.fr_eval s3 p3 q3 _ (o := .tmp c1.d) (by simp only [ne_eq, Operand.tmp.injEq]; first | assumption | (exact Ne.symm (by assumption))) (by simp only [ne_eq, Operand.tmp.injEq]; first | assumption | (exact Ne.symm (by assumption))), c2.fr_eval s2 p2 q2 _ (o := .tmp c1.d) (by simp only [ne_eq, Operand.tmp.injEq]; first | assumption | (exact Ne.symm (by assumption))) (by simp only [ne_eq, Operand.tmp.injEq]; first | assumption | (exact Ne.symm (by assumption))), c1.fr_out p1 q1 a0 hd1]
      rw [asg_one] at A
      exact A
    · have hs1 := k1 (Nat.le_refl 1)
      subst hs1
      refine A2 _ w _ ⟨fun _ => hS _ H.kp, ?_⟩
      have A := ih 2 2 2 s3 (by omega) (by omega) (by omega) (by omega) (by omega) (fun _ => rfl) (fun _ => rfl) p1 q1 p2 q2 p3 q3 w H
      rw [asg_eval 1 x1 q1 x2 q2 _ (o := .tmp c2.d) (by simp only [ne_eq, Operand.tmp.injEq]; first | assumption | (exact Ne.symm (by assumption))) (by simp only [ne_eq, Operand.tmp.injEq]; first | assumption | (exact Ne.symm (by assumption))), c3.fr_eval s3 p3 q3 _ (o := .tmp c2.d) (by simp only [ne_eq, Operand.tmp.injEq]; first | assumption | (exact Ne.symm (by assumption))) (by simp only [ne_eq, Operand.tmp.injEq]; first | assumption | (exact Ne.symm (by assumption))), c2.fr_out p2 q2 _ (by rw [Chn.fr_size]; exact hd2), asg_one]
      rw [asg_two] at A
      exact A
theorem chains4_go {c1 c2 c3 : Chn} {base : Nat} {a0 : Act} {w0 : World} {L0 : Array Bool} {ou1 os1 ou2 os2 ou3 os3 : Operand} {U1 U2 U3 : Value} {b1 a1 b2 a2 b3 a3 e1 e2 x1 x2 nE : Nat}
    (O1 : Op2 P ops Q c1 base ou1 os1 U1 b1 a1) (O2 : Op2 P ops Q c2 base ou2 os2 U2 b2 a2) (O3 : Op2 P ops Q c3 base ou3 os3 U3 b3 a3)
    (A1 : ∀ (a : Act) (w : World) (K : Act → World → Prop), K (a.put (some x1) (a.eval (.tmp c1.d))) w → wpOp P ops Q e1 K a w)
    (A2 : ∀ (a : Act) (w : World) (K : Act → World → Prop), K (a.put (some x2) (a.eval (.tmp c2.d))) w → wpOp P ops Q e2 K a w)
    (hc : chk4 md ops L0 b1 a1 b2 a2 b3 a3 e1 e2 = true)
    (hi : [b1, a1, b2, a2, b3, a3, e1, e2].Nodup) (hs : [c1.b, c1.d, c2.b, c2.d, c3.b, c3.d, x1, x2].Nodup)
    (hoff : ∀ o, o ∈ [ou1, os1, ou2, os2, ou3, os3] → ∀ t, t ∈ [c1.b, c1.d, c2.b, c2.d, c3.b, c3.d, x1, x2] → o ≠ .tmp t)
    (hu1 : a0.eval ou1 = U1) (hu2 : a0.eval ou2 = U2) (hu3 : a0.eval ou3 = U3) (hx1 : a0.eval os1 = c1.x0) (hx2 : a0.eval os2 = c2.x0) (hx3 : a0.eval os3 = c3.x0)
    (hz1 : c1.b < a0.tmps.size) (hz2 : c2.b < a0.tmps.size) (hz3 : c3.b < a0.tmps.size) (hd1 : c1.d < a0.tmps.size) (hd2 : c2.d < a0.tmps.size)
    (r1 : Rw base c1.e c1.sz w0 c1.x0 c1.xs) (r2 : Rw base c2.e c2.sz w0 c2.x0 c2.xs) (r3 : Rw base c3.e c3.sz w0 c3.x0 c3.xs) (p12 : Ap c1.x0 c2.x0) (p13 : Ap c1.x0 c3.x0) (p23 : Ap c2.x0 c3.x0) (hb : base ≤ w0.heap.size)
    (hS : ∀ w, Kp3 c1.x0.ownBlock c2.x0.ownBlock c3.x0.ownBlock w0 w → S w)
    (hE : ∀ p1 q1 p2 q2 p3 q3 w, Rw base c1.e c1.sz w q1 (c1.xs ++ [c1.z]) → Rw base c2.e c2.sz w q2 (c2.xs ++ [c2.z]) → Rw base c3.e c3.sz w q3 (c3.xs ++ [c3.z]) → Ap q1 q2 → Ap q1 q3 → Ap q2 q3 → Kp3 c1.x0.ownBlock c2.x0.ownBlock c3.x0.ownBlock w0 w →
      anyT P md ops Q S m nE ((((((((L0.setIfInBounds b1 true).setIfInBounds a1 true).setIfInBounds b2 true).setIfInBounds a2 true).setIfInBounds b3 true).setIfInBounds a3 true).setIfInBounds e1 true).setIfInBounds e2 true) ((((((((a0.put (some c1.b) p1).put (some c1.d) q1).put (some c2.b) p2).put (some c2.d) q2).put (some c3.b) p3).put (some c3.d) q3).put (some x1) q1).put (some x2) q2) w) :
    anyT P md ops Q S m (nE + 8) L0 a0 w0 := by
  have st : St3 c1 c2 c3 base w0 w0 0 undef undef 0 undef undef 0 undef undef :=
    ⟨⟨r1, fun h => by cases h⟩, ⟨r2, fun h => by cases h⟩, ⟨r3, fun h => by cases h⟩, ⟨p12, (fun h => by cases h), fun h => by cases h⟩, ⟨p13, (fun h => by cases h), fun h => by cases h⟩, ⟨p23, (fun h => by cases h), fun h => by cases h⟩, Kp3.refl _ _ _ _, hb⟩
  have hE' : ∀ p1 q1 p2 q2 p3 q3 w, St3 c1 c2 c3 base w0 w 2 p1 q1 2 p2 q2 2 p3 q3 → anyT P md ops Q S m nE (bitC 2 e1 e2 (bitC 2 b3 a3 (bitC 2 b2 a2 (bitC 2 b1 a1 L0)))) (asg 2 x1 q1 x2 q2 (c3.fr 2 p3 q3 (c2.fr 2 p2 q2 (c1.fr 2 p1 q1 a0)))) w := fun p1 q1 p2 q2 p3 q3 w H => by
    rw [bit_two, bit_two, bit_two, bit_two, asg_two, fr_two, fr_two, fr_two]
    exact hE p1 q1 p2 q2 p3 q3 w H.a1.row H.a2.row H.a3.row H.j12.ap H.j13.ap H.j23.ap H.kp
  have A := chains4 O1 O2 O3 A1 A2 hc hi hs hoff hu1 hu2 hu3 hx1 hx2 hx3 hz1 hz2 hz3 hd1 hd2 hS hE' 8 0 0 0 0 (by omega) (by omega) (by omega) (by omega) rfl (fun h => by omega) (fun h => by omega) undef undef undef undef undef undef w0 st
  rw [bit_zero, bit_zero, bit_zero, bit_zero, asg_zero, fr_zero, fr_zero, fr_zero] at A
  exact A
theorem op_assign {i j x : Nat} {o : Oper} (ho : ops[i]? = some o) (hg : o.guard = none) (hd : o.dst = some x) (hop : o.op = .assign (.tmp j)) (a : Act) (w : World) (K : Act → World → Prop) (h : K (a.put (some x) (a.eval (.tmp j))) w) : wpOp P ops Q i K a w := by
  refine wpOp_step ho (fun K' hK => ?_)
  have hw : Region.wanted o (yielded ops a.tmps) = true := by simp [Region.wanted, hg]
  rw [if_pos hw]
  unfold Oper.wp execOp
  simp only [hop, Sem.run_pure]
  refine hK _ _ ?_
  rw [hd]
  exact h
end
end Go.Proofs.Ytmcemijipplkgaa
